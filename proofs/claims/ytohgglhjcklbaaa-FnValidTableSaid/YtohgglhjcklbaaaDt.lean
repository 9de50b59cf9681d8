
/- The draw of one rule. -/
import Derived.Test.YtohgglhjcklbaaaDrS
import Derived.Test.YtohgglhjcklbaaaTbG
import Derived.Test.YtohgglhjcklbaaaPg
import Derived.Laws.AppendOwnNone
namespace Go.Proofs.Ytohgglhjcklbaaa
open Go.RowKit

theorem heap_foldl (os : List Obj) : ∀ (w : World) (i : Nat), i < w.heap.size → (os.foldl World.alloc w).heap[i]? = w.heap[i]? := by
  induction os with
  | nil => intro w i _; rfl
  | cons o os ih =>
    intro w i hi
    show ((os.foldl World.alloc (w.alloc o)).heap[i]?) = _
    rw [ih (w.alloc o) i (by simp; omega), Below.heap_alloc w o i hi]
theorem heap_allocs (os : List Obj) : ∀ (w : World) (i : Nat) (o : Obj), os[i]? = some o → (os.foldl World.alloc w).heap[w.heap.size + i]? = some o := by
  induction os with
  | nil => intro w i o h; simp at h
  | cons x os ih =>
    intro w i o h
    cases i with
    | zero =>
      simp at h
      subst h
      show ((os.foldl World.alloc (w.alloc x)).heap[w.heap.size + 0]?) = _
      rw [heap_foldl os (w.alloc x) _ (by simp)]
      exact heap_alloc_new w x
    | succ i =>
      simp at h
      have := ih (w.alloc x) i o h
      rw [World.size_alloc] at this
      show ((os.foldl World.alloc (w.alloc x)).heap[w.heap.size + (i + 1)]?) = _
      rw [← this]
      congr 1
      omega
theorem os_foldl (os : List Obj) : ∀ (w : World), (os.foldl World.alloc w).os = w.os ∧ (os.foldl World.alloc w).tape = w.tape ∧ (os.foldl World.alloc w).output = w.output := by
  induction os with
  | nil => intro w; exact ⟨rfl, rfl, rfl⟩
  | cons o os ih => intro w; exact ih (w.alloc o)
theorem size_foldl (os : List Obj) : ∀ (w : World), (os.foldl World.alloc w).heap.size = w.heap.size + os.length := by
  induction os with
  | nil => intro w; rfl
  | cons o os ih =>
    intro w
    show (os.foldl World.alloc (w.alloc o)).heap.size = _
    rw [ih, World.size_alloc, List.length_cons]; omega

set_option maxHeartbeats 1000000 in
theorem s_copyInts (w : World) (g off n cap : Nat) (zs : List Int) (hx : IntsAt w (.slice (some ⟨g, off, none⟩) n cap) zs) (hn : Hid (zs.length = n)) (hs : n ≤ 1048576) :
    Calls Try.prog 106 #[.slice (some ⟨g, off, none⟩) n cap] w fun e w' => (∃ v, e = .returned v ∧ OwnInts w' w.heap.size v zs ∧ ∃ g c, v = .slice (some ⟨g, 0, none⟩) n c) ∧ Below w.heap.size w w' := by
  obtain ⟨i0, hi, hz0, hz1, hz2⟩ := info_parts infoInt
  have hO1 : OwnInts (w.alloc (.cells #[] 3)) w.heap.size (.slice (some ⟨w.heap.size, 0, none⟩) 0 0) [] := OwnInts.made w w.heap.size (Nat.le_refl _)
  have hB1 : Below w.heap.size w (w.alloc (.cells #[] 3)) := (Below.refl _ _).alloc (Nat.le_refl _) _
  have hx1 := hx.below hB1
  have hnews := Lib.hid hx1.news
  have hlz : Hid ((ints zs).length = n * 1) := by show _ = _; rw [ints_length, hn.out, Nat.mul_one]
  clear hx hx1
  go_enter Try.func106, Try.ntmps106
  go_wp2_with (at_builtin; go_loud (refine wpList_append_own _ rfl _ _ 36 rfl w.heap.size 3 i0 (.int .i64 0) 1 8 Try.underlying36 hi hz0 hz1 hz2 rfl (by decide) _ _ _ rfl hO1 ⟨g, off, none⟩ n cap (ints zs) rfl hlz.out hnews.out (ints_oneCell' zs) (by unfold maxLen; simp; omega) (by simp; omega) (by simp) ?_))
  intro v' w3 hown' hgrow hnil
  have hO3 : OwnInts w3 w.heap.size v' ([] ++ zs) := OwnInts.addAll' hown' (by rw [hn.out]; simp)
  have hB3 : Below w.heap.size w w3 := hB1.grown hgrow (by simp) (fun q hq => (hO1.lt q hq).1)
  go_wp2
  go_ret
  refine ⟨⟨v', rfl, hO3, ?_⟩, hB3⟩
  obtain ⟨a, c, hv, _⟩ := hO3.at
  rcases hO3.2 with ⟨h1, _⟩ | ⟨g', c', cur, h1, _⟩
  · exact absurd h1 hnil
  · exact ⟨g', c', by rw [h1]; simp [hn.out]⟩

def poolT : List ByteArray := [⟨#[116, 104, 101]⟩, ⟨#[97, 110, 100]⟩, ⟨#[105, 110, 103]⟩, ⟨#[101, 100]⟩, ⟨#[101, 114]⟩, ⟨#[115, 116]⟩, ⟨#[99, 104]⟩, ⟨#[115, 104]⟩, ⟨#[116, 104]⟩, ⟨#[119, 104]⟩, ⟨#[98, 117, 116]⟩, ⟨#[99, 97, 110]⟩, ⟨#[100, 111]⟩, ⟨#[101, 110]⟩, ⟨#[105, 110]⟩, ⟨#[102, 111, 114]⟩, ⟨#[111, 117, 110, 100]⟩, ⟨#[97, 110, 99, 101]⟩, ⟨#[116, 104, 101]⟩, ⟨#[105, 110]⟩, ⟨#[97]⟩, ⟨#[116, 104]⟩]
def poolC : List (List Int) := [[46], [47], [44], [43], [59], [12], [33], [41], [57], [49], [3], [9], [25], [34], [20], [63], [40, 25], [40, 17], [57, 17], [10], [1, 1], [46]]
def poolP : List Int := [0, 0, 4, 0, 0, 0, 0, 0, 0, 2, 1, 1, 1, 0, 3, 0, 0, 4, 2, 0, 0, 3]
theorem pool_facts : ∀ k, k < 22 → (poolT.getD k ⟨#[]⟩).size ≤ 4 ∧ 1 ≤ (poolC.getD k []).length ∧ (poolC.getD k []).length ≤ 2 ∧ (∀ z ∈ poolC.getD k [], 0 ≤ z ∧ z ≤ 63) ∧ 0 ≤ poolP.getD k 0 ∧ poolP.getD k 0 ≤ 4 := by decide
/-- the blocks that the draw lays: its answer, the texts, each list of cells, the lists, the places -/
def poolO (b : Nat) : List Obj :=
  [.cells #[.string ⟨#[]⟩, .slice none 0 0, .int .i64 0] 46,
   .cells #[.string ⟨#[116, 104, 101]⟩, .string ⟨#[97, 110, 100]⟩, .string ⟨#[105, 110, 103]⟩, .string ⟨#[101, 100]⟩, .string ⟨#[101, 114]⟩, .string ⟨#[115, 116]⟩, .string ⟨#[99, 104]⟩, .string ⟨#[115, 104]⟩, .string ⟨#[116, 104]⟩, .string ⟨#[119, 104]⟩, .string ⟨#[98, 117, 116]⟩, .string ⟨#[99, 97, 110]⟩, .string ⟨#[100, 111]⟩, .string ⟨#[101, 110]⟩, .string ⟨#[105, 110]⟩, .string ⟨#[102, 111, 114]⟩, .string ⟨#[111, 117, 110, 100]⟩, .string ⟨#[97, 110, 99, 101]⟩, .string ⟨#[116, 104, 101]⟩, .string ⟨#[105, 110]⟩, .string ⟨#[97]⟩, .string ⟨#[116, 104]⟩] 9,
   .cells #[.int .i64 46] 3,
   .cells #[.int .i64 47] 3,
   .cells #[.int .i64 44] 3,
   .cells #[.int .i64 43] 3,
   .cells #[.int .i64 59] 3,
   .cells #[.int .i64 12] 3,
   .cells #[.int .i64 33] 3,
   .cells #[.int .i64 41] 3,
   .cells #[.int .i64 57] 3,
   .cells #[.int .i64 49] 3,
   .cells #[.int .i64 3] 3,
   .cells #[.int .i64 9] 3,
   .cells #[.int .i64 25] 3,
   .cells #[.int .i64 34] 3,
   .cells #[.int .i64 20] 3,
   .cells #[.int .i64 63] 3,
   .cells #[.int .i64 40, .int .i64 25] 3,
   .cells #[.int .i64 40, .int .i64 17] 3,
   .cells #[.int .i64 57, .int .i64 17] 3,
   .cells #[.int .i64 10] 3,
   .cells #[.int .i64 1, .int .i64 1] 3,
   .cells #[.int .i64 46] 3,
   .cells #[.slice (some ⟨b + 1 + 1, 0, none⟩) 1 1, .slice (some ⟨b + 1 + 1 + 1, 0, none⟩) 1 1, .slice (some ⟨b + 1 + 1 + 1 + 1, 0, none⟩) 1 1, .slice (some ⟨b + 1 + 1 + 1 + 1 + 1, 0, none⟩) 1 1, .slice (some ⟨b + 1 + 1 + 1 + 1 + 1 + 1, 0, none⟩) 1 1, .slice (some ⟨b + 1 + 1 + 1 + 1 + 1 + 1 + 1, 0, none⟩) 1 1, .slice (some ⟨b + 1 + 1 + 1 + 1 + 1 + 1 + 1 + 1, 0, none⟩) 1 1, .slice (some ⟨b + 1 + 1 + 1 + 1 + 1 + 1 + 1 + 1 + 1, 0, none⟩) 1 1, .slice (some ⟨b + 1 + 1 + 1 + 1 + 1 + 1 + 1 + 1 + 1 + 1, 0, none⟩) 1 1, .slice (some ⟨b + 1 + 1 + 1 + 1 + 1 + 1 + 1 + 1 + 1 + 1 + 1, 0, none⟩) 1 1, .slice (some ⟨b + 1 + 1 + 1 + 1 + 1 + 1 + 1 + 1 + 1 + 1 + 1 + 1, 0, none⟩) 1 1, .slice (some ⟨b + 1 + 1 + 1 + 1 + 1 + 1 + 1 + 1 + 1 + 1 + 1 + 1 + 1, 0, none⟩) 1 1, .slice (some ⟨b + 1 + 1 + 1 + 1 + 1 + 1 + 1 + 1 + 1 + 1 + 1 + 1 + 1 + 1, 0, none⟩) 1 1, .slice (some ⟨b + 1 + 1 + 1 + 1 + 1 + 1 + 1 + 1 + 1 + 1 + 1 + 1 + 1 + 1 + 1, 0, none⟩) 1 1, .slice (some ⟨b + 1 + 1 + 1 + 1 + 1 + 1 + 1 + 1 + 1 + 1 + 1 + 1 + 1 + 1 + 1 + 1, 0, none⟩) 1 1, .slice (some ⟨b + 1 + 1 + 1 + 1 + 1 + 1 + 1 + 1 + 1 + 1 + 1 + 1 + 1 + 1 + 1 + 1 + 1, 0, none⟩) 1 1, .slice (some ⟨b + 1 + 1 + 1 + 1 + 1 + 1 + 1 + 1 + 1 + 1 + 1 + 1 + 1 + 1 + 1 + 1 + 1 + 1, 0, none⟩) 2 2, .slice (some ⟨b + 1 + 1 + 1 + 1 + 1 + 1 + 1 + 1 + 1 + 1 + 1 + 1 + 1 + 1 + 1 + 1 + 1 + 1 + 1, 0, none⟩) 2 2, .slice (some ⟨b + 1 + 1 + 1 + 1 + 1 + 1 + 1 + 1 + 1 + 1 + 1 + 1 + 1 + 1 + 1 + 1 + 1 + 1 + 1 + 1, 0, none⟩) 2 2, .slice (some ⟨b + 1 + 1 + 1 + 1 + 1 + 1 + 1 + 1 + 1 + 1 + 1 + 1 + 1 + 1 + 1 + 1 + 1 + 1 + 1 + 1 + 1, 0, none⟩) 1 1, .slice (some ⟨b + 1 + 1 + 1 + 1 + 1 + 1 + 1 + 1 + 1 + 1 + 1 + 1 + 1 + 1 + 1 + 1 + 1 + 1 + 1 + 1 + 1 + 1, 0, none⟩) 2 2, .slice (some ⟨b + 1 + 1 + 1 + 1 + 1 + 1 + 1 + 1 + 1 + 1 + 1 + 1 + 1 + 1 + 1 + 1 + 1 + 1 + 1 + 1 + 1 + 1 + 1, 0, none⟩) 1 1] 36,
   .cells #[.int .i64 0, .int .i64 0, .int .i64 4, .int .i64 0, .int .i64 0, .int .i64 0, .int .i64 0, .int .i64 0, .int .i64 0, .int .i64 2, .int .i64 1, .int .i64 1, .int .i64 1, .int .i64 0, .int .i64 3, .int .i64 0, .int .i64 0, .int .i64 4, .int .i64 2, .int .i64 0, .int .i64 0, .int .i64 3] 3]
/-- a drawn rule -/
def RuleDrawn (w : World) (B R L p : Nat) (e : Ending) (w' : World) : Prop :=
  ∃ r n c, e = .returned (.agg #[.string r.t, .slice (some ⟨n, 0, none⟩) r.c.length c, .int .i64 r.p]) ∧ OwnInts w' w.heap.size (.slice (some ⟨n, 0, none⟩) r.c.length c) r.c ∧ RuleFits r ∧ RD w' B R L (p + 1) ∧ w.grownBy w' (some R)
theorem ints_at' {zs : List Int} {k : Nat} (hk : k < zs.length) : ((ints zs).toArray)[k]? = some (.int .i64 (zs.getD k 0)) := by
  simp [ints, hk]
theorem cases22 {k : Nat} (h : k < 22) : k = 0 ∨ k = 1 ∨ k = 2 ∨ k = 3 ∨ k = 4 ∨ k = 5 ∨ k = 6 ∨ k = 7 ∨ k = 8 ∨ k = 9 ∨ k = 10 ∨ k = 11 ∨ k = 12 ∨ k = 13 ∨ k = 14 ∨ k = 15 ∨ k = 16 ∨ k = 17 ∨ k = 18 ∨ k = 19 ∨ k = 20 ∨ k = 21 := by omega
theorem pool_list (b k : Nat) (hk : k < 22) : (poolO b)[2 + k]? = some (.cells (ints (poolC.getD k [])).toArray 3) := by
  rcases cases22 hk with rfl | rfl | rfl | rfl | rfl | rfl | rfl | rfl | rfl | rfl | rfl | rfl | rfl | rfl | rfl | rfl | rfl | rfl | rfl | rfl | rfl | rfl <;> rfl
theorem pool_text (b k : Nat) (hk : k < 22) : ∃ cs, (poolO b)[1]? = some (.cells cs 9) ∧ cs[k]? = some (.string (poolT.getD k ⟨#[]⟩)) := by
  refine ⟨_, rfl, ?_⟩
  rcases cases22 hk with rfl | rfl | rfl | rfl | rfl | rfl | rfl | rfl | rfl | rfl | rfl | rfl | rfl | rfl | rfl | rfl | rfl | rfl | rfl | rfl | rfl | rfl <;> rfl
theorem pool_outer (b k : Nat) (hk : k < 22) : ∃ cs, (poolO b)[24]? = some (.cells cs 36) ∧ cs[k]? = some (.slice (some ⟨b + 2 + k, 0, none⟩) (poolC.getD k []).length (poolC.getD k []).length) := by
  refine ⟨_, rfl, ?_⟩
  rcases cases22 hk with rfl | rfl | rfl | rfl | rfl | rfl | rfl | rfl | rfl | rfl | rfl | rfl | rfl | rfl | rfl | rfl | rfl | rfl | rfl | rfl | rfl | rfl <;> rfl
theorem pool_place (b k : Nat) (hk : k < 22) : ∃ cs, (poolO b)[25]? = some (.cells cs 3) ∧ cs[k]? = some (.int .i64 (poolP.getD k 0)) := by
  refine ⟨_, rfl, ?_⟩
  rcases cases22 hk with rfl | rfl | rfl | rfl | rfl | rfl | rfl | rfl | rfl | rfl | rfl | rfl | rfl | rfl | rfl | rfl | rfl | rfl | rfl | rfl | rfl | rfl <;> rfl
/-- the pick of a rule's number, behind the blocks -/
def PoolPicked (w : World) (B R L p : Nat) (e : Ending) (w2 : World) : Prop :=
  ∃ (k : Nat) (t : ByteArray) (c : List Int) (q : Int) (gk l : Nat), e = .returned (.int .i64 k) ∧ k < 22 ∧ Hid (c.length = l) ∧ l ≤ 2 ∧ Hid (RuleFits ⟨t, c, q⟩) ∧
    Hid (w2.cell? ⟨w.heap.size + 1, k, none⟩ = some (.string t) ∧ w2.cell? ⟨w.heap.size + 1 + 1 + 1 + 1 + 1 + 1 + 1 + 1 + 1 + 1 + 1 + 1 + 1 + 1 + 1 + 1 + 1 + 1 + 1 + 1 + 1 + 1 + 1 + 1, k, none⟩ = some (.slice (some ⟨gk, 0, none⟩) l l) ∧ w2.cell? ⟨w.heap.size + 1 + 1 + 1 + 1 + 1 + 1 + 1 + 1 + 1 + 1 + 1 + 1 + 1 + 1 + 1 + 1 + 1 + 1 + 1 + 1 + 1 + 1 + 1 + 1 + 1, k, none⟩ = some (.int .i64 q)) ∧ Hid (IntsAt w2 (.slice (some ⟨gk, 0, none⟩) l l) c) ∧ Hid (w2.heap[w.heap.size]? = some (.cells #[.string ⟨#[]⟩, .slice none 0 0, .int .i64 0] 46 (0, 0))) ∧ RD w2 B R L (p + 1) ∧ w.grownBy w2 (some R) ∧ w.heap.size + 26 ≤ w2.heap.size
set_option maxHeartbeats 1000000 in
theorem pool_pick (w : World) (B R L p : Nat) (h : RD w B R L p) (hp : p ≤ 100000000000) :
    Calls Try.prog 80 #[.pointer (some ⟨R, 0, none⟩), .int .i64 22] ((poolO w.heap.size).foldl World.alloc w) fun e w' => PoolPicked w B R L p e w' := by
  have hR := h.lt
  have hBR : B ≤ R := by obtain ⟨_, _, _, h3, _⟩ := h; exact h3
  have hrd : RD ((poolO w.heap.size).foldl World.alloc w) B R L p := h.of_same (fun k hk => heap_foldl _ w k (by omega)) (heap_foldl _ w R hR)
  have hsz : ((poolO w.heap.size).foldl World.alloc w).heap.size = w.heap.size + 26 := size_foldl _ w
  have hgw : ∀ i, i < w.heap.size → ((poolO w.heap.size).foldl World.alloc w).heap[i]? = w.heap[i]? := fun i hi => heap_foldl _ w i hi
  have hos : ((poolO w.heap.size).foldl World.alloc w).os = w.os ∧ ((poolO w.heap.size).foldl World.alloc w).tape = w.tape ∧ ((poolO w.heap.size).foldl World.alloc w).output = w.output := os_foldl _ w
  refine (pick_any _ B R L p 22 hrd (by omega) (by omega) (by omega)).mono ?_
  have hal : ∀ i o, (poolO w.heap.size)[i]? = some o → ((poolO w.heap.size).foldl World.alloc w).heap[w.heap.size + i]? = some o := fun i o ho => heap_allocs _ w i o ho
  generalize (poolO w.heap.size).foldl World.alloc w = W1 at hrd hsz hgw hos hal ⊢
  rintro e w2 ⟨k, rfl, hk, hrd2, hgr2⟩
  have hk22 : k < 22 := by omega
  obtain ⟨f1, f2, f3, f4, f5, f6⟩ := pool_facts k hk22
  have hsz2 := hgr2.size
  rw [hsz] at hsz2
  have blk : ∀ i o, (poolO w.heap.size)[i]? = some o → i < 26 → w2.heap[w.heap.size + i]? = some o := fun i o h1 h2 => (hgr2.block (w.heap.size + i) (by omega) (by simp; omega)).trans (hal i o h1)
  obtain ⟨cs1, g1, g2⟩ := pool_text w.heap.size k hk22
  obtain ⟨cs2, g3, g4⟩ := pool_outer w.heap.size k hk22
  obtain ⟨cs3, g5, g6⟩ := pool_place w.heap.size k hk22
  have kT := blk 1 _ g1 (by omega)
  have kL := blk 24 _ g3 (by omega)
  have kP := blk 25 _ g5 (by omega)
  have kI := blk (2 + k) _ (pool_list w.heap.size k hk22) (by omega)
  have kA := blk 0 (.cells #[.string ⟨#[]⟩, .slice none 0 0, .int .i64 0] 46) rfl (by omega)
  have cT : w2.cell? ⟨w.heap.size + 1, k, none⟩ = some (.string (poolT.getD k ⟨#[]⟩)) := by rw [cell_of_row w2 _ k _ _ _ kT]; exact g2
  have cL : w2.cell? ⟨w.heap.size + 1 + 1 + 1 + 1 + 1 + 1 + 1 + 1 + 1 + 1 + 1 + 1 + 1 + 1 + 1 + 1 + 1 + 1 + 1 + 1 + 1 + 1 + 1 + 1, k, none⟩ = some (.slice (some ⟨w.heap.size + 2 + k, 0, none⟩) (poolC.getD k []).length (poolC.getD k []).length) := by rw [cell_of_row w2 (w.heap.size + 24) k _ _ _ kL]; exact g4
  have cP : w2.cell? ⟨w.heap.size + 1 + 1 + 1 + 1 + 1 + 1 + 1 + 1 + 1 + 1 + 1 + 1 + 1 + 1 + 1 + 1 + 1 + 1 + 1 + 1 + 1 + 1 + 1 + 1 + 1, k, none⟩ = some (.int .i64 (poolP.getD k 0)) := by rw [cell_of_row w2 (w.heap.size + 25) k _ _ _ kP]; exact g6
  have cI : IntsAt w2 (.slice (some ⟨w.heap.size + 2 + k, 0, none⟩) (poolC.getD k []).length (poolC.getD k []).length) (poolC.getD k []) := by
    refine ⟨_, _, rfl, Nat.le_refl _, by omega, .inr ⟨_, 0, rfl, fun i hi => ?_⟩⟩
    rw [Nat.zero_add, show w.heap.size + 2 + k = w.heap.size + (2 + k) from by omega, cell_of_row w2 _ i _ _ _ kI]
    exact ints_at' hi
  exact ⟨k, _, _, _, _, _, rfl, hk22, Lib.hid rfl, f3, Lib.hid ⟨by simp only; omega, fun z hz => by have := f4 z hz; omega, by simp only; omega, by simp only; omega⟩, ⟨cT, cL, cP⟩, cI, kA, hrd2, ⟨hgr2.os.trans hos.1, hgr2.tape.trans hos.2.1, hgr2.output.trans hos.2.2, by omega, fun i hi hne => (hgr2.block i (by omega) hne).trans (hgw i hi)⟩, hsz2⟩
end Go.Proofs.Ytohgglhjcklbaaa
