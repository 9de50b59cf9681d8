/- Merged: Dt Du Dv Dw Dy. -/
import Derived.Test.YthojahknocageaaMC
import Derived.Test.YthojahknocageaaMD
import Derived.Test.YthojahknocageaaME
import Derived.Laws.AppendOwnNone

/- The draw of one rule. -/
namespace Go.Proofs.Ythojahknocageaa
open Go.RowKit

theorem heap_foldl (os : List Obj) : ∀ (w : World) (i : Nat), i < w.heap.size → (os.foldl World.alloc w).heap[i]? = w.heap[i]? := by
  induction os with
  | nil => intro w i _; rfl
  | cons o os ih =>
    intro w i hi
    show ((os.foldl World.alloc (w.alloc o)).heap[i]?) = _
    rw [ih (w.alloc o) i (by simp; omega), Below.heap_alloc w o i hi]
theorem heap_allocs (os : List Obj) : ∀ (w : World) (i : Nat) (o : Obj), os[i]? = some o → (os.foldl World.alloc w).heap[w.heap.size + i]? = some o := by
  induction os with
  | nil => intro w i o h; simp at h
  | cons x os ih =>
    intro w i o h
    cases i with
    | zero =>
      simp at h
      subst h
      show ((os.foldl World.alloc (w.alloc x)).heap[w.heap.size + 0]?) = _
      rw [heap_foldl os (w.alloc x) _ (by simp)]
      exact heap_alloc_new w x
    | succ i =>
      simp at h
      have := ih (w.alloc x) i o h
      rw [World.size_alloc] at this
      show ((os.foldl World.alloc (w.alloc x)).heap[w.heap.size + (i + 1)]?) = _
      rw [← this]
      congr 1
      omega
theorem os_foldl (os : List Obj) : ∀ (w : World), (os.foldl World.alloc w).os = w.os ∧ (os.foldl World.alloc w).tape = w.tape ∧ (os.foldl World.alloc w).output = w.output := by
  induction os with
  | nil => intro w; exact ⟨rfl, rfl, rfl⟩
  | cons o os ih => intro w; exact ih (w.alloc o)
theorem size_foldl (os : List Obj) : ∀ (w : World), (os.foldl World.alloc w).heap.size = w.heap.size + os.length := by
  induction os with
  | nil => intro w; rfl
  | cons o os ih =>
    intro w
    show (os.foldl World.alloc (w.alloc o)).heap.size = _
    rw [ih, World.size_alloc, List.length_cons]; omega

set_option maxHeartbeats 1000000 in
theorem s_copyInts (w : World) (g off n cap : Nat) (zs : List Int) (hx : IntsAt w (.slice (some ⟨g, off, none⟩) n cap) zs) (hn : Hid (zs.length = n)) (hs : n ≤ 1048576) :
    Calls Try.prog 84 #[.slice (some ⟨g, off, none⟩) n cap] w fun e w' => (∃ v, e = .returned v ∧ OwnInts w' w.heap.size v zs ∧ ∃ g c, v = .slice (some ⟨g, 0, none⟩) n c) ∧ Below w.heap.size w w' := by
  obtain ⟨i0, hi, hz0, hz1, hz2⟩ := info_parts infoInt
  have hO1 : OwnInts (w.alloc (.cells #[] 3)) w.heap.size (.slice (some ⟨w.heap.size, 0, none⟩) 0 0) [] := OwnInts.made w w.heap.size (Nat.le_refl _)
  have hB1 : Below w.heap.size w (w.alloc (.cells #[] 3)) := (Below.refl _ _).alloc (Nat.le_refl _) _
  have hx1 := hx.below hB1
  have hnews := Lib.hid hx1.news
  have hlz : Hid ((ints zs).length = n * 1) := by show _ = _; rw [ints_length, hn.out, Nat.mul_one]
  clear hx hx1
  go_enter Try.func84, Try.ntmps84
  go_wp2_with (at_builtin; go_loud (refine wpList_append_own _ rfl _ _ 23 rfl w.heap.size 3 i0 (.int .i64 0) 1 8 Try.underlying23 hi hz0 hz1 hz2 rfl (by decide) _ _ _ rfl hO1 ⟨g, off, none⟩ n cap (ints zs) rfl hlz.out hnews.out (ints_oneCell' zs) (by unfold maxLen; simp; omega) (by simp; omega) (by simp) ?_))
  intro v' w3 hown' hgrow hnil
  have hO3 : OwnInts w3 w.heap.size v' ([] ++ zs) := OwnInts.addAll' hown' (by rw [hn.out]; simp)
  have hB3 : Below w.heap.size w w3 := hB1.grown hgrow (by simp) (fun q hq => (hO1.lt q hq).1)
  go_wp2
  go_ret
  refine ⟨⟨v', rfl, hO3, ?_⟩, hB3⟩
  obtain ⟨a, c, hv, _⟩ := hO3.at
  rcases hO3.2 with ⟨h1, _⟩ | ⟨g', c', cur, h1, _⟩
  · exact absurd h1 hnil
  · exact ⟨g', c', by rw [h1]; simp [hn.out]⟩

def poolT : List ByteArray := [⟨#[116, 104, 101]⟩, ⟨#[97, 110, 100]⟩, ⟨#[105, 110, 103]⟩, ⟨#[101, 100]⟩, ⟨#[101, 114]⟩, ⟨#[115, 116]⟩, ⟨#[99, 104]⟩, ⟨#[115, 104]⟩, ⟨#[116, 104]⟩, ⟨#[119, 104]⟩, ⟨#[98, 117, 116]⟩, ⟨#[99, 97, 110]⟩, ⟨#[100, 111]⟩, ⟨#[101, 110]⟩, ⟨#[105, 110]⟩, ⟨#[102, 111, 114]⟩, ⟨#[111, 117, 110, 100]⟩, ⟨#[97, 110, 99, 101]⟩, ⟨#[116, 104, 101]⟩, ⟨#[105, 110]⟩, ⟨#[97]⟩, ⟨#[116, 104]⟩]
def poolC : List (List Int) := [[46], [47], [44], [43], [59], [12], [33], [41], [57], [49], [3], [9], [25], [34], [20], [63], [40, 25], [40, 17], [57, 17], [10], [1, 1], [46]]
def poolP : List Int := [0, 0, 4, 0, 0, 0, 0, 0, 0, 2, 1, 1, 1, 0, 3, 0, 0, 4, 2, 0, 0, 3]
theorem pool_facts : ∀ k, k < 22 → (poolT.getD k ⟨#[]⟩).size ≤ 4 ∧ 1 ≤ (poolC.getD k []).length ∧ (poolC.getD k []).length ≤ 2 ∧ (∀ z ∈ poolC.getD k [], 0 ≤ z ∧ z ≤ 63) ∧ 0 ≤ poolP.getD k 0 ∧ poolP.getD k 0 ≤ 4 := by decide
/-- the blocks that the draw lays: its answer, the texts, each list of cells, the lists, the places -/
def poolO (b : Nat) : List Obj :=
  [.cells #[.string ⟨#[]⟩, .slice none 0 0, .int .i64 0] 56,
   .cells #[.string ⟨#[116, 104, 101]⟩, .string ⟨#[97, 110, 100]⟩, .string ⟨#[105, 110, 103]⟩, .string ⟨#[101, 100]⟩, .string ⟨#[101, 114]⟩, .string ⟨#[115, 116]⟩, .string ⟨#[99, 104]⟩, .string ⟨#[115, 104]⟩, .string ⟨#[116, 104]⟩, .string ⟨#[119, 104]⟩, .string ⟨#[98, 117, 116]⟩, .string ⟨#[99, 97, 110]⟩, .string ⟨#[100, 111]⟩, .string ⟨#[101, 110]⟩, .string ⟨#[105, 110]⟩, .string ⟨#[102, 111, 114]⟩, .string ⟨#[111, 117, 110, 100]⟩, .string ⟨#[97, 110, 99, 101]⟩, .string ⟨#[116, 104, 101]⟩, .string ⟨#[105, 110]⟩, .string ⟨#[97]⟩, .string ⟨#[116, 104]⟩] 9,
   .cells #[.int .i64 46] 3,
   .cells #[.int .i64 47] 3,
   .cells #[.int .i64 44] 3,
   .cells #[.int .i64 43] 3,
   .cells #[.int .i64 59] 3,
   .cells #[.int .i64 12] 3,
   .cells #[.int .i64 33] 3,
   .cells #[.int .i64 41] 3,
   .cells #[.int .i64 57] 3,
   .cells #[.int .i64 49] 3,
   .cells #[.int .i64 3] 3,
   .cells #[.int .i64 9] 3,
   .cells #[.int .i64 25] 3,
   .cells #[.int .i64 34] 3,
   .cells #[.int .i64 20] 3,
   .cells #[.int .i64 63] 3,
   .cells #[.int .i64 40, .int .i64 25] 3,
   .cells #[.int .i64 40, .int .i64 17] 3,
   .cells #[.int .i64 57, .int .i64 17] 3,
   .cells #[.int .i64 10] 3,
   .cells #[.int .i64 1, .int .i64 1] 3,
   .cells #[.int .i64 46] 3,
   .cells #[.slice (some ⟨b + 1 + 1, 0, none⟩) 1 1, .slice (some ⟨b + 1 + 1 + 1, 0, none⟩) 1 1, .slice (some ⟨b + 1 + 1 + 1 + 1, 0, none⟩) 1 1, .slice (some ⟨b + 1 + 1 + 1 + 1 + 1, 0, none⟩) 1 1, .slice (some ⟨b + 1 + 1 + 1 + 1 + 1 + 1, 0, none⟩) 1 1, .slice (some ⟨b + 1 + 1 + 1 + 1 + 1 + 1 + 1, 0, none⟩) 1 1, .slice (some ⟨b + 1 + 1 + 1 + 1 + 1 + 1 + 1 + 1, 0, none⟩) 1 1, .slice (some ⟨b + 1 + 1 + 1 + 1 + 1 + 1 + 1 + 1 + 1, 0, none⟩) 1 1, .slice (some ⟨b + 1 + 1 + 1 + 1 + 1 + 1 + 1 + 1 + 1 + 1, 0, none⟩) 1 1, .slice (some ⟨b + 1 + 1 + 1 + 1 + 1 + 1 + 1 + 1 + 1 + 1 + 1, 0, none⟩) 1 1, .slice (some ⟨b + 1 + 1 + 1 + 1 + 1 + 1 + 1 + 1 + 1 + 1 + 1 + 1, 0, none⟩) 1 1, .slice (some ⟨b + 1 + 1 + 1 + 1 + 1 + 1 + 1 + 1 + 1 + 1 + 1 + 1 + 1, 0, none⟩) 1 1, .slice (some ⟨b + 1 + 1 + 1 + 1 + 1 + 1 + 1 + 1 + 1 + 1 + 1 + 1 + 1 + 1, 0, none⟩) 1 1, .slice (some ⟨b + 1 + 1 + 1 + 1 + 1 + 1 + 1 + 1 + 1 + 1 + 1 + 1 + 1 + 1 + 1, 0, none⟩) 1 1, .slice (some ⟨b + 1 + 1 + 1 + 1 + 1 + 1 + 1 + 1 + 1 + 1 + 1 + 1 + 1 + 1 + 1 + 1, 0, none⟩) 1 1, .slice (some ⟨b + 1 + 1 + 1 + 1 + 1 + 1 + 1 + 1 + 1 + 1 + 1 + 1 + 1 + 1 + 1 + 1 + 1, 0, none⟩) 1 1, .slice (some ⟨b + 1 + 1 + 1 + 1 + 1 + 1 + 1 + 1 + 1 + 1 + 1 + 1 + 1 + 1 + 1 + 1 + 1 + 1, 0, none⟩) 2 2, .slice (some ⟨b + 1 + 1 + 1 + 1 + 1 + 1 + 1 + 1 + 1 + 1 + 1 + 1 + 1 + 1 + 1 + 1 + 1 + 1 + 1, 0, none⟩) 2 2, .slice (some ⟨b + 1 + 1 + 1 + 1 + 1 + 1 + 1 + 1 + 1 + 1 + 1 + 1 + 1 + 1 + 1 + 1 + 1 + 1 + 1 + 1, 0, none⟩) 2 2, .slice (some ⟨b + 1 + 1 + 1 + 1 + 1 + 1 + 1 + 1 + 1 + 1 + 1 + 1 + 1 + 1 + 1 + 1 + 1 + 1 + 1 + 1 + 1, 0, none⟩) 1 1, .slice (some ⟨b + 1 + 1 + 1 + 1 + 1 + 1 + 1 + 1 + 1 + 1 + 1 + 1 + 1 + 1 + 1 + 1 + 1 + 1 + 1 + 1 + 1 + 1, 0, none⟩) 2 2, .slice (some ⟨b + 1 + 1 + 1 + 1 + 1 + 1 + 1 + 1 + 1 + 1 + 1 + 1 + 1 + 1 + 1 + 1 + 1 + 1 + 1 + 1 + 1 + 1 + 1, 0, none⟩) 1 1] 23,
   .cells #[.int .i64 0, .int .i64 0, .int .i64 4, .int .i64 0, .int .i64 0, .int .i64 0, .int .i64 0, .int .i64 0, .int .i64 0, .int .i64 2, .int .i64 1, .int .i64 1, .int .i64 1, .int .i64 0, .int .i64 3, .int .i64 0, .int .i64 0, .int .i64 4, .int .i64 2, .int .i64 0, .int .i64 0, .int .i64 3] 3]
/-- a drawn rule -/
def RuleDrawn (w : World) (B R L p : Nat) (e : Ending) (w' : World) : Prop :=
  ∃ r n c, e = .returned (.agg #[.string r.t, .slice (some ⟨n, 0, none⟩) r.c.length c, .int .i64 r.p]) ∧ OwnInts w' w.heap.size (.slice (some ⟨n, 0, none⟩) r.c.length c) r.c ∧ RuleFits r ∧ RD w' B R L (p + 1) ∧ w.grownBy w' (some R)
theorem ints_at' {zs : List Int} {k : Nat} (hk : k < zs.length) : ((ints zs).toArray)[k]? = some (.int .i64 (zs.getD k 0)) := by
  simp [ints, hk]
theorem cases22 {k : Nat} (h : k < 22) : k = 0 ∨ k = 1 ∨ k = 2 ∨ k = 3 ∨ k = 4 ∨ k = 5 ∨ k = 6 ∨ k = 7 ∨ k = 8 ∨ k = 9 ∨ k = 10 ∨ k = 11 ∨ k = 12 ∨ k = 13 ∨ k = 14 ∨ k = 15 ∨ k = 16 ∨ k = 17 ∨ k = 18 ∨ k = 19 ∨ k = 20 ∨ k = 21 := by omega
theorem pool_list (b k : Nat) (hk : k < 22) : (poolO b)[2 + k]? = some (.cells (ints (poolC.getD k [])).toArray 3) := by
  rcases cases22 hk with rfl | rfl | rfl | rfl | rfl | rfl | rfl | rfl | rfl | rfl | rfl | rfl | rfl | rfl | rfl | rfl | rfl | rfl | rfl | rfl | rfl | rfl <;> rfl
theorem pool_text (b k : Nat) (hk : k < 22) : ∃ cs, (poolO b)[1]? = some (.cells cs 9) ∧ cs[k]? = some (.string (poolT.getD k ⟨#[]⟩)) := by
  refine ⟨_, rfl, ?_⟩
  rcases cases22 hk with rfl | rfl | rfl | rfl | rfl | rfl | rfl | rfl | rfl | rfl | rfl | rfl | rfl | rfl | rfl | rfl | rfl | rfl | rfl | rfl | rfl | rfl <;> rfl
theorem pool_outer (b k : Nat) (hk : k < 22) : ∃ cs, (poolO b)[24]? = some (.cells cs 23) ∧ cs[k]? = some (.slice (some ⟨b + 2 + k, 0, none⟩) (poolC.getD k []).length (poolC.getD k []).length) := by
  refine ⟨_, rfl, ?_⟩
  rcases cases22 hk with rfl | rfl | rfl | rfl | rfl | rfl | rfl | rfl | rfl | rfl | rfl | rfl | rfl | rfl | rfl | rfl | rfl | rfl | rfl | rfl | rfl | rfl <;> rfl
theorem pool_place (b k : Nat) (hk : k < 22) : ∃ cs, (poolO b)[25]? = some (.cells cs 3) ∧ cs[k]? = some (.int .i64 (poolP.getD k 0)) := by
  refine ⟨_, rfl, ?_⟩
  rcases cases22 hk with rfl | rfl | rfl | rfl | rfl | rfl | rfl | rfl | rfl | rfl | rfl | rfl | rfl | rfl | rfl | rfl | rfl | rfl | rfl | rfl | rfl | rfl <;> rfl
/-- the pick of a rule's number, behind the blocks -/
def PoolPicked (w : World) (B R L p : Nat) (e : Ending) (w2 : World) : Prop :=
  ∃ (k : Nat) (t : ByteArray) (c : List Int) (q : Int) (gk l : Nat), e = .returned (.int .i64 k) ∧ k < 22 ∧ Hid (c.length = l) ∧ l ≤ 2 ∧ Hid (RuleFits ⟨t, c, q⟩) ∧
    Hid (w2.cell? ⟨w.heap.size + 1, k, none⟩ = some (.string t) ∧ w2.cell? ⟨w.heap.size + 1 + 1 + 1 + 1 + 1 + 1 + 1 + 1 + 1 + 1 + 1 + 1 + 1 + 1 + 1 + 1 + 1 + 1 + 1 + 1 + 1 + 1 + 1 + 1, k, none⟩ = some (.slice (some ⟨gk, 0, none⟩) l l) ∧ w2.cell? ⟨w.heap.size + 1 + 1 + 1 + 1 + 1 + 1 + 1 + 1 + 1 + 1 + 1 + 1 + 1 + 1 + 1 + 1 + 1 + 1 + 1 + 1 + 1 + 1 + 1 + 1 + 1, k, none⟩ = some (.int .i64 q)) ∧ Hid (IntsAt w2 (.slice (some ⟨gk, 0, none⟩) l l) c) ∧ Hid (w2.heap[w.heap.size]? = some (.cells #[.string ⟨#[]⟩, .slice none 0 0, .int .i64 0] 56 (0, 0))) ∧ RD w2 B R L (p + 1) ∧ w.grownBy w2 (some R) ∧ w.heap.size + 26 ≤ w2.heap.size
set_option maxHeartbeats 1000000 in
theorem pool_pick (w : World) (B R L p : Nat) (h : RD w B R L p) (hp : p ≤ 100000000000) :
    Calls Try.prog 31 #[.pointer (some ⟨R, 0, none⟩), .int .i64 22] ((poolO w.heap.size).foldl World.alloc w) fun e w' => PoolPicked w B R L p e w' := by
  have hR := h.lt
  have hBR : B ≤ R := by obtain ⟨_, _, _, h3, _⟩ := h; exact h3
  have hrd : RD ((poolO w.heap.size).foldl World.alloc w) B R L p := h.of_same (fun k hk => heap_foldl _ w k (by omega)) (heap_foldl _ w R hR)
  have hsz : ((poolO w.heap.size).foldl World.alloc w).heap.size = w.heap.size + 26 := size_foldl _ w
  have hgw : ∀ i, i < w.heap.size → ((poolO w.heap.size).foldl World.alloc w).heap[i]? = w.heap[i]? := fun i hi => heap_foldl _ w i hi
  have hos : ((poolO w.heap.size).foldl World.alloc w).os = w.os ∧ ((poolO w.heap.size).foldl World.alloc w).tape = w.tape ∧ ((poolO w.heap.size).foldl World.alloc w).output = w.output := os_foldl _ w
  refine (pick_any _ B R L p 22 hrd (by omega) (by omega) (by omega)).mono ?_
  have hal : ∀ i o, (poolO w.heap.size)[i]? = some o → ((poolO w.heap.size).foldl World.alloc w).heap[w.heap.size + i]? = some o := fun i o ho => heap_allocs _ w i o ho
  generalize (poolO w.heap.size).foldl World.alloc w = W1 at hrd hsz hgw hos hal ⊢
  rintro e w2 ⟨k, rfl, hk, hrd2, hgr2⟩
  have hk22 : k < 22 := by omega
  obtain ⟨f1, f2, f3, f4, f5, f6⟩ := pool_facts k hk22
  have hsz2 := hgr2.size
  rw [hsz] at hsz2
  have blk : ∀ i o, (poolO w.heap.size)[i]? = some o → i < 26 → w2.heap[w.heap.size + i]? = some o := fun i o h1 h2 => (hgr2.block (w.heap.size + i) (by omega) (by simp; omega)).trans (hal i o h1)
  obtain ⟨cs1, g1, g2⟩ := pool_text w.heap.size k hk22
  obtain ⟨cs2, g3, g4⟩ := pool_outer w.heap.size k hk22
  obtain ⟨cs3, g5, g6⟩ := pool_place w.heap.size k hk22
  have kT := blk 1 _ g1 (by omega)
  have kL := blk 24 _ g3 (by omega)
  have kP := blk 25 _ g5 (by omega)
  have kI := blk (2 + k) _ (pool_list w.heap.size k hk22) (by omega)
  have kA := blk 0 (.cells #[.string ⟨#[]⟩, .slice none 0 0, .int .i64 0] 56) rfl (by omega)
  have cT : w2.cell? ⟨w.heap.size + 1, k, none⟩ = some (.string (poolT.getD k ⟨#[]⟩)) := by rw [cell_of_row w2 _ k _ _ _ kT]; exact g2
  have cL : w2.cell? ⟨w.heap.size + 1 + 1 + 1 + 1 + 1 + 1 + 1 + 1 + 1 + 1 + 1 + 1 + 1 + 1 + 1 + 1 + 1 + 1 + 1 + 1 + 1 + 1 + 1 + 1, k, none⟩ = some (.slice (some ⟨w.heap.size + 2 + k, 0, none⟩) (poolC.getD k []).length (poolC.getD k []).length) := by rw [cell_of_row w2 (w.heap.size + 24) k _ _ _ kL]; exact g4
  have cP : w2.cell? ⟨w.heap.size + 1 + 1 + 1 + 1 + 1 + 1 + 1 + 1 + 1 + 1 + 1 + 1 + 1 + 1 + 1 + 1 + 1 + 1 + 1 + 1 + 1 + 1 + 1 + 1 + 1, k, none⟩ = some (.int .i64 (poolP.getD k 0)) := by rw [cell_of_row w2 (w.heap.size + 25) k _ _ _ kP]; exact g6
  have cI : IntsAt w2 (.slice (some ⟨w.heap.size + 2 + k, 0, none⟩) (poolC.getD k []).length (poolC.getD k []).length) (poolC.getD k []) := by
    refine ⟨_, _, rfl, Nat.le_refl _, by omega, .inr ⟨_, 0, rfl, fun i hi => ?_⟩⟩
    rw [Nat.zero_add, show w.heap.size + 2 + k = w.heap.size + (2 + k) from by omega, cell_of_row w2 _ i _ _ _ kI]
    exact ints_at' hi
  exact ⟨k, _, _, _, _, _, rfl, hk22, Lib.hid rfl, f3, Lib.hid ⟨by simp only; omega, fun z hz => by have := f4 z hz; omega, by simp only; omega, by simp only; omega⟩, ⟨cT, cL, cP⟩, cI, kA, hrd2, ⟨hgr2.os.trans hos.1, hgr2.tape.trans hos.2.1, hgr2.output.trans hos.2.2, by omega, fun i hi hne => (hgr2.block i (by omega) hne).trans (hgw i hi)⟩, hsz2⟩
end Go.Proofs.Ythojahknocageaa


/- The draw of one rule: its walk. -/
namespace Go.Proofs.Ythojahknocageaa
open Go.RowKit

theorem keptH {p : Prop} (h : p) : Hid p := h
set_option maxRecDepth 20000 in
set_option maxHeartbeats 16000000 in
theorem poolRule_any (w : World) (B R L p : Nat) (h : RD w B R L p) (hp : p ≤ 100000000000) :
    Calls Try.prog 72 #[.pointer (some ⟨R, 0, none⟩)] w fun e w' => RuleDrawn w B R L p e w' := by
  have hR := h.lt
  have HP := pool_pick w B R L p h hp
  simp only [poolO, List.foldl_cons, List.foldl_nil] at HP
  have HPK := keptH HP
  clear HP h
  go_enter Try.func72, Try.ntmps72
  go_wp2_with fail
  refine HPK.out.mono ?_
  clear HPK
  rintro e w2 ⟨k, t, c, q, gk, l, rfl, hk22, HL, hl2, HF, HC, HCI, HA0, hrd2, hgw2, hsz2⟩
  have b1 : (0 : Int) ≤ (k : Int) := by omega
  have b2 : (k : Int) < 22 := by omega
  have HK : Hid (∀ wx, Below w2.heap.size w2 wx → wx.cell? ⟨w.heap.size + 1, k, none⟩ = some (.string t) ∧ wx.cell? ⟨w.heap.size + 1 + 1 + 1 + 1 + 1 + 1 + 1 + 1 + 1 + 1 + 1 + 1 + 1 + 1 + 1 + 1 + 1 + 1 + 1 + 1 + 1 + 1 + 1 + 1, k, none⟩ = some (.slice (some ⟨gk, 0, none⟩) l l) ∧ wx.cell? ⟨w.heap.size + 1 + 1 + 1 + 1 + 1 + 1 + 1 + 1 + 1 + 1 + 1 + 1 + 1 + 1 + 1 + 1 + 1 + 1 + 1 + 1 + 1 + 1 + 1 + 1 + 1, k, none⟩ = some (.int .i64 q)) := fun wx h => ⟨(h.cell (World.block_lt_of_cell? w2 _ HC.out.1)).trans HC.out.1, (h.cell (World.block_lt_of_cell? w2 _ HC.out.2.1)).trans HC.out.2.1, (h.cell (World.block_lt_of_cell? w2 _ HC.out.2.2)).trans HC.out.2.2⟩
  have HSZ : Hid (w2.drew.cell? ⟨w.heap.size + 1, k, none⟩ = some (.string t) ∧ w2.drew.cell? ⟨w.heap.size + 1 + 1 + 1 + 1 + 1 + 1 + 1 + 1 + 1 + 1 + 1 + 1 + 1 + 1 + 1 + 1 + 1 + 1 + 1 + 1 + 1 + 1 + 1 + 1, k, none⟩ = some (.slice (some ⟨gk, 0, none⟩) l l) ∧ w2.drew.cell? ⟨w.heap.size + 1 + 1 + 1 + 1 + 1 + 1 + 1 + 1 + 1 + 1 + 1 + 1 + 1 + 1 + 1 + 1 + 1 + 1 + 1 + 1 + 1 + 1 + 1 + 1 + 1, k, none⟩ = some (.int .i64 q)) := HK.out w2.drew (Below.refl _ _).drew
  go_wp2_with fail
  go_region_held3 (fun wx => wx.cell? ⟨w.heap.size + 1, k, none⟩ = some (.string t) ∧ wx.cell? ⟨w.heap.size + 1 + 1 + 1 + 1 + 1 + 1 + 1 + 1 + 1 + 1 + 1 + 1 + 1 + 1 + 1 + 1 + 1 + 1 + 1 + 1 + 1 + 1 + 1 + 1, k, none⟩ = some (.slice (some ⟨gk, 0, none⟩) l l) ∧ wx.cell? ⟨w.heap.size + 1 + 1 + 1 + 1 + 1 + 1 + 1 + 1 + 1 + 1 + 1 + 1 + 1 + 1 + 1 + 1 + 1 + 1 + 1 + 1 + 1 + 1 + 1 + 1 + 1, k, none⟩ = some (.int .i64 q)) (first | assumption | with_reducible exact HSZ.out | with_reducible exact HSY.out | with_reducible exact HSX.out) (first | (go_at_call 84; refine (s_copyInts w2.drew gk 0 l l c (show IntsAt w2 _ c from HCI.out) HL (by omega)).mono ?_; rintro e w3 ⟨⟨v3, rfl, hO3, g3, c3, rfl⟩, hb3⟩; have r0 : w3.heap[w.heap.size]? = some (.cells #[.string ⟨#[]⟩, .slice none 0 0, .int .i64 0] 56 (0, 0)) := (hb3.block _ (show w.heap.size < w2.heap.size by omega)).trans HA0.out; have r1 : w3.cell? ⟨w.heap.size, 0, none⟩ = some (.string ⟨#[]⟩) := (cell_of_row w3 _ 0 _ _ _ r0).trans rfl; have r2 : w3.cell? ⟨w.heap.size, 1, none⟩ = some (.slice none 0 0) := (cell_of_row w3 _ 1 _ _ _ r0).trans rfl; have r3 : w3.cell? ⟨w.heap.size, 2, none⟩ = some (.int .i64 0) := (cell_of_row w3 _ 2 _ _ _ r0).trans rfl; have r4 : w3.frozen? ⟨w.heap.size, 0, none⟩ = false := frozen_of_row w3 _ 0 _ _ r0; have r5 : w3.frozen? ⟨w.heap.size, 1, none⟩ = false := frozen_of_row w3 _ 1 _ _ r0; have r6 : w3.frozen? ⟨w.heap.size, 2, none⟩ = false := frozen_of_row w3 _ 2 _ _ r0; have HR0 := Lib.hid r0; have HSY : Hid (w3.cell? ⟨w.heap.size + 1, k, none⟩ = some (.string t) ∧ w3.cell? ⟨w.heap.size + 1 + 1 + 1 + 1 + 1 + 1 + 1 + 1 + 1 + 1 + 1 + 1 + 1 + 1 + 1 + 1 + 1 + 1 + 1 + 1 + 1 + 1 + 1 + 1, k, none⟩ = some (.slice (some ⟨gk, 0, none⟩) l l) ∧ w3.cell? ⟨w.heap.size + 1 + 1 + 1 + 1 + 1 + 1 + 1 + 1 + 1 + 1 + 1 + 1 + 1 + 1 + 1 + 1 + 1 + 1 + 1 + 1 + 1 + 1 + 1 + 1 + 1, k, none⟩ = some (.int .i64 q)) := HK.out w3 ((Below.refl _ _).drew.trans hb3); have HSX : Hid ((((w3.setCell ⟨w.heap.size, 0, none⟩ (.string t)).setCell ⟨w.heap.size, 1, none⟩ (.slice (some ⟨g3, 0, none⟩) l c3)).setCell ⟨w.heap.size, 2, none⟩ (.int .i64 q)).cell? ⟨w.heap.size + 1, k, none⟩ = some (.string t) ∧ (((w3.setCell ⟨w.heap.size, 0, none⟩ (.string t)).setCell ⟨w.heap.size, 1, none⟩ (.slice (some ⟨g3, 0, none⟩) l c3)).setCell ⟨w.heap.size, 2, none⟩ (.int .i64 q)).cell? ⟨w.heap.size + 1 + 1 + 1 + 1 + 1 + 1 + 1 + 1 + 1 + 1 + 1 + 1 + 1 + 1 + 1 + 1 + 1 + 1 + 1 + 1 + 1 + 1 + 1 + 1, k, none⟩ = some (.slice (some ⟨gk, 0, none⟩) l l) ∧ (((w3.setCell ⟨w.heap.size, 0, none⟩ (.string t)).setCell ⟨w.heap.size, 1, none⟩ (.slice (some ⟨g3, 0, none⟩) l c3)).setCell ⟨w.heap.size, 2, none⟩ (.int .i64 q)).cell? ⟨w.heap.size + 1 + 1 + 1 + 1 + 1 + 1 + 1 + 1 + 1 + 1 + 1 + 1 + 1 + 1 + 1 + 1 + 1 + 1 + 1 + 1 + 1 + 1 + 1 + 1 + 1, k, none⟩ = some (.int .i64 q)) := (by obtain ⟨s0, s1, s2⟩ := HSY.out; refine ⟨?_, ?_, ?_⟩ <;> (rw [World.cell?_setCell_far _ _ _ _ (by simp <;> omega), World.cell?_setCell_far _ _ _ _ (by simp <;> omega), World.cell?_setCell_far _ _ _ _ (by simp <;> omega)]; assumption)); clear r0))
  have hb3' : Below w2.heap.size w2 w3 := (Below.refl _ _).drew.trans hb3
  have HO3 := keptH hO3
  have HB3 := keptH hb3'
  clear hO3 hb3 hb3' HK HC HCI HSX HSY HSZ HA0
  go_wp2
  have k1 := heap_setCell_same w3 w.heap.size 0 _ _ (.string t) HR0.out
  have k2 := heap_setCell_same _ w.heap.size 1 _ _ (.slice (some ⟨g3, 0, none⟩) l c3) k1
  have k3 := heap_setCell_same _ w.heap.size 2 _ _ (.int .i64 q) k2
  refine bodyPost_ret (results_cell_row rfl _ _ w.heap.size _ #[.string t, .slice (some ⟨g3, 0, none⟩) l c3, .int .i64 q] _ _ rfl k3 Try.underlying56 rfl (by kernel_rfl)) rfl ?_
  have hO3 := HO3.out
  have hb3 := HB3.out
  have hS : (w2.drew).heap.size = w2.heap.size := rfl
  rw [hS] at hO3
  have o1 : OwnInts _ w2.heap.size _ c := ownsRow_setCell_below (a := ⟨w.heap.size, 0, none⟩) hO3 (by simp; omega) (.string t)
  have o2 : OwnInts _ w2.heap.size _ c := ownsRow_setCell_below (a := ⟨w.heap.size, 1, none⟩) o1 (by simp; omega) (.slice (some ⟨g3, 0, none⟩) l c3)
  have o3 : OwnInts _ w2.heap.size _ c := ownsRow_setCell_below (a := ⟨w.heap.size, 2, none⟩) o2 (by simp; omega) (.int .i64 q)
  have d3 := hrd2.below hb3 (by omega)
  have d4 := ((d3.over (S := w.heap.size) (grown_store w3 w.heap.size 0 (.string t)) (by intro x hx; injection hx with hx; omega) hR).over (S := w.heap.size) (grown_store _ w.heap.size 1 (.slice (some ⟨g3, 0, none⟩) l c3)) (by intro x hx; injection hx with hx; omega) hR).over (S := w.heap.size) (grown_store _ w.heap.size 2 (.int .i64 q)) (by intro x hx; injection hx with hx; omega) hR
  have e3 := grown_trans hgw2 (grown_none ⟨hb3.os, hb3.tape, hb3.output, hb3.size, fun k hk _ => hb3.block k hk⟩ (some R))
  have e4 := grown_own (grown_own (grown_own e3 (grown_store w3 w.heap.size 0 (.string t)) (by intro x hx; injection hx with hx; omega)) (grown_store _ w.heap.size 1 (.slice (some ⟨g3, 0, none⟩) l c3)) (by intro x hx; injection hx with hx; omega)) (grown_store _ w.heap.size 2 (.int .i64 q)) (by intro x hx; injection hx with hx; omega)
  have hl := HL.out
  subst hl
  exact ⟨⟨t, c, q⟩, g3, c3, rfl, World.ownsRow.mono o3 (by omega), HF.out, d4, e4⟩
end Go.Proofs.Ythojahknocageaa


/- Tables that a draw has made: what it owns. -/
namespace Go.Proofs.Ythojahknocageaa
open Go.RowKit

theorem grownB {a b : World} (h : Below a.heap.size a b) : a.grownBy b none := ⟨h.os, h.tape, h.output, h.size, fun k hk _ => h.block k hk⟩
def qcell (q : PRule × Value) : List Value := [.string q.1.t, q.2, .int .i64 q.1.p]
def rcells (Q : List (PRule × Value)) : List Value := Q.flatMap qcell
theorem rcells_len (Q : List (PRule × Value)) : (rcells Q).length = Q.length * 3 := by
  induction Q with
  | nil => rfl
  | cons q Q ih => simp [rcells, qcell] at ih ⊢; omega
theorem rcells_at : ∀ (Q : List (PRule × Value)) (i : Nat) (h : i < Q.length), (rcells Q)[i * 3]? = some (.string Q[i].1.t) ∧ (rcells Q)[i * 3 + 1]? = some Q[i].2 ∧ (rcells Q)[i * 3 + 2]? = some (.int .i64 Q[i].1.p) := by
  intro Q
  induction Q with
  | nil => intro i h; simp at h
  | cons q Q ih =>
    intro i h
    have hc : rcells (q :: Q) = qcell q ++ rcells Q := rfl
    have hl : (qcell q).length = 3 := rfl
    cases i with
    | zero => rw [hc]; exact ⟨rfl, rfl, rfl⟩
    | succ i =>
      have h' : i < Q.length := by simpa using h
      obtain ⟨e0, e1, e2⟩ := ih i h'
      rw [hc]
      refine ⟨?_, ?_, ?_⟩
      · rw [List.getElem?_append_right (by rw [hl]; omega), hl, show (i + 1) * 3 - 3 = i * 3 from by omega, e0]; simp
      · rw [List.getElem?_append_right (by rw [hl]; omega), hl, show (i + 1) * 3 + 1 - 3 = i * 3 + 1 from by omega, e1]; simp
      · rw [List.getElem?_append_right (by rw [hl]; omega), hl, show (i + 1) * 3 + 2 - 3 = i * 3 + 2 from by omega, e2]; simp
theorem rcells_snoc (Q : List (PRule × Value)) (q : PRule × Value) : rcells Q ++ qcell q = rcells (Q ++ [q]) := by simp [rcells]
theorem rcells_set : ∀ (Q : List (PRule × Value)) (i : Nat) (h : i < Q.length) (p : Int), (rcells Q).set (i * 3 + 2) (.int .i64 p) = rcells (Q.set i (⟨Q[i].1.t, Q[i].1.c, p⟩, Q[i].2)) := by
  intro Q
  induction Q with
  | nil => intro i h; simp at h
  | cons q Q ih =>
    intro i h p
    have hl : (qcell q).length = 3 := rfl
    cases i with
    | zero => rfl
    | succ i =>
      have h' : i < Q.length := by simpa using h
      show (qcell q ++ rcells Q).set ((i + 1) * 3 + 2) _ = _
      rw [List.set_append_right _ _ (by rw [hl]; omega), hl, show (i + 1) * 3 + 2 - 3 = i * 3 + 2 from by omega, ih i h' p]
      rfl
theorem rcells_setT : ∀ (Q : List (PRule × Value)) (i : Nat) (h : i < Q.length) (t : ByteArray), (rcells Q).set (i * 3) (.string t) = rcells (Q.set i (⟨t, Q[i].1.c, Q[i].1.p⟩, Q[i].2)) := by
  intro Q
  induction Q with
  | nil => intro i h; simp at h
  | cons q Q ih =>
    intro i h t
    have hl : (qcell q).length = 3 := rfl
    cases i with
    | zero => rfl
    | succ i =>
      have h' : i < Q.length := by simpa using h
      show (qcell q ++ rcells Q).set ((i + 1) * 3) _ = _
      rw [List.set_append_right _ _ (by rw [hl]; omega), hl, show (i + 1) * 3 - 3 = i * 3 from by omega, ih i h' t]
      rfl
theorem rcells_setC : ∀ (Q : List (PRule × Value)) (i : Nat) (h : i < Q.length) (c : List Int) (u : Value), (rcells Q).set (i * 3 + 1) u = rcells (Q.set i (⟨Q[i].1.t, c, Q[i].1.p⟩, u)) := by
  intro Q
  induction Q with
  | nil => intro i h; simp at h
  | cons q Q ih =>
    intro i h c u
    have hl : (qcell q).length = 3 := rfl
    cases i with
    | zero => rfl
    | succ i =>
      have h' : i < Q.length := by simpa using h
      show (qcell q ++ rcells Q).set ((i + 1) * 3 + 1) _ = _
      rw [List.set_append_right _ _ (by rw [hl]; omega), hl, show (i + 1) * 3 + 1 - 3 = i * 3 + 1 from by omega, ih i h' c u]
      rfl
/-- the slice v owns the table's row, behind S; each list of cells is owned, too -/
def TabOwn (w : World) (S : Nat) (v : Value) (Q : List (PRule × Value)) : Prop :=
  w.ownsRow S 56 3 v Q.length (rcells Q) ∧ (∀ q ∈ Q, OwnInts w S q.2 q.1.c ∧ ∃ a n c, q.2 = .slice a n c) ∧ ∃ g cap, v = .slice (some ⟨g, 0, none⟩) Q.length cap
def tabOf (Q : List (PRule × Value)) : List PRule := Q.map Prod.fst
theorem tabOf_len (Q : List (PRule × Value)) : (tabOf Q).length = Q.length := by simp [tabOf]
theorem tabOf_at {Q : List (PRule × Value)} {i : Nat} (h : i < Q.length) : (tabOf Q).getD i noR = Q[i].1 := by simp [tabOf, List.getD_eq_getElem?_getD, h]
theorem TabOwn.at {w : World} {S : Nat} {v : Value} {Q : List (PRule × Value)} (h : TabOwn w S v Q) : TableAt w v (tabOf Q) := by
  obtain ⟨h1, h2, g, cap, rfl⟩ := h
  have hc : ∃ c', (Value.slice (some ⟨g, 0, none⟩) Q.length cap) = .slice (some ⟨g, 0, none⟩) Q.length c' ∧ Q.length ≤ c' ∧ c' ≤ maxLen := by
    rcases h1.2 with ⟨h3, _⟩ | ⟨g', c', cur, h3, _, _, h4, h5, _⟩
    · simp at h3
    · injection h3 with e1 e2 e3
      exact ⟨c', by rw [e3], h4, h5⟩
  obtain ⟨c', he, hle, hmx⟩ := hc
  injection he with _ _ hcc
  subst hcc
  refine ⟨_, cap, by rw [tabOf_len], by rw [tabOf_len]; exact hle, by unfold maxLen at hmx; exact hmx, .inr ⟨g, 0, rfl, fun i hi => ?_⟩⟩
  rw [tabOf_len] at hi
  rw [tabOf_at hi, Nat.zero_add]
  obtain ⟨e0, e1, e2⟩ := rcells_at Q i hi
  have hq := h2 Q[i] (List.getElem_mem hi)
  exact ⟨(h1.cellAt (i * 3) (by omega)).trans e0, ⟨_, (h1.cellAt (i * 3 + 1) (by omega)).trans e1, hq.1.at⟩, (h1.cellAt (i * 3 + 2) (by omega)).trans e2⟩
theorem TabOwn.overR {w w' : World} {S R : Nat} {v : Value} {Q : List (PRule × Value)} (h : TabOwn w S v Q) (hg : w.grownBy w' (some R)) (hRS : R < S) : TabOwn w' S v Q := by
  obtain ⟨h1, h2, h3⟩ := h
  refine ⟨h1.kept hg ?_, fun q hq => ⟨(h2 q hq).1.overR hg hRS, (h2 q hq).2⟩, h3⟩
  cases hv : v.ownBlock with
  | none => exact .inl rfl
  | some k => refine .inr fun e => ?_; injection e with e; have := (h1.lt k hv).1; omega
theorem TabOwn.below {w w' : World} {S : Nat} {v : Value} {Q : List (PRule × Value)} (h : TabOwn w S v Q) (hb : Below w.heap.size w w') : TabOwn w' S v Q := by
  obtain ⟨h1, h2, h3⟩ := h
  exact ⟨h1.kept (row := none) ⟨hb.os, hb.tape, hb.output, hb.size, fun k hk _ => hb.block k hk⟩ (by cases hv : v.ownBlock <;> simp), fun q hq => ⟨(h2 q hq).1.below hb, (h2 q hq).2⟩, h3⟩
/-- a list of cells does not lie in a table's row -/
theorem ne_row {w : World} {S S' n : Nat} {u v : Value} {c : List Int} {xs : List Value} (h : OwnInts w S u c) (k : w.ownsRow S' 56 3 v n xs) : u.ownBlock = none ∨ u.ownBlock ≠ v.ownBlock := by
  rcases h.2 with ⟨rfl, _⟩ | ⟨g, cap, cur, rfl, _, hg, _⟩
  · exact .inl rfl
  · refine .inr fun e => ?_
    rcases k.2 with ⟨rfl, _⟩ | ⟨g', cap', cur', rfl, _, hg', _⟩
    · simp [Value.ownBlock] at e
    · simp [Value.ownBlock] at e
      subst e
      rw [hg] at hg'
      injection hg' with e
      injection e with _ e _
      exact absurd e (by decide)
theorem ruleRow_cells (w : World) (r : PRule) (u : Value) : ∀ j x, (qcell (r, u))[j]? = some x → (w.alloc (.cells #[.string r.t, u, .int .i64 r.p] 56)).cell? ((⟨w.heap.size, 0, none⟩ : Addr).add j) = some x := by
  intro j x hj
  match j, hj with
  | 0, hj => rw [Addr.add_lit, cell_of_row _ w.heap.size _ _ _ _ (heap_alloc_new w _)]; exact hj
  | 1, hj => rw [Addr.add_lit, cell_of_row _ w.heap.size _ _ _ _ (heap_alloc_new w _)]; exact hj
  | 2, hj => rw [Addr.add_lit, cell_of_row _ w.heap.size _ _ _ _ (heap_alloc_new w _)]; exact hj
theorem rcells_one : ∀ (Q : List (PRule × Value)), (∀ q ∈ Q, ∃ a n c, q.2 = .slice a n c) → ∀ x ∈ rcells Q, x.oneCell' = true := by
  intro Q hQ x hx
  obtain ⟨q, hq, hxq⟩ := List.mem_flatMap.1 hx
  obtain ⟨a, n, c, e⟩ := hQ q hq
  simp [qcell] at hxq
  rcases hxq with rfl | rfl | rfl
  · rfl
  · rw [e]; rfl
  · rfl
theorem validTb_nil : ValidTb [] := ⟨by simp, fun i h => by simp at h, fun i j h => by simp at h⟩
theorem TabOwn.fits_snoc {Q : List (PRule × Value)} {r : PRule} {u : Value} (h : TableFits (tabOf Q)) (hr : RuleFits r) : TableFits (tabOf (Q ++ [(r, u)])) := by
  intro x hx
  simp [tabOf] at hx
  rcases hx with ⟨q, hq⟩ | rfl
  · exact h x (List.mem_map.2 ⟨(x, q), hq, rfl⟩)
  · exact hr

theorem TabOwn.cellAt {w : World} {S g n cap : Nat} {Q : List (PRule × Value)} (h : TabOwn w S (.slice (some ⟨g, 0, none⟩) n cap) Q) (hn : Q.length = n) {j : Nat} (hj : j < n * 3) : ∃ x, w.cell? ⟨g, j, none⟩ = some x := by
  subst hn
  exact ⟨_, (h.1.cellAt j hj).trans (List.getElem?_eq_getElem (by rw [rcells_len]; exact hj))⟩
theorem TabOwn.free {w : World} {S g n cap : Nat} {Q : List (PRule × Value)} (h : TabOwn w S (.slice (some ⟨g, 0, none⟩) n cap) Q) (hn : Q.length = n) (j : Nat) : w.frozen? ⟨g, j, none⟩ = false := by
  subst hn
  exact h.1.frozenAt j
theorem TabOwn.row {w : World} {S g n cap : Nat} {Q : List (PRule × Value)} (h : TabOwn w S (.slice (some ⟨g, 0, none⟩) n cap) Q) : S ≤ g ∧ g < w.heap.size := h.1.lt g rfl
theorem own_far {w : World} {S g o : Nat} {u v : Value} {c : List Int} (h : OwnInts w S v c) (hne : v.ownBlock = none ∨ v.ownBlock ≠ some g) (x : Value) (hu : u = v) : OwnInts (w.setCell ⟨g, o, none⟩ x) S u c := by
  subst hu
  exact h.kept (row := some g) ⟨rfl, rfl, rfl, by simp [World.setCell], fun i _ hi => Below.heap_setCell w ⟨g, o, none⟩ x i (by show i ≠ g; simpa using hi)⟩ hne
theorem TabOwn.setPlace {w : World} {S g n cap : Nat} {Q : List (PRule × Value)} (h : TabOwn w S (.slice (some ⟨g, 0, none⟩) n cap) Q) (hn : Q.length = n) {i : Nat} (hi : i < Q.length) (p : Int) :
    TabOwn (w.setCell ⟨g, i * 3 + 2, none⟩ (.int .i64 p)) S (.slice (some ⟨g, 0, none⟩) n cap) (Q.set i (⟨Q[i].1.t, Q[i].1.c, p⟩, Q[i].2)) := by
  subst hn
  obtain ⟨h1, h2, h3⟩ := h
  refine ⟨?_, fun q hq => ?_, g, cap, by rw [List.length_set]⟩
  · have := (h1.stored (i * 3 + 2) (.int .i64 p)).1
    rw [rcells_set Q i hi p] at this
    rw [List.length_set]
    exact this
  · rcases List.mem_or_eq_of_mem_set hq with hq | rfl
    · exact ⟨own_far (h2 q hq).1 (ne_row (h2 q hq).1 h1) _ rfl, (h2 q hq).2⟩
    · have hq := h2 Q[i] (List.getElem_mem hi)
      exact ⟨own_far hq.1 (ne_row hq.1 h1) _ rfl, hq.2⟩
theorem tabOf_set_fits {Q : List (PRule × Value)} (h : TableFits (tabOf Q)) {i : Nat} (hi : i < Q.length) {p : Int} (h0 : -9223372036854775808 ≤ p) (h1 : p ≤ 9223372036854775807) : TableFits (tabOf (Q.set i (⟨Q[i].1.t, Q[i].1.c, p⟩, Q[i].2))) := by
  intro x hx
  simp only [tabOf, List.map_set] at hx
  rcases List.mem_or_eq_of_mem_set hx with hx | rfl
  · exact h x hx
  · have := h Q[i].1 (List.mem_map.2 ⟨Q[i], List.getElem_mem hi, rfl⟩)
    exact ⟨this.1, this.2.1, h0, h1⟩
theorem TabOwn.setText {w : World} {S g n cap : Nat} {Q : List (PRule × Value)} (h : TabOwn w S (.slice (some ⟨g, 0, none⟩) n cap) Q) (hn : Q.length = n) {i : Nat} (hi : i < Q.length) (t : ByteArray) :
    TabOwn (w.setCell ⟨g, i * 3, none⟩ (.string t)) S (.slice (some ⟨g, 0, none⟩) n cap) (Q.set i (⟨t, Q[i].1.c, Q[i].1.p⟩, Q[i].2)) := by
  subst hn
  obtain ⟨h1, h2, h3⟩ := h
  refine ⟨?_, fun q hq => ?_, g, cap, by rw [List.length_set]⟩
  · have := (h1.stored (i * 3) (.string t)).1
    rw [rcells_setT Q i hi t] at this
    rw [List.length_set]
    exact this
  · rcases List.mem_or_eq_of_mem_set hq with hq | rfl
    · exact ⟨own_far (h2 q hq).1 (ne_row (h2 q hq).1 h1) _ rfl, (h2 q hq).2⟩
    · have hq := h2 Q[i] (List.getElem_mem hi)
      exact ⟨own_far hq.1 (ne_row hq.1 h1) _ rfl, hq.2⟩
theorem TabOwn.setCells {w : World} {S g n cap : Nat} {Q : List (PRule × Value)} (h : TabOwn w S (.slice (some ⟨g, 0, none⟩) n cap) Q) (hn : Q.length = n) {i : Nat} (hi : i < Q.length) {c : List Int} {a : Option Addr} {m d : Nat} (hu : OwnInts w S (.slice a m d) c) :
    TabOwn (w.setCell ⟨g, i * 3 + 1, none⟩ (.slice a m d)) S (.slice (some ⟨g, 0, none⟩) n cap) (Q.set i (⟨Q[i].1.t, c, Q[i].1.p⟩, .slice a m d)) := by
  subst hn
  obtain ⟨h1, h2, h3⟩ := h
  refine ⟨?_, fun q hq => ?_, g, cap, by rw [List.length_set]⟩
  · have := (h1.stored (i * 3 + 1) (.slice a m d)).1
    rw [rcells_setC Q i hi c] at this
    rw [List.length_set]
    exact this
  · rcases List.mem_or_eq_of_mem_set hq with hq | rfl
    · exact ⟨own_far (h2 q hq).1 (ne_row (h2 q hq).1 h1) _ rfl, (h2 q hq).2⟩
    · exact ⟨own_far hu (ne_row hu h1) _ rfl, _, _, _, rfl⟩
theorem tabOf_set {Q : List (PRule × Value)} (h : TableFits (tabOf Q)) (i : Nat) {r : PRule} {u : Value} (hr : RuleFits r) : TableFits (tabOf (Q.set i (r, u))) := by
  intro x hx
  simp only [tabOf, List.map_set] at hx
  rcases List.mem_or_eq_of_mem_set hx with hx | rfl
  · exact h x hx
  · exact hr
theorem tabOf_mem {Q : List (PRule × Value)} (h : TableFits (tabOf Q)) {i : Nat} (hi : i < Q.length) : RuleFits Q[i].1 := h Q[i].1 (List.mem_map.2 ⟨Q[i], List.getElem_mem hi, rfl⟩)
theorem OwnInts.lit {w : World} {S g : Nat} {c : List Int} (h : w.heap[g]? = some (.cells (ints c).toArray 3 (0, 0))) (hS : S ≤ g) (hc : c.length ≤ 1000) : OwnInts w S (.slice (some ⟨g, 0, none⟩) c.length c.length) c :=
  ⟨by rw [ints_length, Nat.mul_one], .inr ⟨g, c.length, _, rfl, hS, h, Nat.le_refl _, by unfold maxLen; omega, by simp [ints], by rw [List.take_of_length_le (by simp [ints])]⟩⟩
end Go.Proofs.Ythojahknocageaa


/- The draw of a valid table. -/
namespace Go.Proofs.Ythojahknocageaa
open Go.RowKit

/-- a drawn table that is valid -/
def GoodDrawn (w : World) (B R L p : Nat) (e : Ending) (w' : World) : Prop :=
  ∃ v Q q, e = .returned v ∧ TabOwn w' w.heap.size v Q ∧ TableFits (tabOf Q) ∧ ValidTb (tabOf Q) ∧ Q.length ≤ 8 ∧ RD w' B R L q ∧ q ≤ p + 40 ∧ w.grownBy w' (some R)
set_option maxHeartbeats 8000000 in
theorem goodTable_any (w : World) (B R L p : Nat) (h : RD w B R L p) (hp : p ≤ 1000000000) :
    Calls Try.prog 57 #[.pointer (some ⟨R, 0, none⟩)] w fun e w' => GoodDrawn w B R L p e w' := by
  obtain ⟨i0, hi, hz0, hz1, hz2⟩ := info_parts infoRule
  have hR := h.lt
  have hT0 : TabOwn (w.alloc (.cells #[] 56)) w.heap.size (.slice (some ⟨w.heap.size, 0, none⟩) 0 0) [] := ⟨World.ownsRow_made w #[] 0 (Nat.le_refl _) (by unfold maxLen; omega) rfl, fun q hq => absurd hq (by simp), _, 0, rfl⟩
  have hrd0 := h.alloc (.cells #[] 56)
  have hl0 : ((w.alloc (.cells #[] 56)).alloc (.cells #[.int .i64 6, .int .i64 8, .int .i64 4, .int .i64 3, .int .i64 1, .int .i64 0] 3)).heap[w.heap.size + 1]? = some (.cells (([6, 8, 4, 3, 1, 0] : List Int).map (Value.int .i64)).toArray 3 (0, 0)) := by
    have := heap_alloc_new (w.alloc (.cells #[] 56)) (.cells #[.int .i64 6, .int .i64 8, .int .i64 4, .int .i64 3, .int .i64 1, .int .i64 0] 3)
    rw [World.size_alloc] at this
    exact this
  have H1 := keptH (one_any ((w.alloc (.cells #[] 56)).alloc (.cells #[.int .i64 6, .int .i64 8, .int .i64 4, .int .i64 3, .int .i64 1, .int .i64 0] 3)) B R L p (w.heap.size + 1) 6 6 [6, 8, 4, 3, 1, 0] (hrd0.alloc _) hl0 (by omega) (Lib.hid rfl) (by omega) (by omega) (by omega))
  clear hl0
  go_enter Try.func57, Try.ntmps57
  go_wp2_with fail
  refine H1.out.mono ?_
  rintro e w1 ⟨k0, rfl, hk0, hrd1, hgr1⟩
  have hG1 : w.grownBy w1 (some R) := grown_trans (grown_trans (World.grownBy_alloc w _ _) (World.grownBy_alloc _ _ _)) hgr1
  have hT1 : TabOwn w1 w.heap.size (.slice (some ⟨w.heap.size, 0, none⟩) 0 0) [] := (hT0.below (Below.alloc (Below.refl _ _) (Nat.le_refl _) _)).overR hgr1 hR
  obtain ⟨K, rfl, hK⟩ : ∃ K : Nat, k0 = (K : Int) ∧ K ≤ 8 := by simp at hk0; exact ⟨k0.toNat, by omega, by omega⟩
  clear hk0 hgr1 hT0 hrd0 h H1
  go_wp2
  go_loopw [3, 4] (fun o c wr => ∃ (k q : Nat) (Q : List (PRule × Value)), c = .int .i64 k ∧ k ≤ 8 ∧ TabOwn wr w.heap.size o Q ∧ TableFits (tabOf Q) ∧ ValidTb (tabOf Q) ∧ Q.length + k ≤ 8 ∧ RD wr B R L q ∧ q + 4 * k ≤ p + 40 ∧ w.grownBy wr (some R)) (fun _ c _ => (intOf c).toNat)
  case atStart => exact ⟨K, p + 1, [], rfl, hK, hT1, fun r hr => absurd hr (by simp [tabOf]), validTb_nil, by simp; omega, hrd1, by omega, hG1⟩
  case round =>
    clear hT1 hrd1 hG1 hK
    obtain ⟨k, q, Q, rfl, hk8, hT, hF, hV, hlen, hrd, hq, hG⟩ := hrel
    have hsz := hG.size
    have HF := keptH hF
    have HV := keptH hV
    clear hF hV
    by_cases hk : 0 < k
    · obtain ⟨g, cap, hv⟩ := hT.2.2
      obtain ⟨n, hn⟩ : ∃ n, Q.length = n := ⟨_, rfl⟩
      rw [hn] at hv hlen
      have HN := keptH hn
      clear hn
      subst hv
      have d1 : decide ((0 : Int) < (k : Int)) = true := decide_eq_true (by omega)
      have hrow := hT.1
      rw [HN.out] at hrow
      have hownv : (wr.alloc (.cells #[] 56)).ownsRow wr.heap.size 56 3 (.slice (some ⟨wr.heap.size, 0, none⟩) 0 0) 0 [] := World.ownsRow_made wr #[] 0 (Nat.le_refl _) (by unfold maxLen; omega) rfl
      have hnews := keptH ((hrow.alloc (.cells #[] 56)).cells (g := g) rfl)
      have hlz : Hid ((rcells Q).length = n * 3) := by show _ = _; rw [rcells_len, HN.out]
      have hone := rcells_one Q (fun q hq => (hT.2.1 q hq).2)
      have HT := keptH hT
      clear hT hrow
      go_wp2_with (at_builtin; go_loud (refine wpList_append_own _ rfl _ _ 32 rfl wr.heap.size 56 i0 (.agg #[.string ⟨#[]⟩, .slice none 0 0, .int .i64 0]) 3 48 Try.underlying32 hi hz0 hz1 hz2 rfl (by decide) _ _ _ rfl hownv ⟨g, 0, none⟩ n cap (rcells Q) rfl hlz.out hnews.out hone (by unfold maxLen; omega) (by omega) (by simp) ?_))
      intro v1 w2 hown1 hgrow1 hnil1
      obtain ⟨g1, c1, rfl⟩ : ∃ g1 c1, v1 = .slice (some ⟨g1, 0, none⟩) n c1 := by
        rcases hown1.2 with ⟨h, _⟩ | ⟨g1, c1, cur, h, _⟩
        · exact absurd h hnil1
        · exact ⟨g1, c1, h⟩
      have hg1 := (hown1.lt g1 rfl)
      have G2 : wr.grownBy w2 (some R) := grown_own (World.grownBy_alloc wr _ (some R)) hgrow1 (fun q hq => by simp [Value.ownBlock] at hq; omega)
      have hrd2 : RD w2 B R L q := (hrd.alloc _).over (S := wr.heap.size) hgrow1 (fun k hk => by simp [Value.ownBlock] at hk; omega) hrd.lt
      have hRr := hrd.lt
      clear hnews hone hgrow1 hnil1 hownv hrd
      go_wp2_with fail
      refine (poolRule_any w2 B R L q hrd2 (by omega)).mono ?_
      rintro e w3 ⟨r, n2, c2, rfl, hOu, hrf, hrd3, hgr3⟩
      have G3 : wr.grownBy w3 (some R) := grown_trans G2 hgr3
      have hown13 : w3.ownsRow wr.heap.size 56 3 (.slice (some ⟨g1, 0, none⟩) n c1) n (rcells Q) := hown1.kept hgr3 (.inr (by simp [Value.ownBlock]; omega))
      have hnews2 := keptH (ruleRow_cells w3 r (.slice (some ⟨n2, 0, none⟩) r.c.length c2))
      have hone2 := rcells_one [(r, .slice (some ⟨n2, 0, none⟩) r.c.length c2)] (fun q hq => by simp at hq; rw [hq]; exact ⟨_, _, _, rfl⟩)
      have hone3 : Hid (∀ x ∈ qcell (r, .slice (some ⟨n2, 0, none⟩) r.c.length c2), x.oneCell' = true) := by
        have : rcells [(r, .slice (some ⟨n2, 0, none⟩) r.c.length c2)] = qcell (r, .slice (some ⟨n2, 0, none⟩) r.c.length c2) := by simp [rcells]
        rw [this] at hone2
        exact hone2
      have HRF := keptH hrf
      have hs3 := G3.size
      clear hgr3 hrd2 G2 hone2 hrf
      go_wp2_with (at_builtin; go_loud (refine wpList_append_own _ rfl _ _ 32 rfl wr.heap.size 56 i0 (.agg #[.string ⟨#[]⟩, .slice none 0 0, .int .i64 0]) 3 48 Try.underlying32 hi hz0 hz1 hz2 rfl (by decide) _ _ _ rfl (hown13.alloc _) ⟨w3.heap.size, 0, none⟩ 1 1 (qcell (r, .slice (some ⟨n2, 0, none⟩) r.c.length c2)) rfl rfl hnews2.out hone3.out (by unfold maxLen; omega) (by omega) (by simp; omega) ?_))
      intro v2 w4 hown2 hgrow2 hnil2
      have G4 : wr.grownBy w4 (some R) := grown_own (grown_own G3 (World.grownBy_alloc w3 _ none) (by simp)) hgrow2 (fun q hq => by simp [Value.ownBlock] at hq; omega)
      have hrd4 : RD w4 B R L (q + 1) := (hrd3.alloc _).over (S := wr.heap.size) hgrow2 (fun k hk => by simp [Value.ownBlock] at hk; omega) hRr
      have hT4 : TabOwn w4 w.heap.size v2 (Q ++ [(r, .slice (some ⟨n2, 0, none⟩) r.c.length c2)]) := by
        have hl : (Q ++ [(r, Value.slice (some ⟨n2, 0, none⟩) r.c.length c2)]).length = n + 1 := by rw [List.length_append, HN.out]; rfl
        refine ⟨?_, fun x hx => ?_, ?_⟩
        · rw [hl, ← rcells_snoc]
          exact World.ownsRow.mono hown2 hsz
        · rcases List.mem_append.1 hx with hx | hx
          · exact ⟨(HT.out.2.1 x hx).1.overR G4 hR, (HT.out.2.1 x hx).2⟩
          · simp at hx
            rw [hx]
            have hlt := hOu.lt n2 rfl
            have h1 : OwnInts w4 w2.heap.size (.slice (some ⟨n2, 0, none⟩) r.c.length c2) r.c := (World.ownsRow.alloc hOu _).kept hgrow2 (.inr (by simp [Value.ownBlock]; omega))
            exact ⟨World.ownsRow.mono h1 (by omega), _, _, _, rfl⟩
        · rcases hown2.2 with ⟨_, h⟩ | ⟨g2, c', cur, h, _⟩
          · omega
          · exact ⟨g2, c', by rw [hl]; exact h⟩
      have hF4 := keptH (TabOwn.fits_snoc (u := .slice (some ⟨n2, 0, none⟩) r.c.length c2) HF.out HRF.out)
      have hl4 : (Q ++ [(r, Value.slice (some ⟨n2, 0, none⟩) r.c.length c2)]).length = n + 1 := by rw [List.length_append, HN.out]; rfl
      obtain ⟨Q2, hQ2⟩ : ∃ Q2, Q ++ [(r, Value.slice (some ⟨n2, 0, none⟩) r.c.length c2)] = Q2 := ⟨_, rfl⟩
      rw [hQ2] at hT4 hF4 hl4
      have HL4 := keptH hl4
      have hG4 : w.grownBy w4 (some R) := grown_trans hG G4
      clear hQ2 hl4 hgrow2 hnil2 hown13 hown1 hnews2 hone3 hrd3 G3 hOu HRF hlz hg1
      obtain ⟨g2, c3, hv2⟩ := hT4.2.2
      rw [HL4.out] at hv2
      subst hv2
      have hg2 := (hown2.lt g2 rfl).1
      clear hown2
      go_wp2_with fail
      refine (pick_any w4 B R L (q + 1) _ hrd4 (by omega) (by omega) (by omega)).mono ?_
      rintro e w5 ⟨k5, rfl, hk5, hrd5, hgr5⟩
      have hT5 := hT4.overR hgr5 hR
      have G5 := grown_trans G4 hgr5
      clear hT4 hG4 hgr5 hrd4 G4
      by_cases hk50 : k5 = 0
      · subst hk50
        go_wp2_with fail
        refine (pick_any w5 B R L (q + 1 + 1) _ hrd5 (by omega) (by omega) (by omega)).mono ?_
        rintro e w6 ⟨k6, rfl, hk6, hrd6, hgr6⟩
        have hT6 := hT5.overR hgr6 hR
        have G6 := grown_trans G5 hgr6
        clear hT5 hgr6 hrd5 G5
        obtain ⟨x6, e6⟩ := hT6.cellAt HL4.out (j := n * 3 + 2) (by omega)
        have f6 := hT6.free HL4.out (n * 3 + 2)
        have hin : n < Q2.length := by rw [HL4.out]; omega
        have hT7 := hT6.setPlace HL4.out hin (k6 : Int)
        have HF7 := keptH (tabOf_set_fits hF4.out hin (p := (k6 : Int)) (by omega) (by omega))
        have HL7 : Hid ((Q2.set n (⟨Q2[n].1.t, Q2[n].1.c, (k6 : Int)⟩, Q2[n].2)).length = n + 1) := by show _ = _; rw [List.length_set]; exact HL4.out
        have G7 := grown_own G6 (grown_store w6 g2 (n * 3 + 2) (.int .i64 (k6 : Int))) (fun x hx => by injection hx with hx; omega)
        have hrd7 := hrd6.over (S := wr.heap.size) (grown_store w6 g2 (n * 3 + 2) (.int .i64 (k6 : Int))) (fun x hx => by injection hx with hx; omega) hRr
        obtain ⟨Q3, hQ3⟩ : ∃ Q3, Q2.set n (⟨Q2[n].1.t, Q2[n].1.c, (k6 : Int)⟩, Q2[n].2) = Q3 := ⟨_, rfl⟩
        rw [hQ3] at hT7 HF7 HL7
        have b1 : (0 : Int) ≤ (n : Int) := by omega
        have b2 : (n : Int) < (n : Int) + 1 := by omega
        clear hQ3 hT6 hrd6 G6
        go_wp2_with fail
        generalize w6.setCell ⟨g2, n * 3 + 2, none⟩ (.int .i64 (k6 : Int)) = w7 at hT7 G7 hrd7 ⊢
        clear e6 f6
        obtain ⟨b, hb⟩ : ∃ b : Bool, b = true ↔ ValidTb (tabOf Q3) := by
          by_cases h : ValidTb (tabOf Q3)
          · exact ⟨true, by simp [h]⟩
          · exact ⟨false, bool_iff_false h⟩
        have HB := keptH hb
        clear hb
        go_wp2_with fail
        refine (s_validTable w7 _ (tabOf Q3) b hT7.at HF7.out HB).mono ?_
        rintro e w9 ⟨rfl, hb9⟩
        have hT9 := keptH (hT7.below hb9)
        have hG9 := keptH (grown_trans hG (grown_trans G7 (grown_none (grownB hb9) (some R))))
        have hO9 := keptH ((HT.out.overR G7 hR).below hb9)
        have hrd9 := hrd7.below hb9 (show R < w7.heap.size by have := G7.size; omega)
        clear hT7 hrd7 G7
        cases b with
        | true =>
          go_wp2
          go_roundw
          case rel => exact ⟨k - 1, q + 1 + 1 + 1, Q3, by go_num, by omega, hT9.out, HF7.out, HB.out.1 trivial, by rw [HL7.out]; omega, hrd9, by omega, hG9.out⟩
          case measure => simp [intOf]; omega
        | false =>
          go_wp2
          go_roundw
          case rel => exact ⟨k - 1, q + 1 + 1 + 1, Q, by go_num, by omega, hO9.out, HF.out, HV.out, by rw [HN.out]; omega, hrd9, by omega, hG9.out⟩
          case measure => simp [intOf]; omega
      · have d5 : ((k5 : Int) == 0) = false := by simp; omega
        obtain ⟨b, hb⟩ : ∃ b : Bool, b = true ↔ ValidTb (tabOf Q2) := by
          by_cases h : ValidTb (tabOf Q2)
          · exact ⟨true, by simp [h]⟩
          · exact ⟨false, bool_iff_false h⟩
        have HB := keptH hb
        clear hb
        go_wp2_with fail
        refine (s_validTable w5 _ (tabOf Q2) b hT5.at hF4.out HB).mono ?_
        rintro e w9 ⟨rfl, hb9⟩
        have hT9 := keptH (hT5.below hb9)
        have hG9 := keptH (grown_trans hG (grown_trans G5 (grown_none (grownB hb9) (some R))))
        have hO9 := keptH ((HT.out.overR G5 hR).below hb9)
        have hrd9 := hrd5.below hb9 (show R < w5.heap.size by have := G5.size; omega)
        clear hT5 hrd5 G5
        cases b with
        | true =>
          go_wp2
          go_roundw
          case rel => exact ⟨k - 1, q + 1 + 1, Q2, by go_num, by omega, hT9.out, hF4.out, HB.out.1 trivial, by rw [HL4.out]; omega, hrd9, by omega, hG9.out⟩
          case measure => simp [intOf]; omega
        | false =>
          go_wp2
          go_roundw
          case rel => exact ⟨k - 1, q + 1 + 1, Q, by go_num, by omega, hO9.out, HF.out, HV.out, by rw [HN.out]; omega, hrd9, by omega, hG9.out⟩
          case measure => simp [intOf]; omega
    · go_wp2
      go_ret
      exact ⟨_, Q, q, rfl, hT, HF.out, HV.out, by omega, hrd, by omega, hG⟩
end Go.Proofs.Ythojahknocageaa


/- The draw of a table. -/
namespace Go.Proofs.Ythojahknocageaa
open Go.RowKit

def badC : List (List Int) := [[], [0], [50], [60], [64], [1, 1, 1], [48]]
def badO (b : Nat) : List Obj :=
  [.cells #[] 3,
   .cells #[.int .i64 0] 3,
   .cells #[.int .i64 50] 3,
   .cells #[.int .i64 60] 3,
   .cells #[.int .i64 64] 3,
   .cells #[.int .i64 1, .int .i64 1, .int .i64 1] 3,
   .cells #[.int .i64 48] 3,
   .cells #[.slice (some ⟨b, 0, none⟩) 0 0, .slice (some ⟨b + 1, 0, none⟩) 1 1, .slice (some ⟨b + 1 + 1, 0, none⟩) 1 1, .slice (some ⟨b + 1 + 1 + 1, 0, none⟩) 1 1, .slice (some ⟨b + 1 + 1 + 1 + 1, 0, none⟩) 1 1, .slice (some ⟨b + 1 + 1 + 1 + 1 + 1, 0, none⟩) 3 3, .slice (some ⟨b + 1 + 1 + 1 + 1 + 1 + 1, 0, none⟩) 1 1] 23]
theorem bad_list (b k : Nat) (hk : k < 7) : (badO b)[k]? = some (.cells (ints (badC.getD k [])).toArray 3) := by
  rcases (show k = 0 ∨ k = 1 ∨ k = 2 ∨ k = 3 ∨ k = 4 ∨ k = 5 ∨ k = 6 from by omega) with rfl | rfl | rfl | rfl | rfl | rfl | rfl <;> rfl
theorem bad_outer (b k : Nat) (hk : k < 7) : ∃ cs, (badO b)[7]? = some (.cells cs 23) ∧ cs[k]? = some (.slice (some ⟨b + k, 0, none⟩) (badC.getD k []).length (badC.getD k []).length) := by
  refine ⟨_, rfl, ?_⟩
  rcases (show k = 0 ∨ k = 1 ∨ k = 2 ∨ k = 3 ∨ k = 4 ∨ k = 5 ∨ k = 6 from by omega) with rfl | rfl | rfl | rfl | rfl | rfl | rfl <;> rfl
theorem bad_facts : ∀ k, k < 7 → (badC.getD k []).length ≤ 3 ∧ ∀ z ∈ badC.getD k [], 0 ≤ z ∧ z ≤ 64 := by decide
def BadPicked (w : World) (B R L p : Nat) (e : Ending) (w2 : World) : Prop :=
  ∃ (k g l : Nat) (c : List Int), e = .returned (.int .i64 k) ∧ k < 7 ∧ Hid (w2.cell? ⟨w.heap.size + 1 + 1 + 1 + 1 + 1 + 1 + 1, k, none⟩ = some (.slice (some ⟨g, 0, none⟩) l l)) ∧ Hid (OwnInts w2 w.heap.size (.slice (some ⟨g, 0, none⟩) l l) c) ∧ Hid (Fits c) ∧ RD w2 B R L (p + 1) ∧ w.grownBy w2 (some R)
set_option maxHeartbeats 1000000 in
theorem bad_pick (w : World) (B R L p : Nat) (h : RD w B R L p) (hp : p ≤ 100000000000) :
    Calls Try.prog 31 #[.pointer (some ⟨R, 0, none⟩), .int .i64 7] ((badO w.heap.size).foldl World.alloc w) fun e w' => BadPicked w B R L p e w' := by
  have hR := h.lt
  have hBR : B ≤ R := by obtain ⟨_, _, _, h3, _⟩ := h; exact h3
  have hrd : RD ((badO w.heap.size).foldl World.alloc w) B R L p := h.of_same (fun k hk => heap_foldl _ w k (by omega)) (heap_foldl _ w R hR)
  have hsz : ((badO w.heap.size).foldl World.alloc w).heap.size = w.heap.size + 8 := size_foldl _ w
  have hgw : ∀ i, i < w.heap.size → ((badO w.heap.size).foldl World.alloc w).heap[i]? = w.heap[i]? := fun i hi => heap_foldl _ w i hi
  have hos := os_foldl (badO w.heap.size) w
  refine (pick_any _ B R L p 7 hrd (by omega) (by omega) (by omega)).mono ?_
  have hal : ∀ i o, (badO w.heap.size)[i]? = some o → ((badO w.heap.size).foldl World.alloc w).heap[w.heap.size + i]? = some o := fun i o ho => heap_allocs _ w i o ho
  generalize (badO w.heap.size).foldl World.alloc w = W1 at hrd hsz hgw hos hal ⊢
  rintro e w2 ⟨k, rfl, hk, hrd2, hgr2⟩
  have hk7 : k < 7 := by omega
  obtain ⟨f1, f2⟩ := bad_facts k hk7
  have hsz2 := hgr2.size
  rw [hsz] at hsz2
  have blk : ∀ i o, (badO w.heap.size)[i]? = some o → i < 8 → w2.heap[w.heap.size + i]? = some o := fun i o h1 h2 => (hgr2.block (w.heap.size + i) (by omega) (by simp; omega)).trans (hal i o h1)
  obtain ⟨cs, g1, g2⟩ := bad_outer w.heap.size k hk7
  have kL := blk 7 _ g1 (by omega)
  have kI := blk k _ (bad_list w.heap.size k hk7) (by omega)
  have cL : w2.cell? ⟨w.heap.size + 1 + 1 + 1 + 1 + 1 + 1 + 1, k, none⟩ = some (.slice (some ⟨w.heap.size + k, 0, none⟩) (badC.getD k []).length (badC.getD k []).length) := by rw [cell_of_row w2 (w.heap.size + 7) k _ _ _ kL]; exact g2
  exact ⟨k, _, _, _, rfl, hk7, cL, OwnInts.lit kI (by omega) (by omega), fun z hz => by have := f2 z hz; omega, hrd2, ⟨hgr2.os.trans hos.1, hgr2.tape.trans hos.2.1, hgr2.output.trans hos.2.2, by omega, fun i hi hne => (hgr2.block i (by omega) hne).trans (hgw i hi)⟩⟩

/-- a drawn table -/
def AnyDrawn (w : World) (B R L p : Nat) (e : Ending) (w' : World) : Prop :=
  ∃ v Q q, e = .returned v ∧ TabOwn w' w.heap.size v Q ∧ TableFits (tabOf Q) ∧ Q.length ≤ 9 ∧ RD w' B R L q ∧ q ≤ p + 50 ∧ w.grownBy w' (some R)
def txtA : List ByteArray := [⟨#[]⟩, ⟨#[84, 104, 101]⟩, ⟨#[97, 98, 99, 100, 101, 102, 103]⟩, ⟨#[97, 98, 99, 100, 101, 102]⟩]
set_option maxHeartbeats 8000000 in
theorem anyTable_any (w : World) (B R L p : Nat) (h : RD w B R L p) (hp : p ≤ 100000000) :
    Calls Try.prog 45 #[.pointer (some ⟨R, 0, none⟩)] w fun e w' => AnyDrawn w B R L p e w' := by
  obtain ⟨i0, hi, hz0, hz1, hz2⟩ := info_parts infoRule
  have hR := h.lt
  go_enter Try.func45, Try.ntmps45
  go_wp2_with fail
  refine (goodTable_any w B R L p h (by omega)).mono ?_
  rintro e w1 ⟨v, Q, q, rfl, hT, hF, hV, hlen, hrd, hq, hG⟩
  clear hV
  have HF := keptH hF
  clear hF
  obtain ⟨g, cap, hv⟩ := hT.2.2
  obtain ⟨n, hn⟩ : ∃ n, Q.length = n := ⟨_, rfl⟩
  rw [hn] at hv hlen
  have HN := keptH hn
  clear hn
  subst hv
  have hrow := hT.row
  by_cases hn0 : n = 0
  · subst hn0
    go_wp2
    go_ret
    exact ⟨_, Q, q, rfl, hT, HF.out, by rw [HN.out]; omega, hrd, by omega, hG⟩
  · have d0 : ((n : Int) == 0) = false := by simp; omega
    go_wp2_with fail
    refine (pick_any w1 B R L q _ hrd (by omega) (by omega) (by omega)).mono ?_
    rintro e w2 ⟨k, rfl, hk, hrd2, hgr2⟩
    have hT2 := hT.overR hgr2 hR
    have hG2 := grown_trans hG hgr2
    clear hT hG hgr2 hrd
    go_wp2_with fail
    refine (pick_any w2 B R L (q + 1) _ hrd2 (by omega) (by omega) (by omega)).mono ?_
    rintro e w3 ⟨c, rfl, hc, hrd3, hgr3⟩
    have hT3 := hT2.overR hgr3 hR
    have hG3 := grown_trans hG2 hgr3
    have hs3 := hG3.size
    clear hT2 hG2 hgr3 hrd2
    have hkn : k < n := by omega
    have hin : k < Q.length := by rw [HN.out]; exact hkn
    have hrk := keptH (tabOf_mem HF.out hin)
    have b1 : (0 : Int) ≤ (k : Int) := by omega
    have b2 : (k : Int) < (n : Int) := by omega
    by_cases c0 : c = 0
    · subst c0
      go_wp2_with fail
      refine (of_any (w3.alloc (.cells (strs txtA) 9)) B R L (q + 1 + 1) w3.heap.size 4 4 txtA (hrd3.alloc _) (heap_alloc_new w3 _) (by omega) (Lib.hid rfl) (by omega) (by omega) (by omega)).mono ?_
      rintro e w4 ⟨t, rfl, ht, hrd4, hgr4⟩
      have ht2 : t.size ≤ 10 := small_strs (by decide) ht
      have hT4 := (hT3.below (Below.alloc (Below.refl _ _) (Nat.le_refl _) _)).overR hgr4 hR
      have hG4 := grown_trans hG3 (grown_trans (World.grownBy_alloc w3 _ _) hgr4)
      obtain ⟨x6, e6⟩ := hT4.cellAt HN.out (j := k * 3) (by omega)
      have f6 := hT4.free HN.out (k * 3)
      have hT5 := hT4.setText HN.out hin t
      have hF5 := tabOf_set (u := Q[k].2) HF.out k (r := ⟨t, Q[k].1.c, Q[k].1.p⟩) ⟨by simp only; omega, hrk.out.2⟩
      have hG5 := grown_own hG4 (grown_store w4 g (k * 3) (.string t)) (fun x hx => by injection hx with hx; omega)
      have hrd5 := hrd4.over (S := w.heap.size) (grown_store w4 g (k * 3) (.string t)) (fun x hx => by injection hx with hx; omega) hR
      have H5 := keptH (And.intro hT5 (And.intro hF5 (And.intro hG5 hrd5)))
      clear hT3 hG3 hrd3 ht hgr4 hT4 hG4 hrd4 hT5 hF5 hG5 hrd5
      go_wp2
      go_ret
      exact ⟨_, _, _, rfl, H5.out.1, H5.out.2.1, by rw [List.length_set, HN.out]; omega, H5.out.2.2.2, by omega, H5.out.2.2.1⟩
    · have e0 : ((c : Int) == 0) = false := by simp; omega
      by_cases c1 : c = 1
      · subst c1
        have HB := bad_pick w3 B R L (q + 1 + 1) hrd3 (by omega)
        simp only [badO, List.foldl_cons, List.foldl_nil] at HB
        have HBK := keptH HB
        clear HB
        go_wp2_with fail
        refine HBK.out.mono ?_
        clear HBK
        rintro e w4 ⟨k7, g7, l7, c7, rfl, hk7, HC, HO, HFc, hrd4, hgr4⟩
        have hT4 := hT3.overR hgr4 hR
        have hG4 := grown_trans hG3 hgr4
        have b3 : (0 : Int) ≤ (k7 : Int) := by omega
        have b4 : (k7 : Int) < 7 := by omega
        have e7 := HC.out
        obtain ⟨x6, e6⟩ := hT4.cellAt HN.out (j := k * 3 + 1) (by omega)
        have f6 := hT4.free HN.out (k * 3 + 1)
        have hT5 := hT4.setCells HN.out hin (World.ownsRow.mono HO.out hs3)
        have hF5 := tabOf_set (u := .slice (some ⟨g7, 0, none⟩) l7 l7) HF.out k (r := ⟨Q[k].1.t, c7, Q[k].1.p⟩) ⟨hrk.out.1, HFc.out, hrk.out.2.2⟩
        have hG5 := grown_own hG4 (grown_store w4 g (k * 3 + 1) (.slice (some ⟨g7, 0, none⟩) l7 l7)) (fun x hx => by injection hx with hx; omega)
        have hrd5 := hrd4.over (S := w.heap.size) (grown_store w4 g (k * 3 + 1) (.slice (some ⟨g7, 0, none⟩) l7 l7)) (fun x hx => by injection hx with hx; omega) hR
        have H5 := keptH (And.intro hT5 (And.intro hF5 (And.intro hG5 hrd5)))
        clear hT3 hG3 hrd3 hgr4 hT4 hG4 hrd4 hT5 hF5 hG5 hrd5
        go_wp2
        go_ret
        exact ⟨_, _, _, rfl, H5.out.1, H5.out.2.1, by rw [List.length_set, HN.out]; omega, H5.out.2.2.2, by omega, H5.out.2.2.1⟩
      · have e1 : ((c : Int) == 1) = false := by simp; omega
        by_cases c2 : c = 2
        · subst c2
          go_wp2_with fail
          refine (one_any (w3.alloc (.cells #[.int .i64 5, .int .i64 (-1), .int .i64 0] 3)) B R L (q + 1 + 1) w3.heap.size 3 3 [5, -1, 0] (hrd3.alloc _) (heap_alloc_new w3 _) (by omega) (Lib.hid rfl) (by omega) (by omega) (by omega)).mono ?_
          rintro e w4 ⟨z, rfl, hz, hrd4, hgr4⟩
          have hz' : -1 ≤ z ∧ z ≤ 5 := by simp at hz; omega
          have hT4 := (hT3.below (Below.alloc (Below.refl _ _) (Nat.le_refl _) _)).overR hgr4 hR
          have hG4 := grown_trans hG3 (grown_trans (World.grownBy_alloc w3 _ _) hgr4)
          obtain ⟨x6, e6⟩ := hT4.cellAt HN.out (j := k * 3 + 2) (by omega)
          have f6 := hT4.free HN.out (k * 3 + 2)
          have hT5 := hT4.setPlace HN.out hin z
          have hF5 := tabOf_set_fits HF.out hin (p := z) (by omega) (by omega)
          have hG5 := grown_own hG4 (grown_store w4 g (k * 3 + 2) (.int .i64 z)) (fun x hx => by injection hx with hx; omega)
          have hrd5 := hrd4.over (S := w.heap.size) (grown_store w4 g (k * 3 + 2) (.int .i64 z)) (fun x hx => by injection hx with hx; omega) hR
          have H5 := keptH (And.intro hT5 (And.intro hF5 (And.intro hG5 hrd5)))
          clear hT3 hG3 hrd3 hz hgr4 hT4 hG4 hrd4 hT5 hF5 hG5 hrd5
          go_wp2
          go_ret
          exact ⟨_, _, _, rfl, H5.out.1, H5.out.2.1, by rw [List.length_set, HN.out]; omega, H5.out.2.2.2, by omega, H5.out.2.2.1⟩
        · have e2 : ((c : Int) == 2) = false := by simp; omega
          by_cases c3 : c = 3
          · subst c3
            obtain ⟨r, hr⟩ : ∃ r, Q[k].1 = r := ⟨_, rfl⟩
            obtain ⟨u, hu⟩ : ∃ u, Q[k].2 = u := ⟨_, rfl⟩
            have hqk := hT3.2.1 Q[k] (List.getElem_mem hin)
            rw [hr, hu] at hqk
            rw [hr] at hrk
            obtain ⟨hOu, au, nu, cu, hue⟩ := hqk
            subst hue
            have hcell := hT3.1
            obtain ⟨x0, x1, x2⟩ := rcells_at Q k hin
            rw [HN.out] at hcell
            have e6 := (hcell.cellAt (k * 3) (by omega)).trans x0
            have e7 := (hcell.cellAt (k * 3 + 1) (by omega)).trans x1
            have e8 := (hcell.cellAt (k * 3 + 2) (by omega)).trans x2
            rw [hr] at e6 e8
            rw [hu] at e7
            have hnews2 := keptH (ruleRow_cells w3 r (.slice au nu cu))
            have hone2 := rcells_one [(r, .slice au nu cu)] (fun q hq => by simp at hq; rw [hq]; exact ⟨_, _, _, rfl⟩)
            have hone3 : Hid (∀ x ∈ qcell (r, .slice au nu cu), x.oneCell' = true) := by
              have : rcells [(r, .slice au nu cu)] = qcell (r, .slice au nu cu) := by simp [rcells]
              rw [this] at hone2
              exact hone2
            have HT3 := keptH hT3
            have hown13 := hcell
            clear hone2 x0 x1 x2 hr hu hT3 hcell
            go_wp2_with (at_builtin; go_loud (refine wpList_append_own _ rfl _ _ 32 rfl w.heap.size 56 i0 (.agg #[.string ⟨#[]⟩, .slice none 0 0, .int .i64 0]) 3 48 Try.underlying32 hi hz0 hz1 hz2 rfl (by decide) _ _ _ rfl (hown13.alloc _) ⟨w3.heap.size, 0, none⟩ 1 1 (qcell (r, .slice au nu cu)) rfl rfl hnews2.out hone3.out (by unfold maxLen; omega) (by omega) (by simp; omega) ?_))
            intro v2 w4 hown2 hgrow2 hnil2
            have hG4 : w.grownBy w4 (some R) := grown_own (grown_own hG3 (World.grownBy_alloc w3 _ none) (by simp)) hgrow2 (fun q hq => by simp [Value.ownBlock] at hq; omega)
            have hrd4 : RD w4 B R L (q + 1 + 1) := (hrd3.alloc _).over (S := w.heap.size) hgrow2 (fun k hk => by simp [Value.ownBlock] at hk; omega) hR
            have hT4 : TabOwn w4 w.heap.size v2 (Q ++ [(r, .slice au nu cu)]) := by
              have hl : (Q ++ [(r, Value.slice au nu cu)]).length = n + 1 := by rw [List.length_append, HN.out]; rfl
              have hal : ∀ x : PRule × Value, OwnInts w3 w.heap.size x.2 x.1.c → OwnInts w4 w.heap.size x.2 x.1.c := fun x hx => (World.ownsRow.alloc hx (.cells #[.string r.t, .slice au nu cu, .int .i64 r.p] 56)).kept hgrow2 (ne_row (World.ownsRow.alloc hx (.cells #[.string r.t, .slice au nu cu, .int .i64 r.p] 56)) (hown13.alloc (.cells #[.string r.t, .slice au nu cu, .int .i64 r.p] 56)))
              refine ⟨?_, fun x hx => ?_, ?_⟩
              · rw [hl, ← rcells_snoc]
                exact hown2
              · rcases List.mem_append.1 hx with hx | hx
                · exact ⟨hal x (HT3.out.2.1 x hx).1, (HT3.out.2.1 x hx).2⟩
                · simp at hx
                  rw [hx]
                  exact ⟨hal (r, .slice au nu cu) hOu, _, _, _, rfl⟩
              · rcases hown2.2 with ⟨_, h⟩ | ⟨g2, c', cur, h, _⟩
                · omega
                · exact ⟨g2, c', by rw [hl]; exact h⟩
            have H5 := keptH (And.intro hT4 (And.intro (TabOwn.fits_snoc (u := .slice au nu cu) HF.out hrk.out) (And.intro hG4 hrd4)))
            clear hown2 hgrow2 hnil2 hown13 hG4 hrd4 hT4 hG3 hrd3 hnews2 hone3 hOu
            go_wp2
            go_ret
            exact ⟨_, _, _, rfl, H5.out.1, H5.out.2.1, by rw [List.length_append, HN.out]; simp; omega, H5.out.2.2.2, by omega, H5.out.2.2.1⟩
          · have e3 : ((c : Int) == 3) = false := by simp; omega
            go_wp2
            go_ret
            exact ⟨_, Q, _, rfl, hT3, HF.out, by rw [HN.out]; omega, hrd3, by omega, hG3⟩
end Go.Proofs.Ythojahknocageaa

