
/- The exact laws' own functions on lists of notes. -/
import Derived.Test.YtfofjjfnejigaaaNta
namespace Go.Proofs.Ytfofjjfnejigaaa
open Go.RowKit Go.ChangeShapes Go.WideShapes

theorem szNoteS_any (w : World) (v : Value) (P : List PNote) (l : Int) (hx : NotesAt w v P) (h0 : 0 ≤ l) (h1 : l ≤ 1048576) :
    Calls Try.prog 19 #[v, .int .i64 l] w fun e w' => (∃ k : Int, e = .returned (.int .i64 k) ∧ (k = -1 ∨ (0 ≤ k ∧ k ≤ 1048576 ∧ P.length ≤ 1048576))) ∧ w = w' := by
  obtain ⟨a, cp, rfl, x1, x2, x3⟩ := hx
  obtain ⟨n, hn⟩ : ∃ n, P.length = n := ⟨_, rfl⟩
  rw [hn] at x1 x3 ⊢
  clear hn x3
  have hu1 : IntKind.i64.wrap (l - (n : Int)) = l - (n : Int) := IntWalk.i64_in _ (by omega)
  by_cases c : l - (n : Int) < 0
  · have d1 : decide (l - (n : Int) < 0) = true := decide_eq_true c
    go_enter Try.func19, Try.ntmps19
    go_wp2
    go_ret
    exact ⟨⟨-1, rfl, .inl rfl⟩, rfl⟩
  · have d1 : decide (l - (n : Int) < 0) = false := decide_eq_false c
    go_enter Try.func19, Try.ntmps19
    go_wp2
    go_ret
    exact ⟨⟨_, rfl, .inr ⟨by omega, by omega, by omega⟩⟩, rfl⟩

/-- a copied list of notes -/
def NtMade (P : List PNote) (n : Nat) (w : World) (e : Ending) (w' : World) : Prop :=
  e = .returned (.slice (some ⟨w.heap.size, 0, none⟩) n n) ∧ OwnNt w' w.heap.size (.slice (some ⟨w.heap.size, 0, none⟩) n n) P ∧ Below w.heap.size w w'
set_option maxHeartbeats 2000000 in
theorem toNoteS_any (w : World) (v : Value) (P : List PNote) (n : Nat) (hx : NotesAt w v P) (hbig : n ≤ 1048576) (hn : Hid (P.length = n)) :
    Calls Try.prog 20 #[v] w fun e w' => NtMade P n w e w' := by
  obtain ⟨i0, hi, hz0, hz1, hz2⟩ := info_parts infoNote
  obtain ⟨a, cp, rfl, x1, x2, x3⟩ := hx
  rw [hn.out] at x1 x3 ⊢
  go_enter Try.func20, Try.ntmps20
  go_wp2_with (at_make; refine wpList_make_full _ rfl _ _ 23 rfl w.heap.size 35 i0 (.agg #[.int .i64 0, .int .i64 0]) 2 Try.underlying23 hi hz0 hz1 .i64 .i64 n n n rfl rfl rfl rfl (by rw [hz2]; omega) (by unfold maxLen; omega) (Nat.le_refl _) ?_)
  intro w1 hown hgr
  have hB1 : Below w.heap.size w w1 := ⟨hgr.os, hgr.tape, hgr.output, hgr.size, fun k hk => hgr.block k hk (by simp)⟩
  rw [zeros_note] at hown
  have hO1 : OwnNt w1 w.heap.size (.slice (some ⟨w.heap.size, 0, none⟩) n n) (cpN P n 0) := by
    show World.ownsRow _ _ _ _ _ (List.replicate n noN).length _
    rw [List.length_replicate]
    exact hown
  clear hown hgr hi hz0 hz1 hz2
  go_wp2
  go_loopw [4] (fun i wr => ∃ k : Nat, k ≤ n ∧ i = .int .i64 k ∧ OwnNt wr w.heap.size (.slice (some ⟨w.heap.size, 0, none⟩) n n) (cpN P n k) ∧ Below w.heap.size w wr) (fun i _ => n - (intOf i).toNat)
  case atStart => exact ⟨0, Nat.zero_le _, rfl, hO1, hB1⟩
  case round =>
    clear hO1 hB1
    obtain ⟨k, hk, rfl, hO, hb1⟩ := hrel
    have hsz := hb1.size
    by_cases hlt : k < n
    · rcases x3 with rfl | ⟨g, off, rfl, x3⟩
      · exact absurd hn.out (by simp; omega)
      obtain ⟨q, hq⟩ : ∃ q, P.getD k noN = q := ⟨_, rfl⟩
      have hra := x3 k hlt
      rw [hq] at hra
      have HQ := Lib.hid hq
      clear hq x3
      obtain ⟨r, f⟩ := q
      obtain ⟨c0, c1⟩ := hra
      simp only at c0 c1
      have c0 := (hb1.cell (World.block_lt_of_cell? w _ c0)).trans c0
      have c1 := (hb1.cell (World.block_lt_of_cell? w _ c1)).trans c1
      have HO := keptN hO
      clear hO
      go_wp2_with fail
      refine (toNote_any wr r f).mono ?_
      rintro e w2 ⟨rfl, hb2⟩
      have hO2 := HO.out.below hb2
      have hB2 := hb1.trans (hb2.mono hsz)
      clear c0 c1 hb2
      obtain ⟨e0, e1, hfr⟩ := hO2.cell2 hlt
      have f0 := hfr (k * 2)
      have f1 := hfr (k * 2 + 1)
      have HO3 : Hid (OwnNt ((w2.setCell ⟨w.heap.size, k * 2, none⟩ (.int .i64 r)).setCell ⟨w.heap.size, k * 2 + 1, none⟩ (.int .i64 f)) w.heap.size (.slice (some ⟨w.heap.size, 0, none⟩) n n) (cpN P n (k + 1))) := by
        show OwnNt _ _ _ ((cpN P n k).set k (P.getD k noN))
        rw [HQ.out]
        exact hO2.set2 hlt r f
      have HB3 := keptN (((hB2.setCell (p := ⟨w.heap.size, k * 2, none⟩) (Nat.le_refl _) (.int .i64 r)).setCell (p := ⟨w.heap.size, k * 2 + 1, none⟩) (Nat.le_refl _) (.int .i64 f)))
      clear hO2 hB2 hfr
      go_wp2
      go_roundw
      case rel => exact ⟨k + 1, by omega, by go_num, HO3.out, HB3.out⟩
      case measure => simp [intOf]; omega
    · obtain rfl : k = n := by omega
      rw [cpN_all hn.out] at hO
      have HO := keptN hO
      clear hO
      go_wp2
      go_ret
      exact ⟨rfl, HO.out, hb1⟩

set_option maxHeartbeats 1000000 in
theorem eqNote_same (w : World) (r f : Int) :
    Calls Try.prog 50 #[.agg #[.int .i64 r, .int .i64 f], .agg #[.int .i64 r, .int .i64 f]] w fun e w' => e = .returned (.bool true) ∧ Below w.heap.size w w' := by
  go_enter Try.func50, Try.ntmps50
  go_wp2
  go_ret
  exact ⟨rfl, ((Below.refl _ _).alloc (Nat.le_refl _) _).alloc (by simp) _⟩

set_option maxHeartbeats 2000000 in
theorem eqNoteS_same (w : World) (u v : Value) (P : List PNote) (hx : NotesAt w u P) (hy : NotesAt w v P) :
    Calls Try.prog 22 #[u, v] w fun e w' => e = .returned (.bool true) ∧ Below w.heap.size w w' := by
  obtain ⟨a, cp, rfl, x1, x2, x3⟩ := hx
  obtain ⟨a', cp', rfl, y1, y2, y3⟩ := hy
  obtain ⟨n, hn⟩ : ∃ n, P.length = n := ⟨_, rfl⟩
  rw [hn] at x1 x3 y1 y3 ⊢
  have HN := Lib.hid hn
  clear hn
  go_enter Try.func22, Try.ntmps22
  go_wp2
  go_loopw [5] (fun i wr => ∃ k : Nat, k ≤ n ∧ i = .int .i64 k ∧ Below w.heap.size w wr) (fun i _ => n - (intOf i).toNat)
  case atStart => exact ⟨0, Nat.zero_le _, rfl, Below.refl _ _⟩
  case round =>
    obtain ⟨k, hk, rfl, hb1⟩ := hrel
    have hsz := hb1.size
    by_cases hlt : k < n
    · rcases x3 with rfl | ⟨g, off, rfl, x3⟩
      · exact absurd HN.out (by simp; omega)
      rcases y3 with rfl | ⟨g', off', rfl, y3⟩
      · exact absurd HN.out (by simp; omega)
      have hra := x3 k hlt
      have hrb := y3 k hlt
      clear x3 y3
      obtain ⟨q, hq⟩ : ∃ q, P.getD k noN = q := ⟨_, rfl⟩
      rw [hq] at hra hrb
      clear hq
      obtain ⟨r, f⟩ := q
      obtain ⟨c0, c1⟩ := hra
      obtain ⟨d0, d1⟩ := hrb
      simp only at c0 c1 d0 d1
      have c0 := (hb1.cell (World.block_lt_of_cell? w _ c0)).trans c0
      have c1 := (hb1.cell (World.block_lt_of_cell? w _ c1)).trans c1
      have d0 := (hb1.cell (World.block_lt_of_cell? w _ d0)).trans d0
      have d1 := (hb1.cell (World.block_lt_of_cell? w _ d1)).trans d1
      have b1 : (0 : Int) ≤ (k : Int) := by omega
      have b2 : (k : Int) < (n : Int) := by omega
      have HC : Hid (wr.cell? ⟨g, off + k * 2, none⟩ = some (.int .i64 r) ∧ wr.cell? ⟨g, off + k * 2 + 1, none⟩ = some (.int .i64 f) ∧ wr.cell? ⟨g', off' + k * 2, none⟩ = some (.int .i64 r) ∧ wr.cell? ⟨g', off' + k * 2 + 1, none⟩ = some (.int .i64 f)) := ⟨c0, c1, d0, d1⟩
      have HK : Hid (∀ wx, Below wr.heap.size wr wx → wx.cell? ⟨g, off + k * 2, none⟩ = some (.int .i64 r) ∧ wx.cell? ⟨g, off + k * 2 + 1, none⟩ = some (.int .i64 f) ∧ wx.cell? ⟨g', off' + k * 2, none⟩ = some (.int .i64 r) ∧ wx.cell? ⟨g', off' + k * 2 + 1, none⟩ = some (.int .i64 f)) := fun wx h => by
        obtain ⟨c0, c1, d0, d1⟩ := HC.out
        exact ⟨(h.cell (World.block_lt_of_cell? wr _ c0)).trans c0, (h.cell (World.block_lt_of_cell? wr _ c1)).trans c1, (h.cell (World.block_lt_of_cell? wr _ d0)).trans d0, (h.cell (World.block_lt_of_cell? wr _ d1)).trans d1⟩
      clear c0 c1 d0 d1
      go_wp2_with fail
      go_region_held3 (fun wx => wx.cell? ⟨g, off + k * 2, none⟩ = some (.int .i64 r) ∧ wx.cell? ⟨g, off + k * 2 + 1, none⟩ = some (.int .i64 f) ∧ wx.cell? ⟨g', off' + k * 2, none⟩ = some (.int .i64 r) ∧ wx.cell? ⟨g', off' + k * 2 + 1, none⟩ = some (.int .i64 f)) (first | assumption | exact HK.out _ (Below.refl _ _).drew | exact HK.out _ ((Below.refl _ _).drew.trans hb2)) (first | (go_at_call 50; refine (eqNote_same wr.drew r f).mono ?_; rintro e w2 ⟨rfl, hb2⟩))
      all_goals
        go_wp2
        go_roundw
        case rel => exact ⟨k + 1, by omega, by go_num, hb1.trans (((Below.refl _ _).drew.trans hb2).mono hsz)⟩
        case measure => simp [intOf]; omega
    · go_wp2
      go_ret
      exact ⟨rfl, hb1⟩
def mkN (k : Nat) : PNote := ⟨1 + 2 * (k : Int), 2 + 2 * (k : Int)⟩
def mkNL (P : List PNote) : Nat → List PNote
  | 0 => P
  | k + 1 => (mkNL P k).set k (mkN k)
theorem mkNL_len (P : List PNote) (k : Nat) : (mkNL P k).length = P.length := by
  induction k with
  | zero => rfl
  | succ k ih => show ((mkNL P k).set k _).length = _; rw [List.length_set, ih]
theorem mkNL_at (P : List PNote) : ∀ k, k ≤ P.length → ∀ i, i < k → (mkNL P k).getD i noN = mkN i := by
  intro k
  induction k with
  | zero => intro _ i hi; omega
  | succ k ih =>
    intro hk i hi
    show ((mkNL P k).set k (mkN k)).getD i noN = _
    rw [List.getD_eq_getElem?_getD, List.getElem?_set]
    by_cases hik : k = i
    · subst hik
      rw [if_pos rfl, if_pos (by rw [mkNL_len]; omega), Option.getD_some]
    · rw [if_neg hik, ← List.getD_eq_getElem?_getD]
      exact ih (by omega) i (by omega)
theorem ret_n {a b : Int} (h : a = b) : Ending.returned (.int .i64 a) = .returned (.int .i64 b) := by rw [h]
theorem grown_storeN (w : World) (g k : Nat) (u : Value) : w.grownBy (w.setCell ⟨g, k, none⟩ u) (some g) :=
  ⟨rfl, rfl, rfl, by simp [World.setCell], fun i _ hi => heap_setCell_other w ⟨g, k, none⟩ i u (by simpa using hi)⟩
theorem grownN_trans {a b c : World} {row : Option Nat} (h : a.grownBy b row) (k : b.grownBy c row) : a.grownBy c row :=
  ⟨k.os.trans h.os, k.tape.trans h.tape, k.output.trans h.output, Nat.le_trans h.size k.size, fun i hi hne => (k.block i (Nat.lt_of_lt_of_le hi h.size) hne).trans (h.block i hi hne)⟩
set_option maxHeartbeats 2000000 in
theorem markNoteS_own (w : World) (base : Nat) (a : Option Addr) (n c : Nat) (P : List PNote) (hO : OwnNt w base (.slice a n c) P) (hn : n ≤ 1048576) :
    Calls Try.prog 23 #[.slice a n c, .int .i64 1] w fun e w' => e = .returned (.int .i64 (1 + 2 * (n : Int))) ∧ OwnNt w' base (.slice a n c) (mkNL P n) ∧ w.grownBy w' (Value.slice a n c).ownBlock := by
  have HO := keptN hO
  clear hO
  go_enter Try.func23, Try.ntmps23
  go_wp2
  go_loopw [1, 5] (fun q i wr => ∃ (k : Nat) (m : Int), k ≤ n ∧ i = .int .i64 k ∧ q = .int .i64 m ∧ m = 1 + 2 * (k : Int) ∧ OwnNt wr base (.slice a n c) (mkNL P k) ∧ w.grownBy wr (Value.slice a n c).ownBlock) (fun _ i _ => n - (intOf i).toNat)
  case atStart => exact ⟨0, 1, Nat.zero_le _, rfl, rfl, rfl, HO.out, ⟨rfl, rfl, rfl, Nat.le_refl _, fun _ _ _ => rfl⟩⟩
  case round =>
    obtain ⟨k, m, hk, rfl, rfl, hm, hO, hB⟩ := hrel
    by_cases hlt : k < n
    · obtain ⟨g, rfl, hg1, hg2⟩ := hO.addr (by omega)
      obtain ⟨e0, e1, hfr⟩ := hO.cell2 hlt
      have f0 := hfr (k * 2)
      have f1 := hfr (k * 2 + 1)
      have hO3 := hO.set2 hlt m (m + 1)
      have hB3 : w.grownBy ((wr.setCell ⟨g, k * 2, none⟩ (.int .i64 m)).setCell ⟨g, k * 2 + 1, none⟩ (.int .i64 (m + 1))) (some g) := by
        have h0 : w.grownBy wr (some g) := hB
        have h1 := grownN_trans h0 (grown_storeN wr g (k * 2) (.int .i64 m))
        exact grownN_trans h1 (grown_storeN _ g (k * 2 + 1) (.int .i64 (m + 1)))
      have hmk : mkNL P (k + 1) = (mkNL P k).set k ⟨m, m + 1⟩ := by
        show (mkNL P k).set k (mkN k) = _
        rw [mkN, hm]
        congr 2 <;> omega
      rw [← hmk] at hO3
      have NXT := keptN (And.intro hO3 hB3)
      have HMM := Lib.hid hm
      have bm : 0 ≤ m ∧ m ≤ 10000000 := by omega
      clear hO3 hB3 hmk hO hB hfr hm
      go_wp2
      go_roundw
      case rel => exact ⟨k + 1, m + 1 + 1, by omega, by go_num, rfl, by have := HMM.out; omega, NXT.out.1, NXT.out.2⟩
      case measure => simp [intOf]; omega
    · obtain rfl : k = n := by omega
      have HMM := Lib.hid hm
      have FIN := keptN (And.intro hO hB)
      clear hO hB hm
      go_wp2
      go_ret
      exact ⟨ret_n HMM.out, FIN.out.1, FIN.out.2⟩
set_option maxHeartbeats 2000000 in
theorem heldNoteS_own (w : World) (base : Nat) (a : Option Addr) (n c : Nat) (P : List PNote) (hO : OwnNt w base (.slice a n c) (mkNL P n)) (hn : n ≤ 1048576) :
    Calls Try.prog 27 #[.slice a n c, .int .i64 1] w fun e w' => e = .returned (.int .i64 (1 + 2 * (n : Int))) ∧ w = w' := by
  have hl := hO.len
  rw [mkNL_len] at hl
  have HL := Lib.hid hl
  have HO := keptN hO
  clear hO hl
  go_enter Try.func27, Try.ntmps27
  go_wp2
  go_loop [1, 5] (fun q i => ∃ (k : Nat) (m : Int), k ≤ n ∧ i = .int .i64 k ∧ q = .int .i64 m ∧ m = 1 + 2 * (k : Int)) (fun _ i => n - (intOf i).toNat)
  case atStart => exact ⟨0, 1, Nat.zero_le _, rfl, rfl, rfl⟩
  case round =>
    obtain ⟨k, m, hk, rfl, rfl, hm⟩ := hrel
    by_cases hlt : k < n
    · obtain ⟨g, rfl, _, _⟩ := HO.out.addr (by omega)
      obtain ⟨e0, e1, _⟩ := HO.out.cell2 hlt
      rw [mkNL_at P n (by rw [HL.out]; omega) k hlt] at e0 e1
      rw [show (mkN k).p = m from by rw [hm]; rfl] at e0
      rw [show (mkN k).v = m + 1 from by rw [hm]; show 2 + 2 * (k : Int) = _; omega] at e1
      have HMM := Lib.hid hm
      have bm : 0 ≤ m ∧ m ≤ 10000000 := by omega
      clear hm
      go_wp2
      go_round
      case rel => exact ⟨k + 1, m + 1 + 1, by omega, by go_num, rfl, by have := HMM.out; omega⟩
      case measure => simp [intOf]; omega
    · obtain rfl : k = n := by omega
      have HMM := Lib.hid hm
      clear hm
      go_wp2
      go_ret
      exact ⟨ret_n HMM.out, rfl⟩
end Go.Proofs.Ytfofjjfnejigaaa
