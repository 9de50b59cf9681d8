
/- One rule: whether it is valid, in the program and in its model. -/
import Derived.Test.YtdjgodemeaneeaaTb
import Derived.Test.YtdjgodemeaneeaaTbA
namespace Go.Proofs.Ytdjgodemeaneeaa
open Go.RowKit

set_option maxHeartbeats 1000000 in
theorem s_placeIn (w : World) (u : Value) (zs : List Int) (c : Int) (hx : IntsAt w u zs) :
    Calls Try.prog 113 #[u, .int .i64 c] w fun e w' => e = .returned (.int .i64 (idx zs c)) ∧ w = w' := by
  obtain ⟨a, cp, rfl, x1, x2, x3⟩ := hx
  obtain ⟨n, hn⟩ : ∃ n, zs.length = n := ⟨_, rfl⟩
  rw [hn] at x1 x3 ⊢
  have HN := Lib.hid hn
  clear hn
  go_enter Try.func113, Try.ntmps113
  go_wp2
  go_loop [5] (fun i => ∃ k : Nat, k ≤ n ∧ i = .int .i64 k ∧ NotIn zs c k) (fun i => n - (intOf i).toNat)
  case atStart => exact ⟨0, Nat.zero_le _, rfl, NotIn.zero _ _⟩
  case round =>
    obtain ⟨k, hk, rfl, hs⟩ := hrel
    by_cases hlt : k < n
    · rcases x3 with rfl | ⟨g, off, rfl, x3⟩
      · exact absurd HN.out (by simp; omega)
      have cx := x3 k hlt
      obtain ⟨y, hy⟩ : ∃ y, zs.getD k 0 = y := ⟨_, rfl⟩
      rw [hy] at cx
      have HY := Lib.hid hy
      clear hy x3
      by_cases e : y = c
      · have HI : Hid (idx zs c = k) := idx_hit (by have := HN.out; omega) hs (HY.out.trans e)
        have e1 : (y == c) = true := by simpa using e
        clear e hs
        go_wp2
        go_ret
        exact ⟨by rw [HI.out]; rfl, rfl⟩
      · have hs' := hs.succ (by rw [HY.out]; exact e)
        have e1 : (y == c) = false := by simpa using e
        clear e hs
        go_wp2
        go_round
        case rel => exact ⟨k + 1, by omega, by go_num, hs'⟩
        case measure => simp [intOf]; omega
    · go_wp2
      go_ret
      obtain rfl : k = n := by omega
      exact ⟨by rw [idx_none (l := zs) (fun j hj => hs j (by have := HN.out; omega))]; rfl, rfl⟩

theorem s_markCells_list (w : World) :
    Calls Try.prog 114 #[] w fun e w' => ∃ g, e = .returned (.slice (some ⟨g, 0, none⟩) 8 8) ∧ IntsAt w' (.slice (some ⟨g, 0, none⟩) 8 8) markC ∧ Below w.heap.size w w' := by
  go_enter Try.func114, Try.ntmps114
  go_wp2
  go_ret
  refine ⟨w.heap.size, rfl, ⟨_, 8, rfl, by decide, by omega, .inr ⟨w.heap.size, 0, rfl, fun i hi => ?_⟩⟩, (Below.refl _ _).alloc (Nat.le_refl _) _⟩
  rw [cell_of_row _ w.heap.size (0 + i) _ _ _ (heap_alloc_new w _)]
  have hi' : i < 8 := hi
  rcases (show i = 0 ∨ i = 1 ∨ i = 2 ∨ i = 3 ∨ i = 4 ∨ i = 5 ∨ i = 6 ∨ i = 7 from by omega) with rfl | rfl | rfl | rfl | rfl | rfl | rfl | rfl <;> rfl

/-- a cell that may stand in a rule -/
def WordCell (z : Int) : Prop := (1 ≤ z ∧ z ≤ 63) ∧ idx markC z < 0 ∧ z ≠ 60 ∧ z ≠ 32 ∧ z ≠ 48
instance (z : Int) : Decidable (WordCell z) := inferInstanceAs (Decidable (_ ∧ _))
set_option maxHeartbeats 1000000 in
theorem s_wordCell (z : Int) (w : World) :
    Calls Try.prog 102 #[.int .i64 z] w fun e w' => e = .returned (.bool (decide (WordCell z))) ∧ Below w.heap.size w w' := by
  by_cases h1 : 1 ≤ z ∧ z ≤ 63
  · obtain ⟨r, hr⟩ : ∃ r, idx markC z = r := ⟨_, rfl⟩
    have HR := Lib.hid hr
    clear hr
    by_cases h2 : r < 0
    · go_enter Try.func102, Try.ntmps102
      go_wp2_with fail
      refine (inRange_yes _ _ _ _ h1.1 h1.2).mono ?_
      rintro e w' ⟨rfl, rfl⟩
      go_wp2_with fail
      refine (s_markCells_list _).mono ?_
      rintro e w2 ⟨g, rfl, hx, hb⟩
      go_wp2_with fail
      refine (s_placeIn _ _ _ z hx).mono ?_
      rw [HR.out]
      rintro e w' ⟨rfl, rfl⟩
      go_wp2
      all_goals go_ret
      all_goals (refine ⟨ret_bool ?_, hb⟩; by_cases h3 : z = 60 <;> by_cases h4 : z = 32 <;> by_cases h5 : z = 48 <;> simp_all [WordCell, HR.out])
    · have HN : Hid (¬ WordCell z) := fun h => by have := h.2.1; rw [HR.out] at this; omega
      go_enter Try.func102, Try.ntmps102
      go_wp2_with fail
      refine (inRange_yes _ _ _ _ h1.1 h1.2).mono ?_
      rintro e w' ⟨rfl, rfl⟩
      go_wp2_with fail
      refine (s_markCells_list _).mono ?_
      rintro e w2 ⟨g, rfl, hx, hb⟩
      go_wp2_with fail
      refine (s_placeIn _ _ _ z hx).mono ?_
      rw [HR.out]
      rintro e w' ⟨rfl, rfl⟩
      go_wp2
      go_ret
      exact ⟨ret_bool (decide_eq_false HN.out).symm, hb⟩
  · have HN : Hid (¬ WordCell z) := fun h => h1 h.1
    go_enter Try.func102, Try.ntmps102
    go_wp2_with fail
    refine (inRange_no _ _ _ _ (by omega)).mono ?_
    rintro e w' ⟨rfl, rfl⟩
    go_wp2
    go_ret
    exact ⟨ret_bool (decide_eq_false HN.out).symm, Below.refl _ _⟩

/-- the first k numbers may stand in a rule -/
def WcUp (zs : List Int) (k : Nat) : Prop := ∀ i, i < k → WordCell (zs.getD i 0)
theorem WcUp.zero (zs : List Int) : WcUp zs 0 := fun i h => absurd h (by omega)
theorem WcUp.succ {zs : List Int} {k : Nat} (h : WcUp zs k) (e : WordCell (zs.getD k 0)) : WcUp zs (k + 1) := fun i hi => by
  by_cases hik : i = k
  · subst hik; exact e
  · exact h i (by omega)
theorem WcUp.all {zs : List Int} {n : Nat} (h : WcUp zs n) (hn : zs.length = n) : ∀ z ∈ zs, WordCell z := by
  intro z hz
  obtain ⟨i, hi, rfl⟩ := List.getElem_of_mem hz
  have := h i (by omega)
  simpa [List.getD_eq_getElem?_getD, hi] using this
theorem not_wc {zs : List Int} {k n : Nat} {y : Int} (hn : zs.length = n) (hk : k < n) (hy : zs.getD k 0 = y) (e : ¬ WordCell y) : ¬ ∀ z ∈ zs, WordCell z := fun h => by
  have hm : y ∈ zs := by
    subst hy
    rw [List.getD_eq_getElem?_getD, List.getElem?_eq_getElem (by omega), Option.getD_some]; exact List.getElem_mem _
  exact e (h y hm)
/-- a valid rule -/
def ValidR (r : PRule) : Prop := WordB 6 r.t.data.toList ∧ (1 ≤ r.c.length ∧ r.c.length ≤ 2) ∧ (∀ z ∈ r.c, WordCell z) ∧ 0 ≤ r.p ∧ r.p ≤ 4
instance (r : PRule) : Decidable (ValidR r) := inferInstanceAs (Decidable (_ ∧ _))

theorem markOfC_zero (z : Int) : markOfC z = 0 ↔ idx markC z < 0 := by
  by_cases h : idx markC z < 0
  · have h1 : idx markC z = -1 := by
      by_cases hn : ∃ k : Nat, k < 8 ∧ markC.getD k 0 = z
      · exfalso
        obtain ⟨k, hk, e⟩ := hn
        have : ∀ k, k < 8 → 0 ≤ idx markC (markC.getD k 0) := by decide
        have := this k hk
        rw [e] at this
        omega
      · exact idx_none fun j hj e => hn ⟨j, hj, e⟩
    simp [markOfC, h1]
  · have h1 : idx markC z ≠ -1 := by omega
    have h2 : ∃ k : Nat, k < 8 ∧ markC.getD k 0 = z := by
      refine Classical.byContradiction fun hn => h1 (idx_none fun j hj e => hn ⟨j, hj, e⟩)
    obtain ⟨k, hk, rfl⟩ := h2
    have : ∀ k, k < 8 → (markOfC (markC.getD k 0) = 0 ↔ idx markC (markC.getD k 0) < 0) := by decide
    exact this k hk

theorem i_isSign_v (z : Int) (b : Bool) (w : World) (h : Hid (decide (z = 60 ∨ z = 32 ∨ z = 48) = b)) :
    Calls Try.prog 111 #[.int .i64 z] w fun e w' => e = .returned (.bool b) ∧ w = w' := by
  have := i_isSign z w
  rw [h.out] at this
  exact this
theorem i_markOf_v (z : Int) (m : Nat) (w : World) (h : Hid (markOfC z = m)) :
    Calls Try.prog 112 #[.int .i64 z] w fun e w' => e = .returned (.int .u8 m) ∧ w = w' := by
  have := i_markOf z w
  rw [h.out] at this
  exact this
theorem i_isWordCell (z : Int) (b : Bool) (w : World) (h0 : 0 ≤ z ∧ z < 64) (h : Hid (decide (WordCell z) = b)) :
    Calls Try.prog 100 #[.int .i64 z] w fun e w' => e = .returned (.bool b) ∧ w = w' := by
  by_cases e0 : z = 0
  · subst e0
    obtain rfl : b = false := by rw [← h.out]; decide
    clear h h0
    go_enter Try.func100, Try.ntmps100
    go_wp2
    go_ret
    exact ⟨rfl, rfl⟩
  · have q1 : (z != 0) = true := by simpa using e0
    obtain ⟨b2, hb2⟩ : ∃ b2, decide (z = 60 ∨ z = 32 ∨ z = 48) = b2 := ⟨_, rfl⟩
    have HSg := Lib.hid hb2
    obtain ⟨m, hm⟩ : ∃ m, markOfC z = m := ⟨_, rfl⟩
    have HM := Lib.hid hm
    have HZ : Hid (b = (!b2 && decide (m = 0))) := by
      unfold Hid
      rw [← h.out, ← hb2, ← hm]
      have := markOfC_zero z
      by_cases c1 : z = 60 ∨ z = 32 ∨ z = 48
      · rw [decide_eq_true c1, decide_eq_false (fun hw => by have := hw.2.2; omega)]; rfl
      · by_cases c2 : markOfC z = 0
        · rw [decide_eq_false c1, decide_eq_true c2, decide_eq_true (show WordCell z from ⟨by omega, this.1 c2, by omega⟩)]; rfl
        · rw [decide_eq_false c1, decide_eq_false c2, decide_eq_false (fun hw => c2 (this.2 hw.2.1))]; rfl
    clear h h0 e0 hb2 hm
    cases b2 with
    | true =>
      go_enter Try.func100, Try.ntmps100
      go_wp2_with (go_at_call 111; refine (i_isSign_v _ _ _ HSg).mono ?_; rintro e w' ⟨rfl, rfl⟩)
      go_ret
      exact ⟨by rw [HZ.out]; rfl, rfl⟩
    | false =>
      by_cases e2 : m = 0
      · subst e2
        go_enter Try.func100, Try.ntmps100
        go_wp2_with (first | (go_at_call 111; refine (i_isSign_v _ _ _ HSg).mono ?_; rintro e w' ⟨rfl, rfl⟩) | (go_at_call 112; refine (i_markOf_v _ _ _ HM).mono ?_; rintro e w' ⟨rfl, rfl⟩))
        go_ret
        exact ⟨by rw [HZ.out]; rfl, rfl⟩
      · have q2 : (((m : Nat) : Int) == 0) = false := by simp; omega
        have E2 := Lib.hid e2
        clear e2
        go_enter Try.func100, Try.ntmps100
        go_wp2_with (first | (go_at_call 111; refine (i_isSign_v _ _ _ HSg).mono ?_; rintro e w' ⟨rfl, rfl⟩) | (go_at_call 112; refine (i_markOf_v _ _ _ HM).mono ?_; rintro e w' ⟨rfl, rfl⟩))
        go_ret
        exact ⟨by rw [HZ.out]; simp [E2.out], rfl⟩
set_option maxHeartbeats 4000000 in
theorem i_isRule (w : World) (u : Value) (r : PRule) (hx : IntsAt w u r.c) (hs : r.t.size ≤ 9223372036854775807) :
    Calls Try.prog 70 #[.agg #[.string r.t, u, .int .i64 r.p]] w fun e w' => e = .returned (.bool (decide (ValidR r))) ∧ Below w.heap.size w w' := by
  obtain ⟨s, zs, p⟩ := r
  simp only at hx hs ⊢
  obtain ⟨a, cp, rfl, x1, x2, x3⟩ := hx
  obtain ⟨n, hn⟩ : ∃ n, zs.length = n := ⟨_, rfl⟩
  rw [hn] at x1 x3 ⊢
  have HN := Lib.hid hn
  clear hn
  have HS : ∀ wx, Hid (Calls Try.prog 72 #[.string s, .int .i64 6] wx fun e w' => e = .returned (.bool (decide (WordB 6 s.data.toList))) ∧ wx = w') := fun wx => i_onlySmall s 6 wx hs (by omega)
  obtain ⟨b, hb⟩ : ∃ b, decide (WordB 6 s.data.toList) = b := ⟨_, rfl⟩
  rw [hb] at HS
  have HB := Lib.hid hb
  clear hb
  have hfin : Hid (b = true ∧ 0 ≤ p ∧ p ≤ 4 ∧ 1 ≤ n ∧ n ≤ 2 → (∀ z ∈ zs, WordCell z) → ValidR ⟨s, zs, p⟩) := fun h hz => by
    refine ⟨?_, ?_, hz, h.2.1, h.2.2.1⟩
    · have := HB.out; rw [h.1] at this; exact of_decide_eq_true this
    · have := HN.out; show 1 ≤ zs.length ∧ zs.length ≤ 2; omega
  have hnot : Hid (ValidR ⟨s, zs, p⟩ → b = true ∧ 0 ≤ p ∧ p ≤ 4 ∧ 1 ≤ n ∧ n ≤ 2 ∧ ∀ z ∈ zs, WordCell z) := fun h => by
    have h2 := h.2.1
    have h3 := HN.out
    simp only at h2
    exact ⟨by rw [← HB.out]; exact decide_eq_true h.1, h.2.2.2.1, h.2.2.2.2, by omega, by omega, h.2.2.1⟩
  cases b with
  | false =>
    have HNO : Hid (¬ ValidR ⟨s, zs, p⟩) := fun h => absurd (hnot.out h).1 (by simp)
    go_enter Try.func70, Try.ntmps70
    go_wp2_with (go_at_call 72; refine (HS _).out.mono ?_; rintro e w' ⟨rfl, rfl⟩)
    go_ret
    exact ⟨ret_bool (decide_eq_false HNO.out).symm, (Below.refl _ _).alloc (Nat.le_refl _) _⟩
  | true =>
    by_cases h1 : 0 ≤ p ∧ p ≤ 4
    · by_cases h2 : 1 ≤ n ∧ n ≤ 2
      · obtain ⟨h11, h12⟩ := h1
        obtain ⟨h21, h22⟩ := h2
        have d1 : decide (p < 0) = false := decide_eq_false (by omega)
        have d2 : decide (4 < p) = false := decide_eq_false (by omega)
        go_enter Try.func70, Try.ntmps70
        go_wp2_with (go_at_call 72; refine (HS _).out.mono ?_; rintro e w' ⟨rfl, rfl⟩)
        go_loop [32] (fun i => ∃ k : Nat, k ≤ n ∧ i = .int .i64 k ∧ WcUp zs k) (fun i => n - (intOf i).toNat)
        case atStart => exact ⟨0, Nat.zero_le _, rfl, WcUp.zero _⟩
        case round =>
          obtain ⟨k, hk, rfl, hok⟩ := hrel
          by_cases hlt : k < n
          · rcases x3 with rfl | ⟨g, off, rfl, x3⟩
            · exact absurd HN.out (by simp; omega)
            have hB1 : Below w.heap.size w (w.alloc (.cells #[.string s, .slice (some ⟨g, off, none⟩) n cp, .int .i64 p] 36)) := (Below.refl _ _).alloc (Nat.le_refl _) _
            have cx := (hB1.cell (World.block_lt_of_cell? w _ (x3 k hlt))).trans (x3 k hlt)
            obtain ⟨y, hy⟩ : ∃ y, zs.getD k 0 = y := ⟨_, rfl⟩
            rw [hy] at cx
            have HY := Lib.hid hy
            clear hy x3 hB1
            by_cases e0 : 0 ≤ y ∧ y < 64
            · by_cases e1 : WordCell y
              · have HW : Hid (decide (WordCell y) = true) := decide_eq_true e1
                have hok' := hok.succ (by rw [HY.out]; exact e1)
                clear e1 hok
                go_wp2_with (first | (go_at_call 97; refine (i_isCell_yes _ _ e0.1 e0.2).mono ?_; rintro e w' ⟨rfl, rfl⟩) | (go_at_call 100; refine (i_isWordCell _ _ _ e0 HW).mono ?_; rintro e w' ⟨rfl, rfl⟩))
                go_round
                case rel => exact ⟨k + 1, by omega, by go_num, hok'⟩
                case measure => simp [intOf]; omega
              · have HW : Hid (decide (WordCell y) = false) := decide_eq_false e1
                have HNO : Hid (¬ ValidR ⟨s, zs, p⟩) := fun h => not_wc HN.out hlt HY.out e1 (hnot.out h).2.2.2.2.2
                clear e1 hok
                go_wp2_with (first | (go_at_call 97; refine (i_isCell_yes _ _ e0.1 e0.2).mono ?_; rintro e w' ⟨rfl, rfl⟩) | (go_at_call 100; refine (i_isWordCell _ _ _ e0 HW).mono ?_; rintro e w' ⟨rfl, rfl⟩))
                go_ret
                exact ⟨ret_bool (decide_eq_false HNO.out).symm, (Below.refl _ _).alloc (Nat.le_refl _) _⟩
            · have e0' : y < 0 ∨ 64 ≤ y := by omega
              have HNO : Hid (¬ ValidR ⟨s, zs, p⟩) := fun h => not_wc HN.out hlt HY.out (fun hw => by have := hw.1; omega) (hnot.out h).2.2.2.2.2
              clear e0
              go_wp2_with (go_at_call 97; refine (i_isCell_no _ _ e0').mono ?_; rintro e w' ⟨rfl, rfl⟩)
              go_ret
              exact ⟨ret_bool (decide_eq_false HNO.out).symm, (Below.refl _ _).alloc (Nat.le_refl _) _⟩
          · have HY : Hid (ValidR ⟨s, zs, p⟩) := hfin.out ⟨trivial, h11, h12, h21, h22⟩ (hok.all (by rw [HN.out]; omega))
            go_wp2
            go_ret
            exact ⟨ret_bool (decide_eq_true HY.out).symm, (Below.refl _ _).alloc (Nat.le_refl _) _⟩
      · have HNO : Hid (¬ ValidR ⟨s, zs, p⟩) := fun h => h2 ⟨(hnot.out h).2.2.2.1, (hnot.out h).2.2.2.2.1⟩
        have h2' : n < 1 ∨ 2 < n := by omega
        obtain ⟨h11, h12⟩ := h1
        have d1 : decide (p < 0) = false := decide_eq_false (by omega)
        have d2 : decide (4 < p) = false := decide_eq_false (by omega)
        rcases h2' with h2' | h2'
        · go_enter Try.func70, Try.ntmps70
          go_wp2_with (go_at_call 72; refine (HS _).out.mono ?_; rintro e w' ⟨rfl, rfl⟩)
          go_ret
          exact ⟨ret_bool (decide_eq_false HNO.out).symm, (Below.refl _ _).alloc (Nat.le_refl _) _⟩
        · have d3 : decide ((n : Int) < 1) = false := decide_eq_false (by omega)
          go_enter Try.func70, Try.ntmps70
          go_wp2_with (go_at_call 72; refine (HS _).out.mono ?_; rintro e w' ⟨rfl, rfl⟩)
          go_ret
          exact ⟨ret_bool (decide_eq_false HNO.out).symm, (Below.refl _ _).alloc (Nat.le_refl _) _⟩
    · have HNO : Hid (¬ ValidR ⟨s, zs, p⟩) := fun h => h1 ⟨(hnot.out h).2.1, (hnot.out h).2.2.1⟩
      have h1' : p < 0 ∨ 4 < p := by omega
      rcases h1' with h1' | h1'
      · have d1 : decide (p < 0) = true := decide_eq_true (by omega)
        go_enter Try.func70, Try.ntmps70
        go_wp2_with (go_at_call 72; refine (HS _).out.mono ?_; rintro e w' ⟨rfl, rfl⟩)
        go_ret
        exact ⟨ret_bool (decide_eq_false HNO.out).symm, (Below.refl _ _).alloc (Nat.le_refl _) _⟩
      · have d1 : decide (p < 0) = false := decide_eq_false (by omega)
        have d2 : decide (4 < p) = true := decide_eq_true (by omega)
        go_enter Try.func70, Try.ntmps70
        go_wp2_with (go_at_call 72; refine (HS _).out.mono ?_; rintro e w' ⟨rfl, rfl⟩)
        go_ret
        exact ⟨ret_bool (decide_eq_false HNO.out).symm, (Below.refl _ _).alloc (Nat.le_refl _) _⟩

theorem s_wordCell_v (z : Int) (b : Bool) (w : World) (h : Hid (decide (WordCell z) = b)) :
    Calls Try.prog 102 #[.int .i64 z] w fun e w' => e = .returned (.bool b) ∧ Below w.heap.size w w' := by
  have := s_wordCell z w
  rw [h.out] at this
  exact this
set_option maxHeartbeats 4000000 in
theorem s_validRule (w : World) (u : Value) (r : PRule) (hx : IntsAt w u r.c) (hs : r.t.size ≤ 9223372036854775807) :
    Calls Try.prog 74 #[.agg #[.string r.t, u, .int .i64 r.p]] w fun e w' => e = .returned (.bool (decide (ValidR r))) ∧ Below w.heap.size w w' := by
  obtain ⟨s, zs, p⟩ := r
  simp only at hx hs ⊢
  have HX := Lib.hid hx
  obtain ⟨a, cp, rfl, x1, x2, x3⟩ := hx
  obtain ⟨n, hn⟩ : ∃ n, zs.length = n := ⟨_, rfl⟩
  rw [hn] at x1 x3 HX ⊢
  have HN := Lib.hid hn
  clear hn
  have HS : ∀ wx, Hid (Calls Try.prog 75 #[.string s] wx fun e w' => e = .returned (.bool (decide (SmallB s.data.toList))) ∧ wx = w') := fun wx => s_isWord s wx hs
  obtain ⟨b, hb⟩ : ∃ b, decide (SmallB s.data.toList) = b := ⟨_, rfl⟩
  rw [hb] at HS
  have HB := Lib.hid hb
  clear hb
  have hsz := wd_size s
  have HV : Hid (ValidR ⟨s, zs, p⟩ ↔ b = true ∧ s.size ≤ 6 ∧ (1 ≤ n ∧ n ≤ 2) ∧ (0 ≤ p ∧ p ≤ 4) ∧ ∀ z ∈ zs, WordCell z) := by
    have h3 := HN.out
    constructor
    · intro h
      have h1 := h.1
      have h2 := h.2.1
      simp only at h2
      exact ⟨by rw [← HB.out]; exact decide_eq_true ⟨h1.1, h1.2.2⟩, by have := h1.2.1; simp only at this; omega, by omega, h.2.2.2, h.2.2.1⟩
    · rintro ⟨h1, h2, h4, h5, h6⟩
      rw [← HB.out] at h1
      have h7 : SmallB s.data.toList := of_decide_eq_true h1
      exact ⟨⟨h7.1, by show s.data.toList.length ≤ 6; omega, h7.2⟩, by show 1 ≤ zs.length ∧ zs.length ≤ 2; omega, h6, h5⟩
  clear hsz
  obtain ⟨W1, hW1⟩ : ∃ W1, w.alloc (.cells #[.string s, .slice a n cp, .int .i64 p] 36) = W1 := ⟨_, rfl⟩
  have hB1 : Below w.heap.size w W1 := by rw [← hW1]; exact (Below.refl _ _).alloc (Nat.le_refl _) _
  have hc0 : W1.cell? ⟨w.heap.size, 0, none⟩ = some (.string s) := by rw [← hW1, cell_of_row _ w.heap.size 0 _ _ _ (heap_alloc_new w _)]; rfl
  have hc1 : W1.cell? ⟨w.heap.size, 1, none⟩ = some (.slice a n cp) := by rw [← hW1, cell_of_row _ w.heap.size 1 _ _ _ (heap_alloc_new w _)]; rfl
  have hc2 : W1.cell? ⟨w.heap.size, 2, none⟩ = some (.int .i64 p) := by rw [← hW1, cell_of_row _ w.heap.size 2 _ _ _ (heap_alloc_new w _)]; rfl
  have HX1 : Hid (IntsAt W1 (.slice a n cp) zs) := HX.out.below hB1
  go_enter Try.func74, Try.ntmps74
  go_wp2
  go_loopw [3] (fun i wr => ∃ k : Nat, k ≤ n ∧ i = .int .i64 k ∧ WcUp zs k ∧ Below W1.heap.size W1 wr) (fun i _ => n - (intOf i).toNat)
  case atStart => exact ⟨0, Nat.zero_le _, rfl, WcUp.zero _, by first | exact Below.refl _ _ | (rw [← hW1]; exact Below.refl _ _)⟩
  case round =>
    obtain ⟨k, hk, rfl, hok, hb⟩ := hrel
    have g0 := (hb.cell (World.block_lt_of_cell? W1 _ hc0)).trans hc0
    have g1 := (hb.cell (World.block_lt_of_cell? W1 _ hc1)).trans hc1
    have g2 := (hb.cell (World.block_lt_of_cell? W1 _ hc2)).trans hc2
    have hB2 := below_next hB1 hb
    clear hc0 hc1 hc2 hB1 hW1
    by_cases hlt : k < n
    · rcases x3 with rfl | ⟨g, off, rfl, x3⟩
      · exact absurd HN.out (by simp; omega)
      have cx := (hB2.cell (World.block_lt_of_cell? w _ (x3 k hlt))).trans (x3 k hlt)
      obtain ⟨y, hy⟩ : ∃ y, zs.getD k 0 = y := ⟨_, rfl⟩
      rw [hy] at cx
      have HY := Lib.hid hy
      clear hy x3
      by_cases e : WordCell y
      · have HW : Hid (decide (WordCell y) = true) := decide_eq_true e
        have hok' := hok.succ (by rw [HY.out]; exact e)
        clear e hok
        go_wp2_with (go_at_call 102; refine (s_wordCell_v _ _ _ HW).mono ?_; rintro e w2 ⟨rfl, hb2⟩)
        go_roundw
        case rel => exact ⟨k + 1, by omega, by go_num, hok', below_next hb hb2⟩
        case measure => simp [intOf]; omega
      · have HW : Hid (decide (WordCell y) = false) := decide_eq_false e
        have HNO : Hid (¬ ValidR ⟨s, zs, p⟩) := fun h => not_wc HN.out hlt HY.out e (HV.out.1 h).2.2.2.2
        clear e hok
        go_wp2_with (go_at_call 102; refine (s_wordCell_v _ _ _ HW).mono ?_; rintro e w2 ⟨rfl, hb2⟩)
        go_ret
        exact ⟨ret_bool (decide_eq_false HNO.out).symm, below_next hB2 hb2⟩
    · have hall : Hid (∀ z ∈ zs, WordCell z) := hok.all (by rw [HN.out]; omega)
      clear hok
      cases b with
      | false =>
        have HNO : Hid (¬ ValidR ⟨s, zs, p⟩) := fun h => absurd (HV.out.1 h).1 (by simp)
        go_wp2_with (go_at_call 75; refine (HS _).out.mono ?_; rintro e w' ⟨rfl, rfl⟩)
        go_ret
        exact ⟨ret_bool (decide_eq_false HNO.out).symm, hB2⟩
      | true =>
        by_cases c1 : s.size ≤ 6
        · have d1 : decide ((s.size : Int) ≤ 6) = true := decide_eq_true (by omega)
          by_cases c2 : 1 ≤ n ∧ n ≤ 2
          · by_cases c3 : 0 ≤ p ∧ p ≤ 4
            · have HY : Hid (ValidR ⟨s, zs, p⟩) := HV.out.2 ⟨rfl, c1, c2, c3, hall.out⟩
              go_wp2_with (first | (go_at_call 75; refine (HS _).out.mono ?_; rintro e w' ⟨rfl, rfl⟩) | (go_at_call 92; refine (inRange_yes _ _ _ _ (by omega) (by omega)).mono ?_; rintro e w' ⟨rfl, rfl⟩))
              go_ret
              exact ⟨ret_bool (decide_eq_true HY.out).symm, hB2⟩
            · have HNO : Hid (¬ ValidR ⟨s, zs, p⟩) := fun h => c3 (HV.out.1 h).2.2.2.1
              have c3' : p < 0 ∨ 4 < p := by omega
              clear c3
              go_wp2_with (first | (go_at_call 75; refine (HS _).out.mono ?_; rintro e w' ⟨rfl, rfl⟩) | (go_at_call 92; refine (inRange_yes _ _ _ _ (by omega) (by omega)).mono ?_; rintro e w' ⟨rfl, rfl⟩) | (go_at_call 92; refine (inRange_no _ _ _ _ (by omega)).mono ?_; rintro e w' ⟨rfl, rfl⟩))
              go_ret
              exact ⟨ret_bool (decide_eq_false HNO.out).symm, hB2⟩
          · have HNO : Hid (¬ ValidR ⟨s, zs, p⟩) := fun h => c2 (HV.out.1 h).2.2.1
            have c2' : (n : Int) < 1 ∨ 2 < (n : Int) := by omega
            clear c2
            go_wp2_with (first | (go_at_call 75; refine (HS _).out.mono ?_; rintro e w' ⟨rfl, rfl⟩) | (go_at_call 92; refine (inRange_no _ _ _ _ (by omega)).mono ?_; rintro e w' ⟨rfl, rfl⟩))
            go_ret
            exact ⟨ret_bool (decide_eq_false HNO.out).symm, hB2⟩
        · have d1 : decide ((s.size : Int) ≤ 6) = false := decide_eq_false (by omega)
          have HNO : Hid (¬ ValidR ⟨s, zs, p⟩) := fun h => c1 (HV.out.1 h).2.1
          go_wp2_with (go_at_call 75; refine (HS _).out.mono ?_; rintro e w' ⟨rfl, rfl⟩)
          go_ret
          exact ⟨ret_bool (decide_eq_false HNO.out).symm, hB2⟩
end Go.Proofs.Ytdjgodemeaneeaa
