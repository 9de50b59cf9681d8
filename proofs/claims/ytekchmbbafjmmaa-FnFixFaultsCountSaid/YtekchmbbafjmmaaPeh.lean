
/- canFix of the program: whether a fault can be put right. -/
import Derived.Test.YtekchmbbafjmmaaPef
import Derived.Test.YtekchmbbafjmmaaIsCell
namespace Go.Proofs.Ytekchmbbafjmmaa
open Go.RowKit

theorem p_within (n lo hi : Int) (w : World) (b : Bool) (hb : Hid (decide (lo ≤ n ∧ n ≤ hi) = b)) :
    Calls Try.prog 78 #[.int .i64 n, .int .i64 lo, .int .i64 hi] w fun e w' => e = .returned (.bool b) ∧ w = w' := by
  have hb := hb.out
  cases b with
  | true =>
    obtain ⟨h0, h1⟩ := of_decide_eq_true hb
    have d1 : decide (lo ≤ n) = true := decide_eq_true h0
    have d2 : decide (n ≤ hi) = true := decide_eq_true h1
    clear hb
    go_enter Try.func78, Try.ntmps78
    go_wp2
    go_ret
    exact ⟨rfl, rfl⟩
  | false =>
    have h := of_decide_eq_false hb
    clear hb
    by_cases h0 : lo ≤ n
    · have d1 : decide (lo ≤ n) = true := decide_eq_true h0
      have d2 : decide (n ≤ hi) = false := decide_eq_false (by omega)
      clear h
      go_enter Try.func78, Try.ntmps78
      go_wp2
      go_ret
      exact ⟨rfl, rfl⟩
    · have d1 : decide (lo ≤ n) = false := decide_eq_false h0
      clear h
      go_enter Try.func78, Try.ntmps78
      go_wp2
      go_ret
      exact ⟨rfl, rfl⟩
theorem p_cell (n : Int) (w : World) (b : Bool) (hb : Hid (decide (Cl n) = b)) :
    Calls Try.prog 49 #[.int .i64 n] w fun e w' => e = .returned (.bool b) ∧ w = w' := by
  have hb := hb.out
  cases b with
  | true =>
    have h := of_decide_eq_true hb
    exact i_isCell_yes n w h.1 (by have := h.2; omega)
  | false =>
    have h' : ¬ Cl n := of_decide_eq_false hb
    exact i_isCell_no n w (by unfold Cl at h'; omega)
/-- the fault lies in a block of its own -/
def BoxF (w : World) (g : Nat) (p : PF) : Prop := w.heap[g]? = some (.cells #[.int .i64 p.k, .int .i64 p.i, .int .i64 p.c] 42 (0, 0))
theorem BoxF.new (w : World) (p : PF) : BoxF (w.alloc (.cells #[.int .i64 p.k, .int .i64 p.i, .int .i64 p.c] 42)) w.heap.size p := heap_alloc_new w _
theorem BoxF.lt {w : World} {g : Nat} {p : PF} (h : BoxF w g p) : g < w.heap.size := (Array.getElem?_eq_some_iff.1 h).1
theorem BoxF.below {w w' : World} {g B : Nat} {p : PF} (h : BoxF w g p) (hb : Below B w w') (hg : g < B) : BoxF w' g p := (hb.block g hg).trans h
theorem BoxF.cells {w : World} {g : Nat} {k i c : Int} (h : BoxF w g ⟨k, i, c⟩) :
    w.cell? ⟨g, 0, none⟩ = some (.int .i64 k) ∧ w.cell? ⟨g, 1, none⟩ = some (.int .i64 i) ∧ w.cell? ⟨g, 2, none⟩ = some (.int .i64 c) := by
  refine ⟨?_, ?_, ?_⟩ <;> (rw [cell_of_row w g _ _ _ _ h]; rfl)
theorem fbox (w : World) (k i c : Int) : BoxF (w.alloc (.cells #[.int .i64 k, .int .i64 i, .int .i64 c] 42)) w.heap.size ⟨k, i, c⟩ ∧ Below w.heap.size w (w.alloc (.cells #[.int .i64 k, .int .i64 i, .int .i64 c] 42)) :=
  ⟨BoxF.new w ⟨k, i, c⟩, (Below.refl _ _).alloc (Nat.le_refl _) _⟩
set_option maxHeartbeats 4000000 in
theorem i_canFix (w : World) (u : Value) (A : List Int) (k i c : Int) (j : Nat) (t : Bool) (hA : IntsAt w u A) (ht : Hid (decide (FixOk A ⟨k, i, c⟩ j) = t)) :
    Calls Try.prog 66 #[u, .agg #[.int .i64 k, .int .i64 i, .int .i64 c], .int .i64 j] w fun e w' => e = .returned (.bool t) ∧ Below w.heap.size w w' := by
  have ht := ht.out
  have HA := keptI hA
  obtain ⟨aa, na, ca, rfl, hna, _, x2, _⟩ := hA.partsI
  have HN := Lib.hid hna
  obtain ⟨hB, hb⟩ := fbox w k i c
  have HBX := keptI hb
  clear hA hb
  by_cases h1 : Cl c
  · have HC : Hid (decide (Cl c) = true) := decide_eq_true h1
    by_cases h2 : (j : Int) ≤ i ∧ i ≤ (na : Int)
    · have HW : Hid (decide ((j : Int) ≤ i ∧ i ≤ (na : Int)) = true) := decide_eq_true h2
      obtain ⟨x, rfl⟩ : ∃ x : Nat, i = x := ⟨i.toNat, by omega⟩
      by_cases h3 : k = 2
      · subst h3
        have HT : Hid (t = true) := by show _ = _; rw [← ht]; exact decide_eq_true ⟨h1, by rw [HN.out]; exact h2, .inl rfl⟩
        clear ht h1 h2 hna
        go_enter Try.func66, Try.ntmps66
        go_wp2_with fail
        generalize (w.alloc (.cells #[.int .i64 2, .int .i64 (x : Int), .int .i64 c] 42)) = wA at hB HBX ⊢
        obtain ⟨c0, c1, c2⟩ := hB.cells
        clear hB
        refine (p_cell _ _ true HC).mono ?_
        rintro e w' ⟨rfl, rfl⟩
        go_wp2_with fail
        refine (p_within _ _ _ _ true HW).mono ?_
        rintro e w' ⟨rfl, rfl⟩
        go_wp2
        go_ret
        exact ⟨by rw [HT.out]; rfl, HBX.out⟩
      · have e1 : (k == 2) = false := by simp [h3]
        have e2 : decide (k = 2) = false := decide_eq_false h3
        by_cases h4 : x = na
        · subst h4
          have HT : Hid (t = false) := by show _ = _; rw [← ht]; exact decide_eq_false (fun h => by rcases h.2.2 with h | h; exact h3 h; have := h.1; have := HN.out; simp only at *; omega)
          clear ht h1 h2 hna h3
          go_enter Try.func66, Try.ntmps66
          go_wp2_with fail
          generalize (w.alloc (.cells #[.int .i64 k, .int .i64 (x : Int), .int .i64 c] 42)) = wA at hB HBX ⊢
          obtain ⟨c0, c1, c2⟩ := hB.cells
          clear hB
          refine (p_cell _ _ true HC).mono ?_
          rintro e w' ⟨rfl, rfl⟩
          go_wp2_with fail
          refine (p_within _ _ _ _ true HW).mono ?_
          rintro e w' ⟨rfl, rfl⟩
          go_wp2
          go_ret
          exact ⟨by rw [HT.out]; rfl, HBX.out⟩
        · obtain ⟨P, hP⟩ : ∃ P, A.getD x 0 = P := ⟨_, rfl⟩
          have hx : x < na := by omega
          have e3 : ((x : Int) == (na : Int)) = false := by simp; omega
          have e4 : decide ((x : Int) = (na : Int)) = false := decide_eq_false (by omega)
          have e5 : decide (x = na) = false := decide_eq_false h4
          have e6 : (x == na) = false := by simp; omega
          have q1 : (x : Int) < (na : Int) := by omega
          have HF : Hid (t = decide ((k = 0 ∧ P ≠ c) ∨ (k = 1 ∧ P = c))) := by
            show _ = _
            rw [← ht, decide_eq_decide]
            unfold FixOk
            simp only [Int.toNat_natCast, hP]
            constructor
            · intro h
              rcases h.2.2 with h | h
              · exact absurd h h3
              · exact h.2
            · intro h
              exact ⟨h1, by rw [HN.out]; exact h2, .inr ⟨by rw [HN.out]; exact q1, h⟩⟩
          obtain ⟨aq, cq, eq, _, _, xa3⟩ := HA.out
          injection eq with eq1 eq2 eq3
          clear eq2 eq3
          subst eq1
          rcases xa3 with xa3 | ⟨ga, oa, rfl, xa3⟩
          · have := HN.out; rw [xa3] at this; simp at this; omega
          have ea0 := xa3 x (by rw [HN.out]; omega)
          rw [hP] at ea0
          have EA : Hid (∀ wy, Below w.heap.size w wy → wy.cell? ⟨ga, oa + x, none⟩ = some (.int .i64 P)) := fun wy hbx => (hbx.cell (World.block_lt_of_cell? w _ ea0)).trans ea0
          clear ea0 xa3 ht h1 h2 hna hP
          by_cases hs : P = c
          · subst hs
            by_cases hk0 : k = 0
            · subst hk0
              have HT : Hid (t = false) := by show _ = _; rw [HF.out]; simp
              clear h3
              go_enter Try.func66, Try.ntmps66
              go_wp2_with fail
              generalize (w.alloc (.cells #[.int .i64 0, .int .i64 (x : Int), .int .i64 P] 42)) = wA at hB HBX ⊢
              obtain ⟨c0, c1, c2⟩ := hB.cells
              clear hB
              have ea := EA.out _ HBX.out
              refine (p_cell _ _ true HC).mono ?_
              rintro e w' ⟨rfl, rfl⟩
              go_wp2_with fail
              refine (p_within _ _ _ _ true HW).mono ?_
              rintro e w' ⟨rfl, rfl⟩
              go_wp2_with fail
              go_quiet (fail)
              go_wp2
              go_ret
              exact ⟨by rw [HT.out]; rfl, below_drewNP HBX.out _⟩
            · by_cases hk1 : k = 1
              · subst hk1
                have HT : Hid (t = true) := by show _ = _; rw [HF.out]; simp
                clear h3
                go_enter Try.func66, Try.ntmps66
                go_wp2_with fail
                generalize (w.alloc (.cells #[.int .i64 1, .int .i64 (x : Int), .int .i64 P] 42)) = wA at hB HBX ⊢
                obtain ⟨c0, c1, c2⟩ := hB.cells
                clear hB
                have ea := EA.out _ HBX.out
                refine (p_cell _ _ true HC).mono ?_
                rintro e w' ⟨rfl, rfl⟩
                go_wp2_with fail
                refine (p_within _ _ _ _ true HW).mono ?_
                rintro e w' ⟨rfl, rfl⟩
                go_wp2_with fail
                go_quiet (fail)
                go_wp2
                go_ret
                exact ⟨by rw [HT.out]; rfl, below_drewNP HBX.out _⟩
              · have g1 : (k == 0) = false := by simp [hk0]
                have g2 : decide (k = 0) = false := decide_eq_false hk0
                have g3 : (k == 1) = false := by simp [hk1]
                have g4 : decide (k = 1) = false := decide_eq_false hk1
                have HT : Hid (t = false) := by show _ = _; rw [HF.out]; simp [hk0, hk1]
                clear h3
                go_enter Try.func66, Try.ntmps66
                go_wp2_with fail
                generalize (w.alloc (.cells #[.int .i64 k, .int .i64 (x : Int), .int .i64 P] 42)) = wA at hB HBX ⊢
                obtain ⟨c0, c1, c2⟩ := hB.cells
                clear hB
                have ea := EA.out _ HBX.out
                refine (p_cell _ _ true HC).mono ?_
                rintro e w' ⟨rfl, rfl⟩
                go_wp2_with fail
                refine (p_within _ _ _ _ true HW).mono ?_
                rintro e w' ⟨rfl, rfl⟩
                go_wp2_with fail
                go_quiet (fail)
                go_wp2
                go_ret
                exact ⟨by rw [HT.out]; rfl, below_drewNP HBX.out _⟩
          · have f1 : (P == c) = false := by simp [hs]
            have f2 : decide (P = c) = false := decide_eq_false hs
            by_cases hk0 : k = 0
            · subst hk0
              have HT : Hid (t = true) := by show _ = _; rw [HF.out]; simp [hs]
              clear h3
              go_enter Try.func66, Try.ntmps66
              go_wp2_with fail
              generalize (w.alloc (.cells #[.int .i64 0, .int .i64 (x : Int), .int .i64 c] 42)) = wA at hB HBX ⊢
              obtain ⟨c0, c1, c2⟩ := hB.cells
              clear hB
              have ea := EA.out _ HBX.out
              refine (p_cell _ _ true HC).mono ?_
              rintro e w' ⟨rfl, rfl⟩
              go_wp2_with fail
              refine (p_within _ _ _ _ true HW).mono ?_
              rintro e w' ⟨rfl, rfl⟩
              go_wp2_with fail
              go_quiet (fail)
              go_wp2
              go_ret
              exact ⟨by rw [HT.out]; rfl, below_drewNP HBX.out _⟩
            · by_cases hk1 : k = 1
              · subst hk1
                have HT : Hid (t = false) := by show _ = _; rw [HF.out]; simp [hs]
                clear h3
                go_enter Try.func66, Try.ntmps66
                go_wp2_with fail
                generalize (w.alloc (.cells #[.int .i64 1, .int .i64 (x : Int), .int .i64 c] 42)) = wA at hB HBX ⊢
                obtain ⟨c0, c1, c2⟩ := hB.cells
                clear hB
                have ea := EA.out _ HBX.out
                refine (p_cell _ _ true HC).mono ?_
                rintro e w' ⟨rfl, rfl⟩
                go_wp2_with fail
                refine (p_within _ _ _ _ true HW).mono ?_
                rintro e w' ⟨rfl, rfl⟩
                go_wp2_with fail
                go_quiet (fail)
                go_wp2
                go_ret
                exact ⟨by rw [HT.out]; rfl, below_drewNP HBX.out _⟩
              · have g1 : (k == 0) = false := by simp [hk0]
                have g2 : decide (k = 0) = false := decide_eq_false hk0
                have g3 : (k == 1) = false := by simp [hk1]
                have g4 : decide (k = 1) = false := decide_eq_false hk1
                have HT : Hid (t = false) := by show _ = _; rw [HF.out]; simp [hk0, hk1]
                clear h3
                go_enter Try.func66, Try.ntmps66
                go_wp2_with fail
                generalize (w.alloc (.cells #[.int .i64 k, .int .i64 (x : Int), .int .i64 c] 42)) = wA at hB HBX ⊢
                obtain ⟨c0, c1, c2⟩ := hB.cells
                clear hB
                have ea := EA.out _ HBX.out
                refine (p_cell _ _ true HC).mono ?_
                rintro e w' ⟨rfl, rfl⟩
                go_wp2_with fail
                refine (p_within _ _ _ _ true HW).mono ?_
                rintro e w' ⟨rfl, rfl⟩
                go_wp2_with fail
                go_quiet (fail)
                go_wp2
                go_ret
                exact ⟨by rw [HT.out]; rfl, below_drewNP HBX.out _⟩
    · have HW : Hid (decide ((j : Int) ≤ i ∧ i ≤ (na : Int)) = false) := decide_eq_false h2
      have HT : Hid (t = false) := by show _ = _; rw [← ht]; exact decide_eq_false (fun h => h2 (by rw [← HN.out]; exact h.2.1))
      clear ht h1 h2 hna
      go_enter Try.func66, Try.ntmps66
      go_wp2_with fail
      generalize (w.alloc (.cells #[.int .i64 k, .int .i64 i, .int .i64 c] 42)) = wA at hB HBX ⊢
      obtain ⟨c0, c1, c2⟩ := hB.cells
      clear hB
      refine (p_cell _ _ true HC).mono ?_
      rintro e w' ⟨rfl, rfl⟩
      go_wp2_with fail
      refine (p_within _ _ _ _ false HW).mono ?_
      rintro e w' ⟨rfl, rfl⟩
      go_wp2
      go_ret
      exact ⟨by rw [HT.out]; rfl, HBX.out⟩
  · have HC : Hid (decide (Cl c) = false) := decide_eq_false h1
    have HT : Hid (t = false) := by show _ = _; rw [← ht]; exact decide_eq_false (fun h => h1 h.1)
    clear ht h1 hna
    go_enter Try.func66, Try.ntmps66
    go_wp2_with fail
    generalize (w.alloc (.cells #[.int .i64 k, .int .i64 i, .int .i64 c] 42)) = wA at hB HBX ⊢
    obtain ⟨c0, c1, c2⟩ := hB.cells
    clear hB
    refine (p_cell _ _ false HC).mono ?_
    rintro e w' ⟨rfl, rfl⟩
    go_wp2
    go_ret
    exact ⟨by rw [HT.out]; rfl, HBX.out⟩
end Go.Proofs.Ytekchmbbafjmmaa
