
/- ShiftEdit on both sides. -/
import Derived.Test.YthlamidlcbnchaaEdb
import Derived.Test.YthlamidlcbnchaaReg
import Derived.Deep.RegionHeld3
import Derived.StillTailTactics
import Derived.Deep.Cut
namespace Go.Proofs.Ythlamidlcbnchaa
open Go.RowKit

/-- the first edit ends before the second one begins, or where it begins and begins before that -/
def Bef (p c p2 : Int) : Prop := p + c < p2 ∨ (p + c = p2 ∧ p < p2)
instance (p c p2 : Int) : Decidable (Bef p c p2) := inferInstanceAs (Decidable (_ ∨ _))
def shP (p c : Int) (t : ByteArray) (p2 c2 : Int) (t2 : ByteArray) (many : Int) : Option Int :=
  if CanE p c t many ∧ CanE p2 c2 t2 many then (if Bef p c p2 then some p else if Bef p2 c2 p then some (p + ((t2.size : Int) - c2)) else none) else none
set_option maxHeartbeats 2000000 in
theorem i_isBefore (p c p2 c2 : Int) (t t2 : ByteArray) (b : Bool) (w : World) (hp : 0 ≤ p ∧ p ≤ 60) (hc : 0 ≤ c ∧ c ≤ 60) (hb : Hid (decide (Bef p c p2) = b)) :
    Calls Try.prog 48 #[edV p c t, edV p2 c2 t2] w fun e w' => e = .returned (.bool b) ∧ Below w.heap.size w w' := by
  have HP := Lib.hid hp
  have HCc := Lib.hid hc
  clear hp hc
  by_cases h1 : p + c < p2
  · have HD : Hid (decide (Bef p c p2) = true) := decide_eq_true (.inl h1)
    obtain rfl : b = true := by rw [← hb.out]; exact HD.out
    have d1 : decide (p + c < p2) = true := decide_eq_true h1
    obtain ⟨E1, E2, HB⟩ := ebox2 w p c t p2 c2 t2
    go_enter Try.func48, Try.ntmps48
    have HCE : Hid (∀ wy, Calls Try.prog 35 #[edV p c t] wy fun e w' => e = .returned (.int .i64 (p + c)) ∧ Below wy.heap.size wy w') := fun wy => i_cutEnd p c t wy HP.out HCc.out
    go_wp2_with fail
    generalize ((w.alloc (.cells #[.int .i64 p, .int .i64 c, .string t] 24)).alloc (.cells #[.int .i64 p2, .int .i64 c2, .string t2] 24)) = wA at E1 E2 HB ⊢
    have EA : Hid (∀ wy, Below wA.heap.size wA wy → (wy.cell? ⟨w.heap.size, 0, none⟩ = some (.int .i64 p) ∧ wy.cell? ⟨w.heap.size, 1, none⟩ = some (.int .i64 c) ∧ wy.cell? ⟨w.heap.size, 2, none⟩ = some (.string t)) ∧ (wy.cell? ⟨w.heap.size + 1, 0, none⟩ = some (.int .i64 p2) ∧ wy.cell? ⟨w.heap.size + 1, 1, none⟩ = some (.int .i64 c2) ∧ wy.cell? ⟨w.heap.size + 1, 2, none⟩ = some (.string t2)) ∧ Below wA.heap.size wA wy) := fun wy hb => ⟨(E1.below hb E1.lt).cells, (E2.below hb E2.lt).cells, hb⟩
    have HB0 := Lib.hid HB
    clear HB E1 E2
    refine wp_region_held_drew (S := fun wy => (wy.cell? ⟨w.heap.size, 0, none⟩ = some (.int .i64 p) ∧ wy.cell? ⟨w.heap.size, 1, none⟩ = some (.int .i64 c) ∧ wy.cell? ⟨w.heap.size, 2, none⟩ = some (.string t)) ∧ (wy.cell? ⟨w.heap.size + 1, 0, none⟩ = some (.int .i64 p2) ∧ wy.cell? ⟨w.heap.size + 1, 1, none⟩ = some (.int .i64 c2) ∧ wy.cell? ⟨w.heap.size + 1, 2, none⟩ = some (.string t2)) ∧ Below wA.heap.size wA wy) (by kernel_rfl) (EA.out _ (Below.refl _ _).drew) (fun hHeld => ?_)
    refine reg_take (i := 0) (d := 5) (edV p c t) rfl rfl (by kernel_rfl) (by kernel_rfl) (by kernel_rfl) (fun _ _ _ h => h) (by rfl) (by intro wq hq; obtain ⟨⟨q0, q1, q2⟩, ⟨q3, q4, q5⟩, _⟩ := hq; go_simp) (by assumption) ?_
    simp only [Act.put, List.setIfInBounds_toArray, List.set_cons_zero, List.set_cons_succ]
    refine reg_take (i := 2) (d := 7) (.pointer (some ⟨w.heap.size + 1, 0, none⟩)) rfl rfl (by kernel_rfl) (by kernel_rfl) (by kernel_rfl) (fun _ _ _ h => h) (by rfl) (by intro wq hq; obtain ⟨⟨q0, q1, q2⟩, ⟨q3, q4, q5⟩, _⟩ := hq; go_simp) (by assumption) ?_
    simp only [Act.put, List.setIfInBounds_toArray, List.set_cons_zero, List.set_cons_succ]
    refine reg_take (i := 3) (d := 8) (.int .i64 p2) rfl rfl (by kernel_rfl) (by kernel_rfl) (by kernel_rfl) (fun _ _ _ h => h) (by rfl) (by intro wq hq; obtain ⟨⟨q0, q1, q2⟩, ⟨q3, q4, q5⟩, _⟩ := hq; go_simp) (by assumption) ?_
    simp only [Act.put, List.setIfInBounds_toArray, List.set_cons_zero, List.set_cons_succ]
    refine wpAnyH_ready (rs := [1]) (by kernel_rfl) (by simp) ?_
    refine AllReadyH.cons rfl (fun K hK => ?_) AllReadyH.nil
    go_simp
    refine (HCE.out wA.drew).mono ?_
    rintro e w3 ⟨rfl, hb3⟩
    have hB3 : Below wA.heap.size wA w3 := (Below.refl _ _).drew.trans hb3
    clear hb3
    refine hK.out _ _ (EA.out _ hB3) (fun hHeld2 => ?_)
    clear hK hHeld
    have hHeld := hHeld2
    clear hHeld2
    refine reg_take (i := 4) (d := 9) (.bool true) rfl rfl (by kernel_rfl) (by kernel_rfl) (by kernel_rfl) (fun _ _ _ h => h) (by rfl) (by intro wq hq; obtain ⟨⟨q0, q1, q2⟩, ⟨q3, q4, q5⟩, _⟩ := hq; go_simp) (by assumption) ?_
    simp only [Act.put, List.setIfInBounds_toArray, List.set_cons_zero, List.set_cons_succ]
    refine reg_take (i := 5) (d := 10) (.bool true) rfl rfl (by kernel_rfl) (by kernel_rfl) (by kernel_rfl) (fun _ _ _ h => h) (by rfl) (by intro wq hq; obtain ⟨⟨q0, q1, q2⟩, ⟨q3, q4, q5⟩, _⟩ := hq; go_simp) (by assumption) ?_
    simp only [Act.put, List.setIfInBounds_toArray, List.set_cons_zero, List.set_cons_succ]
    refine reg_skip (i := 6) (d := 11) rfl rfl (by kernel_rfl) (by kernel_rfl) (by kernel_rfl) (fun _ _ _ h => h) (by rfl) (by assumption) ?_
    simp only [Act.put, List.setIfInBounds_toArray, List.set_cons_zero, List.set_cons_succ]
    refine reg_skip (i := 7) (d := 12) rfl rfl (by kernel_rfl) (by kernel_rfl) (by kernel_rfl) (fun _ _ _ h => h) (by rfl) (by assumption) ?_
    simp only [Act.put, List.setIfInBounds_toArray, List.set_cons_zero, List.set_cons_succ]
    refine reg_skip (i := 8) (d := 13) rfl rfl (by kernel_rfl) (by kernel_rfl) (by kernel_rfl) (fun _ _ _ h => h) (by rfl) (by assumption) ?_
    simp only [Act.put, List.setIfInBounds_toArray, List.set_cons_zero, List.set_cons_succ]
    refine reg_skip (i := 9) (d := 14) rfl rfl (by kernel_rfl) (by kernel_rfl) (by kernel_rfl) (fun _ _ _ h => h) (by rfl) (by assumption) ?_
    simp only [Act.put, List.setIfInBounds_toArray, List.set_cons_zero, List.set_cons_succ]
    refine reg_skip (i := 10) (d := 15) rfl rfl (by kernel_rfl) (by kernel_rfl) (by kernel_rfl) (fun _ _ _ h => h) (by rfl) (by assumption) ?_
    simp only [Act.put, List.setIfInBounds_toArray, List.set_cons_zero, List.set_cons_succ]
    refine reg_skip (i := 11) (d := 16) rfl rfl (by kernel_rfl) (by kernel_rfl) (by kernel_rfl) (fun _ _ _ h => h) (by rfl) (by assumption) ?_
    simp only [Act.put, List.setIfInBounds_toArray, List.set_cons_zero, List.set_cons_succ]
    refine reg_skip (i := 12) (d := 17) rfl rfl (by kernel_rfl) (by kernel_rfl) (by kernel_rfl) (fun _ _ _ h => h) (by rfl) (by assumption) ?_
    simp only [Act.put, List.setIfInBounds_toArray, List.set_cons_zero, List.set_cons_succ]
    refine reg_skip (i := 13) (d := 18) rfl rfl (by kernel_rfl) (by kernel_rfl) (by kernel_rfl) (fun _ _ _ h => h) (by rfl) (by assumption) ?_
    simp only [Act.put, List.setIfInBounds_toArray, List.set_cons_zero, List.set_cons_succ]
    refine reg_skip (i := 14) (d := 19) rfl rfl (by kernel_rfl) (by kernel_rfl) (by kernel_rfl) (fun _ _ _ h => h) (by rfl) (by assumption) ?_
    simp only [Act.put, List.setIfInBounds_toArray, List.set_cons_zero, List.set_cons_succ]
    refine reg_skip (i := 15) (d := 20) rfl rfl (by kernel_rfl) (by kernel_rfl) (by kernel_rfl) (fun _ _ _ h => h) (by rfl) (by assumption) ?_
    simp only [Act.put, List.setIfInBounds_toArray, List.set_cons_zero, List.set_cons_succ]
    refine reg_skip (i := 16) (d := 21) rfl rfl (by kernel_rfl) (by kernel_rfl) (by kernel_rfl) (fun _ _ _ h => h) (by rfl) (by assumption) ?_
    simp only [Act.put, List.setIfInBounds_toArray, List.set_cons_zero, List.set_cons_succ]
    refine reg_skip (i := 17) (d := 22) rfl rfl (by kernel_rfl) (by kernel_rfl) (by kernel_rfl) (fun _ _ _ h => h) (by rfl) (by assumption) ?_
    simp only [Act.put, List.setIfInBounds_toArray, List.set_cons_zero, List.set_cons_succ]
    refine reg_take (i := 18) (d := 23) (.bool true) rfl rfl (by kernel_rfl) (by kernel_rfl) (by kernel_rfl) (fun _ _ _ h => h) (by rfl) (by intro wq hq; obtain ⟨⟨q0, q1, q2⟩, ⟨q3, q4, q5⟩, _⟩ := hq; go_simp) (by assumption) ?_
    simp only [Act.put, List.setIfInBounds_toArray, List.set_cons_zero, List.set_cons_succ]
    refine reg_take (i := 19) (d := 4) (.bool true) rfl rfl (by kernel_rfl) (by kernel_rfl) (by kernel_rfl) (fun _ _ _ h => h) (by rfl) (by intro wq hq; obtain ⟨⟨q0, q1, q2⟩, ⟨q3, q4, q5⟩, _⟩ := hq; go_simp) (by assumption) ?_
    simp only [Act.put, List.setIfInBounds_toArray, List.set_cons_zero, List.set_cons_succ]
    refine wpAnyH_done (by kernel_rfl) ?_ _
    all_goals
      go_wp2
      go_ret
      exact ⟨rfl, below_next HB0.out hB3⟩
  · have d1 : decide (p + c < p2) = false := decide_eq_false h1
    by_cases h2 : p + c = p2
    · have d2 : ((p + c : Int) == p2) = true := by simp; exact h2
      by_cases h3 : p < p2
      · have HD : Hid (decide (Bef p c p2) = true) := decide_eq_true (.inr ⟨h2, h3⟩)
        obtain rfl : b = true := by rw [← hb.out]; exact HD.out
        have d3 : decide (p < p2) = true := decide_eq_true h3
        clear h2
        obtain ⟨E1, E2, HB⟩ := ebox2 w p c t p2 c2 t2
        go_enter Try.func48, Try.ntmps48
        have HCE : Hid (∀ wy, Calls Try.prog 35 #[edV p c t] wy fun e w' => e = .returned (.int .i64 (p + c)) ∧ Below wy.heap.size wy w') := fun wy => i_cutEnd p c t wy HP.out HCc.out
        go_wp2_with fail
        generalize ((w.alloc (.cells #[.int .i64 p, .int .i64 c, .string t] 24)).alloc (.cells #[.int .i64 p2, .int .i64 c2, .string t2] 24)) = wA at E1 E2 HB ⊢
        have EA : Hid (∀ wy, Below wA.heap.size wA wy → (wy.cell? ⟨w.heap.size, 0, none⟩ = some (.int .i64 p) ∧ wy.cell? ⟨w.heap.size, 1, none⟩ = some (.int .i64 c) ∧ wy.cell? ⟨w.heap.size, 2, none⟩ = some (.string t)) ∧ (wy.cell? ⟨w.heap.size + 1, 0, none⟩ = some (.int .i64 p2) ∧ wy.cell? ⟨w.heap.size + 1, 1, none⟩ = some (.int .i64 c2) ∧ wy.cell? ⟨w.heap.size + 1, 2, none⟩ = some (.string t2)) ∧ Below wA.heap.size wA wy) := fun wy hb => ⟨(E1.below hb E1.lt).cells, (E2.below hb E2.lt).cells, hb⟩
        have HB0 := Lib.hid HB
        clear HB E1 E2
        refine wp_region_held_drew (S := fun wy => (wy.cell? ⟨w.heap.size, 0, none⟩ = some (.int .i64 p) ∧ wy.cell? ⟨w.heap.size, 1, none⟩ = some (.int .i64 c) ∧ wy.cell? ⟨w.heap.size, 2, none⟩ = some (.string t)) ∧ (wy.cell? ⟨w.heap.size + 1, 0, none⟩ = some (.int .i64 p2) ∧ wy.cell? ⟨w.heap.size + 1, 1, none⟩ = some (.int .i64 c2) ∧ wy.cell? ⟨w.heap.size + 1, 2, none⟩ = some (.string t2)) ∧ Below wA.heap.size wA wy) (by kernel_rfl) (EA.out _ (Below.refl _ _).drew) (fun hHeld => ?_)
        refine reg_take (i := 0) (d := 5) (edV p c t) rfl rfl (by kernel_rfl) (by kernel_rfl) (by kernel_rfl) (fun _ _ _ h => h) (by rfl) (by intro wq hq; obtain ⟨⟨q0, q1, q2⟩, ⟨q3, q4, q5⟩, _⟩ := hq; go_simp) (by assumption) ?_
        simp only [Act.put, List.setIfInBounds_toArray, List.set_cons_zero, List.set_cons_succ]
        refine reg_take (i := 2) (d := 7) (.pointer (some ⟨w.heap.size + 1, 0, none⟩)) rfl rfl (by kernel_rfl) (by kernel_rfl) (by kernel_rfl) (fun _ _ _ h => h) (by rfl) (by intro wq hq; obtain ⟨⟨q0, q1, q2⟩, ⟨q3, q4, q5⟩, _⟩ := hq; go_simp) (by assumption) ?_
        simp only [Act.put, List.setIfInBounds_toArray, List.set_cons_zero, List.set_cons_succ]
        refine reg_take (i := 3) (d := 8) (.int .i64 p2) rfl rfl (by kernel_rfl) (by kernel_rfl) (by kernel_rfl) (fun _ _ _ h => h) (by rfl) (by intro wq hq; obtain ⟨⟨q0, q1, q2⟩, ⟨q3, q4, q5⟩, _⟩ := hq; go_simp) (by assumption) ?_
        simp only [Act.put, List.setIfInBounds_toArray, List.set_cons_zero, List.set_cons_succ]
        refine wpAnyH_ready (rs := [1]) (by kernel_rfl) (by simp) ?_
        refine AllReadyH.cons rfl (fun K hK => ?_) AllReadyH.nil
        go_simp
        refine (HCE.out wA.drew).mono ?_
        rintro e w3 ⟨rfl, hb3⟩
        have hB3 : Below wA.heap.size wA w3 := (Below.refl _ _).drew.trans hb3
        clear hb3
        refine hK.out _ _ (EA.out _ hB3) (fun hHeld2 => ?_)
        clear hK hHeld
        have hHeld := hHeld2
        clear hHeld2
        refine reg_take (i := 4) (d := 9) (.bool false) rfl rfl (by kernel_rfl) (by kernel_rfl) (by kernel_rfl) (fun _ _ _ h => h) (by rfl) (by intro wq hq; obtain ⟨⟨q0, q1, q2⟩, ⟨q3, q4, q5⟩, _⟩ := hq; go_simp) (by assumption) ?_
        simp only [Act.put, List.setIfInBounds_toArray, List.set_cons_zero, List.set_cons_succ]
        refine reg_take (i := 5) (d := 10) (.bool false) rfl rfl (by kernel_rfl) (by kernel_rfl) (by kernel_rfl) (fun _ _ _ h => h) (by rfl) (by intro wq hq; obtain ⟨⟨q0, q1, q2⟩, ⟨q3, q4, q5⟩, _⟩ := hq; go_simp) (by assumption) ?_
        simp only [Act.put, List.setIfInBounds_toArray, List.set_cons_zero, List.set_cons_succ]
        refine reg_take (i := 6) (d := 11) (edV p c t) rfl rfl (by kernel_rfl) (by kernel_rfl) (by kernel_rfl) (fun _ _ _ h => h) (by rfl) (by intro wq hq; obtain ⟨⟨q0, q1, q2⟩, ⟨q3, q4, q5⟩, _⟩ := hq; go_simp) (by assumption) ?_
        simp only [Act.put, List.setIfInBounds_toArray, List.set_cons_zero, List.set_cons_succ]
        refine reg_take (i := 8) (d := 13) (.pointer (some ⟨w.heap.size + 1, 0, none⟩)) rfl rfl (by kernel_rfl) (by kernel_rfl) (by kernel_rfl) (fun _ _ _ h => h) (by rfl) (by intro wq hq; obtain ⟨⟨q0, q1, q2⟩, ⟨q3, q4, q5⟩, _⟩ := hq; go_simp) (by assumption) ?_
        simp only [Act.put, List.setIfInBounds_toArray, List.set_cons_zero, List.set_cons_succ]
        refine reg_take (i := 9) (d := 14) (.int .i64 p2) rfl rfl (by kernel_rfl) (by kernel_rfl) (by kernel_rfl) (fun _ _ _ h => h) (by rfl) (by intro wq hq; obtain ⟨⟨q0, q1, q2⟩, ⟨q3, q4, q5⟩, _⟩ := hq; go_simp) (by assumption) ?_
        simp only [Act.put, List.setIfInBounds_toArray, List.set_cons_zero, List.set_cons_succ]
        refine wpAnyH_ready (rs := [7]) (by kernel_rfl) (by simp) ?_
        refine AllReadyH.cons rfl (fun K hK => ?_) AllReadyH.nil
        go_simp
        refine (HCE.out w3).mono ?_
        rintro e w4 ⟨rfl, hb4⟩
        have hB4 : Below wA.heap.size wA w4 := below_next hB3 hb4
        clear hb4
        refine hK.out _ _ (EA.out _ hB4) (fun hHeld2 => ?_)
        clear hK hHeld
        have hHeld := hHeld2
        clear hHeld2
        refine reg_take (i := 10) (d := 15) (.bool true) rfl rfl (by kernel_rfl) (by kernel_rfl) (by kernel_rfl) (fun _ _ _ h => h) (by rfl) (by intro wq hq; obtain ⟨⟨q0, q1, q2⟩, ⟨q3, q4, q5⟩, _⟩ := hq; go_simp) (by assumption) ?_
        simp only [Act.put, List.setIfInBounds_toArray, List.set_cons_zero, List.set_cons_succ]
        refine reg_take (i := 11) (d := 16) (.bool true) rfl rfl (by kernel_rfl) (by kernel_rfl) (by kernel_rfl) (fun _ _ _ h => h) (by rfl) (by intro wq hq; obtain ⟨⟨q0, q1, q2⟩, ⟨q3, q4, q5⟩, _⟩ := hq; go_simp) (by assumption) ?_
        simp only [Act.put, List.setIfInBounds_toArray, List.set_cons_zero, List.set_cons_succ]
        refine reg_take (i := 12) (d := 17) (.pointer (some ⟨w.heap.size, 0, none⟩)) rfl rfl (by kernel_rfl) (by kernel_rfl) (by kernel_rfl) (fun _ _ _ h => h) (by rfl) (by intro wq hq; obtain ⟨⟨q0, q1, q2⟩, ⟨q3, q4, q5⟩, _⟩ := hq; go_simp) (by assumption) ?_
        simp only [Act.put, List.setIfInBounds_toArray, List.set_cons_zero, List.set_cons_succ]
        refine reg_take (i := 13) (d := 18) (.int .i64 p) rfl rfl (by kernel_rfl) (by kernel_rfl) (by kernel_rfl) (fun _ _ _ h => h) (by rfl) (by intro wq hq; obtain ⟨⟨q0, q1, q2⟩, ⟨q3, q4, q5⟩, _⟩ := hq; go_simp) (by assumption) ?_
        simp only [Act.put, List.setIfInBounds_toArray, List.set_cons_zero, List.set_cons_succ]
        refine reg_take (i := 14) (d := 19) (.pointer (some ⟨w.heap.size + 1, 0, none⟩)) rfl rfl (by kernel_rfl) (by kernel_rfl) (by kernel_rfl) (fun _ _ _ h => h) (by rfl) (by intro wq hq; obtain ⟨⟨q0, q1, q2⟩, ⟨q3, q4, q5⟩, _⟩ := hq; go_simp) (by assumption) ?_
        simp only [Act.put, List.setIfInBounds_toArray, List.set_cons_zero, List.set_cons_succ]
        refine reg_take (i := 15) (d := 20) (.int .i64 p2) rfl rfl (by kernel_rfl) (by kernel_rfl) (by kernel_rfl) (fun _ _ _ h => h) (by rfl) (by intro wq hq; obtain ⟨⟨q0, q1, q2⟩, ⟨q3, q4, q5⟩, _⟩ := hq; go_simp) (by assumption) ?_
        simp only [Act.put, List.setIfInBounds_toArray, List.set_cons_zero, List.set_cons_succ]
        refine reg_take (i := 16) (d := 21) (.bool true) rfl rfl (by kernel_rfl) (by kernel_rfl) (by kernel_rfl) (fun _ _ _ h => h) (by rfl) (by intro wq hq; obtain ⟨⟨q0, q1, q2⟩, ⟨q3, q4, q5⟩, _⟩ := hq; go_simp) (by assumption) ?_
        simp only [Act.put, List.setIfInBounds_toArray, List.set_cons_zero, List.set_cons_succ]
        refine reg_take (i := 17) (d := 22) (.bool true) rfl rfl (by kernel_rfl) (by kernel_rfl) (by kernel_rfl) (fun _ _ _ h => h) (by rfl) (by intro wq hq; obtain ⟨⟨q0, q1, q2⟩, ⟨q3, q4, q5⟩, _⟩ := hq; go_simp) (by assumption) ?_
        simp only [Act.put, List.setIfInBounds_toArray, List.set_cons_zero, List.set_cons_succ]
        refine reg_take (i := 18) (d := 23) (.bool true) rfl rfl (by kernel_rfl) (by kernel_rfl) (by kernel_rfl) (fun _ _ _ h => h) (by rfl) (by intro wq hq; obtain ⟨⟨q0, q1, q2⟩, ⟨q3, q4, q5⟩, _⟩ := hq; go_simp) (by assumption) ?_
        simp only [Act.put, List.setIfInBounds_toArray, List.set_cons_zero, List.set_cons_succ]
        refine reg_take (i := 19) (d := 4) (.bool true) rfl rfl (by kernel_rfl) (by kernel_rfl) (by kernel_rfl) (fun _ _ _ h => h) (by rfl) (by intro wq hq; obtain ⟨⟨q0, q1, q2⟩, ⟨q3, q4, q5⟩, _⟩ := hq; go_simp) (by assumption) ?_
        simp only [Act.put, List.setIfInBounds_toArray, List.set_cons_zero, List.set_cons_succ]
        refine wpAnyH_done (by kernel_rfl) ?_ _
        all_goals
          go_wp2
          go_ret
          exact ⟨rfl, below_next HB0.out hB4⟩
      · have HD : Hid (decide (Bef p c p2) = false) := decide_eq_false fun h => by rcases h with h | h <;> omega
        obtain rfl : b = false := by rw [← hb.out]; exact HD.out
        have d3 : decide (p < p2) = false := decide_eq_false h3
        clear h2
        obtain ⟨E1, E2, HB⟩ := ebox2 w p c t p2 c2 t2
        go_enter Try.func48, Try.ntmps48
        have HCE : Hid (∀ wy, Calls Try.prog 35 #[edV p c t] wy fun e w' => e = .returned (.int .i64 (p + c)) ∧ Below wy.heap.size wy w') := fun wy => i_cutEnd p c t wy HP.out HCc.out
        go_wp2_with fail
        generalize ((w.alloc (.cells #[.int .i64 p, .int .i64 c, .string t] 24)).alloc (.cells #[.int .i64 p2, .int .i64 c2, .string t2] 24)) = wA at E1 E2 HB ⊢
        have EA : Hid (∀ wy, Below wA.heap.size wA wy → (wy.cell? ⟨w.heap.size, 0, none⟩ = some (.int .i64 p) ∧ wy.cell? ⟨w.heap.size, 1, none⟩ = some (.int .i64 c) ∧ wy.cell? ⟨w.heap.size, 2, none⟩ = some (.string t)) ∧ (wy.cell? ⟨w.heap.size + 1, 0, none⟩ = some (.int .i64 p2) ∧ wy.cell? ⟨w.heap.size + 1, 1, none⟩ = some (.int .i64 c2) ∧ wy.cell? ⟨w.heap.size + 1, 2, none⟩ = some (.string t2)) ∧ Below wA.heap.size wA wy) := fun wy hb => ⟨(E1.below hb E1.lt).cells, (E2.below hb E2.lt).cells, hb⟩
        have HB0 := Lib.hid HB
        clear HB E1 E2
        refine wp_region_held_drew (S := fun wy => (wy.cell? ⟨w.heap.size, 0, none⟩ = some (.int .i64 p) ∧ wy.cell? ⟨w.heap.size, 1, none⟩ = some (.int .i64 c) ∧ wy.cell? ⟨w.heap.size, 2, none⟩ = some (.string t)) ∧ (wy.cell? ⟨w.heap.size + 1, 0, none⟩ = some (.int .i64 p2) ∧ wy.cell? ⟨w.heap.size + 1, 1, none⟩ = some (.int .i64 c2) ∧ wy.cell? ⟨w.heap.size + 1, 2, none⟩ = some (.string t2)) ∧ Below wA.heap.size wA wy) (by kernel_rfl) (EA.out _ (Below.refl _ _).drew) (fun hHeld => ?_)
        refine reg_take (i := 0) (d := 5) (edV p c t) rfl rfl (by kernel_rfl) (by kernel_rfl) (by kernel_rfl) (fun _ _ _ h => h) (by rfl) (by intro wq hq; obtain ⟨⟨q0, q1, q2⟩, ⟨q3, q4, q5⟩, _⟩ := hq; go_simp) (by assumption) ?_
        simp only [Act.put, List.setIfInBounds_toArray, List.set_cons_zero, List.set_cons_succ]
        refine reg_take (i := 2) (d := 7) (.pointer (some ⟨w.heap.size + 1, 0, none⟩)) rfl rfl (by kernel_rfl) (by kernel_rfl) (by kernel_rfl) (fun _ _ _ h => h) (by rfl) (by intro wq hq; obtain ⟨⟨q0, q1, q2⟩, ⟨q3, q4, q5⟩, _⟩ := hq; go_simp) (by assumption) ?_
        simp only [Act.put, List.setIfInBounds_toArray, List.set_cons_zero, List.set_cons_succ]
        refine reg_take (i := 3) (d := 8) (.int .i64 p2) rfl rfl (by kernel_rfl) (by kernel_rfl) (by kernel_rfl) (fun _ _ _ h => h) (by rfl) (by intro wq hq; obtain ⟨⟨q0, q1, q2⟩, ⟨q3, q4, q5⟩, _⟩ := hq; go_simp) (by assumption) ?_
        simp only [Act.put, List.setIfInBounds_toArray, List.set_cons_zero, List.set_cons_succ]
        refine wpAnyH_ready (rs := [1]) (by kernel_rfl) (by simp) ?_
        refine AllReadyH.cons rfl (fun K hK => ?_) AllReadyH.nil
        go_simp
        refine (HCE.out wA.drew).mono ?_
        rintro e w3 ⟨rfl, hb3⟩
        have hB3 : Below wA.heap.size wA w3 := (Below.refl _ _).drew.trans hb3
        clear hb3
        refine hK.out _ _ (EA.out _ hB3) (fun hHeld2 => ?_)
        clear hK hHeld
        have hHeld := hHeld2
        clear hHeld2
        refine reg_take (i := 4) (d := 9) (.bool false) rfl rfl (by kernel_rfl) (by kernel_rfl) (by kernel_rfl) (fun _ _ _ h => h) (by rfl) (by intro wq hq; obtain ⟨⟨q0, q1, q2⟩, ⟨q3, q4, q5⟩, _⟩ := hq; go_simp) (by assumption) ?_
        simp only [Act.put, List.setIfInBounds_toArray, List.set_cons_zero, List.set_cons_succ]
        refine reg_take (i := 5) (d := 10) (.bool false) rfl rfl (by kernel_rfl) (by kernel_rfl) (by kernel_rfl) (fun _ _ _ h => h) (by rfl) (by intro wq hq; obtain ⟨⟨q0, q1, q2⟩, ⟨q3, q4, q5⟩, _⟩ := hq; go_simp) (by assumption) ?_
        simp only [Act.put, List.setIfInBounds_toArray, List.set_cons_zero, List.set_cons_succ]
        refine reg_take (i := 6) (d := 11) (edV p c t) rfl rfl (by kernel_rfl) (by kernel_rfl) (by kernel_rfl) (fun _ _ _ h => h) (by rfl) (by intro wq hq; obtain ⟨⟨q0, q1, q2⟩, ⟨q3, q4, q5⟩, _⟩ := hq; go_simp) (by assumption) ?_
        simp only [Act.put, List.setIfInBounds_toArray, List.set_cons_zero, List.set_cons_succ]
        refine reg_take (i := 8) (d := 13) (.pointer (some ⟨w.heap.size + 1, 0, none⟩)) rfl rfl (by kernel_rfl) (by kernel_rfl) (by kernel_rfl) (fun _ _ _ h => h) (by rfl) (by intro wq hq; obtain ⟨⟨q0, q1, q2⟩, ⟨q3, q4, q5⟩, _⟩ := hq; go_simp) (by assumption) ?_
        simp only [Act.put, List.setIfInBounds_toArray, List.set_cons_zero, List.set_cons_succ]
        refine reg_take (i := 9) (d := 14) (.int .i64 p2) rfl rfl (by kernel_rfl) (by kernel_rfl) (by kernel_rfl) (fun _ _ _ h => h) (by rfl) (by intro wq hq; obtain ⟨⟨q0, q1, q2⟩, ⟨q3, q4, q5⟩, _⟩ := hq; go_simp) (by assumption) ?_
        simp only [Act.put, List.setIfInBounds_toArray, List.set_cons_zero, List.set_cons_succ]
        refine wpAnyH_ready (rs := [7]) (by kernel_rfl) (by simp) ?_
        refine AllReadyH.cons rfl (fun K hK => ?_) AllReadyH.nil
        go_simp
        refine (HCE.out w3).mono ?_
        rintro e w4 ⟨rfl, hb4⟩
        have hB4 : Below wA.heap.size wA w4 := below_next hB3 hb4
        clear hb4
        refine hK.out _ _ (EA.out _ hB4) (fun hHeld2 => ?_)
        clear hK hHeld
        have hHeld := hHeld2
        clear hHeld2
        refine reg_take (i := 10) (d := 15) (.bool true) rfl rfl (by kernel_rfl) (by kernel_rfl) (by kernel_rfl) (fun _ _ _ h => h) (by rfl) (by intro wq hq; obtain ⟨⟨q0, q1, q2⟩, ⟨q3, q4, q5⟩, _⟩ := hq; go_simp) (by assumption) ?_
        simp only [Act.put, List.setIfInBounds_toArray, List.set_cons_zero, List.set_cons_succ]
        refine reg_take (i := 11) (d := 16) (.bool true) rfl rfl (by kernel_rfl) (by kernel_rfl) (by kernel_rfl) (fun _ _ _ h => h) (by rfl) (by intro wq hq; obtain ⟨⟨q0, q1, q2⟩, ⟨q3, q4, q5⟩, _⟩ := hq; go_simp) (by assumption) ?_
        simp only [Act.put, List.setIfInBounds_toArray, List.set_cons_zero, List.set_cons_succ]
        refine reg_take (i := 12) (d := 17) (.pointer (some ⟨w.heap.size, 0, none⟩)) rfl rfl (by kernel_rfl) (by kernel_rfl) (by kernel_rfl) (fun _ _ _ h => h) (by rfl) (by intro wq hq; obtain ⟨⟨q0, q1, q2⟩, ⟨q3, q4, q5⟩, _⟩ := hq; go_simp) (by assumption) ?_
        simp only [Act.put, List.setIfInBounds_toArray, List.set_cons_zero, List.set_cons_succ]
        refine reg_take (i := 13) (d := 18) (.int .i64 p) rfl rfl (by kernel_rfl) (by kernel_rfl) (by kernel_rfl) (fun _ _ _ h => h) (by rfl) (by intro wq hq; obtain ⟨⟨q0, q1, q2⟩, ⟨q3, q4, q5⟩, _⟩ := hq; go_simp) (by assumption) ?_
        simp only [Act.put, List.setIfInBounds_toArray, List.set_cons_zero, List.set_cons_succ]
        refine reg_take (i := 14) (d := 19) (.pointer (some ⟨w.heap.size + 1, 0, none⟩)) rfl rfl (by kernel_rfl) (by kernel_rfl) (by kernel_rfl) (fun _ _ _ h => h) (by rfl) (by intro wq hq; obtain ⟨⟨q0, q1, q2⟩, ⟨q3, q4, q5⟩, _⟩ := hq; go_simp) (by assumption) ?_
        simp only [Act.put, List.setIfInBounds_toArray, List.set_cons_zero, List.set_cons_succ]
        refine reg_take (i := 15) (d := 20) (.int .i64 p2) rfl rfl (by kernel_rfl) (by kernel_rfl) (by kernel_rfl) (fun _ _ _ h => h) (by rfl) (by intro wq hq; obtain ⟨⟨q0, q1, q2⟩, ⟨q3, q4, q5⟩, _⟩ := hq; go_simp) (by assumption) ?_
        simp only [Act.put, List.setIfInBounds_toArray, List.set_cons_zero, List.set_cons_succ]
        refine reg_take (i := 16) (d := 21) (.bool false) rfl rfl (by kernel_rfl) (by kernel_rfl) (by kernel_rfl) (fun _ _ _ h => h) (by rfl) (by intro wq hq; obtain ⟨⟨q0, q1, q2⟩, ⟨q3, q4, q5⟩, _⟩ := hq; go_simp) (by assumption) ?_
        simp only [Act.put, List.setIfInBounds_toArray, List.set_cons_zero, List.set_cons_succ]
        refine reg_take (i := 17) (d := 22) (.bool false) rfl rfl (by kernel_rfl) (by kernel_rfl) (by kernel_rfl) (fun _ _ _ h => h) (by rfl) (by intro wq hq; obtain ⟨⟨q0, q1, q2⟩, ⟨q3, q4, q5⟩, _⟩ := hq; go_simp) (by assumption) ?_
        simp only [Act.put, List.setIfInBounds_toArray, List.set_cons_zero, List.set_cons_succ]
        refine reg_take (i := 18) (d := 23) (.bool false) rfl rfl (by kernel_rfl) (by kernel_rfl) (by kernel_rfl) (fun _ _ _ h => h) (by rfl) (by intro wq hq; obtain ⟨⟨q0, q1, q2⟩, ⟨q3, q4, q5⟩, _⟩ := hq; go_simp) (by assumption) ?_
        simp only [Act.put, List.setIfInBounds_toArray, List.set_cons_zero, List.set_cons_succ]
        refine reg_take (i := 19) (d := 4) (.bool false) rfl rfl (by kernel_rfl) (by kernel_rfl) (by kernel_rfl) (fun _ _ _ h => h) (by rfl) (by intro wq hq; obtain ⟨⟨q0, q1, q2⟩, ⟨q3, q4, q5⟩, _⟩ := hq; go_simp) (by assumption) ?_
        simp only [Act.put, List.setIfInBounds_toArray, List.set_cons_zero, List.set_cons_succ]
        refine wpAnyH_done (by kernel_rfl) ?_ _
        all_goals
          go_wp2
          go_ret
          exact ⟨rfl, below_next HB0.out hB4⟩
    · have d2 : ((p + c : Int) == p2) = false := by simp; exact h2
      have HD : Hid (decide (Bef p c p2) = false) := decide_eq_false fun h => by rcases h with h | h <;> omega
      obtain rfl : b = false := by rw [← hb.out]; exact HD.out
      obtain ⟨E1, E2, HB⟩ := ebox2 w p c t p2 c2 t2
      go_enter Try.func48, Try.ntmps48
      have HCE : Hid (∀ wy, Calls Try.prog 35 #[edV p c t] wy fun e w' => e = .returned (.int .i64 (p + c)) ∧ Below wy.heap.size wy w') := fun wy => i_cutEnd p c t wy HP.out HCc.out
      go_wp2_with fail
      generalize ((w.alloc (.cells #[.int .i64 p, .int .i64 c, .string t] 24)).alloc (.cells #[.int .i64 p2, .int .i64 c2, .string t2] 24)) = wA at E1 E2 HB ⊢
      have EA : Hid (∀ wy, Below wA.heap.size wA wy → (wy.cell? ⟨w.heap.size, 0, none⟩ = some (.int .i64 p) ∧ wy.cell? ⟨w.heap.size, 1, none⟩ = some (.int .i64 c) ∧ wy.cell? ⟨w.heap.size, 2, none⟩ = some (.string t)) ∧ (wy.cell? ⟨w.heap.size + 1, 0, none⟩ = some (.int .i64 p2) ∧ wy.cell? ⟨w.heap.size + 1, 1, none⟩ = some (.int .i64 c2) ∧ wy.cell? ⟨w.heap.size + 1, 2, none⟩ = some (.string t2)) ∧ Below wA.heap.size wA wy) := fun wy hb => ⟨(E1.below hb E1.lt).cells, (E2.below hb E2.lt).cells, hb⟩
      have HB0 := Lib.hid HB
      clear HB E1 E2
      refine wp_region_held_drew (S := fun wy => (wy.cell? ⟨w.heap.size, 0, none⟩ = some (.int .i64 p) ∧ wy.cell? ⟨w.heap.size, 1, none⟩ = some (.int .i64 c) ∧ wy.cell? ⟨w.heap.size, 2, none⟩ = some (.string t)) ∧ (wy.cell? ⟨w.heap.size + 1, 0, none⟩ = some (.int .i64 p2) ∧ wy.cell? ⟨w.heap.size + 1, 1, none⟩ = some (.int .i64 c2) ∧ wy.cell? ⟨w.heap.size + 1, 2, none⟩ = some (.string t2)) ∧ Below wA.heap.size wA wy) (by kernel_rfl) (EA.out _ (Below.refl _ _).drew) (fun hHeld => ?_)
      refine reg_take (i := 0) (d := 5) (edV p c t) rfl rfl (by kernel_rfl) (by kernel_rfl) (by kernel_rfl) (fun _ _ _ h => h) (by rfl) (by intro wq hq; obtain ⟨⟨q0, q1, q2⟩, ⟨q3, q4, q5⟩, _⟩ := hq; go_simp) (by assumption) ?_
      simp only [Act.put, List.setIfInBounds_toArray, List.set_cons_zero, List.set_cons_succ]
      refine reg_take (i := 2) (d := 7) (.pointer (some ⟨w.heap.size + 1, 0, none⟩)) rfl rfl (by kernel_rfl) (by kernel_rfl) (by kernel_rfl) (fun _ _ _ h => h) (by rfl) (by intro wq hq; obtain ⟨⟨q0, q1, q2⟩, ⟨q3, q4, q5⟩, _⟩ := hq; go_simp) (by assumption) ?_
      simp only [Act.put, List.setIfInBounds_toArray, List.set_cons_zero, List.set_cons_succ]
      refine reg_take (i := 3) (d := 8) (.int .i64 p2) rfl rfl (by kernel_rfl) (by kernel_rfl) (by kernel_rfl) (fun _ _ _ h => h) (by rfl) (by intro wq hq; obtain ⟨⟨q0, q1, q2⟩, ⟨q3, q4, q5⟩, _⟩ := hq; go_simp) (by assumption) ?_
      simp only [Act.put, List.setIfInBounds_toArray, List.set_cons_zero, List.set_cons_succ]
      refine wpAnyH_ready (rs := [1]) (by kernel_rfl) (by simp) ?_
      refine AllReadyH.cons rfl (fun K hK => ?_) AllReadyH.nil
      go_simp
      refine (HCE.out wA.drew).mono ?_
      rintro e w3 ⟨rfl, hb3⟩
      have hB3 : Below wA.heap.size wA w3 := (Below.refl _ _).drew.trans hb3
      clear hb3
      refine hK.out _ _ (EA.out _ hB3) (fun hHeld2 => ?_)
      clear hK hHeld
      have hHeld := hHeld2
      clear hHeld2
      refine reg_take (i := 4) (d := 9) (.bool false) rfl rfl (by kernel_rfl) (by kernel_rfl) (by kernel_rfl) (fun _ _ _ h => h) (by rfl) (by intro wq hq; obtain ⟨⟨q0, q1, q2⟩, ⟨q3, q4, q5⟩, _⟩ := hq; go_simp) (by assumption) ?_
      simp only [Act.put, List.setIfInBounds_toArray, List.set_cons_zero, List.set_cons_succ]
      refine reg_take (i := 5) (d := 10) (.bool false) rfl rfl (by kernel_rfl) (by kernel_rfl) (by kernel_rfl) (fun _ _ _ h => h) (by rfl) (by intro wq hq; obtain ⟨⟨q0, q1, q2⟩, ⟨q3, q4, q5⟩, _⟩ := hq; go_simp) (by assumption) ?_
      simp only [Act.put, List.setIfInBounds_toArray, List.set_cons_zero, List.set_cons_succ]
      refine reg_take (i := 6) (d := 11) (edV p c t) rfl rfl (by kernel_rfl) (by kernel_rfl) (by kernel_rfl) (fun _ _ _ h => h) (by rfl) (by intro wq hq; obtain ⟨⟨q0, q1, q2⟩, ⟨q3, q4, q5⟩, _⟩ := hq; go_simp) (by assumption) ?_
      simp only [Act.put, List.setIfInBounds_toArray, List.set_cons_zero, List.set_cons_succ]
      refine reg_take (i := 8) (d := 13) (.pointer (some ⟨w.heap.size + 1, 0, none⟩)) rfl rfl (by kernel_rfl) (by kernel_rfl) (by kernel_rfl) (fun _ _ _ h => h) (by rfl) (by intro wq hq; obtain ⟨⟨q0, q1, q2⟩, ⟨q3, q4, q5⟩, _⟩ := hq; go_simp) (by assumption) ?_
      simp only [Act.put, List.setIfInBounds_toArray, List.set_cons_zero, List.set_cons_succ]
      refine reg_take (i := 9) (d := 14) (.int .i64 p2) rfl rfl (by kernel_rfl) (by kernel_rfl) (by kernel_rfl) (fun _ _ _ h => h) (by rfl) (by intro wq hq; obtain ⟨⟨q0, q1, q2⟩, ⟨q3, q4, q5⟩, _⟩ := hq; go_simp) (by assumption) ?_
      simp only [Act.put, List.setIfInBounds_toArray, List.set_cons_zero, List.set_cons_succ]
      refine wpAnyH_ready (rs := [7]) (by kernel_rfl) (by simp) ?_
      refine AllReadyH.cons rfl (fun K hK => ?_) AllReadyH.nil
      go_simp
      refine (HCE.out w3).mono ?_
      rintro e w4 ⟨rfl, hb4⟩
      have hB4 : Below wA.heap.size wA w4 := below_next hB3 hb4
      clear hb4
      refine hK.out _ _ (EA.out _ hB4) (fun hHeld2 => ?_)
      clear hK hHeld
      have hHeld := hHeld2
      clear hHeld2
      refine reg_take (i := 10) (d := 15) (.bool false) rfl rfl (by kernel_rfl) (by kernel_rfl) (by kernel_rfl) (fun _ _ _ h => h) (by rfl) (by intro wq hq; obtain ⟨⟨q0, q1, q2⟩, ⟨q3, q4, q5⟩, _⟩ := hq; go_simp) (by assumption) ?_
      simp only [Act.put, List.setIfInBounds_toArray, List.set_cons_zero, List.set_cons_succ]
      refine reg_take (i := 11) (d := 16) (.bool false) rfl rfl (by kernel_rfl) (by kernel_rfl) (by kernel_rfl) (fun _ _ _ h => h) (by rfl) (by intro wq hq; obtain ⟨⟨q0, q1, q2⟩, ⟨q3, q4, q5⟩, _⟩ := hq; go_simp) (by assumption) ?_
      simp only [Act.put, List.setIfInBounds_toArray, List.set_cons_zero, List.set_cons_succ]
      refine reg_skip (i := 12) (d := 17) rfl rfl (by kernel_rfl) (by kernel_rfl) (by kernel_rfl) (fun _ _ _ h => h) (by rfl) (by assumption) ?_
      simp only [Act.put, List.setIfInBounds_toArray, List.set_cons_zero, List.set_cons_succ]
      refine reg_skip (i := 13) (d := 18) rfl rfl (by kernel_rfl) (by kernel_rfl) (by kernel_rfl) (fun _ _ _ h => h) (by rfl) (by assumption) ?_
      simp only [Act.put, List.setIfInBounds_toArray, List.set_cons_zero, List.set_cons_succ]
      refine reg_skip (i := 14) (d := 19) rfl rfl (by kernel_rfl) (by kernel_rfl) (by kernel_rfl) (fun _ _ _ h => h) (by rfl) (by assumption) ?_
      simp only [Act.put, List.setIfInBounds_toArray, List.set_cons_zero, List.set_cons_succ]
      refine reg_skip (i := 15) (d := 20) rfl rfl (by kernel_rfl) (by kernel_rfl) (by kernel_rfl) (fun _ _ _ h => h) (by rfl) (by assumption) ?_
      simp only [Act.put, List.setIfInBounds_toArray, List.set_cons_zero, List.set_cons_succ]
      refine reg_skip (i := 16) (d := 21) rfl rfl (by kernel_rfl) (by kernel_rfl) (by kernel_rfl) (fun _ _ _ h => h) (by rfl) (by assumption) ?_
      simp only [Act.put, List.setIfInBounds_toArray, List.set_cons_zero, List.set_cons_succ]
      refine reg_take (i := 17) (d := 22) (.bool false) rfl rfl (by kernel_rfl) (by kernel_rfl) (by kernel_rfl) (fun _ _ _ h => h) (by rfl) (by intro wq hq; obtain ⟨⟨q0, q1, q2⟩, ⟨q3, q4, q5⟩, _⟩ := hq; go_simp) (by assumption) ?_
      simp only [Act.put, List.setIfInBounds_toArray, List.set_cons_zero, List.set_cons_succ]
      refine reg_take (i := 18) (d := 23) (.bool false) rfl rfl (by kernel_rfl) (by kernel_rfl) (by kernel_rfl) (fun _ _ _ h => h) (by rfl) (by intro wq hq; obtain ⟨⟨q0, q1, q2⟩, ⟨q3, q4, q5⟩, _⟩ := hq; go_simp) (by assumption) ?_
      simp only [Act.put, List.setIfInBounds_toArray, List.set_cons_zero, List.set_cons_succ]
      refine reg_take (i := 19) (d := 4) (.bool false) rfl rfl (by kernel_rfl) (by kernel_rfl) (by kernel_rfl) (fun _ _ _ h => h) (by rfl) (by intro wq hq; obtain ⟨⟨q0, q1, q2⟩, ⟨q3, q4, q5⟩, _⟩ := hq; go_simp) (by assumption) ?_
      simp only [Act.put, List.setIfInBounds_toArray, List.set_cons_zero, List.set_cons_succ]
      refine wpAnyH_done (by kernel_rfl) ?_ _
      all_goals
        go_wp2
        go_ret
        exact ⟨rfl, below_next HB0.out hB4⟩
set_option maxHeartbeats 2000000 in
theorem s_apart_first (p c p2 c2 : Int) (t t2 : ByteArray) (w : World) (hp : 0 ≤ p ∧ p ≤ 60) (hc : 0 ≤ c ∧ c ≤ 60) (hp2 : 0 ≤ p2 ∧ p2 ≤ 60) (hc2 : 0 ≤ c2 ∧ c2 ≤ 60) (hb : Bef p c p2) :
    Calls Try.prog 49 #[edV p c t, edV p2 c2 t2] w fun e w' => e = .returned (.tuple #[.bool true, .bool true]) ∧ Below w.heap.size w w' := by
  have u1 : IntKind.i64.wrap (p + c) = p + c := IntWalk.i64_in _ (by omega)
  have u2 : IntKind.i64.wrap (p2 + c2) = p2 + c2 := IntWalk.i64_in _ (by omega)
  clear hp hc hp2 hc2
  by_cases h1 : p + c < p2
  · have d1 : decide (p + c < p2) = true := decide_eq_true h1
    clear hb
    go_enter Try.func49, Try.ntmps49
    go_wp2
    refine bodyPost_ret (results_twoE rfl _ _ _) rfl ?_
    exact ⟨rfl, (ebox2 w p c t p2 c2 t2).2.2⟩
  · have d1 : decide (p + c < p2) = false := decide_eq_false h1
    have d2 : ((p + c : Int) == p2) = true := by simp; rcases hb with h | h <;> omega
    have d3 : decide (p < p2) = true := decide_eq_true (by rcases hb with h | h <;> omega)
    clear hb
    go_enter Try.func49, Try.ntmps49
    go_wp2
    refine bodyPost_ret (results_twoE rfl _ _ _) rfl ?_
    exact ⟨rfl, (ebox2 w p c t p2 c2 t2).2.2⟩
set_option maxHeartbeats 2000000 in
theorem s_apart_second (p c p2 c2 : Int) (t t2 : ByteArray) (w : World) (hp : 0 ≤ p ∧ p ≤ 60) (hc : 0 ≤ c ∧ c ≤ 60) (hp2 : 0 ≤ p2 ∧ p2 ≤ 60) (hc2 : 0 ≤ c2 ∧ c2 ≤ 60) (hn : ¬ Bef p c p2) (hb : Bef p2 c2 p) :
    Calls Try.prog 49 #[edV p c t, edV p2 c2 t2] w fun e w' => e = .returned (.tuple #[.bool true, .bool false]) ∧ Below w.heap.size w w' := by
  have u1 : IntKind.i64.wrap (p + c) = p + c := IntWalk.i64_in _ (by omega)
  have u2 : IntKind.i64.wrap (p2 + c2) = p2 + c2 := IntWalk.i64_in _ (by omega)
  clear hp hc hp2 hc2
  by_cases h1 : p + c = p2
  · have d0 : decide (p + c < p2) = false := decide_eq_false (by omega)
    have d1 : ((p + c : Int) == p2) = true := by simp; exact h1
    have d2 : decide (p < p2) = false := decide_eq_false (fun h => hn (.inr ⟨h1, h⟩))
    clear h1 hn
    by_cases h3 : p2 + c2 < p
    · have d4 : decide (p2 + c2 < p) = true := decide_eq_true h3
      clear hb
      go_enter Try.func49, Try.ntmps49
      go_wp2
      refine bodyPost_ret (results_twoE rfl _ _ _) rfl ?_
      exact ⟨rfl, (ebox2 w p c t p2 c2 t2).2.2⟩
    · have d4 : decide (p2 + c2 < p) = false := decide_eq_false h3
      have d5 : ((p2 + c2 : Int) == p) = true := by simp; rcases hb with h | h <;> omega
      have d6 : decide (p2 < p) = true := decide_eq_true (by rcases hb with h | h <;> omega)
      clear hb
      go_enter Try.func49, Try.ntmps49
      go_wp2
      refine bodyPost_ret (results_twoE rfl _ _ _) rfl ?_
      exact ⟨rfl, (ebox2 w p c t p2 c2 t2).2.2⟩
  · have d0 : decide (p + c < p2) = false := decide_eq_false (fun h => hn (.inl h))
    have d1 : ((p + c : Int) == p2) = false := by simp; exact h1
    clear hn
    by_cases h3 : p2 + c2 < p
    · have d4 : decide (p2 + c2 < p) = true := decide_eq_true h3
      clear hb
      go_enter Try.func49, Try.ntmps49
      go_wp2
      refine bodyPost_ret (results_twoE rfl _ _ _) rfl ?_
      exact ⟨rfl, (ebox2 w p c t p2 c2 t2).2.2⟩
    · have d4 : decide (p2 + c2 < p) = false := decide_eq_false h3
      have d5 : ((p2 + c2 : Int) == p) = true := by simp; rcases hb with h | h <;> omega
      have d6 : decide (p2 < p) = true := decide_eq_true (by rcases hb with h | h <;> omega)
      clear hb
      go_enter Try.func49, Try.ntmps49
      go_wp2
      refine bodyPost_ret (results_twoE rfl _ _ _) rfl ?_
      exact ⟨rfl, (ebox2 w p c t p2 c2 t2).2.2⟩
set_option maxHeartbeats 2000000 in
theorem s_apart_none (p c p2 c2 : Int) (t t2 : ByteArray) (w : World) (hp : 0 ≤ p ∧ p ≤ 60) (hc : 0 ≤ c ∧ c ≤ 60) (hp2 : 0 ≤ p2 ∧ p2 ≤ 60) (hc2 : 0 ≤ c2 ∧ c2 ≤ 60) (hn : ¬ Bef p c p2) (hm : ¬ Bef p2 c2 p) :
    Calls Try.prog 49 #[edV p c t, edV p2 c2 t2] w fun e w' => e = .returned (.tuple #[.bool false, .bool false]) ∧ Below w.heap.size w w' := by
  have u1 : IntKind.i64.wrap (p + c) = p + c := IntWalk.i64_in _ (by omega)
  have u2 : IntKind.i64.wrap (p2 + c2) = p2 + c2 := IntWalk.i64_in _ (by omega)
  clear hp hc hp2 hc2
  by_cases h1 : p + c = p2
  · have d0 : decide (p + c < p2) = false := decide_eq_false (by omega)
    have d1 : ((p + c : Int) == p2) = true := by simp; exact h1
    have d2 : decide (p < p2) = false := decide_eq_false (fun h => hn (.inr ⟨h1, h⟩))
    clear h1 hn
    by_cases h3 : p2 + c2 = p
    · have d4 : decide (p2 + c2 < p) = false := decide_eq_false (by omega)
      have d5 : ((p2 + c2 : Int) == p) = true := by simp; exact h3
      have d6 : decide (p2 < p) = false := decide_eq_false (fun h => hm (.inr ⟨h3, h⟩))
      clear h3 hm
      go_enter Try.func49, Try.ntmps49
      go_wp2
      refine bodyPost_ret (results_twoE rfl _ _ _) rfl ?_
      exact ⟨rfl, (ebox2 w p c t p2 c2 t2).2.2⟩
    · have d4 : decide (p2 + c2 < p) = false := decide_eq_false (fun h => hm (.inl h))
      have d5 : ((p2 + c2 : Int) == p) = false := by simp; exact h3
      clear hm
      go_enter Try.func49, Try.ntmps49
      go_wp2
      refine bodyPost_ret (results_twoE rfl _ _ _) rfl ?_
      exact ⟨rfl, (ebox2 w p c t p2 c2 t2).2.2⟩
  · have d0 : decide (p + c < p2) = false := decide_eq_false (fun h => hn (.inl h))
    have d1 : ((p + c : Int) == p2) = false := by simp; exact h1
    clear hn
    by_cases h3 : p2 + c2 = p
    · have d4 : decide (p2 + c2 < p) = false := decide_eq_false (by omega)
      have d5 : ((p2 + c2 : Int) == p) = true := by simp; exact h3
      have d6 : decide (p2 < p) = false := decide_eq_false (fun h => hm (.inr ⟨h3, h⟩))
      clear h3 hm
      go_enter Try.func49, Try.ntmps49
      go_wp2
      refine bodyPost_ret (results_twoE rfl _ _ _) rfl ?_
      exact ⟨rfl, (ebox2 w p c t p2 c2 t2).2.2⟩
    · have d4 : decide (p2 + c2 < p) = false := decide_eq_false (fun h => hm (.inl h))
      have d5 : ((p2 + c2 : Int) == p) = false := by simp; exact h3
      clear hm
      go_enter Try.func49, Try.ntmps49
      go_wp2
      refine bodyPost_ret (results_twoE rfl _ _ _) rfl ?_
      exact ⟨rfl, (ebox2 w p c t p2 c2 t2).2.2⟩
set_option maxHeartbeats 4000000 in
theorem i_ShiftEdit_some (p c : Int) (t : ByteArray) (p2 c2 : Int) (t2 : ByteArray) (many q : Int) (w : World) (ht : t.size ≤ 1048576) (ht2 : t2.size ≤ 1048576) (h : shP p c t p2 c2 t2 many = some q) :
    Calls Try.prog 26 #[edV p c t, edV p2 c2 t2, .int .i64 many] w fun e w' => e = .returned (.tuple #[edV q c t, .bool true]) ∧ Below w.heap.size w w' := by
  unfold shP at h
  by_cases hc : CanE p c t many ∧ CanE p2 c2 t2 many
  · rw [if_pos hc] at h
    obtain ⟨hc1, hc2⟩ := hc
    have k1 : 0 ≤ p ∧ p ≤ 60 := by have := hc1.1; have := hc1.2.1; omega
    have k2 : 0 ≤ c ∧ c ≤ 60 := by have := hc1.1; have := hc1.2.1; have := hc1.2.2.1; omega
    have k3 : 0 ≤ p2 ∧ p2 ≤ 60 := by have := hc2.1; have := hc2.2.1; omega
    have k4 : 0 ≤ c2 ∧ c2 ≤ 60 := by have := hc2.1; have := hc2.2.1; have := hc2.2.2.1; omega
    have k5 := hc2.2.2.2.1.size
    have hm := hc1.1
    have HC1 : Hid (decide (CanE p c t many) = true) := decide_eq_true hc1
    have HC2 : Hid (decide (CanE p2 c2 t2 many) = true) := decide_eq_true hc2
    have u2 : IntKind.i64.wrap (p + ((t2.size : Int) - c2)) = p + ((t2.size : Int) - c2) := IntWalk.i64_in _ (by omega)
    have u3 : IntKind.i64.wrap (p - c2) = p - c2 := IntWalk.i64_in _ (by omega)
    have u4 : IntKind.i64.wrap (p - c2 + (t2.size : Int)) = p - c2 + (t2.size : Int) := IntWalk.i64_in _ (by omega)
    clear hc1 hc2
    by_cases hb1 : Bef p c p2
    · rw [if_pos hb1] at h
      injection h with hq
      subst hq
      have HB1 : Hid (decide (Bef p c p2) = true) := decide_eq_true hb1
      obtain ⟨E1, E2, E3, HB⟩ := ebox3 w p c t p2 c2 t2 0 0 ⟨#[]⟩
      go_enter Try.func26, Try.ntmps26
      go_wp2_with fail
      generalize (((w.alloc (.cells #[.int .i64 p, .int .i64 c, .string t] 24)).alloc (.cells #[.int .i64 p2, .int .i64 c2, .string t2] 24)).alloc (.cells #[.int .i64 0, .int .i64 0, .string ⟨#[]⟩] 24)) = wA at E1 E2 E3 HB ⊢
      obtain ⟨c00a, c00b, c00c⟩ := E1.cells
      obtain ⟨c01a, c01b, c01c⟩ := E2.cells
      obtain ⟨c02a, c02b, c02c⟩ := E3.cells
      refine (i_canEdit_v p c many t true _ (by omega) HC1).mono ?_
      rintro e w1 ⟨rfl, hb1⟩
      have E1_1 := E1.below hb1 E1.lt
      have E2_1 := E2.below hb1 E2.lt
      have E3_1 := E3.below hb1 E3.lt
      have HB_1 := below_next HB hb1
      clear hb1 HB E1 E2 E3
      clear c00a c00b c00c c01a c01b c01c c02a c02b c02c
      obtain ⟨c10a, c10b, c10c⟩ := E1_1.cells
      obtain ⟨c11a, c11b, c11c⟩ := E2_1.cells
      obtain ⟨c12a, c12b, c12c⟩ := E3_1.cells
      go_wp2_with fail
      refine (i_canEdit_v p2 c2 many t2 true _ (by omega) HC2).mono ?_
      rintro e w2 ⟨rfl, hb2⟩
      have E1_2 := E1_1.below hb2 E1_1.lt
      have E2_2 := E2_1.below hb2 E2_1.lt
      have E3_2 := E3_1.below hb2 E3_1.lt
      have HB_2 := below_next HB_1 hb2
      clear hb2 HB_1 E1_1 E2_1 E3_1
      clear c10a c10b c10c c11a c11b c11c c12a c12b c12c
      obtain ⟨c20a, c20b, c20c⟩ := E1_2.cells
      obtain ⟨c21a, c21b, c21c⟩ := E2_2.cells
      obtain ⟨c22a, c22b, c22c⟩ := E3_2.cells
      go_wp2_with fail
      refine (i_isBefore p c p2 c2 t t2 true _ k1 k2 HB1).mono ?_
      rintro e w3 ⟨rfl, hb3⟩
      have E1_3 := E1_2.below hb3 E1_2.lt
      have E2_3 := E2_2.below hb3 E2_2.lt
      have E3_3 := E3_2.below hb3 E3_2.lt
      have HB_3 := below_next HB_2 hb3
      clear hb3 HB_2 E1_2 E2_2 E3_2
      clear c20a c20b c20c c21a c21b c21c c22a c22b c22c
      obtain ⟨c30a, c30b, c30c⟩ := E1_3.cells
      obtain ⟨c31a, c31b, c31c⟩ := E2_3.cells
      obtain ⟨c32a, c32b, c32c⟩ := E3_3.cells
      have f := E3_3.free
      go_wp2
      have hk := E3_3.put (p) (c) (t)
      have hB := below_putE (p := p) (c := c) (t := t) HB_3 (show w.heap.size ≤ w.heap.size + 1 + 1 by omega)
      simp only [EdAt, putE] at hk hB
      refine bodyPost_ret (results_row_tmpE rfl _ _ (w.heap.size + 1 + 1) _ _ _ _ rfl hk Try.underlying24 rfl (by kernel_rfl)) rfl ?_
      exact ⟨rfl, hB⟩
    · rw [if_neg hb1] at h
      by_cases hb2 : Bef p2 c2 p
      · rw [if_pos hb2] at h
        injection h with hq
        have HQ := Lib.hid hq
        have HB1 : Hid (decide (Bef p c p2) = false) := decide_eq_false hb1
        have HB2 : Hid (decide (Bef p2 c2 p) = true) := decide_eq_true hb2
        clear hb1 hb2 hq
        obtain ⟨E1, E2, E3, HB⟩ := ebox3 w p c t p2 c2 t2 0 0 ⟨#[]⟩
        go_enter Try.func26, Try.ntmps26
        go_wp2_with fail
        generalize (((w.alloc (.cells #[.int .i64 p, .int .i64 c, .string t] 24)).alloc (.cells #[.int .i64 p2, .int .i64 c2, .string t2] 24)).alloc (.cells #[.int .i64 0, .int .i64 0, .string ⟨#[]⟩] 24)) = wA at E1 E2 E3 HB ⊢
        obtain ⟨c00a, c00b, c00c⟩ := E1.cells
        obtain ⟨c01a, c01b, c01c⟩ := E2.cells
        obtain ⟨c02a, c02b, c02c⟩ := E3.cells
        refine (i_canEdit_v p c many t true _ (by omega) HC1).mono ?_
        rintro e w1 ⟨rfl, hb1⟩
        have E1_1 := E1.below hb1 E1.lt
        have E2_1 := E2.below hb1 E2.lt
        have E3_1 := E3.below hb1 E3.lt
        have HB_1 := below_next HB hb1
        clear hb1 HB E1 E2 E3
        clear c00a c00b c00c c01a c01b c01c c02a c02b c02c
        obtain ⟨c10a, c10b, c10c⟩ := E1_1.cells
        obtain ⟨c11a, c11b, c11c⟩ := E2_1.cells
        obtain ⟨c12a, c12b, c12c⟩ := E3_1.cells
        go_wp2_with fail
        refine (i_canEdit_v p2 c2 many t2 true _ (by omega) HC2).mono ?_
        rintro e w2 ⟨rfl, hb2⟩
        have E1_2 := E1_1.below hb2 E1_1.lt
        have E2_2 := E2_1.below hb2 E2_1.lt
        have E3_2 := E3_1.below hb2 E3_1.lt
        have HB_2 := below_next HB_1 hb2
        clear hb2 HB_1 E1_1 E2_1 E3_1
        clear c10a c10b c10c c11a c11b c11c c12a c12b c12c
        obtain ⟨c20a, c20b, c20c⟩ := E1_2.cells
        obtain ⟨c21a, c21b, c21c⟩ := E2_2.cells
        obtain ⟨c22a, c22b, c22c⟩ := E3_2.cells
        go_wp2_with fail
        refine (i_isBefore p c p2 c2 t t2 false _ k1 k2 HB1).mono ?_
        rintro e w3 ⟨rfl, hb3⟩
        have E1_3 := E1_2.below hb3 E1_2.lt
        have E2_3 := E2_2.below hb3 E2_2.lt
        have E3_3 := E3_2.below hb3 E3_2.lt
        have HB_3 := below_next HB_2 hb3
        clear hb3 HB_2 E1_2 E2_2 E3_2
        clear c20a c20b c20c c21a c21b c21c c22a c22b c22c
        obtain ⟨c30a, c30b, c30c⟩ := E1_3.cells
        obtain ⟨c31a, c31b, c31c⟩ := E2_3.cells
        obtain ⟨c32a, c32b, c32c⟩ := E3_3.cells
        go_wp2_with fail
        refine (i_isBefore p2 c2 p c t2 t true _ k3 k4 HB2).mono ?_
        rintro e w4 ⟨rfl, hb4⟩
        have E1_4 := E1_3.below hb4 E1_3.lt
        have E2_4 := E2_3.below hb4 E2_3.lt
        have E3_4 := E3_3.below hb4 E3_3.lt
        have HB_4 := below_next HB_3 hb4
        clear hb4 HB_3 E1_3 E2_3 E3_3
        clear c30a c30b c30c c31a c31b c31c c32a c32b c32c
        obtain ⟨c40a, c40b, c40c⟩ := E1_4.cells
        obtain ⟨c41a, c41b, c41c⟩ := E2_4.cells
        obtain ⟨c42a, c42b, c42c⟩ := E3_4.cells
        have EA : Hid (∀ wy, Below w4.heap.size w4 wy → EdAt wy w.heap.size p c t) := fun wy hb => E1_4.below hb E1_4.lt
        have EB : Hid (∀ wy, Below w4.heap.size w4 wy → EdAt wy (w.heap.size + 1) p2 c2 t2) := fun wy hb => E2_4.below hb E2_4.lt
        have EC : Hid (∀ wy, Below w4.heap.size w4 wy → EdAt wy (w.heap.size + 1 + 1) 0 0 ⟨#[]⟩) := fun wy hb => E3_4.below hb E3_4.lt
        have HGR : Hid (∀ wy, Calls Try.prog 45 #[edV p2 c2 t2] wy fun e w' => e = .returned (.int .i64 ((t2.size : Int) - c2)) ∧ Below wy.heap.size wy w') := fun wy => i_growthBy p2 c2 t2 wy (by omega) k4
        clear c40a c40b c40c c41a c41b c41c c42a c42b c42c
        go_wp2_with fail
        go_region_held3 (fun wy => (wy.cell? ⟨w.heap.size, 0, none⟩ = some (.int .i64 p) ∧ wy.cell? ⟨w.heap.size, 1, none⟩ = some (.int .i64 c) ∧ wy.cell? ⟨w.heap.size, 2, none⟩ = some (.string t)) ∧ (wy.cell? ⟨w.heap.size + 1, 0, none⟩ = some (.int .i64 p2) ∧ wy.cell? ⟨w.heap.size + 1, 1, none⟩ = some (.int .i64 c2) ∧ wy.cell? ⟨w.heap.size + 1, 2, none⟩ = some (.string t2))) (first | assumption | exact ⟨(EA.out _ (Below.refl _ _).drew).cells, (EB.out _ (Below.refl _ _).drew).cells⟩ | exact ⟨(EA.out _ ((Below.refl _ _).drew.trans hb9)).cells, (EB.out _ ((Below.refl _ _).drew.trans hb9)).cells⟩ | exact ⟨((EA.out _ ((Below.refl _ _).drew.trans hb9)).putO (by omega) _ _ _).cells, ((EB.out _ ((Below.refl _ _).drew.trans hb9)).putO (by omega) _ _ _).cells⟩) (first | (go_at_call 45; (with_reducible refine (HGR.out _).mono ?_); rintro e w9 ⟨rfl, hb9⟩; have f3 := (EC.out _ ((Below.refl _ _).drew.trans hb9)).free; obtain ⟨f4, f5, f6⟩ := (EC.out _ ((Below.refl _ _).drew.trans hb9)).cells))
        all_goals
          go_wp2
          have hX : EdAt w9 (w.heap.size + 1 + 1) 0 0 ⟨#[]⟩ := EC.out _ ((Below.refl _ _).drew.trans hb9)
          have hBx : Below w.heap.size w w9 := HB_4.trans (((Below.refl _ _).drew.trans hb9).mono HB_4.size)
          have hk := hX.put (p + ((t2.size : Int) - c2)) c t
          have hB := below_putE (p := p + ((t2.size : Int) - c2)) (c := c) (t := t) hBx (show w.heap.size ≤ w.heap.size + 1 + 1 by omega)
          simp only [EdAt, putE] at hk hB
          refine bodyPost_ret (results_row_tmpE rfl _ _ (w.heap.size + 1 + 1) _ _ _ _ rfl hk Try.underlying24 rfl (by kernel_rfl)) rfl ?_
          exact ⟨by rw [← HQ.out]; rfl, hB⟩
      · rw [if_neg hb2] at h
        cases h
  · rw [if_neg hc] at h
    cases h
set_option maxHeartbeats 4000000 in
theorem i_ShiftEdit_none (p c : Int) (t : ByteArray) (p2 c2 : Int) (t2 : ByteArray) (many : Int) (w : World) (ht : t.size ≤ 1048576) (ht2 : t2.size ≤ 1048576) (h : shP p c t p2 c2 t2 many = none) :
    Calls Try.prog 26 #[edV p c t, edV p2 c2 t2, .int .i64 many] w fun e w' => e = .returned (.tuple #[edV 0 0 ⟨#[]⟩, .bool false]) ∧ Below w.heap.size w w' := by
  unfold shP at h
  by_cases hc : CanE p c t many ∧ CanE p2 c2 t2 many
  · rw [if_pos hc] at h
    obtain ⟨hc1, hc2⟩ := hc
    have k1 : 0 ≤ p ∧ p ≤ 60 := by have := hc1.1; have := hc1.2.1; omega
    have k2 : 0 ≤ c ∧ c ≤ 60 := by have := hc1.1; have := hc1.2.1; have := hc1.2.2.1; omega
    have k3 : 0 ≤ p2 ∧ p2 ≤ 60 := by have := hc2.1; have := hc2.2.1; omega
    have k4 : 0 ≤ c2 ∧ c2 ≤ 60 := by have := hc2.1; have := hc2.2.1; have := hc2.2.2.1; omega
    have k5 := hc2.2.2.2.1.size
    have hm := hc1.1
    have HC1 : Hid (decide (CanE p c t many) = true) := decide_eq_true hc1
    have HC2 : Hid (decide (CanE p2 c2 t2 many) = true) := decide_eq_true hc2
    have u2 : IntKind.i64.wrap (p + ((t2.size : Int) - c2)) = p + ((t2.size : Int) - c2) := IntWalk.i64_in _ (by omega)
    have u3 : IntKind.i64.wrap (p - c2) = p - c2 := IntWalk.i64_in _ (by omega)
    have u4 : IntKind.i64.wrap (p - c2 + (t2.size : Int)) = p - c2 + (t2.size : Int) := IntWalk.i64_in _ (by omega)
    clear hc1 hc2
    by_cases hb1 : Bef p c p2
    · rw [if_pos hb1] at h
      cases h
    · rw [if_neg hb1] at h
      by_cases hb2 : Bef p2 c2 p
      · rw [if_pos hb2] at h
        cases h
      · clear h
        have HB1 : Hid (decide (Bef p c p2) = false) := decide_eq_false hb1
        have HB2 : Hid (decide (Bef p2 c2 p) = false) := decide_eq_false hb2
        clear hb1 hb2
        obtain ⟨E1, E2, E3, HB⟩ := ebox3 w p c t p2 c2 t2 0 0 ⟨#[]⟩
        go_enter Try.func26, Try.ntmps26
        go_wp2_with fail
        generalize (((w.alloc (.cells #[.int .i64 p, .int .i64 c, .string t] 24)).alloc (.cells #[.int .i64 p2, .int .i64 c2, .string t2] 24)).alloc (.cells #[.int .i64 0, .int .i64 0, .string ⟨#[]⟩] 24)) = wA at E1 E2 E3 HB ⊢
        obtain ⟨c00a, c00b, c00c⟩ := E1.cells
        obtain ⟨c01a, c01b, c01c⟩ := E2.cells
        obtain ⟨c02a, c02b, c02c⟩ := E3.cells
        refine (i_canEdit_v p c many t true _ (by omega) HC1).mono ?_
        rintro e w1 ⟨rfl, hb1⟩
        have E1_1 := E1.below hb1 E1.lt
        have E2_1 := E2.below hb1 E2.lt
        have E3_1 := E3.below hb1 E3.lt
        have HB_1 := below_next HB hb1
        clear hb1 HB E1 E2 E3
        clear c00a c00b c00c c01a c01b c01c c02a c02b c02c
        obtain ⟨c10a, c10b, c10c⟩ := E1_1.cells
        obtain ⟨c11a, c11b, c11c⟩ := E2_1.cells
        obtain ⟨c12a, c12b, c12c⟩ := E3_1.cells
        go_wp2_with fail
        refine (i_canEdit_v p2 c2 many t2 true _ (by omega) HC2).mono ?_
        rintro e w2 ⟨rfl, hb2⟩
        have E1_2 := E1_1.below hb2 E1_1.lt
        have E2_2 := E2_1.below hb2 E2_1.lt
        have E3_2 := E3_1.below hb2 E3_1.lt
        have HB_2 := below_next HB_1 hb2
        clear hb2 HB_1 E1_1 E2_1 E3_1
        clear c10a c10b c10c c11a c11b c11c c12a c12b c12c
        obtain ⟨c20a, c20b, c20c⟩ := E1_2.cells
        obtain ⟨c21a, c21b, c21c⟩ := E2_2.cells
        obtain ⟨c22a, c22b, c22c⟩ := E3_2.cells
        go_wp2_with fail
        refine (i_isBefore p c p2 c2 t t2 false _ k1 k2 HB1).mono ?_
        rintro e w3 ⟨rfl, hb3⟩
        have E1_3 := E1_2.below hb3 E1_2.lt
        have E2_3 := E2_2.below hb3 E2_2.lt
        have E3_3 := E3_2.below hb3 E3_2.lt
        have HB_3 := below_next HB_2 hb3
        clear hb3 HB_2 E1_2 E2_2 E3_2
        clear c20a c20b c20c c21a c21b c21c c22a c22b c22c
        obtain ⟨c30a, c30b, c30c⟩ := E1_3.cells
        obtain ⟨c31a, c31b, c31c⟩ := E2_3.cells
        obtain ⟨c32a, c32b, c32c⟩ := E3_3.cells
        go_wp2_with fail
        refine (i_isBefore p2 c2 p c t2 t false _ k3 k4 HB2).mono ?_
        rintro e w4 ⟨rfl, hb4⟩
        have E1_4 := E1_3.below hb4 E1_3.lt
        have E2_4 := E2_3.below hb4 E2_3.lt
        have E3_4 := E3_3.below hb4 E3_3.lt
        have HB_4 := below_next HB_3 hb4
        clear hb4 HB_3 E1_3 E2_3 E3_3
        clear c30a c30b c30c c31a c31b c31c c32a c32b c32c
        obtain ⟨c40a, c40b, c40c⟩ := E1_4.cells
        obtain ⟨c41a, c41b, c41c⟩ := E2_4.cells
        obtain ⟨c42a, c42b, c42c⟩ := E3_4.cells
        have f := E3_4.free
        go_wp2
        have hk := E3_4.put (0) (0) (⟨#[]⟩)
        have hB := below_putE (p := 0) (c := 0) (t := ⟨#[]⟩) HB_4 (show w.heap.size ≤ w.heap.size + 1 + 1 by omega)
        simp only [EdAt, putE] at hk hB
        refine bodyPost_ret (results_row_tmpE rfl _ _ (w.heap.size + 1 + 1) _ _ _ _ rfl hk Try.underlying24 rfl (by kernel_rfl)) rfl ?_
        exact ⟨rfl, hB⟩
  · clear h
    by_cases hc1 : CanE p c t many
    · have HC1 : Hid (decide (CanE p c t many) = true) := decide_eq_true hc1
      have HC2 : Hid (decide (CanE p2 c2 t2 many) = false) := decide_eq_false fun h => hc ⟨hc1, h⟩
      clear hc hc1
      obtain ⟨E1, E2, E3, HB⟩ := ebox3 w p c t p2 c2 t2 0 0 ⟨#[]⟩
      go_enter Try.func26, Try.ntmps26
      go_wp2_with fail
      generalize (((w.alloc (.cells #[.int .i64 p, .int .i64 c, .string t] 24)).alloc (.cells #[.int .i64 p2, .int .i64 c2, .string t2] 24)).alloc (.cells #[.int .i64 0, .int .i64 0, .string ⟨#[]⟩] 24)) = wA at E1 E2 E3 HB ⊢
      obtain ⟨c00a, c00b, c00c⟩ := E1.cells
      obtain ⟨c01a, c01b, c01c⟩ := E2.cells
      obtain ⟨c02a, c02b, c02c⟩ := E3.cells
      refine (i_canEdit_v p c many t true _ (by omega) HC1).mono ?_
      rintro e w1 ⟨rfl, hb1⟩
      have E1_1 := E1.below hb1 E1.lt
      have E2_1 := E2.below hb1 E2.lt
      have E3_1 := E3.below hb1 E3.lt
      have HB_1 := below_next HB hb1
      clear hb1 HB E1 E2 E3
      clear c00a c00b c00c c01a c01b c01c c02a c02b c02c
      obtain ⟨c10a, c10b, c10c⟩ := E1_1.cells
      obtain ⟨c11a, c11b, c11c⟩ := E2_1.cells
      obtain ⟨c12a, c12b, c12c⟩ := E3_1.cells
      go_wp2_with fail
      refine (i_canEdit_v p2 c2 many t2 false _ (by omega) HC2).mono ?_
      rintro e w2 ⟨rfl, hb2⟩
      have E1_2 := E1_1.below hb2 E1_1.lt
      have E2_2 := E2_1.below hb2 E2_1.lt
      have E3_2 := E3_1.below hb2 E3_1.lt
      have HB_2 := below_next HB_1 hb2
      clear hb2 HB_1 E1_1 E2_1 E3_1
      clear c10a c10b c10c c11a c11b c11c c12a c12b c12c
      obtain ⟨c20a, c20b, c20c⟩ := E1_2.cells
      obtain ⟨c21a, c21b, c21c⟩ := E2_2.cells
      obtain ⟨c22a, c22b, c22c⟩ := E3_2.cells
      have f := E3_2.free
      go_wp2
      have hk := E3_2.put (0) (0) (⟨#[]⟩)
      have hB := below_putE (p := 0) (c := 0) (t := ⟨#[]⟩) HB_2 (show w.heap.size ≤ w.heap.size + 1 + 1 by omega)
      simp only [EdAt, putE] at hk hB
      refine bodyPost_ret (results_row_tmpE rfl _ _ (w.heap.size + 1 + 1) _ _ _ _ rfl hk Try.underlying24 rfl (by kernel_rfl)) rfl ?_
      exact ⟨rfl, hB⟩
    · have HC1 : Hid (decide (CanE p c t many) = false) := decide_eq_false hc1
      clear hc hc1
      obtain ⟨E1, E2, E3, HB⟩ := ebox3 w p c t p2 c2 t2 0 0 ⟨#[]⟩
      go_enter Try.func26, Try.ntmps26
      go_wp2_with fail
      generalize (((w.alloc (.cells #[.int .i64 p, .int .i64 c, .string t] 24)).alloc (.cells #[.int .i64 p2, .int .i64 c2, .string t2] 24)).alloc (.cells #[.int .i64 0, .int .i64 0, .string ⟨#[]⟩] 24)) = wA at E1 E2 E3 HB ⊢
      obtain ⟨c00a, c00b, c00c⟩ := E1.cells
      obtain ⟨c01a, c01b, c01c⟩ := E2.cells
      obtain ⟨c02a, c02b, c02c⟩ := E3.cells
      refine (i_canEdit_v p c many t false _ (by omega) HC1).mono ?_
      rintro e w1 ⟨rfl, hb1⟩
      have E1_1 := E1.below hb1 E1.lt
      have E2_1 := E2.below hb1 E2.lt
      have E3_1 := E3.below hb1 E3.lt
      have HB_1 := below_next HB hb1
      clear hb1 HB E1 E2 E3
      clear c00a c00b c00c c01a c01b c01c c02a c02b c02c
      obtain ⟨c10a, c10b, c10c⟩ := E1_1.cells
      obtain ⟨c11a, c11b, c11c⟩ := E2_1.cells
      obtain ⟨c12a, c12b, c12c⟩ := E3_1.cells
      have f := E3_1.free
      go_wp2
      have hk := E3_1.put (0) (0) (⟨#[]⟩)
      have hB := below_putE (p := 0) (c := 0) (t := ⟨#[]⟩) HB_1 (show w.heap.size ≤ w.heap.size + 1 + 1 by omega)
      simp only [EdAt, putE] at hk hB
      refine bodyPost_ret (results_row_tmpE rfl _ _ (w.heap.size + 1 + 1) _ _ _ _ rfl hk Try.underlying24 rfl (by kernel_rfl)) rfl ?_
      exact ⟨rfl, hB⟩
set_option maxHeartbeats 4000000 in
theorem s_ShiftEdit_some (p c : Int) (t : ByteArray) (p2 c2 : Int) (t2 : ByteArray) (many q : Int) (w : World) (ht : t.size ≤ 1048576) (ht2 : t2.size ≤ 1048576) (h : shP p c t p2 c2 t2 many = some q) :
    Calls Try.prog 27 #[edV p c t, edV p2 c2 t2, .int .i64 many] w fun e w' => e = .returned (.tuple #[edV q c t, .bool true]) ∧ Below w.heap.size w w' := by
  unfold shP at h
  by_cases hc : CanE p c t many ∧ CanE p2 c2 t2 many
  · rw [if_pos hc] at h
    obtain ⟨hc1, hc2⟩ := hc
    have k1 : 0 ≤ p ∧ p ≤ 60 := by have := hc1.1; have := hc1.2.1; omega
    have k2 : 0 ≤ c ∧ c ≤ 60 := by have := hc1.1; have := hc1.2.1; have := hc1.2.2.1; omega
    have k3 : 0 ≤ p2 ∧ p2 ≤ 60 := by have := hc2.1; have := hc2.2.1; omega
    have k4 : 0 ≤ c2 ∧ c2 ≤ 60 := by have := hc2.1; have := hc2.2.1; have := hc2.2.2.1; omega
    have k5 := hc2.2.2.2.1.size
    have hm := hc1.1
    have HC1 : Hid (decide (CanE p c t many) = true) := decide_eq_true hc1
    have HC2 : Hid (decide (CanE p2 c2 t2 many) = true) := decide_eq_true hc2
    have u2 : IntKind.i64.wrap (p + ((t2.size : Int) - c2)) = p + ((t2.size : Int) - c2) := IntWalk.i64_in _ (by omega)
    have u3 : IntKind.i64.wrap (p - c2) = p - c2 := IntWalk.i64_in _ (by omega)
    have u4 : IntKind.i64.wrap (p - c2 + (t2.size : Int)) = p - c2 + (t2.size : Int) := IntWalk.i64_in _ (by omega)
    clear hc1 hc2
    by_cases hb1 : Bef p c p2
    · rw [if_pos hb1] at h
      injection h with hq
      subst hq
      have HB1 : Hid (decide (Bef p c p2) = true) := decide_eq_true hb1
      obtain ⟨E1, E2, E3, HB⟩ := ebox3 w p c t p2 c2 t2 0 0 ⟨#[]⟩
      go_enter Try.func27, Try.ntmps27
      go_wp2_with fail
      generalize (((w.alloc (.cells #[.int .i64 p, .int .i64 c, .string t] 24)).alloc (.cells #[.int .i64 p2, .int .i64 c2, .string t2] 24)).alloc (.cells #[.int .i64 0, .int .i64 0, .string ⟨#[]⟩] 24)) = wA at E1 E2 E3 HB ⊢
      obtain ⟨c00a, c00b, c00c⟩ := E1.cells
      obtain ⟨c01a, c01b, c01c⟩ := E2.cells
      obtain ⟨c02a, c02b, c02c⟩ := E3.cells
      refine (inRange_yes _ _ _ _ hm.1 hm.2).mono ?_
      rintro e w' ⟨rfl, rfl⟩
      go_wp2_with fail
      refine (s_validEdit p c many t true _ (by omega) hm HC1).mono ?_
      rintro e w1 ⟨rfl, hb1⟩
      have E1_1 := E1.below hb1 E1.lt
      have E2_1 := E2.below hb1 E2.lt
      have E3_1 := E3.below hb1 E3.lt
      have HB_1 := below_next HB hb1
      clear hb1 HB E1 E2 E3
      clear c00a c00b c00c c01a c01b c01c c02a c02b c02c
      obtain ⟨c10a, c10b, c10c⟩ := E1_1.cells
      obtain ⟨c11a, c11b, c11c⟩ := E2_1.cells
      obtain ⟨c12a, c12b, c12c⟩ := E3_1.cells
      go_wp2_with fail
      refine (s_validEdit p2 c2 many t2 true _ (by omega) hm HC2).mono ?_
      rintro e w2 ⟨rfl, hb2⟩
      have E1_2 := E1_1.below hb2 E1_1.lt
      have E2_2 := E2_1.below hb2 E2_1.lt
      have E3_2 := E3_1.below hb2 E3_1.lt
      have HB_2 := below_next HB_1 hb2
      clear hb2 HB_1 E1_1 E2_1 E3_1
      clear c10a c10b c10c c11a c11b c11c c12a c12b c12c
      obtain ⟨c20a, c20b, c20c⟩ := E1_2.cells
      obtain ⟨c21a, c21b, c21c⟩ := E2_2.cells
      obtain ⟨c22a, c22b, c22c⟩ := E3_2.cells
      go_wp2_with fail
      refine (s_apart_first p c p2 c2 t t2 _ k1 k2 k3 k4 hb1).mono ?_
      rintro e w3 ⟨rfl, hb3⟩
      have E1_3 := E1_2.below hb3 E1_2.lt
      have E2_3 := E2_2.below hb3 E2_2.lt
      have E3_3 := E3_2.below hb3 E3_2.lt
      have HB_3 := below_next HB_2 hb3
      clear hb3 HB_2 E1_2 E2_2 E3_2
      clear c20a c20b c20c c21a c21b c21c c22a c22b c22c
      obtain ⟨c30a, c30b, c30c⟩ := E1_3.cells
      obtain ⟨c31a, c31b, c31c⟩ := E2_3.cells
      obtain ⟨c32a, c32b, c32c⟩ := E3_3.cells
      have hX := E3_3.alloc (.cells #[.int .i64 p, .int .i64 c, .string t] 24)
      obtain ⟨g0, g1, g2⟩ := hX.cells
      have f := hX.free
      have hBx : Below w.heap.size w (w3.alloc (.cells #[.int .i64 p, .int .i64 c, .string t] 24)) := HB_3.alloc HB_3.size _
      go_wp2
      have hk := hX.put p c t
      have hB := below_putE (p := p) (c := c) (t := t) hBx (show w.heap.size ≤ w.heap.size + 1 + 1 by omega)
      simp only [EdAt, putE] at hk hB
      refine bodyPost_ret (results_row_tmpE rfl _ _ (w.heap.size + 1 + 1) _ _ _ _ rfl hk Try.underlying24 rfl (by kernel_rfl)) rfl ?_
      exact ⟨rfl, hB⟩
    · rw [if_neg hb1] at h
      by_cases hb2 : Bef p2 c2 p
      · rw [if_pos hb2] at h
        injection h with hq
        have HQ := Lib.hid hq
        obtain ⟨E1, E2, E3, HB⟩ := ebox3 w p c t p2 c2 t2 0 0 ⟨#[]⟩
        go_enter Try.func27, Try.ntmps27
        go_wp2_with fail
        generalize (((w.alloc (.cells #[.int .i64 p, .int .i64 c, .string t] 24)).alloc (.cells #[.int .i64 p2, .int .i64 c2, .string t2] 24)).alloc (.cells #[.int .i64 0, .int .i64 0, .string ⟨#[]⟩] 24)) = wA at E1 E2 E3 HB ⊢
        obtain ⟨c00a, c00b, c00c⟩ := E1.cells
        obtain ⟨c01a, c01b, c01c⟩ := E2.cells
        obtain ⟨c02a, c02b, c02c⟩ := E3.cells
        refine (inRange_yes _ _ _ _ hm.1 hm.2).mono ?_
        rintro e w' ⟨rfl, rfl⟩
        go_wp2_with fail
        refine (s_validEdit p c many t true _ (by omega) hm HC1).mono ?_
        rintro e w1 ⟨rfl, hb1⟩
        have E1_1 := E1.below hb1 E1.lt
        have E2_1 := E2.below hb1 E2.lt
        have E3_1 := E3.below hb1 E3.lt
        have HB_1 := below_next HB hb1
        clear hb1 HB E1 E2 E3
        clear c00a c00b c00c c01a c01b c01c c02a c02b c02c
        obtain ⟨c10a, c10b, c10c⟩ := E1_1.cells
        obtain ⟨c11a, c11b, c11c⟩ := E2_1.cells
        obtain ⟨c12a, c12b, c12c⟩ := E3_1.cells
        go_wp2_with fail
        refine (s_validEdit p2 c2 many t2 true _ (by omega) hm HC2).mono ?_
        rintro e w2 ⟨rfl, hb2⟩
        have E1_2 := E1_1.below hb2 E1_1.lt
        have E2_2 := E2_1.below hb2 E2_1.lt
        have E3_2 := E3_1.below hb2 E3_1.lt
        have HB_2 := below_next HB_1 hb2
        clear hb2 HB_1 E1_1 E2_1 E3_1
        clear c10a c10b c10c c11a c11b c11c c12a c12b c12c
        obtain ⟨c20a, c20b, c20c⟩ := E1_2.cells
        obtain ⟨c21a, c21b, c21c⟩ := E2_2.cells
        obtain ⟨c22a, c22b, c22c⟩ := E3_2.cells
        go_wp2_with fail
        refine (s_apart_second p c p2 c2 t t2 _ k1 k2 k3 k4 hb1 hb2).mono ?_
        rintro e w3 ⟨rfl, hb3⟩
        have E1_3 := E1_2.below hb3 E1_2.lt
        have E2_3 := E2_2.below hb3 E2_2.lt
        have E3_3 := E3_2.below hb3 E3_2.lt
        have HB_3 := below_next HB_2 hb3
        clear hb3 HB_2 E1_2 E2_2 E3_2
        clear c20a c20b c20c c21a c21b c21c c22a c22b c22c
        obtain ⟨c30a, c30b, c30c⟩ := E1_3.cells
        obtain ⟨c31a, c31b, c31c⟩ := E2_3.cells
        obtain ⟨c32a, c32b, c32c⟩ := E3_3.cells
        have hE1 := E1_3.alloc (.cells #[.int .i64 p, .int .i64 c, .string t] 24)
        have hE2 := E2_3.alloc (.cells #[.int .i64 p, .int .i64 c, .string t] 24)
        have hE3 := E3_3.alloc (.cells #[.int .i64 p, .int .i64 c, .string t] 24)
        have hE4 := EdAt.new w3 p c t
        have hBx : Below w.heap.size w (w3.alloc (.cells #[.int .i64 p, .int .i64 c, .string t] 24)) := HB_3.alloc HB_3.size _
        have hsz := HB_3.size
        have hl3 := E3_3.lt
        go_upto_region 8 with (fail)
        generalize (w3.alloc (.cells #[.int .i64 p, .int .i64 c, .string t] 24)) = wX at hE1 hE2 hE3 hE4 hBx ⊢
        generalize w3.heap.size = N at hE4 hsz hl3 ⊢
        clear c30a c30b c30c c31a c31b c31c c32a c32b c32c HB_3 E1_3 E2_3 E3_3
        obtain ⟨g0, g1, g2⟩ := hE1.cells
        obtain ⟨g3, g4, g5⟩ := hE2.cells
        obtain ⟨g6, g7, g8⟩ := hE4.cells
        have f4 := hE4.free
        go_upto_region 9 with (fail)
        have hY : EdAt (wX.setCell ⟨N, 0, none⟩ (.int .i64 (p - c2 + (t2.size : Int)))) N (p - c2 + (t2.size : Int)) c t := EdAt.set0 (w := wX) hE4 _
        have hY3 : EdAt (wX.setCell ⟨N, 0, none⟩ (.int .i64 (p - c2 + (t2.size : Int)))) (w.heap.size + 1 + 1) 0 0 ⟨#[]⟩ := EdAt.setO (w := wX) hE3 (by omega) _ _
        have hBy : Below w.heap.size w (wX.setCell ⟨N, 0, none⟩ (.int .i64 (p - c2 + (t2.size : Int)))) := hBx.setCell (p := ⟨N, 0, none⟩) hsz _
        change Code.wp _ _ _ _ (wX.setCell ⟨N, 0, none⟩ (.int .i64 (p - c2 + (t2.size : Int))))
        generalize (wX.setCell ⟨N, 0, none⟩ (.int .i64 (p - c2 + (t2.size : Int)))) = wY at hY hY3 hBy ⊢
        clear g0 g1 g2 g3 g4 g5 g6 g7 g8 f4
        obtain ⟨g0, g1, g2⟩ := hY.cells
        obtain ⟨g3, g4, g5⟩ := hY3.cells
        have f := hY3.free
        go_wp2
        have hk := hY3.put (p - c2 + (t2.size : Int)) c t
        have hB := below_putE (p := p - c2 + (t2.size : Int)) (c := c) (t := t) hBy (show w.heap.size ≤ w.heap.size + 1 + 1 by omega)
        simp only [EdAt, putE] at hk hB
        refine bodyPost_ret (results_row_tmpE rfl _ _ (w.heap.size + 1 + 1) _ _ _ _ rfl hk Try.underlying24 rfl (by kernel_rfl)) rfl ?_
        exact ⟨by rw [show q = p - c2 + (t2.size : Int) from by have := HQ.out; omega]; rfl, hB⟩
      · rw [if_neg hb2] at h
        cases h
  · rw [if_neg hc] at h
    cases h
set_option maxHeartbeats 4000000 in
theorem s_ShiftEdit_none (p c : Int) (t : ByteArray) (p2 c2 : Int) (t2 : ByteArray) (many : Int) (w : World) (ht : t.size ≤ 1048576) (ht2 : t2.size ≤ 1048576) (h : shP p c t p2 c2 t2 many = none) :
    Calls Try.prog 27 #[edV p c t, edV p2 c2 t2, .int .i64 many] w fun e w' => e = .returned (.tuple #[edV 0 0 ⟨#[]⟩, .bool false]) ∧ Below w.heap.size w w' := by
  unfold shP at h
  by_cases hc : CanE p c t many ∧ CanE p2 c2 t2 many
  · rw [if_pos hc] at h
    obtain ⟨hc1, hc2⟩ := hc
    have k1 : 0 ≤ p ∧ p ≤ 60 := by have := hc1.1; have := hc1.2.1; omega
    have k2 : 0 ≤ c ∧ c ≤ 60 := by have := hc1.1; have := hc1.2.1; have := hc1.2.2.1; omega
    have k3 : 0 ≤ p2 ∧ p2 ≤ 60 := by have := hc2.1; have := hc2.2.1; omega
    have k4 : 0 ≤ c2 ∧ c2 ≤ 60 := by have := hc2.1; have := hc2.2.1; have := hc2.2.2.1; omega
    have k5 := hc2.2.2.2.1.size
    have hm := hc1.1
    have HC1 : Hid (decide (CanE p c t many) = true) := decide_eq_true hc1
    have HC2 : Hid (decide (CanE p2 c2 t2 many) = true) := decide_eq_true hc2
    have u2 : IntKind.i64.wrap (p + ((t2.size : Int) - c2)) = p + ((t2.size : Int) - c2) := IntWalk.i64_in _ (by omega)
    have u3 : IntKind.i64.wrap (p - c2) = p - c2 := IntWalk.i64_in _ (by omega)
    have u4 : IntKind.i64.wrap (p - c2 + (t2.size : Int)) = p - c2 + (t2.size : Int) := IntWalk.i64_in _ (by omega)
    clear hc1 hc2
    by_cases hb1 : Bef p c p2
    · rw [if_pos hb1] at h
      cases h
    · rw [if_neg hb1] at h
      by_cases hb2 : Bef p2 c2 p
      · rw [if_pos hb2] at h
        cases h
      · clear h
        obtain ⟨E1, E2, E3, HB⟩ := ebox3 w p c t p2 c2 t2 0 0 ⟨#[]⟩
        go_enter Try.func27, Try.ntmps27
        go_wp2_with fail
        generalize (((w.alloc (.cells #[.int .i64 p, .int .i64 c, .string t] 24)).alloc (.cells #[.int .i64 p2, .int .i64 c2, .string t2] 24)).alloc (.cells #[.int .i64 0, .int .i64 0, .string ⟨#[]⟩] 24)) = wA at E1 E2 E3 HB ⊢
        obtain ⟨c00a, c00b, c00c⟩ := E1.cells
        obtain ⟨c01a, c01b, c01c⟩ := E2.cells
        obtain ⟨c02a, c02b, c02c⟩ := E3.cells
        refine (inRange_yes _ _ _ _ hm.1 hm.2).mono ?_
        rintro e w' ⟨rfl, rfl⟩
        go_wp2_with fail
        refine (s_validEdit p c many t true _ (by omega) hm HC1).mono ?_
        rintro e w1 ⟨rfl, hb1⟩
        have E1_1 := E1.below hb1 E1.lt
        have E2_1 := E2.below hb1 E2.lt
        have E3_1 := E3.below hb1 E3.lt
        have HB_1 := below_next HB hb1
        clear hb1 HB E1 E2 E3
        clear c00a c00b c00c c01a c01b c01c c02a c02b c02c
        obtain ⟨c10a, c10b, c10c⟩ := E1_1.cells
        obtain ⟨c11a, c11b, c11c⟩ := E2_1.cells
        obtain ⟨c12a, c12b, c12c⟩ := E3_1.cells
        go_wp2_with fail
        refine (s_validEdit p2 c2 many t2 true _ (by omega) hm HC2).mono ?_
        rintro e w2 ⟨rfl, hb2⟩
        have E1_2 := E1_1.below hb2 E1_1.lt
        have E2_2 := E2_1.below hb2 E2_1.lt
        have E3_2 := E3_1.below hb2 E3_1.lt
        have HB_2 := below_next HB_1 hb2
        clear hb2 HB_1 E1_1 E2_1 E3_1
        clear c10a c10b c10c c11a c11b c11c c12a c12b c12c
        obtain ⟨c20a, c20b, c20c⟩ := E1_2.cells
        obtain ⟨c21a, c21b, c21c⟩ := E2_2.cells
        obtain ⟨c22a, c22b, c22c⟩ := E3_2.cells
        go_wp2_with fail
        refine (s_apart_none p c p2 c2 t t2 _ k1 k2 k3 k4 hb1 hb2).mono ?_
        rintro e w3 ⟨rfl, hb3⟩
        have E1_3 := E1_2.below hb3 E1_2.lt
        have E2_3 := E2_2.below hb3 E2_2.lt
        have E3_3 := E3_2.below hb3 E3_2.lt
        have HB_3 := below_next HB_2 hb3
        clear hb3 HB_2 E1_2 E2_2 E3_2
        clear c20a c20b c20c c21a c21b c21c c22a c22b c22c
        obtain ⟨c30a, c30b, c30c⟩ := E1_3.cells
        obtain ⟨c31a, c31b, c31c⟩ := E2_3.cells
        obtain ⟨c32a, c32b, c32c⟩ := E3_3.cells
        have f := E3_3.free
        go_wp2
        have hk := E3_3.put (0) (0) (⟨#[]⟩)
        have hB := below_putE (p := 0) (c := 0) (t := ⟨#[]⟩) HB_3 (show w.heap.size ≤ w.heap.size + 1 + 1 by omega)
        simp only [EdAt, putE] at hk hB
        refine bodyPost_ret (results_row_tmpE rfl _ _ (w.heap.size + 1 + 1) _ _ _ _ rfl hk Try.underlying24 rfl (by kernel_rfl)) rfl ?_
        exact ⟨rfl, hB⟩
  · clear h
    by_cases hm : 0 ≤ many ∧ many ≤ 60
    · by_cases hc1 : CanE p c t many
      · have HC1 : Hid (decide (CanE p c t many) = true) := decide_eq_true hc1
        have HC2 : Hid (decide (CanE p2 c2 t2 many) = false) := decide_eq_false fun h => hc ⟨hc1, h⟩
        clear hc hc1
        obtain ⟨E1, E2, E3, HB⟩ := ebox3 w p c t p2 c2 t2 0 0 ⟨#[]⟩
        go_enter Try.func27, Try.ntmps27
        go_wp2_with fail
        generalize (((w.alloc (.cells #[.int .i64 p, .int .i64 c, .string t] 24)).alloc (.cells #[.int .i64 p2, .int .i64 c2, .string t2] 24)).alloc (.cells #[.int .i64 0, .int .i64 0, .string ⟨#[]⟩] 24)) = wA at E1 E2 E3 HB ⊢
        obtain ⟨c00a, c00b, c00c⟩ := E1.cells
        obtain ⟨c01a, c01b, c01c⟩ := E2.cells
        obtain ⟨c02a, c02b, c02c⟩ := E3.cells
        refine (inRange_yes _ _ _ _ hm.1 hm.2).mono ?_
        rintro e w' ⟨rfl, rfl⟩
        go_wp2_with fail
        refine (s_validEdit p c many t true _ (by omega) hm HC1).mono ?_
        rintro e w1 ⟨rfl, hb1⟩
        have E1_1 := E1.below hb1 E1.lt
        have E2_1 := E2.below hb1 E2.lt
        have E3_1 := E3.below hb1 E3.lt
        have HB_1 := below_next HB hb1
        clear hb1 HB E1 E2 E3
        clear c00a c00b c00c c01a c01b c01c c02a c02b c02c
        obtain ⟨c10a, c10b, c10c⟩ := E1_1.cells
        obtain ⟨c11a, c11b, c11c⟩ := E2_1.cells
        obtain ⟨c12a, c12b, c12c⟩ := E3_1.cells
        go_wp2_with fail
        refine (s_validEdit p2 c2 many t2 false _ (by omega) hm HC2).mono ?_
        rintro e w2 ⟨rfl, hb2⟩
        have E1_2 := E1_1.below hb2 E1_1.lt
        have E2_2 := E2_1.below hb2 E2_1.lt
        have E3_2 := E3_1.below hb2 E3_1.lt
        have HB_2 := below_next HB_1 hb2
        clear hb2 HB_1 E1_1 E2_1 E3_1
        clear c10a c10b c10c c11a c11b c11c c12a c12b c12c
        obtain ⟨c20a, c20b, c20c⟩ := E1_2.cells
        obtain ⟨c21a, c21b, c21c⟩ := E2_2.cells
        obtain ⟨c22a, c22b, c22c⟩ := E3_2.cells
        have f := E3_2.free
        go_wp2
        have hk := E3_2.put (0) (0) (⟨#[]⟩)
        have hB := below_putE (p := 0) (c := 0) (t := ⟨#[]⟩) HB_2 (show w.heap.size ≤ w.heap.size + 1 + 1 by omega)
        simp only [EdAt, putE] at hk hB
        refine bodyPost_ret (results_row_tmpE rfl _ _ (w.heap.size + 1 + 1) _ _ _ _ rfl hk Try.underlying24 rfl (by kernel_rfl)) rfl ?_
        exact ⟨rfl, hB⟩
      · have HC1 : Hid (decide (CanE p c t many) = false) := decide_eq_false hc1
        clear hc hc1
        obtain ⟨E1, E2, E3, HB⟩ := ebox3 w p c t p2 c2 t2 0 0 ⟨#[]⟩
        go_enter Try.func27, Try.ntmps27
        go_wp2_with fail
        generalize (((w.alloc (.cells #[.int .i64 p, .int .i64 c, .string t] 24)).alloc (.cells #[.int .i64 p2, .int .i64 c2, .string t2] 24)).alloc (.cells #[.int .i64 0, .int .i64 0, .string ⟨#[]⟩] 24)) = wA at E1 E2 E3 HB ⊢
        obtain ⟨c00a, c00b, c00c⟩ := E1.cells
        obtain ⟨c01a, c01b, c01c⟩ := E2.cells
        obtain ⟨c02a, c02b, c02c⟩ := E3.cells
        refine (inRange_yes _ _ _ _ hm.1 hm.2).mono ?_
        rintro e w' ⟨rfl, rfl⟩
        go_wp2_with fail
        refine (s_validEdit p c many t false _ (by omega) hm HC1).mono ?_
        rintro e w1 ⟨rfl, hb1⟩
        have E1_1 := E1.below hb1 E1.lt
        have E2_1 := E2.below hb1 E2.lt
        have E3_1 := E3.below hb1 E3.lt
        have HB_1 := below_next HB hb1
        clear hb1 HB E1 E2 E3
        clear c00a c00b c00c c01a c01b c01c c02a c02b c02c
        obtain ⟨c10a, c10b, c10c⟩ := E1_1.cells
        obtain ⟨c11a, c11b, c11c⟩ := E2_1.cells
        obtain ⟨c12a, c12b, c12c⟩ := E3_1.cells
        have f := E3_1.free
        go_wp2
        have hk := E3_1.put (0) (0) (⟨#[]⟩)
        have hB := below_putE (p := 0) (c := 0) (t := ⟨#[]⟩) HB_1 (show w.heap.size ≤ w.heap.size + 1 + 1 by omega)
        simp only [EdAt, putE] at hk hB
        refine bodyPost_ret (results_row_tmpE rfl _ _ (w.heap.size + 1 + 1) _ _ _ _ rfl hk Try.underlying24 rfl (by kernel_rfl)) rfl ?_
        exact ⟨rfl, hB⟩
    · clear hc
      obtain ⟨E1, E2, E3, HB⟩ := ebox3 w p c t p2 c2 t2 0 0 ⟨#[]⟩
      go_enter Try.func27, Try.ntmps27
      go_wp2_with fail
      generalize (((w.alloc (.cells #[.int .i64 p, .int .i64 c, .string t] 24)).alloc (.cells #[.int .i64 p2, .int .i64 c2, .string t2] 24)).alloc (.cells #[.int .i64 0, .int .i64 0, .string ⟨#[]⟩] 24)) = wA at E1 E2 E3 HB ⊢
      obtain ⟨c00a, c00b, c00c⟩ := E1.cells
      obtain ⟨c01a, c01b, c01c⟩ := E2.cells
      obtain ⟨c02a, c02b, c02c⟩ := E3.cells
      refine (e_range_no _ _ _ _ hm).mono ?_
      rintro e w' ⟨rfl, rfl⟩
      have f := E3.free
      go_wp2
      have hk := E3.put (0) (0) (⟨#[]⟩)
      have hB := below_putE (p := 0) (c := 0) (t := ⟨#[]⟩) HB (show w.heap.size ≤ w.heap.size + 1 + 1 by omega)
      simp only [EdAt, putE] at hk hB
      refine bodyPost_ret (results_row_tmpE rfl _ _ (w.heap.size + 1 + 1) _ _ _ _ rfl hk Try.underlying24 rfl (by kernel_rfl)) rfl ?_
      exact ⟨rfl, hB⟩
end Go.Proofs.Ythlamidlcbnchaa
