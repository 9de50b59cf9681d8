/- The exact laws of letters and digits: their walks. -/
import Derived.Test.YtjffppabpdimkacLetB
namespace Go.Proofs.Ytjffppabpdimkac
open Go.RowKit

set_option maxHeartbeats 400000 in
theorem exlettercell_walk (a0 : Int) (w : World) :
    Calls Try.prog 6 #[.int .i64 a0] w fun e w' => e = .returned (.bool true) ∧ Below w.heap.size w w' := by
  by_cases h0 : 0 ≤ a0
  · by_cases h1 : a0 < 26
    · have d1 : decide (a0 ≤ 25) = true := decide_eq_true (by omega)
      obtain ⟨k, rfl⟩ : ∃ k : Nat, a0 = k := ⟨a0.toNat, by omega⟩
      have hlt : k < 26 := by omega
      obtain ⟨v, hv⟩ : ∃ v, letL.getD k 0 = v := ⟨_, rfl⟩
      have HV := Lib.hid hv
      clear hv
      go_enter Try.func6, Try.ntmps6
      go_wp2_with (first | (go_at_call 25; refine (i_letterCell_at k v _ hlt HV).mono ?_; rintro e w' ⟨rfl, rfl⟩) | (go_at_call 51; refine (s_letterCell_at k v _ hlt HV).mono ?_; rintro e w' ⟨rfl, hb⟩) | (go_at_call 24; go_in) | (go_at_call 50; go_in))
      go_ret
      exact ⟨rfl, hb⟩
    · have d1 : decide (a0 ≤ 25) = false := decide_eq_false (by omega)
      have d2 : 26 ≤ a0 := by omega
      go_enter Try.func6, Try.ntmps6
      go_wp2_with (first | (go_at_call 25; refine (i_letterCell_no _ _ (.inr d2)).mono ?_; rintro e w' ⟨rfl, rfl⟩) | (go_at_call 24; go_in) | (go_at_call 50; go_in))
      go_ret
      exact ⟨rfl, Below.refl _ _⟩
  · have d2 : a0 < 0 := by omega
    go_enter Try.func6, Try.ntmps6
    go_wp2_with (first | (go_at_call 25; refine (i_letterCell_no _ _ (.inl d2)).mono ?_; rintro e w' ⟨rfl, rfl⟩) | (go_at_call 24; go_in) | (go_at_call 50; go_in))
    go_ret
    exact ⟨rfl, Below.refl _ _⟩

set_option maxHeartbeats 400000 in
theorem exletterof_walk (a0 : Int) (w : World) :
    Calls Try.prog 7 #[.int .i64 a0] w fun e w' => e = .returned (.bool true) ∧ Below w.heap.size w w' := by
  go_enter Try.func7, Try.ntmps7
  go_wp2_with (first | (go_at_call 27; refine (i_letterOf _ _).mono ?_; rintro e w' ⟨rfl, rfl⟩) | (go_at_call 54; refine (s_letterOf _ _).mono ?_; rintro e w' ⟨rfl, hb⟩) | (go_at_call 26; go_in))
  go_ret
  exact ⟨rfl, hb⟩

set_option maxHeartbeats 400000 in
theorem exdigitcell_walk (a0 : Int) (w : World) :
    Calls Try.prog 8 #[.int .i64 a0] w fun e w' => e = .returned (.bool true) ∧ Below w.heap.size w w' := by
  by_cases h0 : 0 ≤ a0
  · by_cases h1 : a0 < 10
    · have d1 : decide (a0 ≤ 9) = true := decide_eq_true (by omega)
      obtain ⟨k, rfl⟩ : ∃ k : Nat, a0 = k := ⟨a0.toNat, by omega⟩
      have hlt : k < 10 := by omega
      obtain ⟨v, hv⟩ : ∃ v, digL.getD k 0 = v := ⟨_, rfl⟩
      have HV := Lib.hid hv
      clear hv
      go_enter Try.func8, Try.ntmps8
      go_wp2_with (first | (go_at_call 29; refine (i_digitCell_at k v _ hlt HV).mono ?_; rintro e w' ⟨rfl, rfl⟩) | (go_at_call 55; refine (s_digitCell_at k v _ hlt HV).mono ?_; rintro e w' ⟨rfl, hb⟩) | (go_at_call 28; go_in) | (go_at_call 50; go_in))
      go_ret
      exact ⟨rfl, hb⟩
    · have d1 : decide (a0 ≤ 9) = false := decide_eq_false (by omega)
      have d2 : 10 ≤ a0 := by omega
      go_enter Try.func8, Try.ntmps8
      go_wp2_with (first | (go_at_call 29; refine (i_digitCell_no _ _ (.inr d2)).mono ?_; rintro e w' ⟨rfl, rfl⟩) | (go_at_call 28; go_in) | (go_at_call 50; go_in))
      go_ret
      exact ⟨rfl, Below.refl _ _⟩
  · have d2 : a0 < 0 := by omega
    go_enter Try.func8, Try.ntmps8
    go_wp2_with (first | (go_at_call 29; refine (i_digitCell_no _ _ (.inl d2)).mono ?_; rintro e w' ⟨rfl, rfl⟩) | (go_at_call 28; go_in) | (go_at_call 50; go_in))
    go_ret
    exact ⟨rfl, Below.refl _ _⟩

set_option maxHeartbeats 400000 in
theorem exdigitof_walk (a0 : Int) (w : World) :
    Calls Try.prog 9 #[.int .i64 a0] w fun e w' => e = .returned (.bool true) ∧ Below w.heap.size w w' := by
  go_enter Try.func9, Try.ntmps9
  go_wp2_with (first | (go_at_call 31; refine (i_digitOf _ _).mono ?_; rintro e w' ⟨rfl, rfl⟩) | (go_at_call 56; refine (s_digitOf _ _).mono ?_; rintro e w' ⟨rfl, hb⟩) | (go_at_call 30; go_in))
  go_ret
  exact ⟨rfl, hb⟩

end Go.Proofs.Ytjffppabpdimkac
