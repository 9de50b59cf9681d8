
/- FnLetterCell, FnLetterCellDecades, FnMirror: their walks. -/
import Derived.Test.YtekchmbbafjmmaaPrB
namespace Go.Proofs.Ytekchmbbafjmmaa
open Go.RowKit

theorem letL_facts : ∀ k : Nat, k < 26 → (letL.getD k 0).toNat < 64 ∧ letL.getD k 0 = ((letL.getD k 0).toNat : Nat) ∧ idx letL (letL.getD k 0) = k ∧
    (decide ((1 : Int) ∈ dotsL (letL.getD k 0).toNat) = true ∨ (decide ((1 : Int) ∈ dotsL (letL.getD k 0).toNat) = false ∧ decide ((2 : Int) ∈ dotsL (letL.getD k 0).toNat) = true)) ∧
    (k < 10 → letL.getD (k + 10) 0 = letL.getD k 0 + 4 ∧ decide ((3 : Int) ∈ dotsL (letL.getD k 0).toNat) = false ∧ decide ((6 : Int) ∈ dotsL (letL.getD k 0).toNat) = false) := by decide +kernel
theorem mir_facts : ∀ c : Nat, c < 64 → c % 8 * 8 + c / 8 < 64 ∧ (c % 8 * 8 + c / 8) % 8 * 8 + (c % 8 * 8 + c / 8) / 8 = c ∧ (dotsL (c % 8 * 8 + c / 8)).length = (dotsL c).length ∧
    (∀ k : Nat, k < 3 → decide (((k : Int) + 1) ∈ dotsL c) = decide (((k : Int) + 1 + 3) ∈ dotsL (c % 8 * 8 + c / 8)) ∧ decide (((k : Int) + 1 + 3) ∈ dotsL c) = decide (((k : Int) + 1) ∈ dotsL (c % 8 * 8 + c / 8))) := by decide +kernel
theorem i_Mirror (c m : Nat) (w : World) (hc : c < 64) (hm : Hid (c % 8 * 8 + c / 8 = m)) :
    Calls Try.prog 21 #[.int .i64 c] w fun e w' => e = .returned (.int .i64 m) ∧ w = w' := by
  go_enter Try.func21, Try.ntmps21
  go_wp2_with (go_at_call 49; refine (i_isCell_yes _ _ (by omega) (by omega)).mono ?_; rintro e w' ⟨rfl, rfl⟩)
  go_ret
  exact ⟨ret_i64 (by have := hm.out; omega), rfl⟩
theorem i_Mirror_no (n : Int) (w : World) (h : n < 0 ∨ 64 ≤ n) :
    Calls Try.prog 21 #[.int .i64 n] w fun e w' => e = .returned (.int .i64 (-1)) ∧ w = w' := by
  go_enter Try.func21, Try.ntmps21
  go_wp2_with (go_at_call 49; refine (i_isCell_no _ _ h).mono ?_; rintro e w' ⟨rfl, rfl⟩)
  go_ret
  exact ⟨rfl, rfl⟩
theorem s_Mirror (c m : Nat) (w : World) (hc : c < 64) (hm : Hid (c % 8 * 8 + c / 8 = m)) :
    Calls Try.prog 48 #[.int .i64 c] w fun e w' => e = .returned (.int .i64 m) ∧ w = w' := by
  go_enter Try.func48, Try.ntmps48
  go_wp2_with (go_at_call 51; refine (s_isCell_yes _ _ (by omega) (by omega)).mono ?_; rintro e w' ⟨rfl, rfl⟩)
  go_ret
  exact ⟨ret_i64 (by have := hm.out; omega), rfl⟩
theorem s_Mirror_no (n : Int) (w : World) (h : n < 0 ∨ 64 ≤ n) :
    Calls Try.prog 48 #[.int .i64 n] w fun e w' => e = .returned (.int .i64 (-1)) ∧ w = w' := by
  go_enter Try.func48, Try.ntmps48
  go_wp2_with (go_at_call 51; refine (s_isCell_no _ _ h).mono ?_; rintro e w' ⟨rfl, rfl⟩)
  go_ret
  exact ⟨rfl, rfl⟩

end Go.Proofs.Ytekchmbbafjmmaa
