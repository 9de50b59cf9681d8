
/- Letters and digits: the contracts of the functions that look for a letter or a digit. -/
import Derived.Test.YthlamidlcbnchaaLet
namespace Go.Proofs.Ythlamidlcbnchaa
open Go.RowKit

theorem ret_i64 {a b : Int} (h : a = b) : Ending.returned (.int .i64 a) = .returned (.int .i64 b) := by rw [h]

set_option maxHeartbeats 2000000 in
theorem i_digitCell (n : Int) (w : World) (h0 : 0 ≤ n) (h1 : n < 10) :
    Calls Try.prog 57 #[.int .i64 n] w fun e w' => e = .returned (.int .i64 (digL.getD n.toNat 0)) ∧ w = w' := by
  rcases cases10 h0 h1 with rfl | rfl | rfl | rfl | rfl | rfl | rfl | rfl | rfl | rfl
  all_goals
    clear h0 h1
    go_enter Try.func57, Try.ntmps57
    go_wp2
    go_ret
    exact ⟨rfl, rfl⟩
theorem i_digitCell_no (n : Int) (w : World) (h : n < 0 ∨ 10 ≤ n) :
    Calls Try.prog 57 #[.int .i64 n] w fun e w' => e = .returned (.int .i64 (-1)) ∧ w = w' := by
  rcases h with h | h
  · have d0 : decide (n < 0) = true := decide_eq_true h
    go_enter Try.func57, Try.ntmps57
    go_wp2
    go_ret
    exact ⟨rfl, rfl⟩
  · have d0 : decide (n < 0) = false := decide_eq_false (by omega)
    have d1 : decide (10 ≤ n) = true := decide_eq_true h
    go_enter Try.func57, Try.ntmps57
    go_wp2
    go_ret
    exact ⟨rfl, rfl⟩
theorem i_digitCell_at (k : Nat) (v : Int) (w : World) (h1 : k < 10) (hv : Hid (digL.getD k 0 = v)) :
    Calls Try.prog 57 #[.int .i64 k] w fun e w' => e = .returned (.int .i64 v) ∧ w = w' := by
  have := i_digitCell k w (by omega) (by omega)
  rw [Int.toNat_natCast, hv.out] at this
  exact this
end Go.Proofs.Ythlamidlcbnchaa
