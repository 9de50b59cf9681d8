
/- Letters and digits: the contracts of the functions that look for a letter or a digit. -/
import Derived.Test.YtohgglhjcklbaaaLet
namespace Go.Proofs.Ytohgglhjcklbaaa
open Go.RowKit

theorem ret_i64 {a b : Int} (h : a = b) : Ending.returned (.int .i64 a) = .returned (.int .i64 b) := by rw [h]

theorem i_letterCell_at (k : Nat) (v : Int) (w : World) (h1 : k < 26) (hv : Hid (letL.getD k 0 = v)) :
    Calls Try.prog 47 #[.int .i64 k] w fun e w' => e = .returned (.int .i64 v) ∧ w = w' := by
  have := i_letterCell k w (by omega) (by omega)
  rw [Int.toNat_natCast, hv.out] at this
  exact this
theorem s_letterCell_at (k : Nat) (v : Int) (w : World) (h1 : k < 26) (hv : Hid (letL.getD k 0 = v)) :
    Calls Try.prog 108 #[.int .i64 k] w fun e w' => e = .returned (.int .i64 v) ∧ Below w.heap.size w w' := by
  have := s_letterCell k w (by omega) (by omega)
  rw [Int.toNat_natCast, hv.out] at this
  exact this

end Go.Proofs.Ytohgglhjcklbaaa
