
/- Letters and digits: the contracts of the functions that look for a letter or a digit. -/
import Derived.Test.YtekchmbbafjmmaaLet
namespace Go.Proofs.Ytekchmbbafjmmaa
open Go.RowKit

theorem ret_i64 {a b : Int} (h : a = b) : Ending.returned (.int .i64 a) = .returned (.int .i64 b) := by rw [h]

end Go.Proofs.Ytekchmbbafjmmaa
