
/- ValidText by its answer. -/
import Derived.Test.YtnahamhjcdkkkaaVT
namespace Go.Proofs.Ytnahamhjcdkkkaa
open Go.RowKit

theorem i_ValidText_v (s : ByteArray) (b : Bool) (w : World) (hs : s.size ≤ 9223372036854775000) (hb : Hid (decide (ValidT s.data.toList) = b)) :
    Calls Try.prog 70 #[.string s] w fun e w' => e = .returned (.bool b) ∧ Below w.heap.size w w' := by
  have := i_ValidText s w hs
  rw [hb.out] at this
  exact this
end Go.Proofs.Ytnahamhjcdkkkaa
