
/- ValidText by its answer. -/
import Derived.Test.YthlamidlcbnchaaVT
namespace Go.Proofs.Ythlamidlcbnchaa
open Go.RowKit

theorem i_ValidText_v (s : ByteArray) (b : Bool) (w : World) (hs : s.size ≤ 9223372036854775000) (hb : Hid (decide (ValidT s.data.toList) = b)) :
    Calls Try.prog 17 #[.string s] w fun e w' => e = .returned (.bool b) ∧ Below w.heap.size w w' := by
  have := i_ValidText s w hs
  rw [hb.out] at this
  exact this
theorem s_validText_v (s : ByteArray) (b : Bool) (w : World) (hs : s.size ≤ 9223372036854775000) (hb : Hid (decide (ValidT s.data.toList) = b)) :
    Calls Try.prog 36 #[.string s] w fun e w' => e = .returned (.bool b) ∧ w = w' := by
  have := s_validText s w hs
  rw [hb.out] at this
  exact this
end Go.Proofs.Ythlamidlcbnchaa
