
/- ValidText by its answer. -/
import Derived.Test.YtjffppabpdimkabVT
namespace Go.Proofs.Ytjffppabpdimkab
open Go.RowKit

theorem i_ValidText_v (s : ByteArray) (b : Bool) (w : World) (hs : s.size ≤ 9223372036854775000) (hb : Hid (decide (ValidT s.data.toList) = b)) :
    Calls Try.prog 22 #[.string s] w fun e w' => e = .returned (.bool b) ∧ Below w.heap.size w w' := by
  have := i_ValidText s w hs
  rw [hb.out] at this
  exact this
theorem s_validText_v (s : ByteArray) (b : Bool) (w : World) (hs : s.size ≤ 9223372036854775000) (hb : Hid (decide (ValidT s.data.toList) = b)) :
    Calls Try.prog 58 #[.string s] w fun e w' => e = .returned (.bool b) ∧ w = w' := by
  have := s_validText s w hs
  rw [hb.out] at this
  exact this
theorem s_ValidText_v (s : ByteArray) (b : Bool) (w : World) (hs : s.size ≤ 9223372036854775000) (hb : Hid (decide (ValidT s.data.toList) = b)) :
    Calls Try.prog 23 #[.string s] w fun e w' => e = .returned (.bool b) ∧ w = w' := by
  go_enter Try.func23, Try.ntmps23
  go_wp2_with (go_at_call 58; refine (s_validText_v s b _ hs hb).mono ?_; rintro e w' ⟨rfl, rfl⟩)
  go_ret
  exact ⟨rfl, rfl⟩

end Go.Proofs.Ytjffppabpdimkab
