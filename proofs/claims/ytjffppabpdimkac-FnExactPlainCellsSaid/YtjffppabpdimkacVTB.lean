
/- ValidText by its answer. -/
import Derived.Test.YtjffppabpdimkacVT
namespace Go.Proofs.Ytjffppabpdimkac
open Go.RowKit

theorem i_ValidText_v (s : ByteArray) (b : Bool) (w : World) (hs : s.size ≤ 9223372036854775000) (hb : Hid (decide (ValidT s.data.toList) = b)) :
    Calls Try.prog 35 #[.string s] w fun e w' => e = .returned (.bool b) ∧ Below w.heap.size w w' := by
  have := i_ValidText s w hs
  rw [hb.out] at this
  exact this
theorem s_validText_v (s : ByteArray) (b : Bool) (w : World) (hs : s.size ≤ 9223372036854775000) (hb : Hid (decide (ValidT s.data.toList) = b)) :
    Calls Try.prog 59 #[.string s] w fun e w' => e = .returned (.bool b) ∧ w = w' := by
  have := s_validText s w hs
  rw [hb.out] at this
  exact this
theorem s_ValidText_v (s : ByteArray) (b : Bool) (w : World) (hs : s.size ≤ 9223372036854775000) (hb : Hid (decide (ValidT s.data.toList) = b)) :
    Calls Try.prog 34 #[.string s] w fun e w' => e = .returned (.bool b) ∧ w = w' := by
  go_enter Try.func34, Try.ntmps34
  go_wp2_with (go_at_call 59; refine (s_validText_v s b _ hs hb).mono ?_; rintro e w' ⟨rfl, rfl⟩)
  go_ret
  exact ⟨rfl, rfl⟩

theorem exValidText_walk (s : ByteArray) (w0 : s.size ≤ maxLen) (w : World) :
    Calls Try.prog 11 #[.string s] w fun e w' => e = .returned (.bool true) ∧ Below w.heap.size w w' := by
  unfold maxLen at w0
  by_cases hbig : s.size ≤ 1048576
  · obtain ⟨b, hb⟩ : ∃ b, decide (ValidT s.data.toList) = b := ⟨_, rfl⟩
    have HB := Lib.hid hb
    clear hb
    go_enter Try.func11, Try.ntmps11
    go_wp2_with fail
    refine (s_ValidText_v s b _ (by omega) HB).mono ?_
    rintro e w' ⟨rfl, rfl⟩
    go_wp2_with fail
    refine (i_ValidText_v s b _ (by omega) HB).mono ?_
    rintro e w2 ⟨rfl, hb2⟩
    go_wp2
    go_ret
    exact ⟨rfl, hb2⟩
  · have hbig' : 1048576 < s.size := by omega
    go_enter Try.func11, Try.ntmps11
    go_wp2
    go_ret
    exact ⟨rfl, Below.refl _ _⟩
end Go.Proofs.Ytjffppabpdimkac
