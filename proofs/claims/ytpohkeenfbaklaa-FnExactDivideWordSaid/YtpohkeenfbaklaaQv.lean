
/- Words: the model. -/
import Derived.Test.YtpohkeenfbaklaaTbA
namespace Go.Proofs.Ytpohkeenfbaklaa
open Go.RowKit

theorem s_validWord_q (s : ByteArray) (w : World) (hs : s.size ≤ 9223372036854775807) :
    Calls Try.prog 47 #[.string s] w fun e w' => e = .returned (.bool (decide (WordB 16 s.data.toList))) ∧ w = w' := by
  have hl := wd_size s
  obtain ⟨b, hb⟩ : ∃ b, decide (SmallB s.data.toList) = b := ⟨_, rfl⟩
  have HW : Hid (∀ wx, Calls Try.prog 63 #[.string s] wx fun e w' => e = .returned (.bool b) ∧ wx = w') := fun wx => by
    have := s_isWord s wx hs
    rw [hb] at this
    exact this
  have HV : Hid (WordB 16 s.data.toList ↔ b = true ∧ s.size ≤ 16) := by
    rw [← hb]
    exact ⟨fun h => ⟨decide_eq_true ⟨h.1, h.2.2⟩, by have := h.2.1; omega⟩, fun h => by
      have h1 : SmallB s.data.toList := of_decide_eq_true h.1
      exact ⟨h1.1, by omega, h1.2⟩⟩
  clear hb hl
  cases b with
  | false =>
    have HO : Hid (¬ WordB 16 s.data.toList) := fun h => absurd (HV.out.1 h).1 (by simp)
    go_enter Try.func47, Try.ntmps47
    go_wp2_with fail
    refine (HW.out _).mono ?_
    rintro e w' ⟨rfl, rfl⟩
    go_wp2
    go_ret
    exact ⟨ret_bool (decide_eq_false HO.out).symm, rfl⟩
  | true =>
    by_cases c : s.size ≤ 16
    · have HO : Hid (WordB 16 s.data.toList) := HV.out.2 ⟨rfl, c⟩
      have d1 : decide ((s.size : Int) ≤ 16) = true := decide_eq_true (by omega)
      go_enter Try.func47, Try.ntmps47
      go_wp2_with fail
      refine (HW.out _).mono ?_
      rintro e w' ⟨rfl, rfl⟩
      go_wp2
      go_ret
      exact ⟨ret_bool (decide_eq_true HO.out).symm, rfl⟩
    · have HO : Hid (¬ WordB 16 s.data.toList) := fun h => c (HV.out.1 h).2
      have d1 : decide ((s.size : Int) ≤ 16) = false := decide_eq_false (by omega)
      go_enter Try.func47, Try.ntmps47
      go_wp2_with fail
      refine (HW.out _).mono ?_
      rintro e w' ⟨rfl, rfl⟩
      go_wp2
      go_ret
      exact ⟨ret_bool (decide_eq_false HO.out).symm, rfl⟩

end Go.Proofs.Ytpohkeenfbaklaa
