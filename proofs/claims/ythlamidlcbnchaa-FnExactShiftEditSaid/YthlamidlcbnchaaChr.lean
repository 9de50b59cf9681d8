
/- Kinds of characters. -/
import Derived.Test.YthlamidlcbnchaaLst
namespace Go.Proofs.Ythlamidlcbnchaa
open Go.RowKit

/-- the byte is a letter -/
def letB (c : Nat) : Bool := decide (97 ≤ c ∧ c ≤ 122) || decide (65 ≤ c ∧ c ≤ 90)

theorem i_isSmall_b (c : Nat) (b : Bool) (w : World) (hb : Hid (decide (97 ≤ c ∧ c ≤ 122) = b)) :
    Calls Try.prog 54 #[.int .u8 c] w fun e w' => e = .returned (.bool b) ∧ w = w' := by
  by_cases h1 : 97 ≤ c
  · by_cases h2 : c ≤ 122
    · have HB : Hid (b = true) := by show _ = _; rw [← hb.out]; simp; omega
      have d1 : decide ((97 : Int) ≤ (c : Int)) = true := decide_eq_true (by omega)
      have d2 : decide ((c : Int) ≤ 122) = true := decide_eq_true (by omega)
      go_enter Try.func54, Try.ntmps54
      go_wp2
      go_ret
      exact ⟨by rw [HB.out]; rfl, rfl⟩
    · have HB : Hid (b = false) := by show _ = _; rw [← hb.out]; simp; omega
      have d1 : decide ((97 : Int) ≤ (c : Int)) = true := decide_eq_true (by omega)
      have d2 : decide ((c : Int) ≤ 122) = false := decide_eq_false (by omega)
      go_enter Try.func54, Try.ntmps54
      go_wp2
      go_ret
      exact ⟨by rw [HB.out]; rfl, rfl⟩
  · have HB : Hid (b = false) := by show _ = _; rw [← hb.out]; simp; omega
    have d1 : decide ((97 : Int) ≤ (c : Int)) = false := decide_eq_false (by omega)
    go_enter Try.func54, Try.ntmps54
    go_wp2
    go_ret
    exact ⟨by rw [HB.out]; rfl, rfl⟩

theorem i_isCapital_b (c : Nat) (b : Bool) (w : World) (hb : Hid (decide (65 ≤ c ∧ c ≤ 90) = b)) :
    Calls Try.prog 55 #[.int .u8 c] w fun e w' => e = .returned (.bool b) ∧ w = w' := by
  by_cases h1 : 65 ≤ c
  · by_cases h2 : c ≤ 90
    · have HB : Hid (b = true) := by show _ = _; rw [← hb.out]; simp; omega
      have d1 : decide ((65 : Int) ≤ (c : Int)) = true := decide_eq_true (by omega)
      have d2 : decide ((c : Int) ≤ 90) = true := decide_eq_true (by omega)
      go_enter Try.func55, Try.ntmps55
      go_wp2
      go_ret
      exact ⟨by rw [HB.out]; rfl, rfl⟩
    · have HB : Hid (b = false) := by show _ = _; rw [← hb.out]; simp; omega
      have d1 : decide ((65 : Int) ≤ (c : Int)) = true := decide_eq_true (by omega)
      have d2 : decide ((c : Int) ≤ 90) = false := decide_eq_false (by omega)
      go_enter Try.func55, Try.ntmps55
      go_wp2
      go_ret
      exact ⟨by rw [HB.out]; rfl, rfl⟩
  · have HB : Hid (b = false) := by show _ = _; rw [← hb.out]; simp; omega
    have d1 : decide ((65 : Int) ≤ (c : Int)) = false := decide_eq_false (by omega)
    go_enter Try.func55, Try.ntmps55
    go_wp2
    go_ret
    exact ⟨by rw [HB.out]; rfl, rfl⟩

theorem i_isDigit_b (c : Nat) (b : Bool) (w : World) (hb : Hid (decide (48 ≤ c ∧ c ≤ 57) = b)) :
    Calls Try.prog 56 #[.int .u8 c] w fun e w' => e = .returned (.bool b) ∧ w = w' := by
  by_cases h1 : 48 ≤ c
  · by_cases h2 : c ≤ 57
    · have HB : Hid (b = true) := by show _ = _; rw [← hb.out]; simp; omega
      have d1 : decide ((48 : Int) ≤ (c : Int)) = true := decide_eq_true (by omega)
      have d2 : decide ((c : Int) ≤ 57) = true := decide_eq_true (by omega)
      go_enter Try.func56, Try.ntmps56
      go_wp2
      go_ret
      exact ⟨by rw [HB.out]; rfl, rfl⟩
    · have HB : Hid (b = false) := by show _ = _; rw [← hb.out]; simp; omega
      have d1 : decide ((48 : Int) ≤ (c : Int)) = true := decide_eq_true (by omega)
      have d2 : decide ((c : Int) ≤ 57) = false := decide_eq_false (by omega)
      go_enter Try.func56, Try.ntmps56
      go_wp2
      go_ret
      exact ⟨by rw [HB.out]; rfl, rfl⟩
  · have HB : Hid (b = false) := by show _ = _; rw [← hb.out]; simp; omega
    have d1 : decide ((48 : Int) ≤ (c : Int)) = false := decide_eq_false (by omega)
    go_enter Try.func56, Try.ntmps56
    go_wp2
    go_ret
    exact ⟨by rw [HB.out]; rfl, rfl⟩

theorem s_isLower_b (c : Nat) (b : Bool) (w : World) (hb : Hid (decide (97 ≤ c ∧ c ≤ 122) = b)) :
    Calls Try.prog 60 #[.int .u8 c] w fun e w' => e = .returned (.bool b) ∧ w = w' := by
  by_cases h1 : 97 ≤ c
  · by_cases h2 : c ≤ 122
    · have HB : Hid (b = true) := by show _ = _; rw [← hb.out]; simp; omega
      have d1 : decide ((97 : Int) ≤ (c : Int)) = true := decide_eq_true (by omega)
      have d2 : decide ((c : Int) ≤ 122) = true := decide_eq_true (by omega)
      go_enter Try.func60, Try.ntmps60
      go_wp2
      go_ret
      exact ⟨by rw [HB.out]; rfl, rfl⟩
    · have HB : Hid (b = false) := by show _ = _; rw [← hb.out]; simp; omega
      have d1 : decide ((97 : Int) ≤ (c : Int)) = true := decide_eq_true (by omega)
      have d2 : decide ((c : Int) ≤ 122) = false := decide_eq_false (by omega)
      go_enter Try.func60, Try.ntmps60
      go_wp2
      go_ret
      exact ⟨by rw [HB.out]; rfl, rfl⟩
  · have HB : Hid (b = false) := by show _ = _; rw [← hb.out]; simp; omega
    have d1 : decide ((97 : Int) ≤ (c : Int)) = false := decide_eq_false (by omega)
    go_enter Try.func60, Try.ntmps60
    go_wp2
    go_ret
    exact ⟨by rw [HB.out]; rfl, rfl⟩

theorem s_isUpper_b (c : Nat) (b : Bool) (w : World) (hb : Hid (decide (65 ≤ c ∧ c ≤ 90) = b)) :
    Calls Try.prog 61 #[.int .u8 c] w fun e w' => e = .returned (.bool b) ∧ w = w' := by
  by_cases h1 : 65 ≤ c
  · by_cases h2 : c ≤ 90
    · have HB : Hid (b = true) := by show _ = _; rw [← hb.out]; simp; omega
      have d1 : decide ((65 : Int) ≤ (c : Int)) = true := decide_eq_true (by omega)
      have d2 : decide ((c : Int) ≤ 90) = true := decide_eq_true (by omega)
      go_enter Try.func61, Try.ntmps61
      go_wp2
      go_ret
      exact ⟨by rw [HB.out]; rfl, rfl⟩
    · have HB : Hid (b = false) := by show _ = _; rw [← hb.out]; simp; omega
      have d1 : decide ((65 : Int) ≤ (c : Int)) = true := decide_eq_true (by omega)
      have d2 : decide ((c : Int) ≤ 90) = false := decide_eq_false (by omega)
      go_enter Try.func61, Try.ntmps61
      go_wp2
      go_ret
      exact ⟨by rw [HB.out]; rfl, rfl⟩
  · have HB : Hid (b = false) := by show _ = _; rw [← hb.out]; simp; omega
    have d1 : decide ((65 : Int) ≤ (c : Int)) = false := decide_eq_false (by omega)
    go_enter Try.func61, Try.ntmps61
    go_wp2
    go_ret
    exact ⟨by rw [HB.out]; rfl, rfl⟩

theorem s_isDigit_b (c : Nat) (b : Bool) (w : World) (hb : Hid (decide (48 ≤ c ∧ c ≤ 57) = b)) :
    Calls Try.prog 52 #[.int .u8 c] w fun e w' => e = .returned (.bool b) ∧ w = w' := by
  by_cases h1 : 48 ≤ c
  · by_cases h2 : c ≤ 57
    · have HB : Hid (b = true) := by show _ = _; rw [← hb.out]; simp; omega
      have d1 : decide ((48 : Int) ≤ (c : Int)) = true := decide_eq_true (by omega)
      have d2 : decide ((c : Int) ≤ 57) = true := decide_eq_true (by omega)
      go_enter Try.func52, Try.ntmps52
      go_wp2
      go_ret
      exact ⟨by rw [HB.out]; rfl, rfl⟩
    · have HB : Hid (b = false) := by show _ = _; rw [← hb.out]; simp; omega
      have d1 : decide ((48 : Int) ≤ (c : Int)) = true := decide_eq_true (by omega)
      have d2 : decide ((c : Int) ≤ 57) = false := decide_eq_false (by omega)
      go_enter Try.func52, Try.ntmps52
      go_wp2
      go_ret
      exact ⟨by rw [HB.out]; rfl, rfl⟩
  · have HB : Hid (b = false) := by show _ = _; rw [← hb.out]; simp; omega
    have d1 : decide ((48 : Int) ≤ (c : Int)) = false := decide_eq_false (by omega)
    go_enter Try.func52, Try.ntmps52
    go_wp2
    go_ret
    exact ⟨by rw [HB.out]; rfl, rfl⟩

theorem i_isLetter_b (c : Nat) (b : Bool) (w : World) (hb : Hid (letB c = b)) :
    Calls Try.prog 39 #[.int .u8 c] w fun e w' => e = .returned (.bool b) ∧ w = w' := by
  have HX : Hid ((decide (97 ≤ c ∧ c ≤ 122) || decide (65 ≤ c ∧ c ≤ 90)) = b) := hb
  cases h1 : decide (97 ≤ c ∧ c ≤ 122) with
  | true =>
    have H1 := Lib.hid h1
    have HB : Hid (b = true) := by show _ = _; rw [← HX.out, h1]; rfl
    clear h1
    go_enter Try.func39, Try.ntmps39
    go_wp2_with (go_at_call 54; refine (i_isSmall_b c true _ H1).mono ?_; rintro e w' ⟨rfl, rfl⟩)
    go_ret
    exact ⟨by rw [HB.out]; rfl, rfl⟩
  | false =>
    cases h2 : decide (65 ≤ c ∧ c ≤ 90) with
    | true =>
      have H1 := Lib.hid h1
      have H2 := Lib.hid h2
      have HB : Hid (b = true) := by show _ = _; rw [← HX.out, h1, h2]; rfl
      clear h1 h2
      go_enter Try.func39, Try.ntmps39
      go_wp2_with (first | (go_at_call 54; refine (i_isSmall_b c false _ H1).mono ?_; rintro e w' ⟨rfl, rfl⟩) | (go_at_call 55; refine (i_isCapital_b c true _ H2).mono ?_; rintro e w' ⟨rfl, rfl⟩))
      go_ret
      exact ⟨by rw [HB.out]; rfl, rfl⟩
    | false =>
      have H1 := Lib.hid h1
      have H2 := Lib.hid h2
      have HB : Hid (b = false) := by show _ = _; rw [← HX.out, h1, h2]; rfl
      clear h1 h2
      go_enter Try.func39, Try.ntmps39
      go_wp2_with (first | (go_at_call 54; refine (i_isSmall_b c false _ H1).mono ?_; rintro e w' ⟨rfl, rfl⟩) | (go_at_call 55; refine (i_isCapital_b c false _ H2).mono ?_; rintro e w' ⟨rfl, rfl⟩))
      go_ret
      exact ⟨by rw [HB.out]; rfl, rfl⟩

theorem s_isLetter_b (c : Nat) (b : Bool) (w : World) (hb : Hid (letB c = b)) :
    Calls Try.prog 51 #[.int .u8 c] w fun e w' => e = .returned (.bool b) ∧ w = w' := by
  have HX : Hid ((decide (97 ≤ c ∧ c ≤ 122) || decide (65 ≤ c ∧ c ≤ 90)) = b) := hb
  cases h1 : decide (97 ≤ c ∧ c ≤ 122) with
  | true =>
    have H1 := Lib.hid h1
    have HB : Hid (b = true) := by show _ = _; rw [← HX.out, h1]; rfl
    clear h1
    go_enter Try.func51, Try.ntmps51
    go_wp2_with (go_at_call 60; refine (s_isLower_b c true _ H1).mono ?_; rintro e w' ⟨rfl, rfl⟩)
    go_ret
    exact ⟨by rw [HB.out]; rfl, rfl⟩
  | false =>
    cases h2 : decide (65 ≤ c ∧ c ≤ 90) with
    | true =>
      have H1 := Lib.hid h1
      have H2 := Lib.hid h2
      have HB : Hid (b = true) := by show _ = _; rw [← HX.out, h1, h2]; rfl
      clear h1 h2
      go_enter Try.func51, Try.ntmps51
      go_wp2_with (first | (go_at_call 60; refine (s_isLower_b c false _ H1).mono ?_; rintro e w' ⟨rfl, rfl⟩) | (go_at_call 61; refine (s_isUpper_b c true _ H2).mono ?_; rintro e w' ⟨rfl, rfl⟩))
      go_ret
      exact ⟨by rw [HB.out]; rfl, rfl⟩
    | false =>
      have H1 := Lib.hid h1
      have H2 := Lib.hid h2
      have HB : Hid (b = false) := by show _ = _; rw [← HX.out, h1, h2]; rfl
      clear h1 h2
      go_enter Try.func51, Try.ntmps51
      go_wp2_with (first | (go_at_call 60; refine (s_isLower_b c false _ H1).mono ?_; rintro e w' ⟨rfl, rfl⟩) | (go_at_call 61; refine (s_isUpper_b c false _ H2).mono ?_; rintro e w' ⟨rfl, rfl⟩))
      go_ret
      exact ⟨by rw [HB.out]; rfl, rfl⟩
end Go.Proofs.Ythlamidlcbnchaa
