
/- Kinds of characters. -/
import Derived.Test.YtjedkmhmkipkdaaLst
namespace Go.Proofs.Ytjedkmhmkipkdaa
open Go.RowKit

/-- the byte is a letter -/
def letB (c : Nat) : Bool := decide (97 ≤ c ∧ c ≤ 122) || decide (65 ≤ c ∧ c ≤ 90)

theorem i_isSmall_b (c : Nat) (b : Bool) (w : World) (hb : Hid (decide (97 ≤ c ∧ c ≤ 122) = b)) :
    Calls Try.prog 70 #[.int .u8 c] w fun e w' => e = .returned (.bool b) ∧ w = w' := by
  by_cases h1 : 97 ≤ c
  · by_cases h2 : c ≤ 122
    · have HB : Hid (b = true) := by show _ = _; rw [← hb.out]; simp; omega
      have d1 : decide ((97 : Int) ≤ (c : Int)) = true := decide_eq_true (by omega)
      have d2 : decide ((c : Int) ≤ 122) = true := decide_eq_true (by omega)
      go_enter Try.func70, Try.ntmps70
      go_wp2
      go_ret
      exact ⟨by rw [HB.out]; rfl, rfl⟩
    · have HB : Hid (b = false) := by show _ = _; rw [← hb.out]; simp; omega
      have d1 : decide ((97 : Int) ≤ (c : Int)) = true := decide_eq_true (by omega)
      have d2 : decide ((c : Int) ≤ 122) = false := decide_eq_false (by omega)
      go_enter Try.func70, Try.ntmps70
      go_wp2
      go_ret
      exact ⟨by rw [HB.out]; rfl, rfl⟩
  · have HB : Hid (b = false) := by show _ = _; rw [← hb.out]; simp; omega
    have d1 : decide ((97 : Int) ≤ (c : Int)) = false := decide_eq_false (by omega)
    go_enter Try.func70, Try.ntmps70
    go_wp2
    go_ret
    exact ⟨by rw [HB.out]; rfl, rfl⟩

theorem i_isCapital_b (c : Nat) (b : Bool) (w : World) (hb : Hid (decide (65 ≤ c ∧ c ≤ 90) = b)) :
    Calls Try.prog 71 #[.int .u8 c] w fun e w' => e = .returned (.bool b) ∧ w = w' := by
  by_cases h1 : 65 ≤ c
  · by_cases h2 : c ≤ 90
    · have HB : Hid (b = true) := by show _ = _; rw [← hb.out]; simp; omega
      have d1 : decide ((65 : Int) ≤ (c : Int)) = true := decide_eq_true (by omega)
      have d2 : decide ((c : Int) ≤ 90) = true := decide_eq_true (by omega)
      go_enter Try.func71, Try.ntmps71
      go_wp2
      go_ret
      exact ⟨by rw [HB.out]; rfl, rfl⟩
    · have HB : Hid (b = false) := by show _ = _; rw [← hb.out]; simp; omega
      have d1 : decide ((65 : Int) ≤ (c : Int)) = true := decide_eq_true (by omega)
      have d2 : decide ((c : Int) ≤ 90) = false := decide_eq_false (by omega)
      go_enter Try.func71, Try.ntmps71
      go_wp2
      go_ret
      exact ⟨by rw [HB.out]; rfl, rfl⟩
  · have HB : Hid (b = false) := by show _ = _; rw [← hb.out]; simp; omega
    have d1 : decide ((65 : Int) ≤ (c : Int)) = false := decide_eq_false (by omega)
    go_enter Try.func71, Try.ntmps71
    go_wp2
    go_ret
    exact ⟨by rw [HB.out]; rfl, rfl⟩

theorem i_isDigit_b (c : Nat) (b : Bool) (w : World) (hb : Hid (decide (48 ≤ c ∧ c ≤ 57) = b)) :
    Calls Try.prog 61 #[.int .u8 c] w fun e w' => e = .returned (.bool b) ∧ w = w' := by
  by_cases h1 : 48 ≤ c
  · by_cases h2 : c ≤ 57
    · have HB : Hid (b = true) := by show _ = _; rw [← hb.out]; simp; omega
      have d1 : decide ((48 : Int) ≤ (c : Int)) = true := decide_eq_true (by omega)
      have d2 : decide ((c : Int) ≤ 57) = true := decide_eq_true (by omega)
      go_enter Try.func61, Try.ntmps61
      go_wp2
      go_ret
      exact ⟨by rw [HB.out]; rfl, rfl⟩
    · have HB : Hid (b = false) := by show _ = _; rw [← hb.out]; simp; omega
      have d1 : decide ((48 : Int) ≤ (c : Int)) = true := decide_eq_true (by omega)
      have d2 : decide ((c : Int) ≤ 57) = false := decide_eq_false (by omega)
      go_enter Try.func61, Try.ntmps61
      go_wp2
      go_ret
      exact ⟨by rw [HB.out]; rfl, rfl⟩
  · have HB : Hid (b = false) := by show _ = _; rw [← hb.out]; simp; omega
    have d1 : decide ((48 : Int) ≤ (c : Int)) = false := decide_eq_false (by omega)
    go_enter Try.func61, Try.ntmps61
    go_wp2
    go_ret
    exact ⟨by rw [HB.out]; rfl, rfl⟩

theorem s_isLower_b (c : Nat) (b : Bool) (w : World) (hb : Hid (decide (97 ≤ c ∧ c ≤ 122) = b)) :
    Calls Try.prog 77 #[.int .u8 c] w fun e w' => e = .returned (.bool b) ∧ w = w' := by
  by_cases h1 : 97 ≤ c
  · by_cases h2 : c ≤ 122
    · have HB : Hid (b = true) := by show _ = _; rw [← hb.out]; simp; omega
      have d1 : decide ((97 : Int) ≤ (c : Int)) = true := decide_eq_true (by omega)
      have d2 : decide ((c : Int) ≤ 122) = true := decide_eq_true (by omega)
      go_enter Try.func77, Try.ntmps77
      go_wp2
      go_ret
      exact ⟨by rw [HB.out]; rfl, rfl⟩
    · have HB : Hid (b = false) := by show _ = _; rw [← hb.out]; simp; omega
      have d1 : decide ((97 : Int) ≤ (c : Int)) = true := decide_eq_true (by omega)
      have d2 : decide ((c : Int) ≤ 122) = false := decide_eq_false (by omega)
      go_enter Try.func77, Try.ntmps77
      go_wp2
      go_ret
      exact ⟨by rw [HB.out]; rfl, rfl⟩
  · have HB : Hid (b = false) := by show _ = _; rw [← hb.out]; simp; omega
    have d1 : decide ((97 : Int) ≤ (c : Int)) = false := decide_eq_false (by omega)
    go_enter Try.func77, Try.ntmps77
    go_wp2
    go_ret
    exact ⟨by rw [HB.out]; rfl, rfl⟩

theorem s_isUpper_b (c : Nat) (b : Bool) (w : World) (hb : Hid (decide (65 ≤ c ∧ c ≤ 90) = b)) :
    Calls Try.prog 78 #[.int .u8 c] w fun e w' => e = .returned (.bool b) ∧ w = w' := by
  by_cases h1 : 65 ≤ c
  · by_cases h2 : c ≤ 90
    · have HB : Hid (b = true) := by show _ = _; rw [← hb.out]; simp; omega
      have d1 : decide ((65 : Int) ≤ (c : Int)) = true := decide_eq_true (by omega)
      have d2 : decide ((c : Int) ≤ 90) = true := decide_eq_true (by omega)
      go_enter Try.func78, Try.ntmps78
      go_wp2
      go_ret
      exact ⟨by rw [HB.out]; rfl, rfl⟩
    · have HB : Hid (b = false) := by show _ = _; rw [← hb.out]; simp; omega
      have d1 : decide ((65 : Int) ≤ (c : Int)) = true := decide_eq_true (by omega)
      have d2 : decide ((c : Int) ≤ 90) = false := decide_eq_false (by omega)
      go_enter Try.func78, Try.ntmps78
      go_wp2
      go_ret
      exact ⟨by rw [HB.out]; rfl, rfl⟩
  · have HB : Hid (b = false) := by show _ = _; rw [← hb.out]; simp; omega
    have d1 : decide ((65 : Int) ≤ (c : Int)) = false := decide_eq_false (by omega)
    go_enter Try.func78, Try.ntmps78
    go_wp2
    go_ret
    exact ⟨by rw [HB.out]; rfl, rfl⟩

theorem s_isDigit_b (c : Nat) (b : Bool) (w : World) (hb : Hid (decide (48 ≤ c ∧ c ≤ 57) = b)) :
    Calls Try.prog 64 #[.int .u8 c] w fun e w' => e = .returned (.bool b) ∧ w = w' := by
  by_cases h1 : 48 ≤ c
  · by_cases h2 : c ≤ 57
    · have HB : Hid (b = true) := by show _ = _; rw [← hb.out]; simp; omega
      have d1 : decide ((48 : Int) ≤ (c : Int)) = true := decide_eq_true (by omega)
      have d2 : decide ((c : Int) ≤ 57) = true := decide_eq_true (by omega)
      go_enter Try.func64, Try.ntmps64
      go_wp2
      go_ret
      exact ⟨by rw [HB.out]; rfl, rfl⟩
    · have HB : Hid (b = false) := by show _ = _; rw [← hb.out]; simp; omega
      have d1 : decide ((48 : Int) ≤ (c : Int)) = true := decide_eq_true (by omega)
      have d2 : decide ((c : Int) ≤ 57) = false := decide_eq_false (by omega)
      go_enter Try.func64, Try.ntmps64
      go_wp2
      go_ret
      exact ⟨by rw [HB.out]; rfl, rfl⟩
  · have HB : Hid (b = false) := by show _ = _; rw [← hb.out]; simp; omega
    have d1 : decide ((48 : Int) ≤ (c : Int)) = false := decide_eq_false (by omega)
    go_enter Try.func64, Try.ntmps64
    go_wp2
    go_ret
    exact ⟨by rw [HB.out]; rfl, rfl⟩

theorem i_isLetter_b (c : Nat) (b : Bool) (w : World) (hb : Hid (letB c = b)) :
    Calls Try.prog 57 #[.int .u8 c] w fun e w' => e = .returned (.bool b) ∧ w = w' := by
  have HX : Hid ((decide (97 ≤ c ∧ c ≤ 122) || decide (65 ≤ c ∧ c ≤ 90)) = b) := hb
  cases h1 : decide (97 ≤ c ∧ c ≤ 122) with
  | true =>
    have H1 := Lib.hid h1
    have HB : Hid (b = true) := by show _ = _; rw [← HX.out, h1]; rfl
    clear h1
    go_enter Try.func57, Try.ntmps57
    go_wp2_with (go_at_call 70; refine (i_isSmall_b c true _ H1).mono ?_; rintro e w' ⟨rfl, rfl⟩)
    go_ret
    exact ⟨by rw [HB.out]; rfl, rfl⟩
  | false =>
    cases h2 : decide (65 ≤ c ∧ c ≤ 90) with
    | true =>
      have H1 := Lib.hid h1
      have H2 := Lib.hid h2
      have HB : Hid (b = true) := by show _ = _; rw [← HX.out, h1, h2]; rfl
      clear h1 h2
      go_enter Try.func57, Try.ntmps57
      go_wp2_with (first | (go_at_call 70; refine (i_isSmall_b c false _ H1).mono ?_; rintro e w' ⟨rfl, rfl⟩) | (go_at_call 71; refine (i_isCapital_b c true _ H2).mono ?_; rintro e w' ⟨rfl, rfl⟩))
      go_ret
      exact ⟨by rw [HB.out]; rfl, rfl⟩
    | false =>
      have H1 := Lib.hid h1
      have H2 := Lib.hid h2
      have HB : Hid (b = false) := by show _ = _; rw [← HX.out, h1, h2]; rfl
      clear h1 h2
      go_enter Try.func57, Try.ntmps57
      go_wp2_with (first | (go_at_call 70; refine (i_isSmall_b c false _ H1).mono ?_; rintro e w' ⟨rfl, rfl⟩) | (go_at_call 71; refine (i_isCapital_b c false _ H2).mono ?_; rintro e w' ⟨rfl, rfl⟩))
      go_ret
      exact ⟨by rw [HB.out]; rfl, rfl⟩

theorem s_isLetter_b (c : Nat) (b : Bool) (w : World) (hb : Hid (letB c = b)) :
    Calls Try.prog 63 #[.int .u8 c] w fun e w' => e = .returned (.bool b) ∧ w = w' := by
  have HX : Hid ((decide (97 ≤ c ∧ c ≤ 122) || decide (65 ≤ c ∧ c ≤ 90)) = b) := hb
  cases h1 : decide (97 ≤ c ∧ c ≤ 122) with
  | true =>
    have H1 := Lib.hid h1
    have HB : Hid (b = true) := by show _ = _; rw [← HX.out, h1]; rfl
    clear h1
    go_enter Try.func63, Try.ntmps63
    go_wp2_with (go_at_call 77; refine (s_isLower_b c true _ H1).mono ?_; rintro e w' ⟨rfl, rfl⟩)
    go_ret
    exact ⟨by rw [HB.out]; rfl, rfl⟩
  | false =>
    cases h2 : decide (65 ≤ c ∧ c ≤ 90) with
    | true =>
      have H1 := Lib.hid h1
      have H2 := Lib.hid h2
      have HB : Hid (b = true) := by show _ = _; rw [← HX.out, h1, h2]; rfl
      clear h1 h2
      go_enter Try.func63, Try.ntmps63
      go_wp2_with (first | (go_at_call 77; refine (s_isLower_b c false _ H1).mono ?_; rintro e w' ⟨rfl, rfl⟩) | (go_at_call 78; refine (s_isUpper_b c true _ H2).mono ?_; rintro e w' ⟨rfl, rfl⟩))
      go_ret
      exact ⟨by rw [HB.out]; rfl, rfl⟩
    | false =>
      have H1 := Lib.hid h1
      have H2 := Lib.hid h2
      have HB : Hid (b = false) := by show _ = _; rw [← HX.out, h1, h2]; rfl
      clear h1 h2
      go_enter Try.func63, Try.ntmps63
      go_wp2_with (first | (go_at_call 77; refine (s_isLower_b c false _ H1).mono ?_; rintro e w' ⟨rfl, rfl⟩) | (go_at_call 78; refine (s_isUpper_b c false _ H2).mono ?_; rintro e w' ⟨rfl, rfl⟩))
      go_ret
      exact ⟨by rw [HB.out]; rfl, rfl⟩
end Go.Proofs.Ytjedkmhmkipkdaa
