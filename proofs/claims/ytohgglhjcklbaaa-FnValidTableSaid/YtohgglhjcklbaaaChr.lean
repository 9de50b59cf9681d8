
/- Kinds of characters. -/
import Derived.Test.YtohgglhjcklbaaaLst
namespace Go.Proofs.Ytohgglhjcklbaaa
open Go.RowKit

/-- the byte is a letter -/
def letB (c : Nat) : Bool := decide (97 ≤ c ∧ c ≤ 122) || decide (65 ≤ c ∧ c ≤ 90)

theorem i_isSmall_b (c : Nat) (b : Bool) (w : World) (hb : Hid (decide (97 ≤ c ∧ c ≤ 122) = b)) :
    Calls Try.prog 96 #[.int .u8 c] w fun e w' => e = .returned (.bool b) ∧ w = w' := by
  by_cases h1 : 97 ≤ c
  · by_cases h2 : c ≤ 122
    · have HB : Hid (b = true) := by show _ = _; rw [← hb.out]; simp; omega
      have d1 : decide ((97 : Int) ≤ (c : Int)) = true := decide_eq_true (by omega)
      have d2 : decide ((c : Int) ≤ 122) = true := decide_eq_true (by omega)
      go_enter Try.func96, Try.ntmps96
      go_wp2
      go_ret
      exact ⟨by rw [HB.out]; rfl, rfl⟩
    · have HB : Hid (b = false) := by show _ = _; rw [← hb.out]; simp; omega
      have d1 : decide ((97 : Int) ≤ (c : Int)) = true := decide_eq_true (by omega)
      have d2 : decide ((c : Int) ≤ 122) = false := decide_eq_false (by omega)
      go_enter Try.func96, Try.ntmps96
      go_wp2
      go_ret
      exact ⟨by rw [HB.out]; rfl, rfl⟩
  · have HB : Hid (b = false) := by show _ = _; rw [← hb.out]; simp; omega
    have d1 : decide ((97 : Int) ≤ (c : Int)) = false := decide_eq_false (by omega)
    go_enter Try.func96, Try.ntmps96
    go_wp2
    go_ret
    exact ⟨by rw [HB.out]; rfl, rfl⟩

theorem i_isCapital_b (c : Nat) (b : Bool) (w : World) (hb : Hid (decide (65 ≤ c ∧ c ≤ 90) = b)) :
    Calls Try.prog 102 #[.int .u8 c] w fun e w' => e = .returned (.bool b) ∧ w = w' := by
  by_cases h1 : 65 ≤ c
  · by_cases h2 : c ≤ 90
    · have HB : Hid (b = true) := by show _ = _; rw [← hb.out]; simp; omega
      have d1 : decide ((65 : Int) ≤ (c : Int)) = true := decide_eq_true (by omega)
      have d2 : decide ((c : Int) ≤ 90) = true := decide_eq_true (by omega)
      go_enter Try.func102, Try.ntmps102
      go_wp2
      go_ret
      exact ⟨by rw [HB.out]; rfl, rfl⟩
    · have HB : Hid (b = false) := by show _ = _; rw [← hb.out]; simp; omega
      have d1 : decide ((65 : Int) ≤ (c : Int)) = true := decide_eq_true (by omega)
      have d2 : decide ((c : Int) ≤ 90) = false := decide_eq_false (by omega)
      go_enter Try.func102, Try.ntmps102
      go_wp2
      go_ret
      exact ⟨by rw [HB.out]; rfl, rfl⟩
  · have HB : Hid (b = false) := by show _ = _; rw [← hb.out]; simp; omega
    have d1 : decide ((65 : Int) ≤ (c : Int)) = false := decide_eq_false (by omega)
    go_enter Try.func102, Try.ntmps102
    go_wp2
    go_ret
    exact ⟨by rw [HB.out]; rfl, rfl⟩

theorem s_isLower_b (c : Nat) (b : Bool) (w : World) (hb : Hid (decide (97 ≤ c ∧ c ≤ 122) = b)) :
    Calls Try.prog 100 #[.int .u8 c] w fun e w' => e = .returned (.bool b) ∧ w = w' := by
  by_cases h1 : 97 ≤ c
  · by_cases h2 : c ≤ 122
    · have HB : Hid (b = true) := by show _ = _; rw [← hb.out]; simp; omega
      have d1 : decide ((97 : Int) ≤ (c : Int)) = true := decide_eq_true (by omega)
      have d2 : decide ((c : Int) ≤ 122) = true := decide_eq_true (by omega)
      go_enter Try.func100, Try.ntmps100
      go_wp2
      go_ret
      exact ⟨by rw [HB.out]; rfl, rfl⟩
    · have HB : Hid (b = false) := by show _ = _; rw [← hb.out]; simp; omega
      have d1 : decide ((97 : Int) ≤ (c : Int)) = true := decide_eq_true (by omega)
      have d2 : decide ((c : Int) ≤ 122) = false := decide_eq_false (by omega)
      go_enter Try.func100, Try.ntmps100
      go_wp2
      go_ret
      exact ⟨by rw [HB.out]; rfl, rfl⟩
  · have HB : Hid (b = false) := by show _ = _; rw [← hb.out]; simp; omega
    have d1 : decide ((97 : Int) ≤ (c : Int)) = false := decide_eq_false (by omega)
    go_enter Try.func100, Try.ntmps100
    go_wp2
    go_ret
    exact ⟨by rw [HB.out]; rfl, rfl⟩

theorem s_isUpper_b (c : Nat) (b : Bool) (w : World) (hb : Hid (decide (65 ≤ c ∧ c ≤ 90) = b)) :
    Calls Try.prog 107 #[.int .u8 c] w fun e w' => e = .returned (.bool b) ∧ w = w' := by
  by_cases h1 : 65 ≤ c
  · by_cases h2 : c ≤ 90
    · have HB : Hid (b = true) := by show _ = _; rw [← hb.out]; simp; omega
      have d1 : decide ((65 : Int) ≤ (c : Int)) = true := decide_eq_true (by omega)
      have d2 : decide ((c : Int) ≤ 90) = true := decide_eq_true (by omega)
      go_enter Try.func107, Try.ntmps107
      go_wp2
      go_ret
      exact ⟨by rw [HB.out]; rfl, rfl⟩
    · have HB : Hid (b = false) := by show _ = _; rw [← hb.out]; simp; omega
      have d1 : decide ((65 : Int) ≤ (c : Int)) = true := decide_eq_true (by omega)
      have d2 : decide ((c : Int) ≤ 90) = false := decide_eq_false (by omega)
      go_enter Try.func107, Try.ntmps107
      go_wp2
      go_ret
      exact ⟨by rw [HB.out]; rfl, rfl⟩
  · have HB : Hid (b = false) := by show _ = _; rw [← hb.out]; simp; omega
    have d1 : decide ((65 : Int) ≤ (c : Int)) = false := decide_eq_false (by omega)
    go_enter Try.func107, Try.ntmps107
    go_wp2
    go_ret
    exact ⟨by rw [HB.out]; rfl, rfl⟩

end Go.Proofs.Ytohgglhjcklbaaa
