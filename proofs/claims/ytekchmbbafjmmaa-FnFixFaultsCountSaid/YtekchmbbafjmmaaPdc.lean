
/- KindOf of both sides; the dots in which cells differ. -/
import Derived.Test.YtekchmbbafjmmaaPda
import Derived.Test.YtekchmbbafjmmaaDots
import Derived.Test.YtekchmbbafjmmaaLb
import Derived.Test.YtekchmbbafjmmaaRd
namespace Go.Proofs.Ytekchmbbafjmmaa
open Go.RowKit

theorem i64_and_nat (a b : Nat) (ha : a < 9223372036854775808) (hb : b < 9223372036854775808) : bits .and .i64 (a : Int) (b : Int) = ((a &&& b : Nat) : Int) := by
  have hx : a &&& b < 2 ^ 63 := Nat.and_lt_two_pow _ (by omega)
  show IntKind.i64.wrap ((BitVec.ofInt 64 (a : Int) &&& BitVec.ofInt 64 (b : Int)).toNat : Int) = _
  rw [BitVec.toNat_and, ofInt_64 a (by omega), ofInt_64 b (by omega), wrap_u64_nat _ (by omega)]
/-- the number of dots -/
def pc (n : Nat) : Nat := n % 2 + n / 2 % 2 + n / 4 % 2 + n / 8 % 2 + n / 16 % 2 + n / 32 % 2
theorem pcp_step {n : Nat} (h : n < 64) : pc n = n % 2 + pc (n / 2) := by unfold pc; omega
theorem pc_le (n : Nat) : pc n ≤ 6 := by unfold pc; omega
/-- common dots up to k -/
def cmN (x y : Nat) : Nat → Nat
  | 0 => 0
  | k + 1 => cmN x y k + if ((k : Int) + 1) ∈ dotsL x ∧ ((k : Int) + 1) ∈ dotsL y then 1 else 0
theorem cmN_le (x y k : Nat) : cmN x y k ≤ k := by
  induction k with
  | zero => simp [cmN]
  | succ k ih => simp only [cmN]; split <;> omega
theorem dots_table : ∀ x : Nat, x < 64 → (dotsL x).length = pc x := by decide +kernel
theorem cm_table : ∀ x : Nat, x < 64 → ∀ y : Nat, y < 64 → cmN x y 6 = pc (x &&& y) ∧ (pc (x &&& y) = pc x ↔ x = x &&& y) ∧ (pc (x &&& y) = pc y ↔ y = x &&& y) := by decide +kernel
theorem sw_table : ∀ x : Nat, x < 64 → ∀ y : Nat, y < 64 → sw (x : Int) (y : Int) = pc (x ^^^ y) ∧ x ^^^ y < 64 := by decide +kernel
/-- what is wrong -/
def kindV (x y : Nat) : Int := if x = y then 0 else if x = x &&& y then 1 else if y = x &&& y then 2 else if pc x = pc y then 3 else 4

set_option maxHeartbeats 1000000 in
theorem i_raisedDots (n : Nat) (w : World) (hn : n < 64) :
    Calls Try.prog 50 #[.int .i64 n] w fun e w' => e = .returned (.int .i64 (pc n : Int)) ∧ w = w' := by
  obtain ⟨P, hP⟩ : ∃ P, pc n = P := ⟨_, rfl⟩
  have HP := Lib.hid hP
  rw [hP]
  clear hP
  go_enter Try.func50, Try.ntmps50
  go_wp2
  go_loop [3, 4] (fun m i => ∃ l k : Nat, i = .int .i64 l ∧ m = .int .i64 k ∧ l < 64 ∧ Hid (k + pc l = P) ∧ k ≤ P) (fun _ i => (intOf i).toNat)
  case atStart => exact ⟨n, 0, rfl, rfl, hn, by show _ = _; have := HP.out; omega, by omega⟩
  case round =>
    obtain ⟨l, k, rfl, rfl, hl, hk, hkP⟩ := hrel
    have hP6 : P ≤ 6 := by have := HP.out; have := pc_le n; omega
    by_cases h0 : 0 < l
    · have HN : Hid (k + l % 2 + pc (l / 2) = P) := by show _ = _; have := hk.out; have := pcp_step hl; omega
      have hkl : k + l % 2 ≤ P := by have := HN.out; omega
      go_wp2
      go_round
      case rel => exact ⟨l / 2, k + l % 2, by go_num, by go_num, by omega, HN, hkl⟩
      case measure => simp [intOf]; omega
    · obtain rfl : l = 0 := by omega
      have HE : Hid (k = P) := by show _ = _; have := hk.out; simp [pc] at this; exact this
      go_wp2
      go_ret
      exact ⟨by rw [← HE.out]; rfl, rfl⟩
theorem i_swapCost (x y : Nat) (w : World) (hx : x < 64) (hy : y < 64) :
    Calls Try.prog 77 #[.int .i64 x, .int .i64 y] w fun e w' => e = .returned (.int .i64 (sw (x : Int) (y : Int) : Int)) ∧ w = w' := by
  obtain ⟨h1, h2⟩ := sw_table x hx y hy
  have hb := i64_xor_nat x y (by omega) (by omega)
  obtain ⟨z, hz⟩ : ∃ z, x ^^^ y = z := ⟨_, rfl⟩
  rw [hz] at h1 h2 hb
  rw [h1]
  clear h1 hz
  go_enter Try.func77, Try.ntmps77
  go_wp2_with fail
  refine (i_raisedDots z _ h2).mono ?_
  rintro e w' ⟨rfl, rfl⟩
  go_wp2
  go_ret
  exact ⟨rfl, rfl⟩
theorem p_one (b : Bool) (w : World) :
    Calls Try.prog 52 #[.bool b] w fun e w' => e = .returned (.int .i64 (if b then 1 else 0)) ∧ w = w' := by
  cases b <;>
  · go_enter Try.func52, Try.ntmps52
    go_wp2
    go_ret
    exact ⟨rfl, rfl⟩
/-- the dots from k on in which cells differ -/
theorem sw_rest : ∀ x : Nat, x < 64 → ∀ y : Nat, y < 64 → sw (x : Int) (y : Int) = (if x % 2 = y % 2 then 0 else 1) + sw ((x / 2 : Nat) : Int) ((y / 2 : Nat) : Int) := by decide +kernel
set_option maxHeartbeats 1000000 in
theorem s_dotsDiffer (x y : Nat) (w : World) (hx : x < 64) (hy : y < 64) :
    Calls Try.prog 76 #[.int .i64 x, .int .i64 y] w fun e w' => e = .returned (.int .i64 (sw (x : Int) (y : Int) : Int)) ∧ w = w' := by
  obtain ⟨P, hP⟩ : ∃ P, sw (x : Int) (y : Int) = P := ⟨_, rfl⟩
  have hP6 : P ≤ 6 := by rw [← hP]; exact sw_le _ _
  have HP := Lib.hid hP
  rw [hP]
  clear hP
  go_enter Try.func76, Try.ntmps76
  go_wp2
  go_loop [0, 1, 5, 6] (fun a b m i => ∃ X Y k j : Nat, a = .int .i64 X ∧ b = .int .i64 Y ∧ i = .int .i64 j ∧ m = .int .i64 k ∧ X < 2 ^ (6 - j) ∧ Y < 2 ^ (6 - j) ∧ j ≤ 6 ∧ Hid (k + sw (X : Int) (Y : Int) = P) ∧ k ≤ P) (fun _ _ _ i => 6 - (intOf i).toNat)
  case atStart => exact ⟨x, y, 0, 0, rfl, rfl, rfl, rfl, by simpa using hx, by simpa using hy, by omega, by show _ = _; have := HP.out; omega, by omega⟩
  case round =>
    obtain ⟨X, Y, k, j, rfl, rfl, rfl, rfl, hX, hY, hj, hk, hkP⟩ := hrel
    by_cases h0 : j < 6
    · have hX64 : X < 64 := Nat.lt_of_lt_of_le hX (Nat.le_trans (Nat.pow_le_pow_right (by omega) (show 6 - j ≤ 6 by omega)) (by omega))
      have hY64 : Y < 64 := Nat.lt_of_lt_of_le hY (Nat.le_trans (Nat.pow_le_pow_right (by omega) (show 6 - j ≤ 6 by omega)) (by omega))
      have hr := sw_rest X hX64 Y hY64
      have hX2 : X / 2 < 2 ^ (6 - (j + 1)) := by rw [show 6 - j = (6 - (j + 1)) + 1 from by omega, Nat.pow_succ] at hX; omega
      have hY2 : Y / 2 < 2 ^ (6 - (j + 1)) := by rw [show 6 - j = (6 - (j + 1)) + 1 from by omega, Nat.pow_succ] at hY; omega
      have HX2 := Lib.hid hX2
      have HY2 := Lib.hid hY2
      clear hX hY hX2 hY2
      by_cases he : X % 2 = Y % 2
      · have HN : Hid (k + sw ((X / 2 : Nat) : Int) ((Y / 2 : Nat) : Int) = P) := by show _ = _; have := hk.out; rw [hr, if_pos he] at this; omega
        have d : ((X : Int) % 2 != (Y : Int) % 2) = false := by simp; omega
        clear hr hk he
        go_wp2_with fail
        refine (p_one false _).mono ?_
        rintro e w' ⟨rfl, rfl⟩
        go_wp2
        go_round
        case rel => exact ⟨X / 2, Y / 2, k, j + 1, by go_num, by go_num, by go_num, by go_num, HX2.out, HY2.out, by omega, HN, hkP⟩
        case measure => simp [intOf]; omega
      · have HN : Hid (k + 1 + sw ((X / 2 : Nat) : Int) ((Y / 2 : Nat) : Int) = P) := by show _ = _; have := hk.out; rw [hr, if_neg he] at this; omega
        have hk1 : k + 1 ≤ P := by have := HN.out; omega
        have d : ((X : Int) % 2 != (Y : Int) % 2) = true := by simp; omega
        clear hr hk he
        go_wp2_with fail
        refine (p_one true _).mono ?_
        rintro e w' ⟨rfl, rfl⟩
        go_wp2
        go_round
        case rel => exact ⟨X / 2, Y / 2, k + 1, j + 1, by go_num, by go_num, by go_num, by go_num, HX2.out, HY2.out, by omega, HN, hk1⟩
        case measure => simp [intOf]; omega
    · have hX0 : X = 0 := by rw [show 6 - j = 0 from by omega] at hX; omega
      have hY0 : Y = 0 := by rw [show 6 - j = 0 from by omega] at hY; omega
      subst hX0 hY0
      have HE : Hid (k = P) := by show _ = _; have := hk.out; rw [sw_self] at this; exact this
      clear hX hY hk
      go_wp2
      go_ret
      exact ⟨by rw [← HE.out]; rfl, rfl⟩

set_option maxHeartbeats 1000000 in
theorem i_KindOf_yes (x y : Nat) (w : World) (hx : x < 64) (hy : y < 64) :
    Calls Try.prog 19 #[.int .i64 x, .int .i64 y] w fun e w' => e = .returned (.int .i64 (kindV x y)) ∧ w = w' := by
  have hb := i64_and_nat x y (by omega) (by omega)
  obtain ⟨v, hv⟩ : ∃ v, kindV x y = v := ⟨_, rfl⟩
  rw [hv]
  unfold kindV at hv
  obtain ⟨z, hz⟩ : ∃ z, x &&& y = z := ⟨_, rfl⟩
  rw [hz] at hv hb
  clear hz
  have px := pc_le x
  have py := pc_le y
  obtain ⟨p, hp⟩ : ∃ p, pc x = p := ⟨_, rfl⟩
  obtain ⟨q, hq⟩ : ∃ q, pc y = q := ⟨_, rfl⟩
  rw [hp] at hv px
  rw [hq] at hv py
  have HPx : Hid (∀ w, Calls Try.prog 50 #[.int .i64 x] w fun e w' => e = .returned (.int .i64 (p : Int)) ∧ w = w') := fun w => by rw [← hp]; exact i_raisedDots x w hx
  have HPy : Hid (∀ w, Calls Try.prog 50 #[.int .i64 y] w fun e w' => e = .returned (.int .i64 (q : Int)) ∧ w = w') := fun w => by rw [← hq]; exact i_raisedDots y w hy
  clear hp hq
  by_cases h1 : x = y
  · rw [if_pos h1] at hv
    have HV := Lib.hid hv
    have d1 : ((x : Int) == (y : Int)) = true := by simp; omega
    clear hv h1
    go_enter Try.func19, Try.ntmps19
    go_wp2_with fail
    refine (i_isCell_yes _ _ (by omega) (by omega)).mono ?_
    rintro e w' ⟨rfl, rfl⟩
    go_wp2_with fail
    refine (i_isCell_yes _ _ (by omega) (by omega)).mono ?_
    rintro e w' ⟨rfl, rfl⟩
    go_wp2
    go_ret
    exact ⟨by rw [← HV.out]; rfl, rfl⟩
  rw [if_neg h1] at hv
  have d1 : ((x : Int) == (y : Int)) = false := by simp; omega
  by_cases h2 : x = z
  · rw [if_pos h2] at hv
    have HV := Lib.hid hv
    have d2 : ((x : Int) == (z : Int)) = true := by simp; omega
    clear hv h1 h2
    go_enter Try.func19, Try.ntmps19
    go_wp2_with fail
    refine (i_isCell_yes _ _ (by omega) (by omega)).mono ?_
    rintro e w' ⟨rfl, rfl⟩
    go_wp2_with fail
    refine (i_isCell_yes _ _ (by omega) (by omega)).mono ?_
    rintro e w' ⟨rfl, rfl⟩
    go_wp2
    go_ret
    exact ⟨by rw [← HV.out]; rfl, rfl⟩
  rw [if_neg h2] at hv
  have d2 : ((x : Int) == (z : Int)) = false := by simp; omega
  by_cases h3 : y = z
  · rw [if_pos h3] at hv
    have HV := Lib.hid hv
    have d3 : ((y : Int) == (z : Int)) = true := by simp; omega
    clear hv h1 h2 h3
    go_enter Try.func19, Try.ntmps19
    go_wp2_with fail
    refine (i_isCell_yes _ _ (by omega) (by omega)).mono ?_
    rintro e w' ⟨rfl, rfl⟩
    go_wp2_with fail
    refine (i_isCell_yes _ _ (by omega) (by omega)).mono ?_
    rintro e w' ⟨rfl, rfl⟩
    go_wp2
    go_ret
    exact ⟨by rw [← HV.out]; rfl, rfl⟩
  rw [if_neg h3] at hv
  have d3 : ((y : Int) == (z : Int)) = false := by simp; omega
  by_cases h4 : p = q
  · rw [if_pos h4] at hv
    have HV := Lib.hid hv
    have d4 : ((p : Int) == (q : Int)) = true := by simp; omega
    clear hv h1 h2 h3 h4
    go_enter Try.func19, Try.ntmps19
    go_wp2_with fail
    refine (i_isCell_yes _ _ (by omega) (by omega)).mono ?_
    rintro e w' ⟨rfl, rfl⟩
    go_wp2_with fail
    refine (i_isCell_yes _ _ (by omega) (by omega)).mono ?_
    rintro e w' ⟨rfl, rfl⟩
    go_wp2_with fail
    refine (HPx.out _).mono ?_
    rintro e w' ⟨rfl, rfl⟩
    go_wp2_with fail
    refine (HPy.out _).mono ?_
    rintro e w' ⟨rfl, rfl⟩
    go_wp2
    go_ret
    exact ⟨by rw [← HV.out]; rfl, rfl⟩
  · rw [if_neg h4] at hv
    have HV := Lib.hid hv
    have d4 : ((p : Int) == (q : Int)) = false := by simp; omega
    clear hv h1 h2 h3 h4
    go_enter Try.func19, Try.ntmps19
    go_wp2_with fail
    refine (i_isCell_yes _ _ (by omega) (by omega)).mono ?_
    rintro e w' ⟨rfl, rfl⟩
    go_wp2_with fail
    refine (i_isCell_yes _ _ (by omega) (by omega)).mono ?_
    rintro e w' ⟨rfl, rfl⟩
    go_wp2_with fail
    refine (HPx.out _).mono ?_
    rintro e w' ⟨rfl, rfl⟩
    go_wp2_with fail
    refine (HPy.out _).mono ?_
    rintro e w' ⟨rfl, rfl⟩
    go_wp2
    go_ret
    exact ⟨by rw [← HV.out]; rfl, rfl⟩
theorem i_KindOf_no (x y : Int) (w : World) (h : ¬ (Cl x ∧ Cl y)) :
    Calls Try.prog 19 #[.int .i64 x, .int .i64 y] w fun e w' => e = .returned (.int .i64 (-1)) ∧ w = w' := by
  by_cases hx : Cl x
  · have hy : y < 0 ∨ 64 ≤ y := by
      by_cases hy : Cl y
      · exact absurd ⟨hx, hy⟩ h
      · unfold Cl at hy; omega
    obtain ⟨h0, h1⟩ := hx
    clear h
    go_enter Try.func19, Try.ntmps19
    go_wp2_with fail
    refine (i_isCell_yes _ _ h0 h1).mono ?_
    rintro e w' ⟨rfl, rfl⟩
    go_wp2_with fail
    refine (i_isCell_no _ _ hy).mono ?_
    rintro e w' ⟨rfl, rfl⟩
    go_wp2
    go_ret
    exact ⟨rfl, rfl⟩
  · have hx' : x < 0 ∨ 64 ≤ x := by unfold Cl at hx; omega
    clear h hx
    go_enter Try.func19, Try.ntmps19
    go_wp2_with fail
    refine (i_isCell_no _ _ hx').mono ?_
    rintro e w' ⟨rfl, rfl⟩
    go_wp2
    go_ret
    exact ⟨rfl, rfl⟩
end Go.Proofs.Ytekchmbbafjmmaa
