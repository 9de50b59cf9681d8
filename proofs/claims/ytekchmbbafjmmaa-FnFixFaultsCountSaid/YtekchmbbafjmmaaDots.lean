
/- Cells and dots: the contracts of DotsOf, in the program and in its model. -/
import Derived.Test.YtekchmbbafjmmaaOwn
import Derived.Test.YtekchmbbafjmmaaIsCell
namespace Go.Proofs.Ytekchmbbafjmmaa
open Go.RowKit

def dotsUp (c : Nat) : Nat → List Int
  | 0 => []
  | k + 1 => if c / 2 ^ k % 2 = 1 then dotsUp c k ++ [(k : Int) + 1] else dotsUp c k
def dotsL (c : Nat) : List Int := dotsUp c 6
theorem dotsUp_le (c k : Nat) : (dotsUp c k).length ≤ k := by
  induction k with
  | zero => simp [dotsUp]
  | succ k ih => simp only [dotsUp]; split <;> (try rw [List.length_append, List.length_singleton]) <;> omega
def pwL : List Int := [1, 2, 4, 8, 16, 32]
theorem cases6 {k : Nat} (h : k < 6) : k = 0 ∨ k = 1 ∨ k = 2 ∨ k = 3 ∨ k = 4 ∨ k = 5 := by omega
theorem and_pw : ∀ c : Nat, c < 64 → ∀ k : Nat, k < 6 → (bits .and .i64 (c : Int) (pwL.getD k 0) != 0) = decide (c / 2 ^ k % 2 = 1) := by decide +kernel

set_option maxHeartbeats 1000000 in
theorem dotBit_at (k : Nat) (n v : Int) (w : World) (hk : k < 6) (hn : Hid (n = (k : Int) + 1)) (hv : Hid (pwL.getD k 0 = v)) :
    Calls Try.prog 55 #[.int .i64 n] w fun e w' => e = .returned (.int .i64 v) ∧ w = w' := by
  rw [hn.out, ← hv.out]
  clear hn hv
  rcases cases6 hk with rfl | rfl | rfl | rfl | rfl | rfl
  all_goals
    clear hk
    go_enter Try.func55, Try.ntmps55
    go_wp2
    go_ret
    exact ⟨rfl, rfl⟩

def DotsPost (c : Nat) (w : World) (e : Ending) (w' : World) : Prop :=
  ∃ v, e = .returned v ∧ OwnInts w' w.heap.size v (dotsL c) ∧ Below w.heap.size w w' ∧ ∃ a n cap, v = .slice a n cap

set_option maxHeartbeats 1000000 in
theorem i_dotsOf (c : Nat) (w : World) (hc : c < 64) :
    Calls Try.prog 22 #[.int .i64 c] w fun e w' => DotsPost c w e w' := by
  obtain ⟨i0, hi, hz0, hz1, hz2⟩ := info_parts infoInt
  go_enter Try.func22, Try.ntmps22
  go_wp2_with (go_at_call 49; refine (i_isCell_yes _ _ (by omega) (by omega)).mono ?_; rintro e w' ⟨rfl, rfl⟩)
  go_loopw [3, 4] (fun v i wr => ∃ k : Nat, k ≤ 6 ∧ i = .int .i64 ((k : Int) + 1) ∧ OwnInts wr w.heap.size v (dotsUp c k) ∧ Below w.heap.size w wr) (fun _ i _ => 8 - (intOf i).toNat)
  case atStart => exact ⟨0, by omega, rfl, OwnInts.nil _ _, Below.refl _ _⟩
  case round =>
    obtain ⟨k, hk, rfl, hown, hb⟩ := hrel
    have hsz := hb.size
    by_cases hlt : k < 6
    · have hle := dotsUp_le c k
      obtain ⟨v, hv⟩ : ∃ v, pwL.getD k 0 = v := ⟨_, rfl⟩
      have hp := and_pw c hc k hlt
      rw [hv] at hp
      have HV := Lib.hid hv
      clear hv
      obtain ⟨D, hD⟩ : ∃ D, dotsUp c k = D := ⟨_, rfl⟩
      rw [hD] at hown hle
      have HD := Lib.hid hD
      clear hD
      by_cases hbit : c / 2 ^ k % 2 = 1
      · have hS : Hid (dotsUp c (k + 1) = D ++ [(k : Int) + 1]) := by show dotsUp c (k + 1) = _; rw [dotsUp, if_pos hbit, HD.out]
        have hp1 : (bits BinOp.and IntKind.i64 (c : Int) v != 0) = true := by rw [hp]; exact decide_eq_true hbit
        clear hp hbit
        go_wp2_with (first | (go_at_call 55; refine (dotBit_at k _ v _ hlt (Lib.hid rfl) HV).mono ?_; rintro e w' ⟨rfl, rfl⟩) | (at_builtin; refine wpList_append_own _ rfl _ _ 28 rfl w.heap.size 3 i0 (.int .i64 0) 1 8 Try.underlying28 hi hz0 hz1 hz2 rfl (by decide) _ _ _ rfl (hown.alloc _) ⟨wr.heap.size, 0, none⟩ 1 1 [.int .i64 ((k : Int) + 1)] rfl rfl new_one one_cell (by unfold maxLen; omega) (by omega) (by simp; omega) ?_))
        intro v' w1 hown' hgrow _
        have R1 := OwnInts.snoc hown'
        have R2 := below_append hb hsz hown hgrow
        clear hown' hgrow hown hb
        go_wp2
        go_roundw
        case rel => exact ⟨k + 1, by omega, by go_num, by rw [hS.out]; exact R1, R2⟩
        case measure => simp [intOf]; omega
      · have hS : Hid (dotsUp c (k + 1) = D) := by show dotsUp c (k + 1) = _; rw [dotsUp, if_neg hbit, HD.out]
        have hp1 : (bits BinOp.and IntKind.i64 (c : Int) v != 0) = false := by rw [hp]; exact decide_eq_false hbit
        clear hp hbit
        go_wp2_with (go_at_call 55; refine (dotBit_at k _ v _ hlt (Lib.hid rfl) HV).mono ?_; rintro e w' ⟨rfl, rfl⟩)
        go_roundw
        case rel => exact ⟨k + 1, by omega, by go_num, by rw [hS.out]; exact hown, hb⟩
        case measure => simp [intOf]; omega
    · go_wp2
      go_ret
      obtain rfl : k = 6 := by omega
      exact ⟨_, rfl, hown, hb, by rcases hown.2 with ⟨h, _⟩ | ⟨g, cap, _, h, _⟩ <;> exact ⟨_, _, _, h⟩⟩

theorem i_dotsOf_no (n : Int) (w : World) (h : n < 0 ∨ 64 ≤ n) :
    Calls Try.prog 22 #[.int .i64 n] w fun e w' => e = .returned (.slice none 0 0) ∧ w = w' := by
  go_enter Try.func22, Try.ntmps22
  go_wp2_with (go_at_call 49; refine (i_isCell_no _ _ h).mono ?_; rintro e w' ⟨rfl, rfl⟩)
  go_ret
  exact ⟨rfl, rfl⟩

set_option maxHeartbeats 1000000 in
theorem s_dotsOf (c : Nat) (w : World) (hc : c < 64) :
    Calls Try.prog 54 #[.int .i64 c] w fun e w' => DotsPost c w e w' := by
  obtain ⟨i0, hi, hz0, hz1, hz2⟩ := info_parts infoInt
  go_enter Try.func54, Try.ntmps54
  go_wp2
  go_loopw [0, 3, 4] (fun x v i wr => ∃ k : Nat, k ≤ 6 ∧ i = .int .i64 ((k : Int) + 1) ∧ x = .int .i64 ((c / 2 ^ k : Nat) : Int) ∧ OwnInts wr w.heap.size v (dotsUp c k) ∧ Below w.heap.size w wr) (fun _ _ i _ => 8 - (intOf i).toNat)
  case atStart => exact ⟨0, by omega, rfl, by simp, OwnInts.made _ _ (Nat.le_refl _), (Below.refl _ _).alloc (Nat.le_refl _) _⟩
  case round =>
    obtain ⟨k, hk, rfl, rfl, hown, hb⟩ := hrel
    have hsz := hb.size
    by_cases hlt : k < 6
    · have hle := dotsUp_le c k
      obtain ⟨D, hD⟩ : ∃ D, dotsUp c k = D := ⟨_, rfl⟩
      rw [hD] at hown hle
      have HD := Lib.hid hD
      clear hD
      obtain ⟨y, hy⟩ : ∃ y, c / 2 ^ k = y := ⟨_, rfl⟩
      have hy2 : Hid (c / 2 ^ (k + 1) = y / 2) := by show c / 2 ^ (k + 1) = _; rw [Nat.pow_succ, ← Nat.div_div_eq_div_mul, hy]
      have hyc : y ≤ c := by rw [← hy]; exact Nat.div_le_self _ _
      rw [hy]
      by_cases hbit : y % 2 = 1
      · have hS : Hid (dotsUp c (k + 1) = D ++ [(k : Int) + 1]) := by show dotsUp c (k + 1) = _; rw [dotsUp, hy, if_pos hbit, HD.out]
        have hp1 : ((y : Int) % 2 == 1) = true := by simp; omega
        clear hbit hy
        go_wp2_with (at_builtin; refine wpList_append_own _ rfl _ _ 28 rfl w.heap.size 3 i0 (.int .i64 0) 1 8 Try.underlying28 hi hz0 hz1 hz2 rfl (by decide) _ _ _ rfl (hown.alloc _) ⟨wr.heap.size, 0, none⟩ 1 1 [.int .i64 ((k : Int) + 1)] rfl rfl new_one one_cell (by unfold maxLen; omega) (by omega) (by simp; omega) ?_)
        intro v' w1 hown' hgrow _
        have R1 := OwnInts.snoc hown'
        have R2 := below_append hb hsz hown hgrow
        clear hown' hgrow hown hb
        go_wp2
        go_roundw
        case rel => exact ⟨k + 1, by omega, by go_num, by rw [hy2.out]; go_num, by rw [hS.out]; exact R1, R2⟩
        case measure => simp [intOf]; omega
      · have hS : Hid (dotsUp c (k + 1) = D) := by show dotsUp c (k + 1) = _; rw [dotsUp, hy, if_neg hbit, HD.out]
        have hp1 : ((y : Int) % 2 == 1) = false := by simp; omega
        clear hbit hy
        go_wp2
        go_roundw
        case rel => exact ⟨k + 1, by omega, by go_num, by rw [hy2.out]; go_num, by rw [hS.out]; exact hown, hb⟩
        case measure => simp [intOf]; omega
    · go_wp2
      go_ret
      obtain rfl : k = 6 := by omega
      exact ⟨_, rfl, hown, hb, by rcases hown.2 with ⟨h, _⟩ | ⟨g, cap, _, h, _⟩ <;> exact ⟨_, _, _, h⟩⟩

/-! CellOf -/
/-- the cell of a list of dots, by the text's own steps -/
def cellFrom : List Int → Int → Int → Int
  | [], out, _ => out
  | d :: r, out, last => if last < d ∧ d ≤ 6 then cellFrom r (out + pwL.getD (d.toNat - 1) 0) d else -1
def cellL (zs : List Int) : Int := cellFrom zs 0 0
end Go.Proofs.Ytekchmbbafjmmaa
