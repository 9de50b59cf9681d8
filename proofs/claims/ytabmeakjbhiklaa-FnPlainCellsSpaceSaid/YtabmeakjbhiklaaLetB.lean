
/- Letters and digits: the contracts of the functions that look for a letter or a digit. -/
import Derived.Test.YtabmeakjbhiklaaLet
namespace Go.Proofs.Ytabmeakjbhiklaa
open Go.RowKit

theorem ret_i64 {a b : Int} (h : a = b) : Ending.returned (.int .i64 a) = .returned (.int .i64 b) := by rw [h]

theorem i_letterCell_at (k : Nat) (v : Int) (w : World) (h1 : k < 26) (hv : Hid (letL.getD k 0 = v)) :
    Calls Try.prog 78 #[.int .i64 k] w fun e w' => e = .returned (.int .i64 v) ∧ w = w' := by
  have := i_letterCell k w (by omega) (by omega)
  rw [Int.toNat_natCast, hv.out] at this
  exact this
theorem s_letterCell_at (k : Nat) (v : Int) (w : World) (h1 : k < 26) (hv : Hid (letL.getD k 0 = v)) :
    Calls Try.prog 89 #[.int .i64 k] w fun e w' => e = .returned (.int .i64 v) ∧ Below w.heap.size w w' := by
  have := s_letterCell k w (by omega) (by omega)
  rw [Int.toNat_natCast, hv.out] at this
  exact this

set_option maxHeartbeats 400000 in
theorem i_letterOf (c : Int) (w : World) :
    Calls Try.prog 82 #[.int .i64 c] w fun e w' => e = .returned (.int .i64 (idx letL c)) ∧ w = w' := by
  go_enter Try.func82, Try.ntmps82
  go_wp2
  go_loop [3] (fun i => ∃ k : Nat, k ≤ 26 ∧ i = .int .i64 k ∧ NotIn letL c k) (fun i => 26 - (intOf i).toNat)
  case atStart => exact ⟨0, by omega, rfl, NotIn.zero _ _⟩
  case round =>
    obtain ⟨k, hk, rfl, hn⟩ := hrel
    obtain ⟨v, hv⟩ : ∃ v, letL.getD k 0 = v := ⟨_, rfl⟩
    have HV := Lib.hid hv
    clear hv
    by_cases hlt : k < 26
    · by_cases e : v = c
      · have e1 : (v == c) = true := by simpa using e
        clear e
        go_wp2_with (go_at_call 78; refine (i_letterCell_at k v _ hlt HV).mono ?_; rintro e w' ⟨rfl, rfl⟩)
        go_ret
        exact ⟨ret_i64 (idx_hit hlt hn (by rw [HV.out]; simpa using e1)).symm, rfl⟩
      · have e1 : (v == c) = false := by simpa using e
        clear e
        go_wp2_with (go_at_call 78; refine (i_letterCell_at k v _ hlt HV).mono ?_; rintro e w' ⟨rfl, rfl⟩)
        go_round
        case rel => exact ⟨k + 1, by omega, by go_num, hn.succ (by rw [HV.out]; simpa using e1)⟩
        case measure => simp [intOf]; omega
    · go_wp2
      go_ret
      obtain rfl : k = 26 := by omega
      exact ⟨ret_i64 (idx_none (l := letL) (fun j hj => hn j hj)).symm, rfl⟩

set_option maxHeartbeats 400000 in
theorem s_letterOf (c : Int) (w : World) :
    Calls Try.prog 85 #[.int .i64 c] w fun e w' => e = .returned (.int .i64 (idx letL c)) ∧ Below w.heap.size w w' := by
  go_enter Try.func85, Try.ntmps85
  go_wp2
  go_loopw [3] (fun i wr => ∃ k : Nat, k ≤ 26 ∧ i = .int .i64 k ∧ NotIn letL c k ∧ Below w.heap.size w wr) (fun i _ => 26 - (intOf i).toNat)
  case atStart => exact ⟨0, by omega, rfl, NotIn.zero _ _, Below.refl _ _⟩
  case round =>
    obtain ⟨k, hk, rfl, hn, hb⟩ := hrel
    obtain ⟨v, hv⟩ : ∃ v, letL.getD k 0 = v := ⟨_, rfl⟩
    have HV := Lib.hid hv
    clear hv
    by_cases hlt : k < 26
    · by_cases e : v = c
      · have e1 : (v == c) = true := by simpa using e
        clear e
        go_wp2_with (go_at_call 89; refine (s_letterCell_at k v _ hlt HV).mono ?_; rintro e w' ⟨rfl, hb2⟩)
        go_ret
        exact ⟨ret_i64 (idx_hit hlt hn (by rw [HV.out]; simpa using e1)).symm, hb.trans (hb2.mono hb.size)⟩
      · have e1 : (v == c) = false := by simpa using e
        clear e
        go_wp2_with (go_at_call 89; refine (s_letterCell_at k v _ hlt HV).mono ?_; rintro e w' ⟨rfl, hb2⟩)
        go_roundw
        case rel => exact ⟨k + 1, by omega, by go_num, hn.succ (by rw [HV.out]; simpa using e1), hb.trans (hb2.mono hb.size)⟩
        case measure => simp [intOf]; omega
    · go_wp2
      go_ret
      obtain rfl : k = 26 := by omega
      exact ⟨ret_i64 (idx_none (l := letL) (fun j hj => hn j hj)).symm, hb⟩

set_option maxHeartbeats 2000000 in
theorem i_digitCell (n : Int) (w : World) (h0 : 0 ≤ n) (h1 : n < 10) :
    Calls Try.prog 56 #[.int .i64 n] w fun e w' => e = .returned (.int .i64 (digL.getD n.toNat 0)) ∧ w = w' := by
  rcases cases10 h0 h1 with rfl | rfl | rfl | rfl | rfl | rfl | rfl | rfl | rfl | rfl
  all_goals
    clear h0 h1
    go_enter Try.func56, Try.ntmps56
    go_wp2
    go_ret
    exact ⟨rfl, rfl⟩
theorem i_digitCell_no (n : Int) (w : World) (h : n < 0 ∨ 10 ≤ n) :
    Calls Try.prog 56 #[.int .i64 n] w fun e w' => e = .returned (.int .i64 (-1)) ∧ w = w' := by
  rcases h with h | h
  · have d0 : decide (n < 0) = true := decide_eq_true h
    go_enter Try.func56, Try.ntmps56
    go_wp2
    go_ret
    exact ⟨rfl, rfl⟩
  · have d0 : decide (n < 0) = false := decide_eq_false (by omega)
    have d1 : decide (10 ≤ n) = true := decide_eq_true h
    go_enter Try.func56, Try.ntmps56
    go_wp2
    go_ret
    exact ⟨rfl, rfl⟩
set_option maxHeartbeats 2000000 in
theorem s_digitCell (n : Int) (w : World) (h0 : 0 ≤ n) (h1 : n < 10) :
    Calls Try.prog 75 #[.int .i64 n] w fun e w' => e = .returned (.int .i64 (digL.getD n.toNat 0)) ∧ Below w.heap.size w w' := by
  rcases cases10 h0 h1 with rfl | rfl | rfl | rfl | rfl | rfl | rfl | rfl | rfl | rfl
  all_goals
    clear h0 h1
    go_enter Try.func75, Try.ntmps75
    go_wp2
    go_ret
    exact ⟨rfl, (Below.refl _ _).alloc (Nat.le_refl _) _⟩
theorem i_digitCell_at (k : Nat) (v : Int) (w : World) (h1 : k < 10) (hv : Hid (digL.getD k 0 = v)) :
    Calls Try.prog 56 #[.int .i64 k] w fun e w' => e = .returned (.int .i64 v) ∧ w = w' := by
  have := i_digitCell k w (by omega) (by omega)
  rw [Int.toNat_natCast, hv.out] at this
  exact this
theorem s_digitCell_at (k : Nat) (v : Int) (w : World) (h1 : k < 10) (hv : Hid (digL.getD k 0 = v)) :
    Calls Try.prog 75 #[.int .i64 k] w fun e w' => e = .returned (.int .i64 v) ∧ Below w.heap.size w w' := by
  have := s_digitCell k w (by omega) (by omega)
  rw [Int.toNat_natCast, hv.out] at this
  exact this

set_option maxHeartbeats 400000 in
theorem i_digitOf (c : Int) (w : World) :
    Calls Try.prog 81 #[.int .i64 c] w fun e w' => e = .returned (.int .i64 (idx digL c)) ∧ w = w' := by
  go_enter Try.func81, Try.ntmps81
  go_wp2
  go_loop [3] (fun i => ∃ k : Nat, k ≤ 10 ∧ i = .int .i64 k ∧ NotIn digL c k) (fun i => 10 - (intOf i).toNat)
  case atStart => exact ⟨0, by omega, rfl, NotIn.zero _ _⟩
  case round =>
    obtain ⟨k, hk, rfl, hn⟩ := hrel
    obtain ⟨v, hv⟩ : ∃ v, digL.getD k 0 = v := ⟨_, rfl⟩
    have HV := Lib.hid hv
    clear hv
    by_cases hlt : k < 10
    · by_cases e : v = c
      · have e1 : (v == c) = true := by simpa using e
        clear e
        go_wp2_with (go_at_call 56; refine (i_digitCell_at k v _ hlt HV).mono ?_; rintro e w' ⟨rfl, rfl⟩)
        go_ret
        exact ⟨ret_i64 (idx_hit hlt hn (by rw [HV.out]; simpa using e1)).symm, rfl⟩
      · have e1 : (v == c) = false := by simpa using e
        clear e
        go_wp2_with (go_at_call 56; refine (i_digitCell_at k v _ hlt HV).mono ?_; rintro e w' ⟨rfl, rfl⟩)
        go_round
        case rel => exact ⟨k + 1, by omega, by go_num, hn.succ (by rw [HV.out]; simpa using e1)⟩
        case measure => simp [intOf]; omega
    · go_wp2
      go_ret
      obtain rfl : k = 10 := by omega
      exact ⟨ret_i64 (idx_none (l := digL) (fun j hj => hn j hj)).symm, rfl⟩

set_option maxHeartbeats 400000 in
theorem s_digitOf (c : Int) (w : World) :
    Calls Try.prog 84 #[.int .i64 c] w fun e w' => e = .returned (.int .i64 (idx digL c)) ∧ Below w.heap.size w w' := by
  go_enter Try.func84, Try.ntmps84
  go_wp2
  go_loopw [3] (fun i wr => ∃ k : Nat, k ≤ 10 ∧ i = .int .i64 k ∧ NotIn digL c k ∧ Below w.heap.size w wr) (fun i _ => 10 - (intOf i).toNat)
  case atStart => exact ⟨0, by omega, rfl, NotIn.zero _ _, Below.refl _ _⟩
  case round =>
    obtain ⟨k, hk, rfl, hn, hb⟩ := hrel
    obtain ⟨v, hv⟩ : ∃ v, digL.getD k 0 = v := ⟨_, rfl⟩
    have HV := Lib.hid hv
    clear hv
    by_cases hlt : k < 10
    · by_cases e : v = c
      · have e1 : (v == c) = true := by simpa using e
        clear e
        go_wp2_with (go_at_call 75; refine (s_digitCell_at k v _ hlt HV).mono ?_; rintro e w' ⟨rfl, hb2⟩)
        go_ret
        exact ⟨ret_i64 (idx_hit hlt hn (by rw [HV.out]; simpa using e1)).symm, hb.trans (hb2.mono hb.size)⟩
      · have e1 : (v == c) = false := by simpa using e
        clear e
        go_wp2_with (go_at_call 75; refine (s_digitCell_at k v _ hlt HV).mono ?_; rintro e w' ⟨rfl, hb2⟩)
        go_roundw
        case rel => exact ⟨k + 1, by omega, by go_num, hn.succ (by rw [HV.out]; simpa using e1), hb.trans (hb2.mono hb.size)⟩
        case measure => simp [intOf]; omega
    · go_wp2
      go_ret
      obtain rfl : k = 10 := by omega
      exact ⟨ret_i64 (idx_none (l := digL) (fun j hj => hn j hj)).symm, hb⟩


end Go.Proofs.Ytabmeakjbhiklaa
