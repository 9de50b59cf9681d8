
/- Keys in the program: one key, its number, whether an event can happen, and what is down behind it. -/
import Derived.Test.YtjedkmhmkipkdaaBa
import Derived.IntWalk
import Derived.Laws.BitsAllLaws
namespace Go.Proofs.Ytjedkmhmkipkdaa
open Go.RowKit

theorem i_isKey_yes (n : Int) (w : World) (h0 : 1 ≤ n) (h1 : n ≤ 7) :
    Calls Try.prog 53 #[.int .i64 n] w fun e w' => e = .returned (.bool true) ∧ w = w' := by
  have d1 : decide (n ≤ 7) = true := decide_eq_true h1
  go_enter Try.func53, Try.ntmps53
  go_wp2
  go_ret
  exact ⟨rfl, rfl⟩
theorem i_isKey_no (n : Int) (w : World) (h : n < 1 ∨ 7 < n) :
    Calls Try.prog 53 #[.int .i64 n] w fun e w' => e = .returned (.bool false) ∧ w = w' := by
  rcases h with h | h
  · go_enter Try.func53, Try.ntmps53
    go_wp2
    go_ret
    exact ⟨rfl, rfl⟩
  · have d1 : decide (n ≤ 7) = false := decide_eq_false (by omega)
    go_enter Try.func53, Try.ntmps53
    go_wp2
    go_ret
    exact ⟨rfl, rfl⟩
theorem cases7 {n : Int} (h0 : 1 ≤ n) (h1 : n ≤ 7) : n = 1 ∨ n = 2 ∨ n = 3 ∨ n = 4 ∨ n = 5 ∨ n = 6 ∨ n = 7 := by omega
set_option maxHeartbeats 1000000 in
theorem i_keyBit (n v : Int) (w : World) (h0 : 1 ≤ n) (h1 : n ≤ 7) (hv : Hid (((kb n : Nat) : Int) = v)) :
    Calls Try.prog 54 #[.int .i64 n] w fun e w' => e = .returned (.int .i64 v) ∧ w = w' := by
  rw [← hv.out]
  clear hv
  rcases cases7 h0 h1 with rfl | rfl | rfl | rfl | rfl | rfl | rfl
  all_goals
    clear h0 h1
    go_enter Try.func54, Try.ntmps54
    go_wp2
    go_ret
    exact ⟨rfl, rfl⟩
theorem and_kb : ∀ d : Nat, d < 128 → ∀ i : Nat, i < 7 → (bits .and .i64 (d : Int) ((kb ((i : Int) + 1) : Nat) : Int) == 0) = decide (d &&& kb ((i : Int) + 1) = 0) := by decide +kernel
theorem and_kb' {d : Nat} {n : Int} (hd : d < 128) (h0 : 1 ≤ n) (h1 : n ≤ 7) : (bits .and .i64 (d : Int) ((kb n : Nat) : Int) == 0) = decide (d &&& kb n = 0) := by
  have := and_kb d hd (n - 1).toNat (by omega)
  rw [show (((n - 1).toNat : Nat) : Int) + 1 = n from by omega] at this
  exact this
theorem bne_of_beq {a : Int} {b : Bool} (h : (a == 0) = b) : (a != 0) = !b := by rw [bne, h]
theorem kb_le : ∀ d : Nat, d < 128 → ∀ i : Nat, i < 7 → d &&& kb ((i : Int) + 1) ≠ 0 → kb ((i : Int) + 1) ≤ d := by decide +kernel
theorem kb_le' {d : Nat} {n : Int} (hd : d < 128) (h0 : 1 ≤ n) (h1 : n ≤ 7) (h : d &&& kb n ≠ 0) : kb n ≤ d := by
  have := kb_le d hd (n - 1).toNat (by omega)
  rw [show (((n - 1).toNat : Nat) : Int) + 1 = n from by omega] at this
  exact this h
theorem kb_lt {n : Int} (h0 : 1 ≤ n) (h1 : n ≤ 7) : 1 ≤ kb n ∧ kb n ≤ 64 := by
  rcases cases7 h0 h1 with rfl | rfl | rfl | rfl | rfl | rfl | rfl <;> decide
theorem canB_press {e : Int} {d : Nat} (h0 : 1 ≤ e) (h1 : e ≤ 7) : decide (CanB e d) = decide (d &&& kb e = 0) := by
  apply decide_eq_decide.2
  unfold CanB
  constructor
  · rintro (h | h)
    · exact h.2.2
    · omega
  · intro h; exact .inl ⟨h0, h1, h⟩
theorem canB_release {e : Int} {d : Nat} (h0 : -7 ≤ e) (h1 : e ≤ -1) : decide (CanB e d) = !decide (d &&& kb (-e) = 0) := by
  by_cases h : d &&& kb (-e) = 0
  · rw [decide_eq_false, decide_eq_true h]; · rfl
    rintro (h' | h')
    · omega
    · exact h'.2.2 h
  · rw [decide_eq_true, decide_eq_false h]; · rfl
    exact .inr ⟨h0, h1, h⟩
theorem canB_other {e : Int} {d : Nat} (h : e < -7 ∨ 7 < e ∨ e = 0) : decide (CanB e d) = false := by
  apply decide_eq_false
  rintro (h' | h') <;> omega
set_option maxHeartbeats 1000000 in
theorem i_canHappen (e : Int) (d : Nat) (w : World) (b : Bool) (hd : d < 128) (he : -9223372036854775808 ≤ e ∧ e ≤ 9223372036854775807) (hb : Hid (decide (CanB e d) = b)) :
    Calls Try.prog 36 #[.int .i64 e, .int .i64 d] w fun r w' => r = .returned (.bool b) ∧ w = w' := by
  by_cases h1 : 1 ≤ e ∧ e ≤ 7
  · obtain ⟨h1, h2⟩ := h1
    obtain ⟨v, hv⟩ : ∃ v : Int, ((kb e : Nat) : Int) = v := ⟨_, rfl⟩
    have ha := and_kb' hd h1 h2
    rw [hv, ← canB_press h1 h2, hb.out] at ha
    have HV := Lib.hid hv
    clear hv
    go_enter Try.func36, Try.ntmps36
    go_wp2_with (first | (go_at_call 53; refine (i_isKey_yes _ _ h1 h2).mono ?_; rintro e w' ⟨rfl, rfl⟩) | (go_at_call 54; refine (i_keyBit _ v _ h1 h2 HV).mono ?_; rintro e w' ⟨rfl, rfl⟩))
    go_ret
    exact ⟨by simp, rfl⟩
  · by_cases h3 : -7 ≤ e ∧ e ≤ -1
    · obtain ⟨h3, h4⟩ := h3
      obtain ⟨v, hv⟩ : ∃ v : Int, ((kb (-e) : Nat) : Int) = v := ⟨_, rfl⟩
      have ha := bne_of_beq (and_kb' (n := -e) hd (by omega) (by omega))
      rw [hv, ← canB_release h3 h4, hb.out] at ha
      have HV := Lib.hid hv
      have uw : IntKind.i64.wrap (-e) = -e := IntWalk.i64_in _ (by omega)
      clear hv
      go_enter Try.func36, Try.ntmps36
      go_wp2_with fail
      refine (i_isKey_no _ _ (by omega)).mono ?_
      rintro e w' ⟨rfl, rfl⟩
      go_wp2_with fail
      refine (i_isKey_yes _ _ (by omega) (by omega)).mono ?_
      rintro e w' ⟨rfl, rfl⟩
      go_wp2_with fail
      refine (i_keyBit _ v _ (by omega) (by omega) HV).mono ?_
      rintro e w' ⟨rfl, rfl⟩
      go_wp2
      go_ret
      exact ⟨by simp, rfl⟩
    · have hf : b = false := by rw [← hb.out]; exact canB_other (by omega)
      subst hf
      have uw : wrap64 (-e) < 1 ∨ 7 < wrap64 (-e) := by unfold wrap64; omega
      clear hb
      go_enter Try.func36, Try.ntmps36
      go_wp2_with fail
      refine (i_isKey_no _ _ (by omega)).mono ?_
      rintro e w' ⟨rfl, rfl⟩
      go_wp2_with fail
      refine (i_isKey_no _ _ uw).mono ?_
      rintro e w' ⟨rfl, rfl⟩
      go_wp2
      go_ret
      exact ⟨by simp, rfl⟩
set_option maxHeartbeats 1000000 in
theorem i_downAfter (e : Int) (d d' : Nat) (w : World) (hd : d < 128) (he : CanB e d) (hv : Hid (aft e d = d')) :
    Calls Try.prog 37 #[.int .i64 e, .int .i64 d] w fun r w' => r = .returned (.int .i64 d') ∧ w = w' := by
  rcases he with ⟨h1, h2, h3⟩ | ⟨h1, h2, h3⟩
  · obtain ⟨v, hvv⟩ : ∃ v : Nat, kb e = v := ⟨_, rfl⟩
    have hl := kb_lt h1 h2
    have hd' : Hid (((d : Int) + (v : Int)) = (d' : Int)) := by
      show _ = _
      rw [← hv.out, aft, if_pos (by omega), hvv]; simp
    have HV : Hid (((kb e : Nat) : Int) = (v : Int)) := by show _ = _; rw [hvv]
    rw [hvv] at hl
    have d1 : decide (0 < e) = true := decide_eq_true (by omega)
    clear hvv hv h3
    go_enter Try.func37, Try.ntmps37
    go_wp2_with fail
    refine (i_keyBit _ v _ (by omega) (by omega) HV).mono ?_
    rintro e w' ⟨rfl, rfl⟩
    go_wp2
    go_ret
    refine ⟨?_, rfl⟩
    show Ending.returned (.int .i64 ((d : Int) + (v : Int))) = _
    rw [hd'.out]
  · obtain ⟨v, hvv⟩ : ∃ v : Nat, kb (-e) = v := ⟨_, rfl⟩
    have hl := kb_lt (n := -e) (by omega) (by omega)
    have hle := kb_le' hd (n := -e) (by omega) (by omega) h3
    rw [hvv] at hl hle
    have hd' : Hid (((d : Int) - (v : Int)) = (d' : Int)) := by
      show _ = _
      rw [← hv.out, aft, if_neg (by omega), hvv]; omega
    have HV : Hid (((kb (-e) : Nat) : Int) = (v : Int)) := by show _ = _; rw [hvv]
    have uw : IntKind.i64.wrap (-e) = -e := IntWalk.i64_in _ (by omega)
    have d1 : decide (0 < e) = false := decide_eq_false (by omega)
    clear hvv hv h3
    go_enter Try.func37, Try.ntmps37
    go_wp2_with fail
    refine (i_keyBit _ v _ (by omega) (by omega) HV).mono ?_
    rintro e w' ⟨rfl, rfl⟩
    go_wp2
    go_ret
    refine ⟨?_, rfl⟩
    show Ending.returned (.int .i64 ((d : Int) - (v : Int))) = _
    rw [hd'.out]
end Go.Proofs.Ytjedkmhmkipkdaa
