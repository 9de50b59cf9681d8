
/- ProofSteps of both sides, for all lists. -/
import Derived.Test.YtekchmbbafjmmaaPee
namespace Go.Proofs.Ytekchmbbafjmmaa
open Go.RowKit

/-- the faults of lists; none of lists that cannot be compared -/
def proofL (A B : List Int) : List PF := if OkP A ∧ OkP B then stepsL A B 0 else []
theorem proofL_len (A B : List Int) : (proofL A B).length ≤ 60 := by
  unfold proofL
  split
  · rename_i h
    have h1 := steps_len _ A B 0 (Nat.le_refl _)
    have := h.1.1
    have := h.2.1
    omega
  · simp
theorem proofL_cost {A B : List Int} (h : OkP A ∧ OkP B) : proofL A B = stepsL A B 0 := if_pos h
set_option maxHeartbeats 1000000 in
theorem i_ProofSteps_any (w : World) (u v : Value) (A B : List Int) (F : List PF) (hA : IntsAt w u A) (hB : IntsAt w v B) (hF : Hid (proofL A B = F)) :
    Calls Try.prog 29 #[u, v] w fun e w' => FaOut F w e w' := by
  have hF := hF.out
  unfold proofL at hF
  have HA := keptI hA
  have HB := keptI hB
  by_cases h1 : OkP A
  · by_cases h2 : OkP B
    · rw [if_pos ⟨h1, h2⟩] at hF
      subst hF
      exact i_ProofSteps w u v A B hA hB h1 h2
    · have H1 : Hid (decide (OkP A) = true) := decide_eq_true h1
      have H2 : Hid (decide (OkP B) = false) := decide_eq_false h2
      rw [if_neg (fun h => h2 h.2)] at hF
      subst hF
      clear hA hB h1 h2
      go_enter Try.func29, Try.ntmps29
      go_wp2_with fail
      refine (i_canProof _ _ A true HA.out H1).mono ?_
      rintro e w' ⟨rfl, rfl⟩
      go_wp2_with fail
      refine (i_canProof _ _ B false HB.out H2).mono ?_
      rintro e w' ⟨rfl, rfl⟩
      go_wp2
      go_ret
      exact ⟨_, rfl, OwnFn.nil _ _, Below.refl _ _⟩
  · have H1 : Hid (decide (OkP A) = false) := decide_eq_false h1
    rw [if_neg (fun h => h1 h.1)] at hF
    subst hF
    clear hA hB h1
    go_enter Try.func29, Try.ntmps29
    go_wp2_with fail
    refine (i_canProof _ _ A false HA.out H1).mono ?_
    rintro e w' ⟨rfl, rfl⟩
    go_wp2
    go_ret
    exact ⟨_, rfl, OwnFn.nil _ _, Below.refl _ _⟩
set_option maxHeartbeats 1000000 in
theorem s_ProofSteps_any (w : World) (u v : Value) (A B : List Int) (F : List PF) (hA : IntsAt w u A) (hB : IntsAt w v B) (hF : Hid (proofL A B = F)) :
    Calls Try.prog 31 #[u, v] w fun e w' => FaOut F w e w' := by
  have hF := hF.out
  unfold proofL at hF
  have HA := keptI hA
  have HB := keptI hB
  by_cases h1 : OkP A ∧ OkP B
  · have H1 : Hid (decide (OkP A ∧ OkP B) = true) := decide_eq_true h1
    rw [if_pos h1] at hF
    subst hF
    have HT : Hid (Calls Try.prog 65 #[u, v] w fun e w' => FaOut (stepsL A B 0) w e w') := s_proofSteps w u v A B hA hB h1.1 h1.2
    clear hA hB h1
    go_enter Try.func31, Try.ntmps31
    go_wp2_with fail
    refine (s_validProof _ _ _ A B true HA.out HB.out H1).mono ?_
    rintro e w' ⟨rfl, rfl⟩
    go_wp2_with fail
    refine HT.out.mono ?_
    rintro e w1 ⟨x, rfl, hO, hb⟩
    go_wp2
    go_ret
    exact ⟨_, rfl, hO, hb⟩
  · have H1 : Hid (decide (OkP A ∧ OkP B) = false) := decide_eq_false h1
    rw [if_neg h1] at hF
    subst hF
    clear hA hB h1
    go_enter Try.func31, Try.ntmps31
    go_wp2_with fail
    refine (s_validProof _ _ _ A B false HA.out HB.out H1).mono ?_
    rintro e w' ⟨rfl, rfl⟩
    go_wp2
    go_ret
    exact ⟨_, rfl, OwnFn.nil _ _, Below.refl _ _⟩
end Go.Proofs.Ytekchmbbafjmmaa
