
/- P165: faults can be put right. -/
import Derived.Test.YtekchmbbafjmmaaPel
namespace Go.Proofs.Ytekchmbbafjmmaa
open Go.RowKit

theorem equalInts_x (w : World) (u v : Value) (xs : List Int) (hx : IntsAt w u xs) (hy : IntsAt w v xs) :
    Calls Try.prog 26 #[u, v] w fun e w' => e = .returned (.bool true) ∧ Below w.heap.size w w' := by
  have := equalInts_any w u v xs xs hx hy
  rw [decide_eq_true rfl] at this
  exact this
theorem fix_right {A B : List Int} (h : OkP A ∧ OkP B) : fixO A (stepsL A B 0) = some B := by
  unfold fixO
  have := fix_steps _ A A B 0 0 (Nat.le_refl _) (Nat.le_refl _) (Nat.zero_le _) rfl h.1.cl h.2.cl
  rw [if_pos h.1, this]
  simp only [Option.bind_some, Nat.sub_self, List.take_zero, List.nil_append]
  rw [if_pos h.2.1]
set_option maxHeartbeats 4000000 in
theorem proofSteps_walk (a : Option Addr) (len cap : Nat) (zs : List Int) (w : World) (h : RowIn .u8 w a len cap zs) :
    Calls Try.prog 10 #[.slice a len cap] w fun e w' => e = .returned (.bool true) ∧ Below w.heap.size w w' := by
  have hlen : len ≤ 9223372036854775807 := by
    obtain ⟨_, h2, h3⟩ := bytesAt_of_row h; unfold maxLen at h3; omega
  by_cases hbig : len ≤ 1048576
  · go_enter Try.func10, Try.ntmps10
    go_wp2_with fail
    refine (drawProofSteps_any w a len cap zs h).mono ?_
    rintro e w1 ⟨a1, n, ca, b1, m, cb, A, B, rfl, hA0, hB, hAl, hBl, hFA, HB⟩
    have hA := hA0.at
    clear h hA0
    obtain ⟨F, hF⟩ : ∃ F, proofL A B = F := ⟨_, rfl⟩
    have HF := Lib.hid hF
    have HFM := Lib.hid hFA
    have HL : Hid (F.length ≤ 2000000) := by show _ ≤ _; rw [← hF]; have := proofL_len A B; omega
    obtain ⟨c, hc⟩ : ∃ c, costA A B = c := ⟨_, rfl⟩
    have HC := Lib.hid hc
    clear hFA
    go_wp2_with fail
    refine (i_ProofSteps_any _ _ _ A B F hA hB HF).mono ?_
    rintro e w2 ⟨v2, rfl, hO, hbn⟩
    replace hA := hA.below hbn
    replace hB := hB.below hbn
    replace HB := below_next HB hbn
    clear hbn
    go_wp2_with fail
    refine (s_ProofSteps_any _ _ _ A B F hA hB HF).mono ?_
    rintro e w3 ⟨v3, rfl, hO3, hbn⟩
    replace hA := hA.below hbn
    replace hB := hB.below hbn
    replace hO := hO.below hbn
    replace HB := below_next HB hbn
    clear hbn
    go_wp2_with fail
    refine (equalFaults_same _ _ _ F hO.at hO3.at).mono ?_
    rintro e w4 ⟨rfl, hbn⟩
    replace hA := hA.below hbn
    replace hB := hB.below hbn
    replace hO := hO.below hbn
    replace HB := below_next HB hbn
    clear hbn hO3
    go_wp2_with fail
    refine (i_ProofCost _ _ _ A B c hA hB HC).mono ?_
    rintro e w5 ⟨rfl, hbn⟩
    replace hA := hA.below hbn
    replace hB := hB.below hbn
    replace hO := hO.below hbn
    replace HB := below_next HB hbn
    clear hbn
    by_cases hok : OkP A ∧ OkP B
    · have hc0 : decide (c < 0) = false := decide_eq_false (by rw [← hc, costA, if_pos hok]; omega)
      have HR : Hid (fixO A F = some B) := by show _ = _; rw [← hF, proofL_cost hok]; exact fix_right hok
      clear hc hok hF
      go_wp2_with fail
      refine (i_FixFaults _ _ n ca A _ F _ hA HFM.out hO.at HL.out HR).mono ?_
      rintro e w6 ⟨v6, rfl, hO6, hbn⟩
      replace hB := hB.below hbn
      replace HB := below_next HB hbn
      clear hbn hA hO
      go_wp2_with fail
      refine (equalInts_x _ _ _ B hO6.at hB).mono ?_
      rintro e w7 ⟨rfl, hbn⟩
      replace HB := below_next HB hbn
      clear hbn hB hO6
      go_wp2
      go_ret
      exact ⟨rfl, HB⟩
    · have hc1 : c = -1 := by rw [← hc, costA, if_neg hok]
      subst hc1
      clear hc hok hF
      go_wp2_with fail
      refine (s_ProofSteps_any _ _ _ A B F hA hB HF).mono ?_
      rintro e w6 ⟨v6, rfl, hO6, hbn⟩
      replace hO := hO.below hbn
      replace HB := below_next HB hbn
      clear hbn hA hB
      go_wp2_with fail
      refine (equalFaults_same _ _ _ F hO.at hO6.at).mono ?_
      rintro e w7 ⟨rfl, hbn⟩
      replace HB := below_next HB hbn
      clear hbn hO hO6
      go_wp2
      go_ret
      exact ⟨rfl, HB⟩
  · have d : decide (len ≤ 1048576) = false := decide_eq_false hbig
    have hl : (1048576 : Int) < len := by omega
    clear h
    go_enter Try.func10, Try.ntmps10
    go_wp2
    go_ret
    exact ⟨rfl, Below.refl _ _⟩
end Go.Proofs.Ytekchmbbafjmmaa
