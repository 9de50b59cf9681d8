
/- The exact law of ProofSteps. -/
import Derived.Test.YtekchmbbafjmmaaPef
import Derived.Test.YtekchmbbafjmmaaEa
namespace Go.Proofs.Ytekchmbbafjmmaa
open Go.RowKit

set_option maxHeartbeats 4000000 in
theorem exProofSteps_walk (a : Option Addr) (len cap : Nat) (A : List Int) (b : Option Addr) (len2 cap2 : Nat) (B : List Int) (w : World) (hA : IntsAt w (.slice a len cap) A) (hB : IntsAt w (.slice b len2 cap2) B) (hn : A.length = len) (hm : B.length = len2) :
    Calls Try.prog 16 #[.slice a len cap, .slice b len2 cap2] w fun e w' => e = .returned (.bool true) ∧ Below w.heap.size w w' := by
  have HN := Lib.hid hn
  have HM := Lib.hid hm
  have hl1 : len ≤ 9223372036854775807 := by obtain ⟨_, c, hs, h1, h2, _⟩ := hA; injection hs; omega
  have hl2 : len2 ≤ 9223372036854775807 := by obtain ⟨_, c, hs, h1, h2, _⟩ := hB; injection hs; omega
  obtain ⟨F, hF⟩ : ∃ F, proofL A B = F := ⟨_, rfl⟩
  have HF := Lib.hid hF
  have HL : Hid (F.length ≤ 60) := by show _ ≤ _; rw [← hF]; exact proofL_len A B
  have HB : Below w.heap.size w w := Below.refl _ _
  have HA0 := Lib.hid hA
  have HB0 := Lib.hid hB
  clear hn hm hF
  by_cases h1 : len ≤ 1048576
  · by_cases h2 : len2 ≤ 1048576
    · go_enter Try.func16, Try.ntmps16
      go_wp2_with fail
      refine (toIntS_e _ a len cap A hA h1 HN).mono ?_
      rintro e w1 ⟨g1, rfl, hX1, hbn⟩
      replace hA := hA.below hbn
      replace hB := hB.below hbn
      replace HB := below_next HB hbn
      clear hbn
      go_wp2_with fail
      refine (toIntS_e _ b len2 cap2 B hB h2 HM).mono ?_
      rintro e w2 ⟨g2, rfl, hX2, hbn⟩
      replace hA := hA.below hbn
      replace hB := hB.below hbn
      replace hX1 := hX1.below hbn
      replace HB := below_next HB hbn
      clear hbn
      go_wp2_with fail
      refine (s_ProofSteps_any _ _ _ A B F hX1.at hX2.at HF).mono ?_
      rintro e w3 ⟨v0, rfl, hO0, hbn⟩
      obtain ⟨a0, n0, c0, h0⟩ := hO0.isSlice
      subst h0
      replace hA := hA.below hbn
      replace hB := hB.below hbn
      replace hX1 := hX1.below hbn
      replace hX2 := hX2.below hbn
      replace HB := below_next HB hbn
      clear hbn
      have hlt0 : Hid (∀ k, (Value.slice a0 n0 c0).ownBlock = some k → k < w3.heap.size) := fun k hk => (World.ownsRow.lt hO0 k hk).2
      have hws : w.heap.size ≤ w3.heap.size := HB.size
      clear hX1 hX2
      go_wp2_with fail
      refine (toIntS_e _ a len cap A hA h1 HN).mono ?_
      rintro e w4 ⟨g3, rfl, hX3, hbn⟩
      have hg3 : w3.heap.size ≤ g3 ∧ g3 < w4.heap.size := hX3.lt g3 rfl
      replace hA := hA.below hbn
      replace hB := hB.below hbn
      replace hO0 := hO0.below hbn
      replace HB := below_next HB hbn
      clear hbn
      go_wp2_with fail
      refine (toIntS_e _ b len2 cap2 B hB h2 HM).mono ?_
      rintro e w5 ⟨g4, rfl, hX4, hbn⟩
      have hg4 : w4.heap.size ≤ g4 ∧ g4 < w5.heap.size := hX4.lt g4 rfl
      replace hA := hA.below hbn
      replace hB := hB.below hbn
      replace hO0 := hO0.below hbn
      replace hX3 := hX3.below hbn
      replace HB := below_next HB hbn
      clear hbn
      go_wp2_with fail
      refine (i_ProofSteps_any _ _ _ A B F hX3.at hX4.at HF).mono ?_
      rintro e w6 ⟨v1, rfl, hO1, hbn⟩
      obtain ⟨a1, n1, c1, h1x⟩ := hO1.isSlice
      subst h1x
      have SZ : w5.heap.size ≤ w6.heap.size := hbn.size
      replace hA := hA.below hbn
      replace hB := hB.below hbn
      replace hO0 := hO0.below hbn
      replace hX3 := hX3.below hbn
      replace hX4 := hX4.below hbn
      replace HB := below_next HB hbn
      clear hbn
      go_wp2_with fail
      refine (eqFaultS_same _ _ _ F hO1.at hO0.at).mono ?_
      rintro e w7 ⟨rfl, hbn⟩
      replace hA := hA.below hbn
      replace hB := hB.below hbn
      replace hO0 := hO0.below hbn
      replace hX3 := hX3.below hbn
      replace hX4 := hX4.below hbn
      replace hO1 := hO1.below hbn
      replace HB := below_next HB hbn
      replace SZ := Nat.le_trans SZ hbn.size
      clear hbn
      go_wp2_with fail
      refine (toIntS_e _ a len cap A hA h1 HN).mono ?_
      rintro e w8 ⟨g5, rfl, hX5, hbn⟩
      replace hA := hA.below hbn
      replace hB := hB.below hbn
      replace hO0 := hO0.below hbn
      replace hX3 := hX3.below hbn
      replace hX4 := hX4.below hbn
      replace hO1 := hO1.below hbn
      replace HB := below_next HB hbn
      replace SZ := Nat.le_trans SZ hbn.size
      clear hbn
      go_wp2_with fail
      refine (eqIntS_sameE _ _ _ A hX3.at hX5.at).mono ?_
      rintro e w9 ⟨rfl, hbn⟩
      replace hA := hA.below hbn
      replace hB := hB.below hbn
      replace hO0 := hO0.below hbn
      replace hX3 := hX3.below hbn
      replace hX4 := hX4.below hbn
      replace hO1 := hO1.below hbn
      replace hX5 := hX5.below hbn
      replace HB := below_next HB hbn
      replace SZ := Nat.le_trans SZ hbn.size
      clear hbn
      clear hX5
      go_wp2_with fail
      refine (toIntS_e _ b len2 cap2 B hB h2 HM).mono ?_
      rintro e w10 ⟨g6, rfl, hX6, hbn⟩
      replace hA := hA.below hbn
      replace hB := hB.below hbn
      replace hO0 := hO0.below hbn
      replace hX3 := hX3.below hbn
      replace hX4 := hX4.below hbn
      replace hO1 := hO1.below hbn
      replace HB := below_next HB hbn
      replace SZ := Nat.le_trans SZ hbn.size
      clear hbn
      go_wp2_with fail
      refine (eqIntS_sameE _ _ _ B hX4.at hX6.at).mono ?_
      rintro e w11 ⟨rfl, hbn⟩
      replace hA := hA.below hbn
      replace hB := hB.below hbn
      replace hO0 := hO0.below hbn
      replace hX3 := hX3.below hbn
      replace hX4 := hX4.below hbn
      replace hO1 := hO1.below hbn
      replace hX6 := hX6.below hbn
      replace HB := below_next HB hbn
      replace SZ := Nat.le_trans SZ hbn.size
      clear hbn
      clear hX6
      go_wp2_with fail
      refine (markIntS_e _ w3.heap.size g3 len len A 1 hX3 HN (by omega) (by omega) (by omega)).mono ?_
      rintro e w12 ⟨rfl, hgn⟩
      have HB2 : Below w.heap.size w w12 := HB.grown hgn HB.size (fun q hq => by injection hq with hq; omega)
      replace hA := HA0.out.below HB2
      replace hB := HB0.out.below HB2
      replace hO0 := hO0.of_block (fun b hb => hgn.block b (by have := hlt0.out b hb; omega) (fun e => by injection e with e'; have := hlt0.out b hb; omega))
      replace hO1 := hO1.of_block (fun b hb => hgn.block b (World.ownsRow.lt hO1 b hb).2 (fun e => by injection e with e'; have := (World.ownsRow.lt hO1 b hb).1; omega))
      replace hX4 := hX4.of_blockE (fun b hb => hgn.block b (World.ownsRow.lt hX4 b hb).2 (fun e => by injection e with e'; have := (World.ownsRow.lt hX4 b hb).1; omega))
      replace SZ := Nat.le_trans SZ hgn.size
      clear HB
      have HB := HB2
      clear HB2 hgn
      clear hX3
      go_wp2_with fail
      refine (markIntS_e _ w4.heap.size g4 len2 len2 B (1 + (len : Int)) hX4 HM (by omega) (by omega) (by omega)).mono ?_
      rintro e w13 ⟨rfl, hgn⟩
      have HB2 : Below w.heap.size w w13 := HB.grown hgn HB.size (fun q hq => by injection hq with hq; omega)
      replace hA := HA0.out.below HB2
      replace hB := HB0.out.below HB2
      replace hO0 := hO0.of_block (fun b hb => hgn.block b (by have := hlt0.out b hb; omega) (fun e => by injection e with e'; have := hlt0.out b hb; omega))
      replace hO1 := hO1.of_block (fun b hb => hgn.block b (World.ownsRow.lt hO1 b hb).2 (fun e => by injection e with e'; have := (World.ownsRow.lt hO1 b hb).1; omega))
      replace SZ := Nat.le_trans SZ hgn.size
      clear HB
      have HB := HB2
      clear HB2 hgn
      clear hX4
      have d3 : decide (1 + (len : Int) + (len2 : Int) < 0) = false := decide_eq_false (by omega)
      go_wp2_with fail
      refine (eqFaultS_same _ _ _ F hO1.at hO0.at).mono ?_
      rintro e w14 ⟨rfl, hbn⟩
      replace hA := hA.below hbn
      replace hB := hB.below hbn
      replace hO0 := hO0.below hbn
      replace hO1 := hO1.below hbn
      replace HB := below_next HB hbn
      replace SZ := Nat.le_trans SZ hbn.size
      clear hbn
      have hn1 : n1 ≤ 1000 := by have := hO1.len; have := HL.out; omega
      have d4 : decide (1 + 3 * (n1 : Int) < 0) = false := decide_eq_false (by omega)
      go_wp2_with fail
      refine (markFaultS_own _ w5.heap.size a1 n1 c1 F hO1 hn1 SZ).mono ?_
      rintro e w15 ⟨rfl, hOm, hbm⟩
      replace hO0 := hO0.of_block (fun b hb => hbm.block b (by have := hlt0.out b hb; omega))
      have hbm2 := hbm.mono (show w.heap.size ≤ w5.heap.size from by omega)
      replace HB := HB.trans hbm2
      replace hA := HA0.out.below HB
      replace hB := HB0.out.below HB
      clear hbm hbm2 hO1 SZ
      go_wp2_with fail
      refine (heldFaultS_own _ w5.heap.size _ _ _ F hOm hn1).mono ?_
      rintro e w' ⟨rfl, rfl⟩
      go_wp2_with fail
      refine (toIntS_e _ a len cap A hA h1 HN).mono ?_
      rintro e w16 ⟨g7, rfl, hX7, hbn⟩
      replace hA := hA.below hbn
      replace hB := hB.below hbn
      replace hO0 := hO0.below hbn
      replace hOm := hOm.below hbn
      replace HB := below_next HB hbn
      clear hbn
      go_wp2_with fail
      refine (toIntS_e _ b len2 cap2 B hB h2 HM).mono ?_
      rintro e w17 ⟨g8, rfl, hX8, hbn⟩
      replace hA := hA.below hbn
      replace hB := hB.below hbn
      replace hO0 := hO0.below hbn
      replace hOm := hOm.below hbn
      replace hX7 := hX7.below hbn
      replace HB := below_next HB hbn
      clear hbn
      go_wp2_with fail
      refine (i_ProofSteps_any _ _ _ A B F hX7.at hX8.at HF).mono ?_
      rintro e w18 ⟨v2, rfl, hO2, hbn⟩
      obtain ⟨a2, n2, c2, h2x⟩ := hO2.isSlice
      subst h2x
      replace hA := hA.below hbn
      replace hB := hB.below hbn
      replace hO0 := hO0.below hbn
      replace hOm := hOm.below hbn
      replace hX7 := hX7.below hbn
      replace hX8 := hX8.below hbn
      replace HB := below_next HB hbn
      clear hbn
      clear hX7 hX8
      go_wp2_with fail
      refine (eqFaultS_same _ _ _ F hO2.at hO0.at).mono ?_
      rintro e w19 ⟨rfl, hbn⟩
      replace hA := hA.below hbn
      replace hB := hB.below hbn
      replace hO0 := hO0.below hbn
      replace hOm := hOm.below hbn
      replace hO2 := hO2.below hbn
      replace HB := below_next HB hbn
      clear hbn
      clear hO0 hO2
      go_wp2_with fail
      refine (heldFaultS_own _ w5.heap.size _ _ _ F hOm hn1).mono ?_
      rintro e w' ⟨rfl, rfl⟩
      go_wp2
      go_ret
      exact ⟨rfl, HB⟩
    · have d2 : decide (len2 ≤ 1048576) = false := decide_eq_false h2
      have q2 : (1048576 : Int) < len2 := by omega
      clear hA hB
      go_enter Try.func16, Try.ntmps16
      go_wp2
      go_ret
      exact ⟨rfl, Below.refl _ _⟩
  · have d1 : decide (len ≤ 1048576) = false := decide_eq_false h1
    have q1 : (1048576 : Int) < len := by omega
    clear hA hB
    go_enter Try.func16, Try.ntmps16
    go_wp2
    go_ret
    exact ⟨rfl, Below.refl _ _⟩
end Go.Proofs.Ytekchmbbafjmmaa
