
/- The exact law of FixFaults. -/
import Derived.Test.YtekchmbbafjmmaaPej
import Derived.Test.YtekchmbbafjmmaaEa
namespace Go.Proofs.Ytekchmbbafjmmaa
open Go.RowKit

/-- a call's answer: cells and whether they are right -/
def FxO (L : List Int) (ok : Bool) (w : World) (e : Ending) (w' : World) : Prop := ∃ v, e = .returned (.tuple #[v, .bool ok]) ∧ OwnInts w' w.heap.size v L ∧ Below w.heap.size w w'
def FxIs (A : List Int) (P : List PF) (L : List Int) (ok : Bool) : Prop := (fixO A P).getD [] = L ∧ (fixO A P).isSome = ok
theorem i_FixFaults_x (w : World) (g na ca : Nat) (A : List Int) (v : Value) (P : List PF) (L : List Int) (ok : Bool) (hA : IntsAt w (.slice (some ⟨g, 0, none⟩) na ca) A) (hP : FaultsAt w v P) (hl : Hid (P.length ≤ 2000000)) (hr : Hid (FxIs A P L ok)) :
    Calls Try.prog 32 #[.slice (some ⟨g, 0, none⟩) na ca, v] w fun e w' => FxO L ok w e w' :=
  (i_FixFaults w _ na ca A v P _ hA (.inl ⟨g, 0, rfl⟩) hP hl.out (Lib.hid rfl)).mono fun e w' h => by
    obtain ⟨h1, h2⟩ := hr.out
    unfold FxOut at h
    rw [h1, h2] at h
    exact h
theorem s_FixFaults_x (w : World) (g na ca : Nat) (A : List Int) (v : Value) (P : List PF) (L : List Int) (ok : Bool) (hA : IntsAt w (.slice (some ⟨g, 0, none⟩) na ca) A) (hP : FaultsAt w v P) (hl : Hid (P.length ≤ 2000000)) (hr : Hid (FxIs A P L ok)) :
    Calls Try.prog 35 #[.slice (some ⟨g, 0, none⟩) na ca, v] w fun e w' => FxO L ok w e w' :=
  (s_FixFaults w _ na ca A v P _ hA (.inl ⟨g, 0, rfl⟩) hP hl.out (Lib.hid rfl)).mono fun e w' h => by
    obtain ⟨h1, h2⟩ := hr.out
    unfold FxOut at h
    rw [h1, h2] at h
    exact h
theorem toFaultS_e (w : World) (v : Value) (P : List PF) (n : Nat) (hx : FaultsAt w v P) (hbig : n ≤ 1048576) (hn : Hid (P.length = n)) :
    Calls Try.prog 43 #[v] w fun e w' => ∃ g, e = .returned (.slice (some ⟨g, 0, none⟩) n n) ∧ FaultsAt w' (.slice (some ⟨g, 0, none⟩) n n) P ∧ Room w' g n ∧ (w.heap.size ≤ g ∧ g < w'.heap.size) ∧ Below w.heap.size w w' :=
  (toFaultS_any w v P n hx hbig hn).mono fun _ _ ⟨h1, h2, h3, h4⟩ => ⟨w.heap.size, h1, FaultsAt.of_new h2 hn.out (by omega), h3, ⟨Nat.le_refl _, h3.2.2⟩, h4⟩
theorem grown_setG {w wr : World} {g : Nat} (h : w.grownBy wr (some g)) (o : Nat) (u : Value) : w.grownBy (wr.setCell ⟨g, o, none⟩ u) (some g) := by
  have k := grown_store wr g o u
  exact ⟨k.os.trans h.os, k.tape.trans h.tape, k.output.trans h.output, Nat.le_trans h.size k.size, fun i hi hne => (k.block i (Nat.lt_of_lt_of_le hi h.size) hne).trans (h.block i hi hne)⟩
set_option maxHeartbeats 2000000 in
theorem markFaultS_any (w : World) (g n : Nat) (s : Int) (hR : Room w g n) (h0 : 0 ≤ s) (h1 : s ≤ 1000000000000000000) (hn : n ≤ 2000000) :
    Calls Try.prog 40 #[.slice (some ⟨g, 0, none⟩) n n, .int .i64 s] w fun e w' => e = .returned (.int .i64 (s + 3 * (n : Int))) ∧ w.grownBy w' (some g) := by
  have HR := Lib.hid hR
  clear hR
  go_enter Try.func40, Try.ntmps40
  go_wp2
  go_loopw [1, 5] (fun q i wr => ∃ (k : Nat) (m : Int), k ≤ n ∧ i = .int .i64 k ∧ q = .int .i64 m ∧ m = s + 3 * (k : Int) ∧ Room wr g n ∧ w.grownBy wr (some g)) (fun _ i _ => n - (intOf i).toNat)
  case atStart => exact ⟨0, s, Nat.zero_le _, rfl, rfl, by simp, HR.out, ⟨rfl, rfl, rfl, Nat.le_refl _, fun _ _ _ => rfl⟩⟩
  case round =>
    obtain ⟨k, m, hk, rfl, rfl, hm, hR, hB⟩ := hrel
    by_cases hlt : k < n
    · obtain ⟨u0, e0⟩ := hR.1 (k * 3) (by omega)
      obtain ⟨u1, e1⟩ := hR.1 (k * 3 + 1) (by omega)
      obtain ⟨u2, e2⟩ := hR.1 (k * 3 + 2) (by omega)
      have f0 := hR.2.1 (k * 3)
      have f1 := hR.2.1 (k * 3 + 1)
      have f2 := hR.2.1 (k * 3 + 2)
      have HR3 := Lib.hid (((hR.set (k * 3) (.int .i64 m)).set (k * 3 + 1) (.int .i64 (m + 1))).set (k * 3 + 2) (.int .i64 (m + 1 + 1)))
      have HB3 := Lib.hid (grown_setG (grown_setG (grown_setG hB (k * 3) (.int .i64 m)) (k * 3 + 1) (.int .i64 (m + 1))) (k * 3 + 2) (.int .i64 (m + 1 + 1)))
      have HMM := Lib.hid hm
      have bm : 0 ≤ m ∧ m ≤ 2000000000000000000 := by omega
      clear hR hB hm
      go_wp2
      go_roundw
      case rel => exact ⟨k + 1, m + 1 + 1 + 1, by omega, by go_num, rfl, by have := HMM.out; omega, HR3.out, HB3.out⟩
      case measure => simp [intOf]; omega
    · obtain rfl : k = n := by omega
      have HMM := Lib.hid hm
      clear hm hR
      go_wp2
      go_ret
      exact ⟨ret_f64 HMM.out, hB⟩
set_option maxHeartbeats 4000000 in
theorem exFixFaults_walk (a : Option Addr) (len cap : Nat) (A : List Int) (b : Option Addr) (len2 cap2 : Nat) (P : List PF) (w : World) (hA : IntsAt w (.slice a len cap) A) (hF : FaultsAt w (.slice b len2 cap2) P) (hn : A.length = len) (hm : P.length = len2) :
    Calls Try.prog 17 #[.slice a len cap, .slice b len2 cap2] w fun e w' => e = .returned (.bool true) ∧ Below w.heap.size w w' := by
  have HN := Lib.hid hn
  have HM := Lib.hid hm
  have hl1 : len ≤ 9223372036854775807 := by obtain ⟨_, c, hs, h1, h2, _⟩ := hA; injection hs; omega
  obtain ⟨L, hL⟩ : ∃ L, (fixO A P).getD [] = L := ⟨_, rfl⟩
  obtain ⟨ok, hok⟩ : ∃ ok, (fixO A P).isSome = ok := ⟨_, rfl⟩
  have HX : Hid (FxIs A P L ok) := ⟨hL, hok⟩
  have HL : Hid (L.length ≤ 30) := by
    show _ ≤ _
    rw [← hL]
    unfold fixO
    split
    · cases fixL A P 0 with
      | none => simp
      | some r => simp only [Option.bind_some]; split <;> simp <;> omega
    · simp
  have HB : Below w.heap.size w w := Below.refl _ _
  have HA0 := Lib.hid hA
  have HF0 := Lib.hid hF
  clear hn hm hL hok
  by_cases h1 : len ≤ 1048576
  · go_enter Try.func17, Try.ntmps17
    go_wp2_with fail
    refine (szFaultS_any _ _ P 1048576 hF (by omega) (by omega)).mono ?_
    rintro e w' ⟨⟨k, rfl, hk⟩, rfl⟩
    rcases hk with rfl | ⟨hk0, hk1, hk2⟩
    · go_wp2
      go_ret
      exact ⟨rfl, HB⟩
    · have dk : decide (k < 0) = false := decide_eq_false (by omega)
      have h2 : len2 ≤ 1048576 := by have := HM.out; omega
      have HPL : Hid (P.length ≤ 2000000) := by show _ ≤ _; omega
      clear hk2
      go_wp2_with fail
      refine (toIntS_e _ a len cap A hA h1 HN).mono ?_
      rintro e w1 ⟨g1, rfl, hX1, hbn⟩
      replace hA := hA.below hbn
      replace hF := hF.below hbn
      replace HB := below_next HB hbn
      clear hbn
      go_wp2_with fail
      refine (toFaultS_e _ _ P len2 hF h2 HM).mono ?_
      rintro e w2 ⟨g2, rfl, hX2, hR2, _, hbn⟩
      replace hA := hA.below hbn
      replace hF := hF.below hbn
      replace hX1 := hX1.below hbn
      replace HB := below_next HB hbn
      clear hbn
      go_wp2_with fail
      refine (s_FixFaults_x _ _ _ _ A _ P L ok hX1.at hX2 HPL HX).mono ?_
      rintro e w3 ⟨v0, rfl, hO0, hbn⟩
      obtain ⟨a0, n0, c0, h0, _⟩ := own_parts hO0
      subst h0
      replace hA := hA.below hbn
      replace hF := hF.below hbn
      replace hX1 := hX1.below hbn
      replace hX2 := hX2.below hbn
      replace hR2 := hR2.below hbn
      replace HB := below_next HB hbn
      clear hbn
      have hlt0 : Hid (∀ k, (Value.slice a0 n0 c0).ownBlock = some k → k < w3.heap.size) := fun k hk => (World.ownsRow.lt hO0 k hk).2
      have hws : w.heap.size ≤ w3.heap.size := HB.size
      clear hX1 hX2 hR2
      go_wp2_with fail
      refine (toIntS_e _ a len cap A hA h1 HN).mono ?_
      rintro e w4 ⟨g3, rfl, hX3, hbn⟩
      have hg3 : w3.heap.size ≤ g3 ∧ g3 < w4.heap.size := hX3.lt g3 rfl
      replace hA := hA.below hbn
      replace hF := hF.below hbn
      replace hO0 := hO0.below hbn
      replace HB := below_next HB hbn
      clear hbn
      go_wp2_with fail
      refine (toFaultS_e _ _ P len2 hF h2 HM).mono ?_
      rintro e w5 ⟨g4, rfl, hX4, hR4, hg4, hbn⟩
      replace hA := hA.below hbn
      replace hF := hF.below hbn
      replace hO0 := hO0.below hbn
      replace hX3 := hX3.below hbn
      replace HB := below_next HB hbn
      clear hbn
      go_wp2_with fail
      refine (i_FixFaults_x _ _ _ _ A _ P L ok hX3.at hX4 HPL HX).mono ?_
      rintro e w6 ⟨v1, rfl, hO1, hbn⟩
      obtain ⟨a1, n1, c1, h1x, hn1⟩ := own_parts hO1
      subst h1x
      have SZ : w5.heap.size ≤ w6.heap.size := hbn.size
      have HN1 := Lib.hid hn1
      clear hn1
      replace hA := hA.below hbn
      replace hF := hF.below hbn
      replace hO0 := hO0.below hbn
      replace hX3 := hX3.below hbn
      replace hX4 := hX4.below hbn
      replace hR4 := hR4.below hbn
      replace HB := below_next HB hbn
      clear hbn
      go_wp2_with fail
      refine (eqIntS_sameE _ _ _ L hO1.at hO0.at).mono ?_
      rintro e w7 ⟨rfl, hbn⟩
      replace hA := hA.below hbn
      replace hF := hF.below hbn
      replace hO0 := hO0.below hbn
      replace hX3 := hX3.below hbn
      replace hX4 := hX4.below hbn
      replace hR4 := hR4.below hbn
      replace hO1 := hO1.below hbn
      replace HB := below_next HB hbn
      replace SZ := Nat.le_trans SZ hbn.size
      clear hbn
      go_wp2_with fail
      refine (toIntS_e _ a len cap A hA h1 HN).mono ?_
      rintro e w8 ⟨g5, rfl, hX5, hbn⟩
      replace hA := hA.below hbn
      replace hF := hF.below hbn
      replace hO0 := hO0.below hbn
      replace hX3 := hX3.below hbn
      replace hX4 := hX4.below hbn
      replace hR4 := hR4.below hbn
      replace hO1 := hO1.below hbn
      replace HB := below_next HB hbn
      replace SZ := Nat.le_trans SZ hbn.size
      clear hbn
      go_wp2_with fail
      refine (eqIntS_sameE _ _ _ A hX3.at hX5.at).mono ?_
      rintro e w9 ⟨rfl, hbn⟩
      replace hA := hA.below hbn
      replace hF := hF.below hbn
      replace hO0 := hO0.below hbn
      replace hX3 := hX3.below hbn
      replace hX4 := hX4.below hbn
      replace hR4 := hR4.below hbn
      replace hO1 := hO1.below hbn
      replace hX5 := hX5.below hbn
      replace HB := below_next HB hbn
      replace SZ := Nat.le_trans SZ hbn.size
      clear hbn
      clear hX5
      go_wp2_with fail
      refine (toFaultS_e _ _ P len2 hF h2 HM).mono ?_
      rintro e w10 ⟨g6, rfl, hX6, hR6, _, hbn⟩
      replace hA := hA.below hbn
      replace hF := hF.below hbn
      replace hO0 := hO0.below hbn
      replace hX3 := hX3.below hbn
      replace hX4 := hX4.below hbn
      replace hR4 := hR4.below hbn
      replace hO1 := hO1.below hbn
      replace HB := below_next HB hbn
      replace SZ := Nat.le_trans SZ hbn.size
      clear hbn
      go_wp2_with fail
      refine (eqFaultS_same _ _ _ P hX4 hX6).mono ?_
      rintro e w11 ⟨rfl, hbn⟩
      replace hA := hA.below hbn
      replace hF := hF.below hbn
      replace hO0 := hO0.below hbn
      replace hX3 := hX3.below hbn
      replace hX4 := hX4.below hbn
      replace hR4 := hR4.below hbn
      replace hO1 := hO1.below hbn
      replace hX6 := hX6.below hbn
      replace hR6 := hR6.below hbn
      replace HB := below_next HB hbn
      replace SZ := Nat.le_trans SZ hbn.size
      clear hbn
      clear hX6 hR6 hX4
      go_wp2_with fail
      refine (markIntS_e _ w3.heap.size g3 len len A 1 hX3 HN (by omega) (by omega) (by omega)).mono ?_
      rintro e w12 ⟨rfl, hgn⟩
      have HB2 : Below w.heap.size w w12 := HB.grown hgn HB.size (fun q hq => by injection hq with hq; omega)
      replace hA := HA0.out.below HB2
      replace hF := HF0.out.below HB2
      replace hO0 := hO0.of_blockE (fun b hb => hgn.block b (by have := hlt0.out b hb; omega) (fun e => by injection e with e'; have := hlt0.out b hb; omega))
      replace hO1 := hO1.of_blockE (fun b hb => hgn.block b (World.ownsRow.lt hO1 b hb).2 (fun e => by injection e with e'; have := (World.ownsRow.lt hO1 b hb).1; omega))
      replace hR4 := hR4.grown hgn (by omega)
      replace SZ := Nat.le_trans SZ hgn.size
      clear HB
      have HB := HB2
      clear HB2 hgn
      clear hX3
      go_wp2_with fail
      refine (markFaultS_any _ g4 len2 (1 + (len : Int)) hR4 (by omega) (by omega) (by omega)).mono ?_
      rintro e w13 ⟨rfl, hgn⟩
      have HB2 : Below w.heap.size w w13 := HB.grown hgn HB.size (fun q hq => by injection hq with hq; omega)
      replace hA := HA0.out.below HB2
      replace hF := HF0.out.below HB2
      replace hO0 := hO0.of_blockE (fun b hb => hgn.block b (by have := hlt0.out b hb; omega) (fun e => by injection e with e'; have := hlt0.out b hb; omega))
      replace hO1 := hO1.of_blockE (fun b hb => hgn.block b (World.ownsRow.lt hO1 b hb).2 (fun e => by injection e with e'; have := (World.ownsRow.lt hO1 b hb).1; omega))
      replace SZ := Nat.le_trans SZ hgn.size
      clear HB
      have HB := HB2
      clear HB2 hgn
      clear hR4
      have d3 : decide (1 + (len : Int) + 3 * (len2 : Int) < 0) = false := decide_eq_false (by omega)
      go_wp2_with fail
      refine (eqIntS_sameE _ _ _ L hO1.at hO0.at).mono ?_
      rintro e w14 ⟨rfl, hbn⟩
      replace hA := hA.below hbn
      replace hF := hF.below hbn
      replace hO0 := hO0.below hbn
      replace hO1 := hO1.below hbn
      replace HB := below_next HB hbn
      replace SZ := Nat.le_trans SZ hbn.size
      clear hbn
      have hn1 : n1 ≤ 1000 := by have := HN1.out; have := HL.out; omega
      have d4 : decide (1 + (n1 : Int) < 0) = false := decide_eq_false (by omega)
      go_wp2_with fail
      refine (markIntS_own _ w5.heap.size a1 n1 n1 c1 L hO1 HN1 (by omega)).mono ?_
      rintro e w15 ⟨rfl, hOm, hbm⟩
      replace hO0 := hO0.of_blockE (fun b hb => hbm.block b (by have := hlt0.out b hb; omega))
      have hbm2 := hbm.mono (show w.heap.size ≤ w5.heap.size from by omega)
      replace HB := HB.trans hbm2
      replace hA := HA0.out.below HB
      replace hF := HF0.out.below HB
      clear hbm hbm2 hO1 SZ
      go_wp2_with fail
      refine (heldIntS_own _ w5.heap.size _ n1 hOm (by omega)).mono ?_
      rintro e w' ⟨rfl, rfl⟩
      go_wp2_with fail
      refine (toIntS_e _ a len cap A hA h1 HN).mono ?_
      rintro e w16 ⟨g7, rfl, hX7, hbn⟩
      replace hA := hA.below hbn
      replace hF := hF.below hbn
      replace hO0 := hO0.below hbn
      replace hOm := hOm.below hbn
      replace HB := below_next HB hbn
      clear hbn
      go_wp2_with fail
      refine (toFaultS_e _ _ P len2 hF h2 HM).mono ?_
      rintro e w17 ⟨g8, rfl, hX8, hR8, _, hbn⟩
      replace hA := hA.below hbn
      replace hF := hF.below hbn
      replace hO0 := hO0.below hbn
      replace hOm := hOm.below hbn
      replace hX7 := hX7.below hbn
      replace HB := below_next HB hbn
      clear hbn
      go_wp2_with fail
      refine (i_FixFaults_x _ _ _ _ A _ P L ok hX7.at hX8 HPL HX).mono ?_
      rintro e w18 ⟨v2, rfl, hO2, hbn⟩
      obtain ⟨a2, n2, c2, h2x, _⟩ := own_parts hO2
      subst h2x
      replace hA := hA.below hbn
      replace hF := hF.below hbn
      replace hO0 := hO0.below hbn
      replace hOm := hOm.below hbn
      replace hX7 := hX7.below hbn
      replace hX8 := hX8.below hbn
      replace hR8 := hR8.below hbn
      replace HB := below_next HB hbn
      clear hbn
      clear hX7 hX8 hR8
      go_wp2_with fail
      refine (eqIntS_sameE _ _ _ L hO2.at hO0.at).mono ?_
      rintro e w19 ⟨rfl, hbn⟩
      replace hA := hA.below hbn
      replace hF := hF.below hbn
      replace hO0 := hO0.below hbn
      replace hOm := hOm.below hbn
      replace hO2 := hO2.below hbn
      replace HB := below_next HB hbn
      clear hbn
      clear hO0 hO2
      go_wp2_with fail
      refine (heldIntS_own _ w5.heap.size _ n1 hOm (by omega)).mono ?_
      rintro e w' ⟨rfl, rfl⟩
      go_wp2
      go_ret
      exact ⟨rfl, HB⟩
  · have d1 : decide (len ≤ 1048576) = false := decide_eq_false h1
    have q1 : (1048576 : Int) < len := by omega
    clear hA hF
    go_enter Try.func17, Try.ntmps17
    go_wp2
    go_ret
    exact ⟨rfl, Below.refl _ _⟩
end Go.Proofs.Ytekchmbbafjmmaa
