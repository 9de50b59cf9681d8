
/- Marks on a display; the exact law of WindowOf. -/
import Derived.Test.YtfgnckafpnobhaaDsi
import Derived.Test.YtfgnckafpnobhaaEa
import Derived.Deep.RegionHeld3
namespace Go.Proofs.Ytfgnckafpnobhaa
open Go.RowKit

/-- only two old blocks were written -/
def TwoGr (g1 g2 : Nat) (w w' : World) : Prop := w'.os = w.os ∧ w'.tape = w.tape ∧ w'.output = w.output ∧ w.heap.size ≤ w'.heap.size ∧ ∀ i, i < w.heap.size → i ≠ g1 → i ≠ g2 → w'.heap[i]? = w.heap[i]?
theorem TwoGr.below {g1 g2 B : Nat} {w a b : World} (h : Below B w a) (k : TwoGr g1 g2 a b) (h1 : B ≤ g1) (h2 : B ≤ g2) (hs : B ≤ a.heap.size) : Below B w b :=
  ⟨k.1.trans h.os, k.2.1.trans h.tape, k.2.2.1.trans h.output, Nat.le_trans h.size k.2.2.2.1, fun i hi => (k.2.2.2.2 i (by omega) (by omega) (by omega)).trans (h.block i hi)⟩
set_option maxHeartbeats 1000000 in
theorem markDisplay_any (w : World) (S1 S2 g1 n g2 m : Nat) (s t : Int) (C P : List Int) (hC : OwnInts w S1 (.slice (some ⟨g1, 0, none⟩) n n) C) (hP : OwnInts w S2 (.slice (some ⟨g2, 0, none⟩) m m) P) (hne : g1 ≠ g2) (hn : Hid (C.length = n)) (hm : Hid (P.length = m)) (h1 : n ≤ 1048576) (h2 : m ≤ 1048576) :
    Calls Try.prog 41 #[dspV (.slice (some ⟨g1, 0, none⟩) n n) (.slice (some ⟨g2, 0, none⟩) m m) s t, .int .i64 1] w fun e w' => e = .returned (.int .i64 (1 + (n : Int) + (m : Int))) ∧ TwoGr g1 g2 w w' := by
  have l1 := (hC.lt g1 rfl).2
  have l2 := (hP.lt g2 rfl).2
  obtain ⟨hB, hbx⟩ := dbox w (.slice (some ⟨g1, 0, none⟩) n n) (.slice (some ⟨g2, 0, none⟩) m m) s t
  have HC := keptI (hC.below hbx)
  have HP := keptI (hP.below hbx)
  have hsz := hB.lt
  clear hC hP
  go_enter Try.func41, Try.ntmps41
  go_wp2_with fail
  generalize w.alloc (.cells #[.slice (some ⟨g1, 0, none⟩) n n, .slice (some ⟨g2, 0, none⟩) m m, .int .i64 s, .int .i64 t] 25) = wA at hB hbx HC HP hsz ⊢
  obtain ⟨c0, c1, c2, c3⟩ := hB.cells
  refine (markIntS_e wA S1 g1 n n C 1 HC.out hn (by omega) (by omega) (by omega)).mono ?_
  rintro e w1 ⟨rfl, hg⟩
  replace hB : BoxD w1 w.heap.size _ _ s t := (hg.block w.heap.size hsz (fun e => by injection e with e; omega)).trans hB
  have hP1 := HP.out.of_blockE (fun b hb => hg.block b (World.ownsRow.lt HP.out b hb).2 (fun e => by injection e with e; have e2 : g2 = b := (by simpa [Value.ownBlock] using hb); omega))
  clear c0 c1 c2 c3
  obtain ⟨c0, c1, c2, c3⟩ := hB.cells
  go_wp2_with fail
  refine (markIntS_e w1 S2 g2 m m P (1 + (n : Int)) hP1 hm (by omega) (by omega) (by omega)).mono ?_
  rintro e w2 ⟨rfl, hg2⟩
  have hs1 := hg.size
  have hsA := hbx.size
  have FIN : Hid (TwoGr g1 g2 w w2) := ⟨(hg2.os.trans hg.os).trans hbx.os, (hg2.tape.trans hg.tape).trans hbx.tape, (hg2.output.trans hg.output).trans hbx.output, Nat.le_trans hsA (Nat.le_trans hs1 hg2.size), fun i hi e1 e2 => (hg2.block i (by omega) (fun e => by injection e with e; omega)).trans ((hg.block i (by omega) (fun e => by injection e with e; omega)).trans (hbx.block i hi))⟩
  clear hg hg2 hbx hP1
  go_wp2
  go_ret
  exact ⟨rfl, FIN.out⟩
set_option maxRecDepth 20000 in
set_option maxHeartbeats 8000000 in
theorem exWindowOf_walk (c p : Value) (s t : Int) (C P : List Int) (w : World) (hC : IntsAt w c C) (hP : IntsAt w p P) (hs : -9223372036854775808 ≤ s ∧ s ≤ 9223372036854775807) (ht : -9223372036854775808 ≤ t ∧ t ≤ 9223372036854775807) :
    Calls Try.prog 11 #[.agg #[c, p, .int .i64 s, .int .i64 t]] w fun e w' => e = .returned (.bool true) ∧ Below w.heap.size w w' := by
  obtain ⟨ac, n, cc, rfl, hn, xc1, xc2, _⟩ := hC.partsI
  obtain ⟨ap, m, cp, rfl, hm, xp1, xp2, _⟩ := hP.partsI
  obtain ⟨Z, hzv⟩ := wiIs_any C P s t
  have HV := Lib.hid hzv
  have HZ4 : Hid (Z.length ≤ 400) := wiIs_len hzv
  have HI : Hid (∀ w g n p, IntsAt w (.slice (some ⟨g, 0, none⟩) n n) C → IntsAt w p P → Calls Try.prog 19 #[.agg #[.slice (some ⟨g, 0, none⟩) n n, p, .int .i64 s, .int .i64 t]] w fun e w' => WidOut Z w e w') := fun w g n p h1 h2 => i_WindowOf w g n p s t C P Z h1 h2 hs ht HV
  have HS : Hid (∀ w g n p, IntsAt w (.slice (some ⟨g, 0, none⟩) n n) C → IntsAt w p P → Calls Try.prog 23 #[.agg #[.slice (some ⟨g, 0, none⟩) n n, p, .int .i64 s, .int .i64 t]] w fun e w' => WidOut Z w e w') := fun w g n p h1 h2 => s_WindowOf w g n p s t C P Z h1 h2 hs ht HV
  have HT : Hid (∀ w c p, C.length ≤ 1048576 → P.length ≤ 1048576 → IntsAt w c C → IntsAt w p P → Calls Try.prog 38 #[.agg #[c, p, .int .i64 s, .int .i64 t]] w fun e w' => DspMade C P s t w e w') := fun w c p h1 h2 h3 h4 => toDisplay_any w c p s t C P h3 h4 h1 h2
  have HE : Hid (∀ w c p c' p', IntsAt w c C → IntsAt w p P → IntsAt w c' C → IntsAt w p' P → Calls Try.prog 39 #[.agg #[c, p, .int .i64 s, .int .i64 t], .agg #[c', p', .int .i64 s, .int .i64 t]] w fun e w' => e = .returned (.bool true) ∧ Below w.heap.size w w') := fun w c p c' p' h1 h2 h3 h4 => eqDisplay_same w c p c' p' s t C P h1 h2 h3 h4
  obtain ⟨hB, hbx⟩ := lboxD w (.slice ac n cc) (.slice ap m cp) s t
  have HC0 := keptI hC
  have HP0 := keptI hP
  have HC := keptI (hC.below hbx)
  have HP := keptI (hP.below hbx)
  have HB := keptI hbx
  have HL := keptI hB
  clear hC hP hbx hB hn hm hzv
  go_enter Try.func11, Try.ntmps11
  go_wp2_with fail
  generalize w.alloc (.cells #[.slice ac n cc, .slice ap m cp, .int .i64 s, .int .i64 t] 38) = wA at HB HC HP HL ⊢
  refine (szDisplay_any wA _ _ s t C P HC.out HP.out).mono ?_
  rintro e w1 ⟨⟨z, rfl, hz⟩, hb1⟩
  have HL1 := keptI (HL.out.below hb1 HL.out.lt)
  have HB1 := keptI (below_next HB.out hb1)
  clear hb1 HL HC HP HB
  rcases hz with rfl | ⟨z0, z1, z2⟩
  · go_wp2
    go_ret
    exact ⟨rfl, HB1.out⟩
  · have d1 : decide (z < 0) = false := decide_eq_false (by omega)
    have K1 := Lib.hid z1
    have K2 := Lib.hid z2
    clear z1 z2
    obtain ⟨c0, c1, c2, c3⟩ := HL1.out.cells
    go_wp2_with fail
    refine (HT.out w1 _ _ K1.out K2.out (HC0.out.below HB1.out) (HP0.out.below HB1.out)).mono ?_
    rintro e w2 ⟨g1, n1, g2, n2, rfl, hO1, hO2, _, _, _, hb2⟩
    have HO1 := keptI hO1.at
    have HO2 := keptI hO2.at
    have HL2 := keptI (HL1.out.below hb2 HL1.out.lt)
    have HB2 := keptI (below_next HB1.out hb2)
    clear hO1 hO2 hb2 c0 c1 c2 c3
    go_wp2_with fail
    refine (HS.out w2 _ _ _ HO1.out HO2.out).mono ?_
    rintro e w3 ⟨a0, m0, q0, rfl, hW0, hb3⟩
    have hlt0 : Hid (∀ k, (Value.slice a0 m0 q0).ownBlock = some k → k < w3.heap.size) := fun k hk => (World.ownsRow.lt hW0 k hk).2
    have HL3 := keptI (HL2.out.below hb3 HL2.out.lt)
    have HB3 := keptI (below_next HB2.out hb3)
    have HW0 := keptI hW0
    have hs3 := HB3.out.size
    have hL3lt := HL3.out.lt
    clear hb3 hW0
    obtain ⟨c0, c1, c2, c3⟩ := HL3.out.cells
    go_wp2_with fail
    refine (HT.out w3 _ _ K1.out K2.out (HC0.out.below HB3.out) (HP0.out.below HB3.out)).mono ?_
    rintro e w4 ⟨g3, n3, g4, n4, rfl, hO3, hO4, hn3, hn4, hne, hb4⟩
    obtain ⟨hD4, hal⟩ := dbox w4 (.slice (some ⟨g3, 0, none⟩) n3 n3) (.slice (some ⟨g4, 0, none⟩) n4 n4) s t
    have hg3 := hO3.lt g3 rfl
    have hg4 := hO4.lt g4 rfl
    have HN3 := Lib.hid hn3
    have HN4 := Lib.hid hn4
    have hs4 := hb4.size
    have hsal := hal.size
    have HO3 := keptI (hO3.below hal)
    have HO4 := keptI (hO4.below hal)
    have HF4 := keptI hD4
    have HL4 := keptI ((HL3.out.below hb4 HL3.out.lt).below hal (HL3.out.below hb4 HL3.out.lt).lt)
    have HW4 := keptI ((HW0.out.below hb4).below hal)
    have HB4 := keptI (below_next (below_next HB3.out hb4) hal)
    clear hO3 hO4 hb4 hal hD4 c0 c1 c2 c3 hn3 hn4
    go_wp2_with fail
    generalize w4.alloc (.cells #[.slice (some ⟨g3, 0, none⟩) n3 n3, .slice (some ⟨g4, 0, none⟩) n4 n4, .int .i64 s, .int .i64 t] 25) = w5 at HO3 HO4 HF4 HL4 HW4 HB4 hsal ⊢
    have hF4lt := HF4.out.lt
    refine (HI.out w5 _ _ _ HO3.out.at HO4.out.at).mono ?_
    rintro e w6 ⟨a6, m6, q6, rfl, hV6, hb6⟩
    have HN6 : Hid (Z.length = m6) := by obtain ⟨_, _, e, _⟩ := hV6.at; injection e with _ e _; exact e.symm
    have hs6 := hb6.size
    have HF6 := keptI (HF4.out.below hb6 HF4.out.lt)
    have HL6 := keptI (HL4.out.below hb6 HL4.out.lt)
    have HO36 := keptI (HO3.out.below hb6)
    have HO46 := keptI (HO4.out.below hb6)
    have HW6 := keptI (HW4.out.below hb6)
    have HV6 := keptI hV6
    have HB6 := keptI (below_next HB4.out hb6)
    clear hb6 hV6
    go_wp2_with fail
    refine (eqIntS_sameE w6 _ _ Z HV6.out.at HW6.out.at).mono ?_
    rintro e w7 ⟨rfl, hb7⟩
    have hs7 := hb7.size
    have HF7 := keptI (HF6.out.below hb7 HF6.out.lt)
    have HL7 := keptI (HL6.out.below hb7 HL6.out.lt)
    have HO37 := keptI (HO36.out.below hb7)
    have HO47 := keptI (HO46.out.below hb7)
    have HW7 := keptI (HW6.out.below hb7)
    have HV7 := keptI (HV6.out.below hb7)
    have HB7 := keptI (below_next HB6.out hb7)
    clear hb7
    have HK : Hid (∀ wx, Below w7.heap.size w7 wx → (wx.cell? ⟨w.heap.size, 0, none⟩ = some (.slice ac n cc) ∧ wx.cell? ⟨w.heap.size, 1, none⟩ = some (.slice ap m cp) ∧ wx.cell? ⟨w.heap.size, 2, none⟩ = some (.int .i64 s) ∧ wx.cell? ⟨w.heap.size, 3, none⟩ = some (.int .i64 t)) ∧ (wx.cell? ⟨w4.heap.size, 0, none⟩ = some (.slice (some ⟨g3, 0, none⟩) n3 n3) ∧ wx.cell? ⟨w4.heap.size, 1, none⟩ = some (.slice (some ⟨g4, 0, none⟩) n4 n4) ∧ wx.cell? ⟨w4.heap.size, 2, none⟩ = some (.int .i64 s) ∧ wx.cell? ⟨w4.heap.size, 3, none⟩ = some (.int .i64 t))) := fun wx hb => ⟨(HL7.out.below hb HL7.out.lt).cells, (HF7.out.below hb HF7.out.lt).cells⟩
    have HD0 : Hid (Below w7.heap.size w7 w7.drew) := (Below.refl _ _).drew
    go_wp2_with fail
    go_region_held3 (fun wx => (wx.cell? ⟨w.heap.size, 0, none⟩ = some (.slice ac n cc) ∧ wx.cell? ⟨w.heap.size, 1, none⟩ = some (.slice ap m cp) ∧ wx.cell? ⟨w.heap.size, 2, none⟩ = some (.int .i64 s) ∧ wx.cell? ⟨w.heap.size, 3, none⟩ = some (.int .i64 t)) ∧ (wx.cell? ⟨w4.heap.size, 0, none⟩ = some (.slice (some ⟨g3, 0, none⟩) n3 n3) ∧ wx.cell? ⟨w4.heap.size, 1, none⟩ = some (.slice (some ⟨g4, 0, none⟩) n4 n4) ∧ wx.cell? ⟨w4.heap.size, 2, none⟩ = some (.int .i64 s) ∧ wx.cell? ⟨w4.heap.size, 3, none⟩ = some (.int .i64 t))) (first | assumption | exact HK.out _ HD0.out | exact HK.out _ (below_next HD0.out hb8) | exact HK.out _ HD9.out) (first | (go_at_call 38; (with_reducible refine (HT.out _ _ _ K1.out K2.out ((HC0.out.below HB7.out).below HD0.out) ((HP0.out.below HB7.out).below HD0.out)).mono ?_); rintro e w8 ⟨g7, n7, g8, n8, rfl, hO7, hO8, _, _, _, hb8⟩; have HO7 := keptI hO7.at; have HO8 := keptI hO8.at; have HO3x := keptI ((HO37.out.below HD0.out).below hb8); have HO4x := keptI ((HO47.out.below HD0.out).below hb8)) | (go_at_call 39; (with_reducible refine (HE.out _ _ _ _ _ HO3x.out.at HO4x.out.at HO7.out HO8.out).mono ?_); rintro e w9 ⟨rfl, hb9⟩; have HD9 := keptI (below_next (below_next HD0.out hb8) hb9)))
    all_goals
      have hD9 := HD9.out
      have hs9 := hD9.size
      have HB9 := keptI (below_next HB7.out hD9)
      have HL9 := keptI (HL7.out.below hD9 HL7.out.lt)
      have HF9 := keptI (HF7.out.below hD9 HF7.out.lt)
      have HO39 := keptI (HO37.out.below hD9)
      have HO49 := keptI (HO47.out.below hD9)
      have HW9 := keptI (HW7.out.below hD9)
      have HV9 := keptI (HV7.out.below hD9)
      clear hD9
      have kn3 : n3 ≤ 1048576 := by have := HN3.out; have := K1.out; omega
      have kn4 : n4 ≤ 1048576 := by have := HN4.out; have := K2.out; omega
      have dk : decide (1 + (n3 : Int) + (n4 : Int) < 0) = false := decide_eq_false (by omega)
      go_wp2_with fail
      refine (markDisplay_any w9 w3.heap.size w3.heap.size g3 n3 g4 n4 s t C P HO39.out HO49.out hne HN3 HN4 kn3 kn4).mono ?_
      rintro e w10 ⟨rfl, hT⟩
      have hL10 : BoxL w10 w.heap.size _ _ s t := (hT.2.2.2.2 w.heap.size HL9.out.lt (by omega) (by omega)).trans HL9.out
      have HL10 := keptI hL10
      have HW10 := keptI (HW9.out.of_blockE (fun b hb => hT.2.2.2.2 b (World.ownsRow.lt HW9.out b hb).2 (by have := hlt0.out b hb; omega) (by have := hlt0.out b hb; omega)))
      have HV10 := keptI (HV9.out.of_blockE (fun b hb => hT.2.2.2.2 b (World.ownsRow.lt HV9.out b hb).2 (by have := (World.ownsRow.lt HV9.out b hb).1; omega) (by have := (World.ownsRow.lt HV9.out b hb).1; omega)))
      have HB10 := keptI (TwoGr.below HB9.out hT (by omega) (by omega) HB9.out.size)
      have hs10 := hT.2.2.2.1
      clear hT hL10
      go_wp2_with fail
      refine (eqIntS_sameE w10 _ _ Z HV10.out.at HW10.out.at).mono ?_
      rintro e w11 ⟨rfl, hb11⟩
      have HL11 := keptI (HL10.out.below hb11 HL10.out.lt)
      have HW11 := keptI (HW10.out.below hb11)
      have HV11 := keptI (HV10.out.below hb11)
      have HB11 := keptI (below_next HB10.out hb11)
      clear hb11
      have hm6 : m6 ≤ 1000 := by have := HN6.out; have := HZ4.out; omega
      have dm : decide (1 + (m6 : Int) < 0) = false := decide_eq_false (by omega)
      go_wp2_with fail
      refine (markIntS_own w11 w5.heap.size a6 m6 m6 q6 Z HV11.out HN6 (by omega)).mono ?_
      rintro e w12 ⟨rfl, hVm, hbm⟩
      have HW12 := keptI (HW11.out.of_blockE (fun b hb => hbm.block b (by have := hlt0.out b hb; omega)))
      have HL12 := keptI (HL11.out.below hbm (by omega))
      have HB12 := keptI (HB11.out.trans (hbm.mono (show w.heap.size ≤ w5.heap.size from by omega)))
      have HVm := keptI hVm
      clear hbm hVm
      go_wp2_with fail
      refine (heldIntS_own w12 w5.heap.size _ m6 HVm.out (by omega)).mono ?_
      rintro e w' ⟨rfl, rfl⟩
      obtain ⟨c0, c1, c2, c3⟩ := HL12.out.cells
      go_wp2_with fail
      refine (HT.out w12 _ _ K1.out K2.out (HC0.out.below HB12.out) (HP0.out.below HB12.out)).mono ?_
      rintro e w13 ⟨g5, n5, g6, n6, rfl, hO5, hO6, _, _, _, hb13⟩
      have HO5 := keptI hO5.at
      have HO6 := keptI hO6.at
      have HW13 := keptI (HW12.out.below hb13)
      have HV13 := keptI (HVm.out.below hb13)
      have HB13 := keptI (below_next HB12.out hb13)
      clear hO5 hO6 hb13 c0 c1 c2 c3
      go_wp2_with fail
      refine (HI.out w13 _ _ _ HO5.out HO6.out).mono ?_
      rintro e w14 ⟨a9, m9, q9, rfl, hV9, hb14⟩
      have HV9x := keptI hV9.at
      have HW14 := keptI (HW13.out.below hb14)
      have HV14 := keptI (HV13.out.below hb14)
      have HB14 := keptI (below_next HB13.out hb14)
      clear hb14 hV9
      go_wp2_with fail
      refine (eqIntS_sameE w14 _ _ Z HV9x.out HW14.out.at).mono ?_
      rintro e w15 ⟨rfl, hb15⟩
      have HV15 := keptI (HV14.out.below hb15)
      have HB15 := keptI (below_next HB14.out hb15)
      clear hb15
      go_wp2_with fail
      refine (heldIntS_own w15 w5.heap.size _ m6 HV15.out (by omega)).mono ?_
      rintro e w' ⟨rfl, rfl⟩
      go_wp2
      go_ret
      exact ⟨rfl, HB15.out⟩
end Go.Proofs.Ytfgnckafpnobhaa
