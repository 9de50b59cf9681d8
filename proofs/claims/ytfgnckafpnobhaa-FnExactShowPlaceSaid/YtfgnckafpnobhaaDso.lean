
/- The exact law of ShowPlace. -/
import Derived.Test.YtfgnckafpnobhaaDsn
import Derived.Deep.RegionHeld3
namespace Go.Proofs.Ytfgnckafpnobhaa
open Go.RowKit

theorem shIs_len {C P : List Int} {s t k : Int} {C' P' : List Int} {s' t' : Int} {ok : Bool} (h : ShIs C P s t k ⟨C', P', s', t', ok⟩) : C'.length ≤ C.length ∧ P'.length ≤ P.length := by
  rcases h with ⟨_, ⟨_, h⟩ | ⟨_, h⟩⟩ | ⟨_, h⟩ <;> (injection h with h1 h2 _ _ _; subst h1 h2; simp)
set_option maxRecDepth 20000 in
set_option maxHeartbeats 8000000 in
theorem exShowPlace_walk (c p : Value) (s t : Int) (C P : List Int) (k : Int) (w : World) (hC : IntsAt w c C) (hP : IntsAt w p P) (hs : -9223372036854775808 ≤ s ∧ s ≤ 9223372036854775807) (ht : -9223372036854775808 ≤ t ∧ t ≤ 9223372036854775807) (_hk : -9223372036854775808 ≤ k ∧ k ≤ 9223372036854775807) :
    Calls Try.prog 14 #[.agg #[c, p, .int .i64 s, .int .i64 t], .int .i64 k] w fun e w' => e = .returned (.bool true) ∧ Below w.heap.size w w' := by
  obtain ⟨ac, n, cc, rfl, hn, xc1, xc2, _⟩ := hC.partsI
  obtain ⟨ap, m, cp, rfl, hm, xp1, xp2, _⟩ := hP.partsI
  obtain ⟨⟨C', P', s', t', ok⟩, hrv⟩ := shIs_any C P s t k
  have HV := Lib.hid hrv
  have HLN : Hid (C'.length ≤ C.length ∧ P'.length ≤ P.length) := shIs_len hrv
  have hbb : (ok != ok) = false := by cases ok <;> rfl
  have HI : Hid (∀ w g n h m, IntsAt w (.slice (some ⟨g, 0, none⟩) n n) C → IntsAt w (.slice (some ⟨h, 0, none⟩) m m) P → Calls Try.prog 32 #[.agg #[.slice (some ⟨g, 0, none⟩) n n, .slice (some ⟨h, 0, none⟩) m m, .int .i64 s, .int .i64 t], .int .i64 k] w fun e w' => DspAns C' P' s' t' ok w e w') := fun w g n h m h1 h2 => i_ShowPlace w g n h m s t k C P _ h1 h2 hs ht HV
  have HS : Hid (∀ w g n h m, IntsAt w (.slice (some ⟨g, 0, none⟩) n n) C → IntsAt w (.slice (some ⟨h, 0, none⟩) m m) P → Calls Try.prog 33 #[.agg #[.slice (some ⟨g, 0, none⟩) n n, .slice (some ⟨h, 0, none⟩) m m, .int .i64 s, .int .i64 t], .int .i64 k] w fun e w' => DspAns C' P' s' t' ok w e w') := fun w g n h m h1 h2 => s_ShowPlace w g n h m s t k C P _ h1 h2 hs ht HV
  have HT : Hid (∀ w c p, C.length ≤ 1048576 → P.length ≤ 1048576 → IntsAt w c C → IntsAt w p P → Calls Try.prog 38 #[.agg #[c, p, .int .i64 s, .int .i64 t]] w fun e w' => DspMade C P s t w e w') := fun w c p h1 h2 h3 h4 => toDisplay_any w c p s t C P h3 h4 h1 h2
  have HE : Hid (∀ w c p c' p', IntsAt w c C → IntsAt w p P → IntsAt w c' C → IntsAt w p' P → Calls Try.prog 39 #[.agg #[c, p, .int .i64 s, .int .i64 t], .agg #[c', p', .int .i64 s, .int .i64 t]] w fun e w' => e = .returned (.bool true) ∧ Below w.heap.size w w') := fun w c p c' p' h1 h2 h3 h4 => eqDisplay_same w c p c' p' s t C P h1 h2 h3 h4
  obtain ⟨hB, hbx⟩ := lboxD w (.slice ac n cc) (.slice ap m cp) s t
  have HC0 := keptI hC
  have HP0 := keptI hP
  have HC := keptI (hC.below hbx)
  have HP := keptI (hP.below hbx)
  have HB := keptI hbx
  have HL := keptI hB
  clear hC hP hbx hB hn hm hrv
  go_enter Try.func14, Try.ntmps14
  go_wp2_with fail
  generalize w.alloc (.cells #[.slice ac n cc, .slice ap m cp, .int .i64 s, .int .i64 t] 38) = wA at HB HC HP HL ⊢
  refine (szDisplay_any wA _ _ s t C P HC.out HP.out).mono ?_
  rintro e w1 ⟨⟨z, rfl, hz⟩, hb1⟩
  have HL1 := keptI (HL.out.below hb1 HL.out.lt)
  have HB1 := keptI (below_next HB.out hb1)
  clear hb1 HL HC HP HB
  rcases hz with rfl | ⟨z0, z1, z2⟩
  · go_wp2
    go_ret
    exact ⟨rfl, HB1.out⟩
  · have d1 : decide (z < 0) = false := decide_eq_false (by omega)
    have K1 := Lib.hid z1
    have K2 := Lib.hid z2
    clear z1 z2
    obtain ⟨c0, c1, c2, c3⟩ := HL1.out.cells
    go_wp2_with fail
    refine (HT.out w1 _ _ K1.out K2.out (HC0.out.below HB1.out) (HP0.out.below HB1.out)).mono ?_
    rintro e w2 ⟨g1, n1, g2, n2, rfl, hO1, hO2, _, _, _, hb2⟩
    have HO1 := keptI hO1.at
    have HO2 := keptI hO2.at
    have HL2 := keptI (HL1.out.below hb2 HL1.out.lt)
    have HB2 := keptI (below_next HB1.out hb2)
    clear hO1 hO2 hb2 c0 c1 c2 c3
    go_wp2_with fail
    refine (HS.out w2 _ _ _ _ HO1.out HO2.out).mono ?_
    rintro e w3 ⟨S0, a0, n0, q0, b0, m0, r0, rfl, hW0, hb3⟩
    have hlt0 : Hid ((∀ k, (Value.slice a0 n0 q0).ownBlock = some k → k < w3.heap.size) ∧ ∀ k, (Value.slice b0 m0 r0).ownBlock = some k → k < w3.heap.size) := ⟨fun k hk => (World.ownsRow.lt hW0.1 k hk).2, fun k hk => (World.ownsRow.lt hW0.2.2.1 k hk).2⟩
    obtain ⟨hD6, hal⟩ := dbox w3 (.slice a0 n0 q0) (.slice b0 m0 r0) s' t'
    have hL3lt := (HL2.out.below hb3 HL2.out.lt).lt
    have HL4 := keptI ((HL2.out.below hb3 HL2.out.lt).below hal hL3lt)
    have HB4 := keptI (below_next (below_next HB2.out hb3) hal)
    have HW4 := keptI (And.intro (hW0.1.below hal) (hW0.2.2.1.below hal))
    have HA4 := keptI hD6
    have hs3 := (below_next HB2.out hb3).size
    have hs34 := hal.size
    clear hb3 hW0 hD6 hal
    go_upto_region 6 with (fail)
    generalize w3.alloc (.cells #[.slice a0 n0 q0, .slice b0 m0 r0, .int .i64 s', .int .i64 t'] 25) = w4 at HL4 HB4 HW4 HA4 hs34 ⊢
    have hA4lt := HA4.out.lt
    obtain ⟨c0, c1, c2, c3⟩ := HL4.out.cells
    go_wp2_with fail
    refine (HT.out w4 _ _ K1.out K2.out (HC0.out.below HB4.out) (HP0.out.below HB4.out)).mono ?_
    rintro e w5 ⟨g3, n3, g4, n4, rfl, hO3, hO4, hn3, hn4, hne, hb5⟩
    obtain ⟨hD8, hal⟩ := dbox w5 (.slice (some ⟨g3, 0, none⟩) n3 n3) (.slice (some ⟨g4, 0, none⟩) n4 n4) s t
    have hg3 := hO3.lt g3 rfl
    have hg4 := hO4.lt g4 rfl
    have HN3 := Lib.hid hn3
    have HN4 := Lib.hid hn4
    have hs5 := hb5.size
    have hs56 := hal.size
    have HO3 := keptI (hO3.below hal)
    have HO4 := keptI (hO4.below hal)
    have HF6 := keptI hD8
    have hb56 := below_next hb5 hal
    have HL6 := keptI (HL4.out.below hb56 HL4.out.lt)
    have HA6 := keptI (HA4.out.below hb56 HA4.out.lt)
    have HW6 := keptI (And.intro (HW4.out.1.below hb56) (HW4.out.2.below hb56))
    have HB6 := keptI (below_next HB4.out hb56)
    clear hO3 hO4 hb5 hal hD8 hb56 c0 c1 c2 c3 hn3 hn4
    go_upto_region 7 with (fail)
    generalize w5.alloc (.cells #[.slice (some ⟨g3, 0, none⟩) n3 n3, .slice (some ⟨g4, 0, none⟩) n4 n4, .int .i64 s, .int .i64 t] 25) = w6 at HO3 HO4 HF6 HL6 HA6 HW6 HB6 hs56 ⊢
    have hF6lt := HF6.out.lt
    obtain ⟨c0, c1, c2, c3⟩ := HF6.out.cells
    go_wp2_with fail
    refine (HI.out w6 _ _ _ _ HO3.out.at HO4.out.at).mono ?_
    rintro e w7 ⟨S7, a7, n7, q7, b7, m7, r7, rfl, hV7, hb7⟩
    have HN7 : Hid (C'.length = n7) := by obtain ⟨_, _, e, _⟩ := hV7.1.at; injection e with _ e _; exact e.symm
    have HM7 : Hid (P'.length = m7) := by obtain ⟨_, _, e, _⟩ := hV7.2.2.1.at; injection e with _ e _; exact e.symm
    obtain ⟨hD9, hal⟩ := dbox w7 (.slice a7 n7 q7) (.slice b7 m7 r7) s' t'
    have hlt7 : Hid ((∀ k, (Value.slice a7 n7 q7).ownBlock = some k → k < w7.heap.size) ∧ ∀ k, (Value.slice b7 m7 r7).ownBlock = some k → k < w7.heap.size) := ⟨fun k hk => (World.ownsRow.lt hV7.1 k hk).2, fun k hk => (World.ownsRow.lt hV7.2.2.1 k hk).2⟩
    have hs67 := hb7.size
    have hs78 := hal.size
    have hb78 := below_next hb7 hal
    have HL8 := keptI (HL6.out.below hb78 HL6.out.lt)
    have HA8 := keptI (HA6.out.below hb78 HA6.out.lt)
    have HF8 := keptI (HF6.out.below hb78 HF6.out.lt)
    have HG8 := keptI hD9
    have HO38 := keptI (HO3.out.below hb78)
    have HO48 := keptI (HO4.out.below hb78)
    have HW8 := keptI (And.intro (HW6.out.1.below hb78) (HW6.out.2.below hb78))
    have HV8 := keptI (hV7.below hal)
    have HB8 := keptI (below_next HB6.out hb78)
    clear hb7 hV7 hD9 hal hb78 c0 c1 c2 c3
    go_upto_region 8 with (fail)
    generalize w7.alloc (.cells #[.slice a7 n7 q7, .slice b7 m7 r7, .int .i64 s', .int .i64 t'] 25) = w8 at HL8 HA8 HF8 HG8 HO38 HO48 HW8 HV8 HB8 hs78 ⊢
    have hG8lt := HG8.out.lt
    obtain ⟨y0, y1, y2, y3⟩ := HG8.out.cells
    obtain ⟨x0, x1, x2, x3⟩ := HA8.out.cells
    go_wp2_with fail
    refine (eqDisplay_same w8 _ _ _ _ s' t' C' P' HV8.out.1.at HV8.out.2.2.1.at HW8.out.1.at HW8.out.2.at).mono ?_
    rintro e w9 ⟨rfl, hb9⟩
    have hs89 := hb9.size
    have HL9 := keptI (HL8.out.below hb9 HL8.out.lt)
    have HA9 := keptI (HA8.out.below hb9 HA8.out.lt)
    have HF9 := keptI (HF8.out.below hb9 HF8.out.lt)
    have HG9 := keptI (HG8.out.below hb9 HG8.out.lt)
    have HO39 := keptI (HO38.out.below hb9)
    have HO49 := keptI (HO48.out.below hb9)
    have HW9 := keptI (And.intro (HW8.out.1.below hb9) (HW8.out.2.below hb9))
    have HV9 := keptI (HV8.out.below hb9)
    have HB9 := keptI (below_next HB8.out hb9)
    clear hb9 x0 x1 x2 x3 y0 y1 y2 y3
    have HK : Hid (∀ wx, Below w9.heap.size w9 wx → (wx.cell? ⟨w.heap.size, 0, none⟩ = some (.slice ac n cc) ∧ wx.cell? ⟨w.heap.size, 1, none⟩ = some (.slice ap m cp) ∧ wx.cell? ⟨w.heap.size, 2, none⟩ = some (.int .i64 s) ∧ wx.cell? ⟨w.heap.size, 3, none⟩ = some (.int .i64 t)) ∧ (wx.cell? ⟨w5.heap.size, 0, none⟩ = some (.slice (some ⟨g3, 0, none⟩) n3 n3) ∧ wx.cell? ⟨w5.heap.size, 1, none⟩ = some (.slice (some ⟨g4, 0, none⟩) n4 n4) ∧ wx.cell? ⟨w5.heap.size, 2, none⟩ = some (.int .i64 s) ∧ wx.cell? ⟨w5.heap.size, 3, none⟩ = some (.int .i64 t))) := fun wx hb => ⟨(HL9.out.below hb HL9.out.lt).cells, (HF9.out.below hb HF9.out.lt).cells⟩
    have HD0 : Hid (Below w9.heap.size w9 w9.drew) := (Below.refl _ _).drew
    go_wp2_with fail
    go_region_held3 (fun wx => (wx.cell? ⟨w.heap.size, 0, none⟩ = some (.slice ac n cc) ∧ wx.cell? ⟨w.heap.size, 1, none⟩ = some (.slice ap m cp) ∧ wx.cell? ⟨w.heap.size, 2, none⟩ = some (.int .i64 s) ∧ wx.cell? ⟨w.heap.size, 3, none⟩ = some (.int .i64 t)) ∧ (wx.cell? ⟨w5.heap.size, 0, none⟩ = some (.slice (some ⟨g3, 0, none⟩) n3 n3) ∧ wx.cell? ⟨w5.heap.size, 1, none⟩ = some (.slice (some ⟨g4, 0, none⟩) n4 n4) ∧ wx.cell? ⟨w5.heap.size, 2, none⟩ = some (.int .i64 s) ∧ wx.cell? ⟨w5.heap.size, 3, none⟩ = some (.int .i64 t))) (first | assumption | exact HK.out _ HD0.out | exact HK.out _ (below_next HD0.out hb10) | exact HK.out _ HD11.out) (first | (go_at_call 38; (with_reducible refine (HT.out _ _ _ K1.out K2.out ((HC0.out.below HB9.out).below HD0.out) ((HP0.out.below HB9.out).below HD0.out)).mono ?_); rintro e w10 ⟨g7, k7, g8, k8, rfl, hO7, hO8, _, _, _, hb10⟩; have HO7 := keptI hO7.at; have HO8 := keptI hO8.at; have HO3x := keptI ((HO39.out.below HD0.out).below hb10); have HO4x := keptI ((HO49.out.below HD0.out).below hb10)) | (go_at_call 39; (with_reducible refine (HE.out _ _ _ _ _ HO3x.out.at HO4x.out.at HO7.out HO8.out).mono ?_); rintro e w11 ⟨rfl, hb11⟩; have HD11 := keptI (below_next (below_next HD0.out hb10) hb11)))
    all_goals
      have hD := HD11.out
      have hs911 := hD.size
      have HB11 := keptI (below_next HB9.out hD)
      have HL11 := keptI (HL9.out.below hD HL9.out.lt)
      have HA11 := keptI (HA9.out.below hD HA9.out.lt)
      have HF11 := keptI (HF9.out.below hD HF9.out.lt)
      have HG11 := keptI (HG9.out.below hD HG9.out.lt)
      have HO311 := keptI (HO39.out.below hD)
      have HO411 := keptI (HO49.out.below hD)
      have HW11 := keptI (And.intro (HW9.out.1.below hD) (HW9.out.2.below hD))
      have HV11 := keptI (HV9.out.below hD)
      clear hD
      have kn3 : n3 ≤ 1048576 := by have := HN3.out; have := K1.out; omega
      have kn4 : n4 ≤ 1048576 := by have := HN4.out; have := K2.out; omega
      have kn7 : n7 ≤ 1048576 := by have := HN7.out; have := HLN.out.1; have := K1.out; omega
      have km7 : m7 ≤ 1048576 := by have := HM7.out; have := HLN.out.2; have := K2.out; omega
      have dk : decide (1 + (n3 : Int) + (n4 : Int) < 0) = false := decide_eq_false (by omega)
      have dm : decide (1 + (n7 : Int) + (m7 : Int) < 0) = false := decide_eq_false (by omega)
      go_wp2_with fail
      refine (markDisplay_any w11 w4.heap.size w4.heap.size g3 n3 g4 n4 s t C P HO311.out HO411.out hne HN3 HN4 kn3 kn4).mono ?_
      rintro e w12 ⟨rfl, hT⟩
      have HL12 : Hid (BoxL w12 w.heap.size _ _ s t) := (hT.2.2.2.2 w.heap.size HL11.out.lt (by omega) (by omega)).trans HL11.out
      have HA12 : Hid (BoxD w12 w3.heap.size _ _ s' t') := (hT.2.2.2.2 w3.heap.size HA11.out.lt (by omega) (by omega)).trans HA11.out
      have HG12 : Hid (BoxD w12 w7.heap.size _ _ s' t') := (hT.2.2.2.2 w7.heap.size HG11.out.lt (by omega) (by omega)).trans HG11.out
      have HW12 := keptI (And.intro (HW11.out.1.of_blockE (fun b hb => hT.2.2.2.2 b (World.ownsRow.lt HW11.out.1 b hb).2 (by have := hlt0.out.1 b hb; omega) (by have := hlt0.out.1 b hb; omega))) (HW11.out.2.of_blockE (fun b hb => hT.2.2.2.2 b (World.ownsRow.lt HW11.out.2 b hb).2 (by have := hlt0.out.2 b hb; omega) (by have := hlt0.out.2 b hb; omega))))
      have HV12 := keptI (HV11.out.of_block hT.2.2.2.1 (fun b hb hb2 => hT.2.2.2.2 b hb2 (by omega) (by omega)))
      have HB12 := keptI (TwoGr.below HB11.out hT (by omega) (by omega) HB11.out.size)
      have hs12 := hT.2.2.2.1
      clear hT
      obtain ⟨y0, y1, y2, y3⟩ := HG12.out.cells
      obtain ⟨x0, x1, x2, x3⟩ := HA12.out.cells
      go_wp2_with fail
      refine (eqDisplay_same w12 _ _ _ _ s' t' C' P' HV12.out.1.at HV12.out.2.2.1.at HW12.out.1.at HW12.out.2.at).mono ?_
      rintro e w13 ⟨rfl, hb13⟩
      have hs13 := hb13.size
      have HL13 := keptI (HL12.out.below hb13 HL12.out.lt)
      have HA13 := keptI (HA12.out.below hb13 HA12.out.lt)
      have HG13 := keptI (HG12.out.below hb13 HG12.out.lt)
      have HW13 := keptI (And.intro (HW12.out.1.below hb13) (HW12.out.2.below hb13))
      have HV13 := keptI (HV12.out.below hb13)
      have HB13 := keptI (below_next HB12.out hb13)
      clear hb13 x0 x1 x2 x3 y0 y1 y2 y3
      obtain ⟨y0, y1, y2, y3⟩ := HG13.out.cells
      go_wp2_with fail
      refine (markDisplay_own w13 w6.heap.size S7 a7 n7 q7 b7 m7 r7 C' P' s' t' HV13.out HN7 HM7 kn7 km7).mono ?_
      rintro e w14 ⟨rfl, hVm, hbm, hsame⟩
      have HG14 : Hid (BoxD w14 w7.heap.size _ _ s' t') := (hsame w7.heap.size HG13.out.lt (fun e => by have := hlt7.out.1 _ e; omega) (fun e => by have := hlt7.out.2 _ e; omega)).trans HG13.out
      have HW14 := keptI (And.intro (HW13.out.1.of_blockE (fun b hb => hbm.block b (by have := hlt0.out.1 b hb; omega))) (HW13.out.2.of_blockE (fun b hb => hbm.block b (by have := hlt0.out.2 b hb; omega))))
      have HL14 := keptI (HL13.out.below hbm (by omega))
      have HA14 := keptI (HA13.out.below hbm (by omega))
      have HB14 := keptI (HB13.out.trans (hbm.mono (show w.heap.size ≤ w6.heap.size from by omega)))
      have HVm := keptI hVm
      have hs14 := hbm.size
      clear hbm hVm hsame y0 y1 y2 y3
      obtain ⟨y0, y1, y2, y3⟩ := HG14.out.cells
      go_wp2_with fail
      refine (heldDisplay_own w14 w6.heap.size S7 a7 n7 q7 b7 m7 r7 s' t' HVm.out kn7 km7).mono ?_
      rintro e w15 ⟨rfl, hb15⟩
      have HL15 := keptI (HL14.out.below hb15 HL14.out.lt)
      have HA15 := keptI (HA14.out.below hb15 HA14.out.lt)
      have HG15 := keptI (HG14.out.below hb15 HG14.out.lt)
      have HW15 := keptI (And.intro (HW14.out.1.below hb15) (HW14.out.2.below hb15))
      have HV15 := keptI (HVm.out.below hb15)
      have HB15 := keptI (below_next HB14.out hb15)
      clear hb15 y0 y1 y2 y3
      obtain ⟨c0, c1, c2, c3⟩ := HL15.out.cells
      go_wp2_with fail
      refine (HT.out w15 _ _ K1.out K2.out (HC0.out.below HB15.out) (HP0.out.below HB15.out)).mono ?_
      rintro e w16 ⟨g5, n5, g6, n6, rfl, hO5, hO6, _, _, _, hb16⟩
      have HO5 := keptI hO5.at
      have HO6 := keptI hO6.at
      have HA16 := keptI (HA15.out.below hb16 HA15.out.lt)
      have HG16 := keptI (HG15.out.below hb16 HG15.out.lt)
      have HW16 := keptI (And.intro (HW15.out.1.below hb16) (HW15.out.2.below hb16))
      have HV16 := keptI (HV15.out.below hb16)
      have HB16 := keptI (below_next HB15.out hb16)
      clear hO5 hO6 hb16 c0 c1 c2 c3
      go_wp2_with fail
      refine (HI.out w16 _ _ _ _ HO5.out HO6.out).mono ?_
      rintro e w17 ⟨S9, a9, n9, q9, b9, m9, r9, rfl, hV9, hb17⟩
      obtain ⟨hDh, hal⟩ := dbox w17 (.slice a9 n9 q9) (.slice b9 m9 r9) s' t'
      have hb18 := below_next hb17 hal
      have HH18 := keptI hDh
      have HU18 := keptI (hV9.below hal)
      have HA18 := keptI (HA16.out.below hb18 HA16.out.lt)
      have HG18 := keptI (HG16.out.below hb18 HG16.out.lt)
      have HW18 := keptI (And.intro (HW16.out.1.below hb18) (HW16.out.2.below hb18))
      have HV18 := keptI (HV16.out.below hb18)
      have HB18 := keptI (below_next HB16.out hb18)
      clear hb17 hV9 hDh hal hb18
      go_upto_region 25 with (fail)
      generalize w17.alloc (.cells #[.slice a9 n9 q9, .slice b9 m9 r9, .int .i64 s', .int .i64 t'] 25) = w18 at HH18 HU18 HA18 HG18 HW18 HV18 HB18 ⊢
      obtain ⟨y0, y1, y2, y3⟩ := HH18.out.cells
      obtain ⟨x0, x1, x2, x3⟩ := HA18.out.cells
      go_wp2_with fail
      refine (eqDisplay_same w18 _ _ _ _ s' t' C' P' HU18.out.1.at HU18.out.2.2.1.at HW18.out.1.at HW18.out.2.at).mono ?_
      rintro e w19 ⟨rfl, hb19⟩
      have HG19 := keptI (HG18.out.below hb19 HG18.out.lt)
      have HV19 := keptI (HV18.out.below hb19)
      have HB19 := keptI (below_next HB18.out hb19)
      clear hb19 x0 x1 x2 x3 y0 y1 y2 y3
      obtain ⟨y0, y1, y2, y3⟩ := HG19.out.cells
      go_wp2_with fail
      refine (heldDisplay_own w19 w6.heap.size S7 a7 n7 q7 b7 m7 r7 s' t' HV19.out kn7 km7).mono ?_
      rintro e w20 ⟨rfl, hb20⟩
      have HB20 := keptI (below_next HB19.out hb20)
      clear hb20 y0 y1 y2 y3
      go_wp2
      go_ret
      exact ⟨rfl, HB20.out⟩
end Go.Proofs.Ytfgnckafpnobhaa
