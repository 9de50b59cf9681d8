
/- The exact law of ValidDisplay. -/
import Derived.Test.YtfgnckafpnobhaaDsd
import Derived.Deep.RegionHeld3
namespace Go.Proofs.Ytfgnckafpnobhaa
open Go.RowKit

set_option maxRecDepth 20000 in
set_option maxHeartbeats 4000000 in
theorem exValidDisplay_walk (c p : Value) (s t : Int) (C P : List Int) (w : World) (hC : IntsAt w c C) (hP : IntsAt w p P) (hs : -9223372036854775808 ≤ s ∧ s ≤ 9223372036854775807) (ht : -9223372036854775808 ≤ t ∧ t ≤ 9223372036854775807) :
    Calls Try.prog 10 #[.agg #[c, p, .int .i64 s, .int .i64 t]] w fun e w' => e = .returned (.bool true) ∧ Below w.heap.size w w' := by
  obtain ⟨ac, n, cc, rfl, hn, xc1, xc2, _⟩ := hC.partsI
  obtain ⟨ap, m, cp, rfl, hm, xp1, xp2, _⟩ := hP.partsI
  obtain ⟨b, hbv⟩ := boolOfD (VDp C P s t)
  have HV := Lib.hid hbv
  have hbb : (b != b) = false := by cases b <;> rfl
  clear hbv
  have HI : Hid (∀ w c p, IntsAt w c C → IntsAt w p P → Calls Try.prog 17 #[.agg #[c, p, .int .i64 s, .int .i64 t]] w fun e w' => e = .returned (.bool b) ∧ Below w.heap.size w w') := fun w c p h1 h2 => i_ValidDisplay w c p s t C P b h1 h2 hs ht HV
  have HS : Hid (∀ w c p, IntsAt w c C → IntsAt w p P → Calls Try.prog 18 #[.agg #[c, p, .int .i64 s, .int .i64 t]] w fun e w' => e = .returned (.bool b) ∧ Below w.heap.size w w') := fun w c p h1 h2 => s_ValidDisplay w c p s t C P b h1 h2 hs ht HV
  have HT : Hid (∀ w c p, C.length ≤ 1048576 → P.length ≤ 1048576 → IntsAt w c C → IntsAt w p P → Calls Try.prog 38 #[.agg #[c, p, .int .i64 s, .int .i64 t]] w fun e w' => DspMade C P s t w e w') := fun w c p h1 h2 h3 h4 => toDisplay_any w c p s t C P h3 h4 h1 h2
  have HE : Hid (∀ w c p c' p', IntsAt w c C → IntsAt w p P → IntsAt w c' C → IntsAt w p' P → Calls Try.prog 39 #[.agg #[c, p, .int .i64 s, .int .i64 t], .agg #[c', p', .int .i64 s, .int .i64 t]] w fun e w' => e = .returned (.bool true) ∧ Below w.heap.size w w') := fun w c p c' p' h1 h2 h3 h4 => eqDisplay_same w c p c' p' s t C P h1 h2 h3 h4
  obtain ⟨hB, hbx⟩ := lboxD w (.slice ac n cc) (.slice ap m cp) s t
  have HC := keptI (hC.below hbx)
  have HP := keptI (hP.below hbx)
  have HB := keptI hbx
  have HL := keptI hB
  clear hC hP hbx hB hn hm
  go_enter Try.func10, Try.ntmps10
  go_wp2_with fail
  generalize w.alloc (.cells #[.slice ac n cc, .slice ap m cp, .int .i64 s, .int .i64 t] 38) = wA at HB HC HP HL ⊢
  refine (szDisplay_any wA _ _ s t C P HC.out HP.out).mono ?_
  rintro e w1 ⟨⟨z, rfl, hz⟩, hb1⟩
  have HL1 := keptI (HL.out.below hb1 HL.out.lt)
  have HCa := keptI (HC.out.below hb1)
  have HPa := keptI (HP.out.below hb1)
  have HB1 := keptI (below_next HB.out hb1)
  clear hb1 HL HC HP HB
  rcases hz with rfl | ⟨z0, z1, z2⟩
  · go_wp2
    go_ret
    exact ⟨rfl, HB1.out⟩
  · have d1 : decide (z < 0) = false := decide_eq_false (by omega)
    have K1 := Lib.hid z1
    have K2 := Lib.hid z2
    clear z1 z2
    obtain ⟨c0, c1, c2, c3⟩ := HL1.out.cells
    go_wp2_with fail
    refine (HT.out w1 _ _ K1.out K2.out HCa.out HPa.out).mono ?_
    rintro e w2 ⟨g1, n1, g2, n2, rfl, hO1, hO2, _, _, _, hb2⟩
    have HO1 := keptI hO1.at
    have HO2 := keptI hO2.at
    have HL2 := keptI (HL1.out.below hb2 HL1.out.lt)
    have HCb := keptI (HCa.out.below hb2)
    have HPb := keptI (HPa.out.below hb2)
    have HB2 := keptI (below_next HB1.out hb2)
    clear hO1 hO2 hb2 c0 c1 c2 c3
    go_wp2_with fail
    refine (HS.out w2 _ _ HO1.out HO2.out).mono ?_
    rintro e w3 ⟨rfl, hb3⟩
    have HL3 := keptI (HL2.out.below hb3 HL2.out.lt)
    have HCc := keptI (HCb.out.below hb3)
    have HPc := keptI (HPb.out.below hb3)
    have HB3 := keptI (below_next HB2.out hb3)
    clear hb3
    obtain ⟨c0, c1, c2, c3⟩ := HL3.out.cells
    go_wp2_with fail
    refine (HT.out w3 _ _ K1.out K2.out HCc.out HPc.out).mono ?_
    rintro e w4 ⟨g3, n3, g4, n4, rfl, hO3, hO4, _, _, _, hb4⟩
    obtain ⟨hD4, hal⟩ := dbox w4 (.slice (some ⟨g3, 0, none⟩) n3 n3) (.slice (some ⟨g4, 0, none⟩) n4 n4) s t
    have HO3 := keptI (hO3.at.below hal)
    have HO4 := keptI (hO4.at.below hal)
    have HF4 := keptI hD4
    have HL4 := keptI ((HL3.out.below hb4 HL3.out.lt).below hal (HL3.out.below hb4 HL3.out.lt).lt)
    have HCd := keptI ((HCc.out.below hb4).below hal)
    have HPd := keptI ((HPc.out.below hb4).below hal)
    have HB4 := keptI (below_next (below_next HB3.out hb4) hal)
    clear hO3 hO4 hb4 hal hD4 c0 c1 c2 c3
    go_wp2_with fail
    generalize w4.alloc (.cells #[.slice (some ⟨g3, 0, none⟩) n3 n3, .slice (some ⟨g4, 0, none⟩) n4 n4, .int .i64 s, .int .i64 t] 25) = w5 at HO3 HO4 HF4 HL4 HCd HPd HB4 ⊢
    refine (HI.out w5 _ _ HO3.out HO4.out).mono ?_
    rintro e w6 ⟨rfl, hb6⟩
    have HF6 := keptI (HF4.out.below hb6 HF4.out.lt)
    have HL6 := keptI (HL4.out.below hb6 HL4.out.lt)
    have HO3b := keptI (HO3.out.below hb6)
    have HO4b := keptI (HO4.out.below hb6)
    have HCe := keptI (HCd.out.below hb6)
    have HPe := keptI (HPd.out.below hb6)
    have HB6 := keptI (below_next HB4.out hb6)
    clear hb6
    have HK : Hid (∀ wx, Below w6.heap.size w6 wx → (wx.cell? ⟨w.heap.size, 0, none⟩ = some (.slice ac n cc) ∧ wx.cell? ⟨w.heap.size, 1, none⟩ = some (.slice ap m cp) ∧ wx.cell? ⟨w.heap.size, 2, none⟩ = some (.int .i64 s) ∧ wx.cell? ⟨w.heap.size, 3, none⟩ = some (.int .i64 t)) ∧ (wx.cell? ⟨w4.heap.size, 0, none⟩ = some (.slice (some ⟨g3, 0, none⟩) n3 n3) ∧ wx.cell? ⟨w4.heap.size, 1, none⟩ = some (.slice (some ⟨g4, 0, none⟩) n4 n4) ∧ wx.cell? ⟨w4.heap.size, 2, none⟩ = some (.int .i64 s) ∧ wx.cell? ⟨w4.heap.size, 3, none⟩ = some (.int .i64 t))) := fun wx hb => ⟨(HL6.out.below hb HL6.out.lt).cells, (HF6.out.below hb HF6.out.lt).cells⟩
    have HD0 : Hid (Below w6.heap.size w6 w6.drew) := (Below.refl _ _).drew
    go_wp2_with fail
    go_region_held3 (fun wx => (wx.cell? ⟨w.heap.size, 0, none⟩ = some (.slice ac n cc) ∧ wx.cell? ⟨w.heap.size, 1, none⟩ = some (.slice ap m cp) ∧ wx.cell? ⟨w.heap.size, 2, none⟩ = some (.int .i64 s) ∧ wx.cell? ⟨w.heap.size, 3, none⟩ = some (.int .i64 t)) ∧ (wx.cell? ⟨w4.heap.size, 0, none⟩ = some (.slice (some ⟨g3, 0, none⟩) n3 n3) ∧ wx.cell? ⟨w4.heap.size, 1, none⟩ = some (.slice (some ⟨g4, 0, none⟩) n4 n4) ∧ wx.cell? ⟨w4.heap.size, 2, none⟩ = some (.int .i64 s) ∧ wx.cell? ⟨w4.heap.size, 3, none⟩ = some (.int .i64 t))) (first | assumption | exact HK.out _ HD0.out | exact HK.out _ (below_next HD0.out hb7) | exact HK.out _ HD8.out) (first | (go_at_call 38; (with_reducible refine (HT.out _ _ _ K1.out K2.out (HCe.out.below HD0.out) (HPe.out.below HD0.out)).mono ?_); rintro e w7 ⟨g7, n7, g8, n8, rfl, hO7, hO8, _, _, _, hb7⟩; have HO7 := keptI hO7.at; have HO8 := keptI hO8.at; have HO37 := keptI ((HO3b.out.below HD0.out).below hb7); have HO47 := keptI ((HO4b.out.below HD0.out).below hb7); have HB7 := keptI (below_next HB6.out (below_next HD0.out hb7))) | (go_at_call 39; (with_reducible refine (HE.out _ _ _ _ _ HO37.out HO47.out HO7.out HO8.out).mono ?_); rintro e w8 ⟨rfl, hb8⟩; have HB8 := keptI (below_next HB7.out hb8); have HD8 := keptI (below_next (below_next HD0.out hb7) hb8)))
    all_goals
      go_wp2
      go_ret
      exact ⟨rfl, HB8.out⟩
end Go.Proofs.Ytfgnckafpnobhaa
