
/- RouteOf of both sides, its exact law. -/
import Derived.Test.YtfgnckafpnobhaaDsd
import Derived.Deep.RegionHeld3
namespace Go.Proofs.Ytfgnckafpnobhaa
open Go.RowKit

/-- the place that the cell k of a display shows -/
def RoIs (C P : List Int) (s t k r : Int) : Prop :=
  ((VDp C P s t ∧ Wn k 0 (t - 1) ∧ s + k < (C.length : Int)) ∧ r = P.getD (s + k).toNat 0) ∨ (¬ (VDp C P s t ∧ Wn k 0 (t - 1) ∧ s + k < (C.length : Int)) ∧ r = -1)
theorem roIs_any (C P : List Int) (s t k : Int) : ∃ r, RoIs C P s t k r := by
  by_cases h : VDp C P s t ∧ Wn k 0 (t - 1) ∧ s + k < (C.length : Int)
  · exact ⟨_, .inl ⟨h, rfl⟩⟩
  · exact ⟨_, .inr ⟨h, rfl⟩⟩
set_option maxHeartbeats 2000000 in
theorem i_RouteOf (w : World) (c p : Value) (s t k r : Int) (C P : List Int) (hC : IntsAt w c C) (hP : IntsAt w p P) (hs : -9223372036854775808 ≤ s ∧ s ≤ 9223372036854775807) (ht : -9223372036854775808 ≤ t ∧ t ≤ 9223372036854775807) (hr : Hid (RoIs C P s t k r)) :
    Calls Try.prog 34 #[dspV c p s t, .int .i64 k] w fun e w' => e = .returned (.int .i64 r) ∧ Below w.heap.size w w' := by
  obtain ⟨ac, n, cc, rfl, hn, xc1, xc2, _⟩ := hC.partsI
  obtain ⟨ap, m, cp, rfl, hm, xp1, xp2, xp3⟩ := hP.partsI
  have HN := Lib.hid hn
  have HP3 := keptI xp3
  obtain ⟨hB, hbx⟩ := dbox w (.slice ac n cc) (.slice ap m cp) s t
  have HC := keptI (hC.below hbx)
  have HP := keptI (hP.below hbx)
  have HBX := keptI hbx
  clear hC hP hbx hn xp3
  by_cases hV : VDp C P s t
  rotate_left
  · have HV := kepD hV
    have HR : Hid (r = -1) := by rcases hr.out with h | h; exact absurd h.1.1 hV; exact h.2
    clear hV
    go_enter Try.func34, Try.ntmps34
    go_wp2_with fail
    generalize w.alloc (.cells #[.slice ac n cc, .slice ap m cp, .int .i64 s, .int .i64 t] 25) = wA at hB HC HP HBX ⊢
    obtain ⟨c0, c1, c2, c3⟩ := hB.cells
    refine (i_ValidDisplay _ _ _ s t C P false HC.out HP.out hs ht ⟨fun e => (by cases e), fun h => absurd h HV.out⟩).mono ?_
    rintro e w2 ⟨rfl, hb2⟩
    have HBX2 := keptI (below_next HBX.out hb2)
    clear hb2 c0 c1 c2 c3
    go_wp2
    go_ret
    exact ⟨by rw [HR.out]; rfl, HBX2.out⟩
  · have HV := kepD hV
    obtain ⟨v1, v2, v3, v4⟩ := id hV
    have hst := hV.start
    have hl200 : C.length ≤ 200 := v1.1
    have hmn : m = n := by have := v2.1; rw [hm, HN.out] at this; exact this
    subst hmn
    rw [HN.out] at hst hl200
    clear v1 v2 v4 hV hm
    have u1 : IntKind.i64.wrap (t - 1) = t - 1 := IntWalk.i64_in _ (by omega)
    by_cases hK : Wn k 0 (t - 1)
    rotate_left
    · have HK := kepD hK
      have HR : Hid (r = -1) := by rcases hr.out with h | h; exact absurd h.1.2.1 hK; exact h.2
      clear hK hst
      go_enter Try.func34, Try.ntmps34
      go_wp2_with fail
      generalize w.alloc (.cells #[.slice ac m cc, .slice ap m cp, .int .i64 s, .int .i64 t] 25) = wA at hB HC HP HBX ⊢
      obtain ⟨c0, c1, c2, c3⟩ := hB.cells
      refine (i_ValidDisplay _ _ _ s t C P true HC.out HP.out hs ht ⟨fun _ => HV.out, fun _ => rfl⟩).mono ?_
      rintro e w2 ⟨rfl, hb2⟩
      have HBX2 := keptI (below_next HBX.out hb2)
      have hB2 := hB.below hb2 hB.lt
      clear hb2 c0 c1 c2 c3 hB
      obtain ⟨c0, c1, c2, c3⟩ := hB2.cells
      go_wp2_with fail
      refine (i_within_d _ _ _ _ false ⟨fun e => (by cases e), fun h => absurd h HK.out⟩).mono ?_
      rintro e w' ⟨rfl, rfl⟩
      go_wp2
      go_ret
      exact ⟨by rw [HR.out]; rfl, HBX2.out⟩
    · have HK := kepD hK
      obtain ⟨k0, k1⟩ := hK
      obtain ⟨x, hx⟩ : ∃ x : Nat, s + k = x := ⟨(s + k).toNat, by omega⟩
      have u2 : IntKind.i64.wrap (s + k) = (x : Int) := by rw [hx]; exact IntWalk.i64_in _ (by omega)
      by_cases hxn : x < m
      · have HR : Hid (P.getD x 0 = r) := by
          show P.getD x 0 = r
          rcases hr.out with h | h
          · rw [h.2, hx, Int.toNat_natCast]
          · exact absurd ⟨HV.out, HK.out, by rw [hx, HN.out]; omega⟩ h.1
        have d1 : decide ((m : Int) ≤ (x : Int)) = false := decide_eq_false (by omega)
        have d2 : decide (m ≤ x) = false := decide_eq_false (by omega)
        have q1 : (x : Int) < (m : Int) := by omega
        have q0 : (0 : Int) ≤ (x : Int) := by omega
        obtain ⟨g, off, rfl, hc⟩ : ∃ g off, ap = some ⟨g, off, none⟩ ∧ ∀ i, i < m → w.cell? ⟨g, off + i, none⟩ = some (.int .i64 (P.getD i 0)) := by
          rcases HP3.out with h | h
          · omega
          · exact h
        have c5 := hc x hxn
        rw [HR.out] at c5
        have C5 : Hid (∀ wy, Below w.heap.size w wy → wy.cell? ⟨g, off + x, none⟩ = some (.int .i64 r)) := fun wy hb => (hb.cell (World.block_lt_of_cell? w _ c5)).trans c5
        clear hst c5 hc HP3 hx
        go_enter Try.func34, Try.ntmps34
        go_wp2_with fail
        generalize w.alloc (.cells #[.slice ac m cc, .slice (some ⟨g, off, none⟩) m cp, .int .i64 s, .int .i64 t] 25) = wA at hB HC HP HBX ⊢
        obtain ⟨c0, c1, c2, c3⟩ := hB.cells
        refine (i_ValidDisplay _ _ _ s t C P true HC.out HP.out hs ht ⟨fun _ => HV.out, fun _ => rfl⟩).mono ?_
        rintro e w2 ⟨rfl, hb2⟩
        have HBX2 := keptI (below_next HBX.out hb2)
        have hB2 := hB.below hb2 hB.lt
        clear hb2 c0 c1 c2 c3 hB
        obtain ⟨c0, c1, c2, c3⟩ := hB2.cells
        go_wp2_with fail
        have c5 := C5.out _ HBX2.out
        refine (i_within_d _ _ _ _ true ⟨fun _ => HK.out, fun _ => rfl⟩).mono ?_
        rintro e w' ⟨rfl, rfl⟩
        go_wp2
        go_ret
        exact ⟨rfl, HBX2.out⟩
      · have HR : Hid (r = -1) := by
          rcases hr.out with h | h
          · exact absurd h.1.2.2 (by rw [hx, HN.out]; omega)
          · exact h.2
        have d1 : decide ((m : Int) ≤ (x : Int)) = true := decide_eq_true (by omega)
        have d2 : decide (m ≤ x) = true := decide_eq_true (by omega)
        clear hst hx
        go_enter Try.func34, Try.ntmps34
        go_wp2_with fail
        generalize w.alloc (.cells #[.slice ac m cc, .slice ap m cp, .int .i64 s, .int .i64 t] 25) = wA at hB HC HP HBX ⊢
        obtain ⟨c0, c1, c2, c3⟩ := hB.cells
        refine (i_ValidDisplay _ _ _ s t C P true HC.out HP.out hs ht ⟨fun _ => HV.out, fun _ => rfl⟩).mono ?_
        rintro e w2 ⟨rfl, hb2⟩
        have HBX2 := keptI (below_next HBX.out hb2)
        have hB2 := hB.below hb2 hB.lt
        clear hb2 c0 c1 c2 c3 hB
        obtain ⟨c0, c1, c2, c3⟩ := hB2.cells
        go_wp2_with fail
        refine (i_within_d _ _ _ _ true ⟨fun _ => HK.out, fun _ => rfl⟩).mono ?_
        rintro e w' ⟨rfl, rfl⟩
        go_wp2
        go_ret
        exact ⟨by rw [HR.out]; rfl, HBX2.out⟩
set_option maxHeartbeats 2000000 in
theorem s_RouteOf (w : World) (c p : Value) (s t k r : Int) (C P : List Int) (hC : IntsAt w c C) (hP : IntsAt w p P) (hs : -9223372036854775808 ≤ s ∧ s ≤ 9223372036854775807) (ht : -9223372036854775808 ≤ t ∧ t ≤ 9223372036854775807) (hr : Hid (RoIs C P s t k r)) :
    Calls Try.prog 36 #[dspV c p s t, .int .i64 k] w fun e w' => e = .returned (.int .i64 r) ∧ Below w.heap.size w w' := by
  obtain ⟨ac, n, cc, rfl, hn, xc1, xc2, _⟩ := hC.partsI
  obtain ⟨ap, m, cp, rfl, hm, xp1, xp2, xp3⟩ := hP.partsI
  have HN := Lib.hid hn
  have HP3 := keptI xp3
  obtain ⟨hB, hbx⟩ := dbox w (.slice ac n cc) (.slice ap m cp) s t
  have HC := keptI (hC.below hbx)
  have HP := keptI (hP.below hbx)
  have HBX := keptI hbx
  clear hC hP hbx hn xp3
  by_cases hV : VDp C P s t
  rotate_left
  · have HV := kepD hV
    have HR : Hid (r = -1) := by rcases hr.out with h | h; exact absurd h.1.1 hV; exact h.2
    clear hV
    go_enter Try.func36, Try.ntmps36
    go_wp2_with fail
    generalize w.alloc (.cells #[.slice ac n cc, .slice ap m cp, .int .i64 s, .int .i64 t] 25) = wA at hB HC HP HBX ⊢
    obtain ⟨c0, c1, c2, c3⟩ := hB.cells
    refine (s_validDisplay _ _ _ s t C P false HC.out HP.out hs ht ⟨fun e => (by cases e), fun h => absurd h HV.out⟩).mono ?_
    rintro e w2 ⟨rfl, hb2⟩
    have HBX2 := keptI (below_next HBX.out hb2)
    clear hb2 c0 c1 c2 c3
    go_wp2
    go_ret
    exact ⟨by rw [HR.out]; rfl, HBX2.out⟩
  · have HV := kepD hV
    obtain ⟨v1, v2, v3, v4⟩ := id hV
    have hst := hV.start
    have hl200 : C.length ≤ 200 := v1.1
    have hmn : m = n := by have := v2.1; rw [hm, HN.out] at this; exact this
    subst hmn
    rw [HN.out] at hst hl200
    clear v1 v2 v4 hV hm
    have u1 : IntKind.i64.wrap (t - 1) = t - 1 := IntWalk.i64_in _ (by omega)
    by_cases hK : Wn k 0 (t - 1)
    rotate_left
    · have HK := kepD hK
      have HR : Hid (r = -1) := by rcases hr.out with h | h; exact absurd h.1.2.1 hK; exact h.2
      clear hK hst
      go_enter Try.func36, Try.ntmps36
      go_wp2_with fail
      generalize w.alloc (.cells #[.slice ac m cc, .slice ap m cp, .int .i64 s, .int .i64 t] 25) = wA at hB HC HP HBX ⊢
      obtain ⟨c0, c1, c2, c3⟩ := hB.cells
      refine (s_validDisplay _ _ _ s t C P true HC.out HP.out hs ht ⟨fun _ => HV.out, fun _ => rfl⟩).mono ?_
      rintro e w2 ⟨rfl, hb2⟩
      have HBX2 := keptI (below_next HBX.out hb2)
      have hB2 := hB.below hb2 hB.lt
      clear hb2 c0 c1 c2 c3 hB
      obtain ⟨c0, c1, c2, c3⟩ := hB2.cells
      go_wp2_with fail
      refine (s_range_d _ _ _ _ false ⟨fun e => (by cases e), fun h => absurd h HK.out⟩).mono ?_
      rintro e w' ⟨rfl, rfl⟩
      go_wp2
      go_ret
      exact ⟨by rw [HR.out]; rfl, HBX2.out⟩
    · have HK := kepD hK
      obtain ⟨k0, k1⟩ := hK
      obtain ⟨x, hx⟩ : ∃ x : Nat, s + k = x := ⟨(s + k).toNat, by omega⟩
      have u2 : IntKind.i64.wrap (s + k) = (x : Int) := by rw [hx]; exact IntWalk.i64_in _ (by omega)
      by_cases hxn : x < m
      · have HR : Hid (P.getD x 0 = r) := by
          show P.getD x 0 = r
          rcases hr.out with h | h
          · rw [h.2, hx, Int.toNat_natCast]
          · exact absurd ⟨HV.out, HK.out, by rw [hx, HN.out]; omega⟩ h.1
        have d1 : decide ((m : Int) ≤ (x : Int)) = false := decide_eq_false (by omega)
        have d2 : decide (m ≤ x) = false := decide_eq_false (by omega)
        have q1 : (x : Int) < (m : Int) := by omega
        have q0 : (0 : Int) ≤ (x : Int) := by omega
        obtain ⟨g, off, rfl, hc⟩ : ∃ g off, ap = some ⟨g, off, none⟩ ∧ ∀ i, i < m → w.cell? ⟨g, off + i, none⟩ = some (.int .i64 (P.getD i 0)) := by
          rcases HP3.out with h | h
          · omega
          · exact h
        have c5 := hc x hxn
        rw [HR.out] at c5
        have C5 : Hid (∀ wy, Below w.heap.size w wy → wy.cell? ⟨g, off + x, none⟩ = some (.int .i64 r)) := fun wy hb => (hb.cell (World.block_lt_of_cell? w _ c5)).trans c5
        clear hst c5 hc HP3 hx
        go_enter Try.func36, Try.ntmps36
        go_wp2_with fail
        generalize w.alloc (.cells #[.slice ac m cc, .slice (some ⟨g, off, none⟩) m cp, .int .i64 s, .int .i64 t] 25) = wA at hB HC HP HBX ⊢
        obtain ⟨c0, c1, c2, c3⟩ := hB.cells
        refine (s_validDisplay _ _ _ s t C P true HC.out HP.out hs ht ⟨fun _ => HV.out, fun _ => rfl⟩).mono ?_
        rintro e w2 ⟨rfl, hb2⟩
        have HBX2 := keptI (below_next HBX.out hb2)
        have hB2 := hB.below hb2 hB.lt
        clear hb2 c0 c1 c2 c3 hB
        obtain ⟨c0, c1, c2, c3⟩ := hB2.cells
        go_wp2_with fail
        have c5 := C5.out _ HBX2.out
        refine (s_range_d _ _ _ _ true ⟨fun _ => HK.out, fun _ => rfl⟩).mono ?_
        rintro e w' ⟨rfl, rfl⟩
        go_wp2
        go_ret
        exact ⟨rfl, HBX2.out⟩
      · have HR : Hid (r = -1) := by
          rcases hr.out with h | h
          · exact absurd h.1.2.2 (by rw [hx, HN.out]; omega)
          · exact h.2
        have d1 : decide ((m : Int) ≤ (x : Int)) = true := decide_eq_true (by omega)
        have d2 : decide (m ≤ x) = true := decide_eq_true (by omega)
        clear hst hx
        go_enter Try.func36, Try.ntmps36
        go_wp2_with fail
        generalize w.alloc (.cells #[.slice ac m cc, .slice ap m cp, .int .i64 s, .int .i64 t] 25) = wA at hB HC HP HBX ⊢
        obtain ⟨c0, c1, c2, c3⟩ := hB.cells
        refine (s_validDisplay _ _ _ s t C P true HC.out HP.out hs ht ⟨fun _ => HV.out, fun _ => rfl⟩).mono ?_
        rintro e w2 ⟨rfl, hb2⟩
        have HBX2 := keptI (below_next HBX.out hb2)
        have hB2 := hB.below hb2 hB.lt
        clear hb2 c0 c1 c2 c3 hB
        obtain ⟨c0, c1, c2, c3⟩ := hB2.cells
        go_wp2_with fail
        refine (s_range_d _ _ _ _ true ⟨fun _ => HK.out, fun _ => rfl⟩).mono ?_
        rintro e w' ⟨rfl, rfl⟩
        go_wp2
        go_ret
        exact ⟨by rw [HR.out]; rfl, HBX2.out⟩
set_option maxRecDepth 20000 in
set_option maxHeartbeats 4000000 in
theorem exRouteOf_walk (c p : Value) (s t : Int) (C P : List Int) (k : Int) (_hk : -9223372036854775808 ≤ k ∧ k ≤ 9223372036854775807) (w : World) (hC : IntsAt w c C) (hP : IntsAt w p P) (hs : -9223372036854775808 ≤ s ∧ s ≤ 9223372036854775807) (ht : -9223372036854775808 ≤ t ∧ t ≤ 9223372036854775807) :
    Calls Try.prog 15 #[.agg #[c, p, .int .i64 s, .int .i64 t], .int .i64 k] w fun e w' => e = .returned (.bool true) ∧ Below w.heap.size w w' := by
  obtain ⟨ac, n, cc, rfl, hn, xc1, xc2, _⟩ := hC.partsI
  obtain ⟨ap, m, cp, rfl, hm, xp1, xp2, _⟩ := hP.partsI
  obtain ⟨r, hrv⟩ := roIs_any C P s t k
  have HV := Lib.hid hrv
  clear hrv
  have HI : Hid (∀ w c p, IntsAt w c C → IntsAt w p P → Calls Try.prog 34 #[.agg #[c, p, .int .i64 s, .int .i64 t], .int .i64 k] w fun e w' => e = .returned (.int .i64 r) ∧ Below w.heap.size w w') := fun w c p h1 h2 => i_RouteOf w c p s t k r C P h1 h2 hs ht HV
  have HS : Hid (∀ w c p, IntsAt w c C → IntsAt w p P → Calls Try.prog 36 #[.agg #[c, p, .int .i64 s, .int .i64 t], .int .i64 k] w fun e w' => e = .returned (.int .i64 r) ∧ Below w.heap.size w w') := fun w c p h1 h2 => s_RouteOf w c p s t k r C P h1 h2 hs ht HV
  have HT : Hid (∀ w c p, C.length ≤ 1048576 → P.length ≤ 1048576 → IntsAt w c C → IntsAt w p P → Calls Try.prog 38 #[.agg #[c, p, .int .i64 s, .int .i64 t]] w fun e w' => DspMade C P s t w e w') := fun w c p h1 h2 h3 h4 => toDisplay_any w c p s t C P h3 h4 h1 h2
  have HE : Hid (∀ w c p c' p', IntsAt w c C → IntsAt w p P → IntsAt w c' C → IntsAt w p' P → Calls Try.prog 39 #[.agg #[c, p, .int .i64 s, .int .i64 t], .agg #[c', p', .int .i64 s, .int .i64 t]] w fun e w' => e = .returned (.bool true) ∧ Below w.heap.size w w') := fun w c p c' p' h1 h2 h3 h4 => eqDisplay_same w c p c' p' s t C P h1 h2 h3 h4
  obtain ⟨hB, hbx⟩ := lboxD w (.slice ac n cc) (.slice ap m cp) s t
  have HC := keptI (hC.below hbx)
  have HP := keptI (hP.below hbx)
  have HB := keptI hbx
  have HL := keptI hB
  clear hC hP hbx hB hn hm
  go_enter Try.func15, Try.ntmps15
  go_wp2_with fail
  generalize w.alloc (.cells #[.slice ac n cc, .slice ap m cp, .int .i64 s, .int .i64 t] 38) = wA at HB HC HP HL ⊢
  refine (szDisplay_any wA _ _ s t C P HC.out HP.out).mono ?_
  rintro e w1 ⟨⟨z, rfl, hz⟩, hb1⟩
  have HL1 := keptI (HL.out.below hb1 HL.out.lt)
  have HCa := keptI (HC.out.below hb1)
  have HPa := keptI (HP.out.below hb1)
  have HB1 := keptI (below_next HB.out hb1)
  clear hb1 HL HC HP HB
  rcases hz with rfl | ⟨z0, z1, z2⟩
  · go_wp2
    go_ret
    exact ⟨rfl, HB1.out⟩
  · have d1 : decide (z < 0) = false := decide_eq_false (by omega)
    have K1 := Lib.hid z1
    have K2 := Lib.hid z2
    clear z1 z2
    obtain ⟨c0, c1, c2, c3⟩ := HL1.out.cells
    go_wp2_with fail
    refine (HT.out w1 _ _ K1.out K2.out HCa.out HPa.out).mono ?_
    rintro e w2 ⟨g1, n1, g2, n2, rfl, hO1, hO2, _, _, _, hb2⟩
    have HO1 := keptI hO1.at
    have HO2 := keptI hO2.at
    have HL2 := keptI (HL1.out.below hb2 HL1.out.lt)
    have HCb := keptI (HCa.out.below hb2)
    have HPb := keptI (HPa.out.below hb2)
    have HB2 := keptI (below_next HB1.out hb2)
    clear hO1 hO2 hb2 c0 c1 c2 c3
    go_wp2_with fail
    refine (HS.out w2 _ _ HO1.out HO2.out).mono ?_
    rintro e w3 ⟨rfl, hb3⟩
    have HL3 := keptI (HL2.out.below hb3 HL2.out.lt)
    have HCc := keptI (HCb.out.below hb3)
    have HPc := keptI (HPb.out.below hb3)
    have HB3 := keptI (below_next HB2.out hb3)
    clear hb3
    obtain ⟨c0, c1, c2, c3⟩ := HL3.out.cells
    go_wp2_with fail
    refine (HT.out w3 _ _ K1.out K2.out HCc.out HPc.out).mono ?_
    rintro e w4 ⟨g3, n3, g4, n4, rfl, hO3, hO4, _, _, _, hb4⟩
    obtain ⟨hD4, hal⟩ := dbox w4 (.slice (some ⟨g3, 0, none⟩) n3 n3) (.slice (some ⟨g4, 0, none⟩) n4 n4) s t
    have HO3 := keptI (hO3.at.below hal)
    have HO4 := keptI (hO4.at.below hal)
    have HF4 := keptI hD4
    have HL4 := keptI ((HL3.out.below hb4 HL3.out.lt).below hal (HL3.out.below hb4 HL3.out.lt).lt)
    have HCd := keptI ((HCc.out.below hb4).below hal)
    have HPd := keptI ((HPc.out.below hb4).below hal)
    have HB4 := keptI (below_next (below_next HB3.out hb4) hal)
    clear hO3 hO4 hb4 hal hD4 c0 c1 c2 c3
    go_wp2_with fail
    generalize w4.alloc (.cells #[.slice (some ⟨g3, 0, none⟩) n3 n3, .slice (some ⟨g4, 0, none⟩) n4 n4, .int .i64 s, .int .i64 t] 25) = w5 at HO3 HO4 HF4 HL4 HCd HPd HB4 ⊢
    refine (HI.out w5 _ _ HO3.out HO4.out).mono ?_
    rintro e w6 ⟨rfl, hb6⟩
    have HF6 := keptI (HF4.out.below hb6 HF4.out.lt)
    have HL6 := keptI (HL4.out.below hb6 HL4.out.lt)
    have HO3b := keptI (HO3.out.below hb6)
    have HO4b := keptI (HO4.out.below hb6)
    have HCe := keptI (HCd.out.below hb6)
    have HPe := keptI (HPd.out.below hb6)
    have HB6 := keptI (below_next HB4.out hb6)
    clear hb6
    have HK : Hid (∀ wx, Below w6.heap.size w6 wx → (wx.cell? ⟨w.heap.size, 0, none⟩ = some (.slice ac n cc) ∧ wx.cell? ⟨w.heap.size, 1, none⟩ = some (.slice ap m cp) ∧ wx.cell? ⟨w.heap.size, 2, none⟩ = some (.int .i64 s) ∧ wx.cell? ⟨w.heap.size, 3, none⟩ = some (.int .i64 t)) ∧ (wx.cell? ⟨w4.heap.size, 0, none⟩ = some (.slice (some ⟨g3, 0, none⟩) n3 n3) ∧ wx.cell? ⟨w4.heap.size, 1, none⟩ = some (.slice (some ⟨g4, 0, none⟩) n4 n4) ∧ wx.cell? ⟨w4.heap.size, 2, none⟩ = some (.int .i64 s) ∧ wx.cell? ⟨w4.heap.size, 3, none⟩ = some (.int .i64 t))) := fun wx hb => ⟨(HL6.out.below hb HL6.out.lt).cells, (HF6.out.below hb HF6.out.lt).cells⟩
    have HD0 : Hid (Below w6.heap.size w6 w6.drew) := (Below.refl _ _).drew
    go_wp2_with fail
    go_region_held3 (fun wx => (wx.cell? ⟨w.heap.size, 0, none⟩ = some (.slice ac n cc) ∧ wx.cell? ⟨w.heap.size, 1, none⟩ = some (.slice ap m cp) ∧ wx.cell? ⟨w.heap.size, 2, none⟩ = some (.int .i64 s) ∧ wx.cell? ⟨w.heap.size, 3, none⟩ = some (.int .i64 t)) ∧ (wx.cell? ⟨w4.heap.size, 0, none⟩ = some (.slice (some ⟨g3, 0, none⟩) n3 n3) ∧ wx.cell? ⟨w4.heap.size, 1, none⟩ = some (.slice (some ⟨g4, 0, none⟩) n4 n4) ∧ wx.cell? ⟨w4.heap.size, 2, none⟩ = some (.int .i64 s) ∧ wx.cell? ⟨w4.heap.size, 3, none⟩ = some (.int .i64 t))) (first | assumption | exact HK.out _ HD0.out | exact HK.out _ (below_next HD0.out hb7) | exact HK.out _ HD8.out) (first | (go_at_call 38; (with_reducible refine (HT.out _ _ _ K1.out K2.out (HCe.out.below HD0.out) (HPe.out.below HD0.out)).mono ?_); rintro e w7 ⟨g7, n7, g8, n8, rfl, hO7, hO8, _, _, _, hb7⟩; have HO7 := keptI hO7.at; have HO8 := keptI hO8.at; have HO37 := keptI ((HO3b.out.below HD0.out).below hb7); have HO47 := keptI ((HO4b.out.below HD0.out).below hb7); have HB7 := keptI (below_next HB6.out (below_next HD0.out hb7))) | (go_at_call 39; (with_reducible refine (HE.out _ _ _ _ _ HO37.out HO47.out HO7.out HO8.out).mono ?_); rintro e w8 ⟨rfl, hb8⟩; have HB8 := keptI (below_next HB7.out hb8); have HD8 := keptI (below_next (below_next HD0.out hb7) hb8)))
    all_goals
      go_wp2
      go_ret
      exact ⟨rfl, HB8.out⟩
end Go.Proofs.Ytfgnckafpnobhaa
