
/- ShowPlace of both sides. -/
import Derived.Test.YtfgnckafpnobhaaDsl
import Derived.Test.YtfgnckafpnobhaaDsg
import Derived.StillTailTactics
namespace Go.Proofs.Ytfgnckafpnobhaa
open Go.RowKit

/-- the display moved to where it shows a place -/
def ShIs (C P : List Int) (s t k : Int) (r : DA) : Prop :=
  ((VDp C P s t ∧ Wn k 0 59) ∧ ((0 ≤ cpN P k P.length ∧ r = ⟨C, P, cpN P k P.length - (cpN P k P.length) % t, t, true⟩) ∨ (¬ 0 ≤ cpN P k P.length ∧ r = ⟨C, P, s, t, false⟩))) ∨ (¬ (VDp C P s t ∧ Wn k 0 59) ∧ r = ⟨[], [], 0, 0, false⟩)
theorem shIs_any (C P : List Int) (s t k : Int) : ∃ r, ShIs C P s t k r := by
  by_cases h : VDp C P s t ∧ Wn k 0 59
  · by_cases h2 : 0 ≤ cpN P k P.length
    · exact ⟨_, .inl ⟨h, .inl ⟨h2, rfl⟩⟩⟩
    · exact ⟨_, .inl ⟨h, .inr ⟨h2, rfl⟩⟩⟩
  · exact ⟨_, .inr ⟨h, rfl⟩⟩
set_option maxRecDepth 20000 in
set_option maxHeartbeats 8000000 in
theorem i_ShowPlace (w : World) (g n h m : Nat) (s t k : Int) (C P : List Int) (r : DA) (hC : IntsAt w (.slice (some ⟨g, 0, none⟩) n n) C) (hP : IntsAt w (.slice (some ⟨h, 0, none⟩) m m) P) (hs : -9223372036854775808 ≤ s ∧ s ≤ 9223372036854775807) (ht : -9223372036854775808 ≤ t ∧ t ≤ 9223372036854775807) (hr : Hid (ShIs C P s t k r)) :
    Calls Try.prog 32 #[dspV (.slice (some ⟨g, 0, none⟩) n n) (.slice (some ⟨h, 0, none⟩) m m) s t, .int .i64 k] w fun e w' => DspAns r.C r.P r.s r.t r.ok w e w' := by
  have hn : C.length = n := by obtain ⟨_, _, e, _⟩ := hC; injection e with _ e _; exact e.symm
  have hm : P.length = m := by obtain ⟨_, _, e, _⟩ := hP; injection e with _ e _; exact e.symm
  have HN := Lib.hid hn
  obtain ⟨hB, hbx⟩ := dbox w (.slice (some ⟨g, 0, none⟩) n n) (.slice (some ⟨h, 0, none⟩) m m) s t
  obtain ⟨hD, hbx1⟩ := dbox (w.alloc (dspO (.slice (some ⟨g, 0, none⟩) n n) (.slice (some ⟨h, 0, none⟩) m m) s t)) (.slice none 0 0) (.slice none 0 0) 0 0
  have hB := hB.alloc (dspO (.slice none 0 0) (.slice none 0 0) 0 0)
  have hbb := below_next hbx hbx1
  rw [World.size_alloc] at hD
  have hC0 := keptI hC
  have hP0 := keptI hP
  have HC := keptI (hC.below hbb)
  have HP := keptI (hP.below hbb)
  have HB := keptI hbb
  have HBX := keptI hB
  have HDX := keptI hD
  clear hC hP hbx hbx1 hbb hB hD hm hn
  by_cases hV : VDp C P s t
  rotate_left
  · have HV := kepD hV
    have HR : Hid (r = ⟨[], [], 0, 0, false⟩) := by rcases hr.out with h | h; exact absurd h.1.1 hV; exact h.2
    clear hV
    go_enter Try.func32, Try.ntmps32
    go_wp2_with fail
    generalize (w.alloc (.cells #[.slice (some ⟨g, 0, none⟩) n n, .slice (some ⟨h, 0, none⟩) m m, .int .i64 s, .int .i64 t] 25)).alloc (.cells #[.slice none 0 0, .slice none 0 0, .int .i64 0, .int .i64 0] 25) = wA at HC HP HB HBX HDX ⊢
    have hszA := HDX.out.lt
    obtain ⟨c0, c1, c2, c3⟩ := HBX.out.cells
    refine (i_ValidDisplay _ _ _ s t C P false HC.out HP.out hs ht ⟨fun e => (by cases e), fun h => absurd h HV.out⟩).mono ?_
    rintro e w2 ⟨rfl, hb2⟩
    have HC2 := keptI (HC.out.below hb2)
    have HP2 := keptI (HP.out.below hb2)
    have HBX2 := keptI (HBX.out.below hb2 HBX.out.lt)
    have HDX2 := keptI (HDX.out.below hb2 HDX.out.lt)
    have hsA2 := hb2.size
    have HB2 := keptI (below_next HB.out hb2)
    clear hb2 c0 c1 c2 c3
    obtain ⟨c0, c1, c2, c3⟩ := HBX2.out.cells
    clear c0 c1 c2 c3
    obtain ⟨f0, f1, f2, f3⟩ := HDX2.out.cells
    have z0 := HDX2.out.free 0
    have z1 := HDX2.out.free 1
    have z2 := HDX2.out.free 2
    have z3 := HDX2.out.free 3
    have hk := HDX2.out.put4 (.slice none 0 0) (.slice none 0 0) 0 0
    have hb := below_put4 HB2.out (w.heap.size + 1) (by omega) (.slice none 0 0) (.slice none 0 0) 0 0
    have FIN := keptI (And.intro hk hb)
    clear hk hb
    go_wp2
    refine bodyPost_ret (results_row_tmpD rfl _ _ (w.heap.size + 1) _ _ _ _ rfl FIN.out.1 Try.underlying25 rfl (by kernel_rfl)) rfl ?_
    rw [HR.out]
    exact ⟨w.heap.size, none, 0, 0, none, 0, 0, rfl, DspOwn.nil _ _ FIN.out.2.size, FIN.out.2⟩
  · have HV := kepD hV
    have hst := hV.start
    have h1t := hV.2.2.1
    have hl200 := hV.1.1
    have hm200 : m ≤ 200 := by have h1 := hV.2.1.1; obtain ⟨_, _, e, _⟩ := HP.out; injection e with _ e _; omega
    have hP200 : P.length ≤ 200 := by have h1 := hV.2.1.1; omega
    rw [HN.out] at hst hl200
    clear hV
    by_cases hK : Wn k 0 59
    rotate_left
    · have HK := kepD hK
      have HR : Hid (r = ⟨[], [], 0, 0, false⟩) := by rcases hr.out with h | h; exact absurd h.1.2 hK; exact h.2
      clear hK hst
      go_enter Try.func32, Try.ntmps32
      go_wp2_with fail
      generalize (w.alloc (.cells #[.slice (some ⟨g, 0, none⟩) n n, .slice (some ⟨h, 0, none⟩) m m, .int .i64 s, .int .i64 t] 25)).alloc (.cells #[.slice none 0 0, .slice none 0 0, .int .i64 0, .int .i64 0] 25) = wA at HC HP HB HBX HDX ⊢
      have hszA := HDX.out.lt
      obtain ⟨c0, c1, c2, c3⟩ := HBX.out.cells
      refine (i_ValidDisplay _ _ _ s t C P true HC.out HP.out hs ht ⟨fun _ => HV.out, fun _ => rfl⟩).mono ?_
      rintro e w2 ⟨rfl, hb2⟩
      have HC2 := keptI (HC.out.below hb2)
      have HP2 := keptI (HP.out.below hb2)
      have HBX2 := keptI (HBX.out.below hb2 HBX.out.lt)
      have HDX2 := keptI (HDX.out.below hb2 HDX.out.lt)
      have hsA2 := hb2.size
      have HB2 := keptI (below_next HB.out hb2)
      clear hb2 c0 c1 c2 c3
      obtain ⟨c0, c1, c2, c3⟩ := HBX2.out.cells
      go_wp2_with fail
      refine (i_isPlace _ _ false ⟨fun e => (by cases e), fun h => absurd h HK.out⟩).mono ?_
      rintro e w' ⟨rfl, rfl⟩
      clear c0 c1 c2 c3
      obtain ⟨f0, f1, f2, f3⟩ := HDX2.out.cells
      have z0 := HDX2.out.free 0
      have z1 := HDX2.out.free 1
      have z2 := HDX2.out.free 2
      have z3 := HDX2.out.free 3
      have hk := HDX2.out.put4 (.slice none 0 0) (.slice none 0 0) 0 0
      have hb := below_put4 HB2.out (w.heap.size + 1) (by omega) (.slice none 0 0) (.slice none 0 0) 0 0
      have FIN := keptI (And.intro hk hb)
      clear hk hb
      go_wp2
      refine bodyPost_ret (results_row_tmpD rfl _ _ (w.heap.size + 1) _ _ _ _ rfl FIN.out.1 Try.underlying25 rfl (by kernel_rfl)) rfl ?_
      rw [HR.out]
      exact ⟨w.heap.size, none, 0, 0, none, 0, 0, rfl, DspOwn.nil _ _ FIN.out.2.size, FIN.out.2⟩
    · have HK := kepD hK
      have hcb := cpN_bd P k P.length
      obtain ⟨f, hf⟩ : ∃ f, cpN P k P.length = f := ⟨_, rfl⟩
      rw [hf] at hcb
      have HFF := Lib.hid hf
      have HIS : Hid (CpIs C P s t k f) := .inl ⟨⟨HV.out, hK⟩, hf.symm⟩
      by_cases hf0 : 0 ≤ f
      · skip
        obtain ⟨j, rfl⟩ : ∃ j : Nat, f = j := ⟨f.toNat, by omega⟩
        obtain ⟨b, rfl⟩ : ∃ b : Nat, t = b := ⟨t.toNat, by omega⟩
        obtain ⟨y, hy⟩ : ∃ y : Nat, j % b = y := ⟨_, rfl⟩
        obtain ⟨z, hz⟩ : ∃ z : Nat, j / b = z := ⟨_, rfl⟩
        obtain ⟨Y, hY⟩ : ∃ Y : Nat, z * b = Y := ⟨_, rfl⟩
        have hdm : Y + y = j := by rw [← hY, ← hz, ← hy, Nat.mul_comm]; exact Nat.div_add_mod j b
        have hzj : z ≤ j := by rw [← hz]; exact Nat.div_le_self _ _
        have HR : Hid (r = ⟨C, P, (Y : Int), (b : Int), true⟩) := by
          show r = _
          rcases hr.out with h | h
          · rcases h.2 with h2 | h2
            · have e : (j : Int) - (j : Int) % (b : Int) = (Y : Int) := by rw [← Int.natCast_emod, hy]; omega
              rw [h2.2, hf, e]
            · exact absurd (by rw [hf]; omega) h2.1
          · exact absurd ⟨HV.out, HK.out⟩ h.1
        have t1 : (j : Int).tmod (b : Int) = (y : Int) := by rw [Int.tmod_eq_emod_of_nonneg (by omega), ← Int.natCast_emod, hy]
        have t2 : (j : Int).tdiv (b : Int) = (z : Int) := by rw [Int.tdiv_eq_ediv_of_nonneg (by omega), ← Int.natCast_ediv, hz]
        have u1 : IntKind.i64.wrap (y : Int) = (y : Int) := IntWalk.i64_in _ (by omega)
        have u2 : IntKind.i64.wrap ((j : Int) - (y : Int)) = (Y : Int) := by rw [show (j : Int) - (y : Int) = (Y : Int) from by omega]; exact IntWalk.i64_in _ (by omega)
        have u3 : IntKind.i64.wrap (z : Int) = (z : Int) := IntWalk.i64_in _ (by omega)
        have u4 : IntKind.i64.wrap ((z : Int) * (b : Int)) = (Y : Int) := by rw [show (z : Int) * (b : Int) = (Y : Int) from by rw [← Int.natCast_mul, hY]]; exact IntWalk.i64_in _ (by omega)
        have v0 : ((b : Int) == 0) = false := by simp; omega
        have v1 : decide ((b : Int) = 0) = false := decide_eq_false (by omega)
        have v2 : ¬ (b : Int) = 0 := by omega
        have v3 : ¬ (b : Int) = -1 := by omega
        have v4 : ¬ b = 0 := by omega
        have d1 : decide ((j : Int) < 0) = false := decide_eq_false (by omega)
        clear hy hz hY hdm hzj hst hK hf hcb
        go_enter Try.func32, Try.ntmps32
        go_wp2_with fail
        generalize (w.alloc (.cells #[.slice (some ⟨g, 0, none⟩) n n, .slice (some ⟨h, 0, none⟩) m m, .int .i64 s, .int .i64 (b : Int)] 25)).alloc (.cells #[.slice none 0 0, .slice none 0 0, .int .i64 0, .int .i64 0] 25) = wA at HC HP HB HBX HDX ⊢
        have hszA := HDX.out.lt
        obtain ⟨c0, c1, c2, c3⟩ := HBX.out.cells
        refine (i_ValidDisplay _ _ _ s b C P true HC.out HP.out hs ht ⟨fun _ => HV.out, fun _ => rfl⟩).mono ?_
        rintro e w2 ⟨rfl, hb2⟩
        have HC2 := keptI (HC.out.below hb2)
        have HP2 := keptI (HP.out.below hb2)
        have HBX2 := keptI (HBX.out.below hb2 HBX.out.lt)
        have HDX2 := keptI (HDX.out.below hb2 HDX.out.lt)
        have hsA2 := hb2.size
        have HB2 := keptI (below_next HB.out hb2)
        clear hb2 c0 c1 c2 c3
        obtain ⟨c0, c1, c2, c3⟩ := HBX2.out.cells
        go_wp2_with fail
        refine (i_isPlace _ _ true ⟨fun _ => HK.out, fun _ => rfl⟩).mono ?_
        rintro e w' ⟨rfl, rfl⟩
        go_wp2_with fail
        refine (i_CellOfPlace w2 _ _ s b k (j : Int) C P HC2.out HP2.out hs ht HIS).mono ?_
        rintro e w3 ⟨rfl, hb3⟩
        have HC3 := keptI (HC2.out.below hb3)
        have HP3 := keptI (HP2.out.below hb3)
        have HBX3 := keptI (HBX2.out.below hb3 HBX2.out.lt)
        have HDX3 := keptI (HDX2.out.below hb3 HDX2.out.lt)
        have hs3 := hb3.size
        have HB3 := keptI (below_next HB2.out hb3)
        clear hb3 c0 c1 c2 c3
        obtain ⟨c0, c1, c2, c3⟩ := HBX3.out.cells
        have HDI : Hid (∀ wy, Below w3.heap.size w3 wy → Calls Try.prog 55 #[dspV (.slice (some ⟨g, 0, none⟩) n n) (.slice (some ⟨h, 0, none⟩) m m) s (b : Int), .int .i64 (Y : Int)] wy fun e w' => DspOut C P (Y : Int) b wy e w') := fun wy hb => i_displayAt wy g n h m s b (Y : Int) C P (HC3.out.below hb) (HP3.out.below hb) (by omega) (by omega)

        have HD0 : Hid (Below w3.heap.size w3 w3.drew) := (Below.refl _ _).drew
        have HS : Hid (∀ wy, Below w3.heap.size w3 wy → (wy.cell? ⟨w.heap.size, 0, none⟩ = some (.slice (some ⟨g, 0, none⟩) n n) ∧ wy.cell? ⟨w.heap.size, 1, none⟩ = some (.slice (some ⟨h, 0, none⟩) m m) ∧ wy.cell? ⟨w.heap.size, 2, none⟩ = some (.int .i64 s) ∧ wy.cell? ⟨w.heap.size, 3, none⟩ = some (.int .i64 (b : Int)))) := fun wy hb => (HBX3.out.below hb HBX3.out.lt).cells
        have HXD : Hid (∀ wy, Below w3.heap.size w3 wy → BoxD wy (w.heap.size + 1) (.slice none 0 0) (.slice none 0 0) 0 0) := fun wy hb => HDX3.out.below hb HDX3.out.lt
        have HQ : Hid (∀ wy c' p' (s' t' : Int), Below w3.heap.size w3 wy → BoxD ((((wy.setCell ⟨w.heap.size + 1, 0, none⟩ c').setCell ⟨w.heap.size + 1, 1, none⟩ p').setCell ⟨w.heap.size + 1, 2, none⟩ (.int .i64 s')).setCell ⟨w.heap.size + 1, 3, none⟩ (.int .i64 t')) w.heap.size (.slice (some ⟨g, 0, none⟩) n n) (.slice (some ⟨h, 0, none⟩) m m) s (b : Int)) := fun wy c' p' s' t' hb => (((((HBX3.out.below hb HBX3.out.lt).other (w.heap.size + 1) 0 c' (by omega)).other (w.heap.size + 1) 1 p' (by omega)).other (w.heap.size + 1) 2 (.int .i64 s') (by omega)).other (w.heap.size + 1) 3 (.int .i64 t') (by omega))
        clear c0 c1 c2 c3
        go_wp2_with fail
        go_region_held3 (fun wy => (wy.cell? ⟨w.heap.size, 0, none⟩ = some (.slice (some ⟨g, 0, none⟩) n n) ∧ wy.cell? ⟨w.heap.size, 1, none⟩ = some (.slice (some ⟨h, 0, none⟩) m m) ∧ wy.cell? ⟨w.heap.size, 2, none⟩ = some (.int .i64 s) ∧ wy.cell? ⟨w.heap.size, 3, none⟩ = some (.int .i64 (b : Int)))) (first | assumption | exact HS.out _ HD0.out | exact HS.out _ HA4.out | exact (HQ.out _ _ _ _ _ HA4.out).cells) (first | (go_at_call 55; (with_reducible refine (HDI.out _ HD0.out).mono ?_); rintro e w4 ⟨S4, a6, n6, c6, b6, m6, d6, rfl, hO4, hb4⟩; have HA4 := keptI (below_next HD0.out hb4); have HO4 := keptI hO4; have hs4 := hb4.size; obtain ⟨f0, f1, f2, f3⟩ := (HXD.out w4 HA4.out).cells; have z0 := (HXD.out w4 HA4.out).free 0; have z1 := (HXD.out w4 HA4.out).free 1; have z2 := (HXD.out w4 HA4.out).free 2; have z3 := (HXD.out w4 HA4.out).free 3; clear hO4 hb4))
        all_goals
          have hsd : w3.drew.heap.size = w3.heap.size := rfl
          have hk := (HXD.out w4 HA4.out).put4 (.slice a6 n6 c6) (.slice b6 m6 d6) ((Y : Int)) (b : Int)
          have ho := (HO4.out.put4 (w.heap.size + 1) (by omega) (.slice a6 n6 c6) (.slice b6 m6 d6) ((Y : Int)) (b : Int)).mono (show w.heap.size ≤ w3.drew.heap.size from by omega)
          have hb := below_put4 (HB3.out.trans (HA4.out.mono HB3.out.size)) (w.heap.size + 1) (by omega) (.slice a6 n6 c6) (.slice b6 m6 d6) ((Y : Int)) (b : Int)
          have FIN := keptI (And.intro hk (And.intro ho hb))
          clear hk ho hb
          go_wp2
          refine bodyPost_ret (results_row_tmpD rfl _ _ (w.heap.size + 1) _ _ _ _ rfl FIN.out.1 Try.underlying25 rfl (by kernel_rfl)) rfl ?_
          rw [HR.out]
          exact ⟨S4, a6, n6, c6, b6, m6, d6, rfl, FIN.out.2.1, FIN.out.2.2⟩
      · skip
        have HR : Hid (r = ⟨C, P, s, t, false⟩) := by
          show r = _
          rcases hr.out with h | h
          · rcases h.2 with h2 | h2
            · exact absurd (by rw [hf] at h2; exact h2.1) hf0
            · exact h2.2
          · exact absurd ⟨HV.out, HK.out⟩ h.1
        have d1 : decide (f < 0) = true := decide_eq_true (by omega)
        have d2 : f < 0 := by omega
        clear hf0 hst hK hf hcb
        go_enter Try.func32, Try.ntmps32
        go_wp2_with fail
        generalize (w.alloc (.cells #[.slice (some ⟨g, 0, none⟩) n n, .slice (some ⟨h, 0, none⟩) m m, .int .i64 s, .int .i64 t] 25)).alloc (.cells #[.slice none 0 0, .slice none 0 0, .int .i64 0, .int .i64 0] 25) = wA at HC HP HB HBX HDX ⊢
        have hszA := HDX.out.lt
        obtain ⟨c0, c1, c2, c3⟩ := HBX.out.cells
        refine (i_ValidDisplay _ _ _ s t C P true HC.out HP.out hs ht ⟨fun _ => HV.out, fun _ => rfl⟩).mono ?_
        rintro e w2 ⟨rfl, hb2⟩
        have HC2 := keptI (HC.out.below hb2)
        have HP2 := keptI (HP.out.below hb2)
        have HBX2 := keptI (HBX.out.below hb2 HBX.out.lt)
        have HDX2 := keptI (HDX.out.below hb2 HDX.out.lt)
        have hsA2 := hb2.size
        have HB2 := keptI (below_next HB.out hb2)
        clear hb2 c0 c1 c2 c3
        obtain ⟨c0, c1, c2, c3⟩ := HBX2.out.cells
        go_wp2_with fail
        refine (i_isPlace _ _ true ⟨fun _ => HK.out, fun _ => rfl⟩).mono ?_
        rintro e w' ⟨rfl, rfl⟩
        go_wp2_with fail
        refine (i_CellOfPlace w2 _ _ s t k f C P HC2.out HP2.out hs ht HIS).mono ?_
        rintro e w3 ⟨rfl, hb3⟩
        have HC3 := keptI (HC2.out.below hb3)
        have HP3 := keptI (HP2.out.below hb3)
        have HBX3 := keptI (HBX2.out.below hb3 HBX2.out.lt)
        have HDX3 := keptI (HDX2.out.below hb3 HDX2.out.lt)
        have hs3 := hb3.size
        have HB3 := keptI (below_next HB2.out hb3)
        clear hb3 c0 c1 c2 c3
        obtain ⟨c0, c1, c2, c3⟩ := HBX3.out.cells
        go_wp2_with fail
        refine (i_displayAt w3 g n h m s t s C P HC3.out HP3.out (by omega) (by omega)).mono ?_
        rintro e w4 ⟨S4, a6, n6, c6, b6, m6, d6, rfl, hO4, hb4⟩
        have HD4 := keptI (HDX3.out.below hb4 HDX3.out.lt)
        have HO4 := keptI hO4
        have hs4 := hb4.size
        have HB4 := keptI (below_next HB3.out hb4)
        clear hb4 hO4 c0 c1 c2 c3
        obtain ⟨f0, f1, f2, f3⟩ := HD4.out.cells
        have z0 := HD4.out.free 0
        have z1 := HD4.out.free 1
        have z2 := HD4.out.free 2
        have z3 := HD4.out.free 3
        have hk := HD4.out.put4 (.slice a6 n6 c6) (.slice b6 m6 d6) (s) t
        have ho := (HO4.out.put4 (w.heap.size + 1) (by omega) (.slice a6 n6 c6) (.slice b6 m6 d6) (s) t).mono (show w.heap.size ≤ w3.heap.size from by omega)
        have hb := below_put4 HB4.out (w.heap.size + 1) (by omega) (.slice a6 n6 c6) (.slice b6 m6 d6) (s) t
        have FIN := keptI (And.intro hk (And.intro ho hb))
        clear hk ho hb
        go_wp2
        refine bodyPost_ret (results_row_tmpD rfl _ _ (w.heap.size + 1) _ _ _ _ rfl FIN.out.1 Try.underlying25 rfl (by kernel_rfl)) rfl ?_
        rw [HR.out]
        exact ⟨S4, a6, n6, c6, b6, m6, d6, rfl, FIN.out.2.1, FIN.out.2.2⟩
set_option maxRecDepth 20000 in
set_option maxHeartbeats 8000000 in
theorem s_ShowPlace (w : World) (g n h m : Nat) (s t k : Int) (C P : List Int) (r : DA) (hC : IntsAt w (.slice (some ⟨g, 0, none⟩) n n) C) (hP : IntsAt w (.slice (some ⟨h, 0, none⟩) m m) P) (hs : -9223372036854775808 ≤ s ∧ s ≤ 9223372036854775807) (ht : -9223372036854775808 ≤ t ∧ t ≤ 9223372036854775807) (hr : Hid (ShIs C P s t k r)) :
    Calls Try.prog 33 #[dspV (.slice (some ⟨g, 0, none⟩) n n) (.slice (some ⟨h, 0, none⟩) m m) s t, .int .i64 k] w fun e w' => DspAns r.C r.P r.s r.t r.ok w e w' := by
  have hn : C.length = n := by obtain ⟨_, _, e, _⟩ := hC; injection e with _ e _; exact e.symm
  have hm : P.length = m := by obtain ⟨_, _, e, _⟩ := hP; injection e with _ e _; exact e.symm
  have HN := Lib.hid hn
  obtain ⟨hB, hbx⟩ := dbox w (.slice (some ⟨g, 0, none⟩) n n) (.slice (some ⟨h, 0, none⟩) m m) s t
  obtain ⟨hD, hbx1⟩ := dbox (w.alloc (dspO (.slice (some ⟨g, 0, none⟩) n n) (.slice (some ⟨h, 0, none⟩) m m) s t)) (.slice none 0 0) (.slice none 0 0) 0 0
  have hB := hB.alloc (dspO (.slice none 0 0) (.slice none 0 0) 0 0)
  have hbb := below_next hbx hbx1
  rw [World.size_alloc] at hD
  have hC0 := keptI hC
  have hP0 := keptI hP
  have HC := keptI (hC.below hbb)
  have HP := keptI (hP.below hbb)
  have HB := keptI hbb
  have HBX := keptI hB
  have HDX := keptI hD
  clear hC hP hbx hbx1 hbb hB hD hm hn
  by_cases hV : VDp C P s t
  rotate_left
  · have HV := kepD hV
    have HR : Hid (r = ⟨[], [], 0, 0, false⟩) := by rcases hr.out with h | h; exact absurd h.1.1 hV; exact h.2
    clear hV
    go_enter Try.func33, Try.ntmps33
    go_wp2_with fail
    generalize (w.alloc (.cells #[.slice (some ⟨g, 0, none⟩) n n, .slice (some ⟨h, 0, none⟩) m m, .int .i64 s, .int .i64 t] 25)).alloc (.cells #[.slice none 0 0, .slice none 0 0, .int .i64 0, .int .i64 0] 25) = wA at HC HP HB HBX HDX ⊢
    have hszA := HDX.out.lt
    obtain ⟨c0, c1, c2, c3⟩ := HBX.out.cells
    refine (s_validDisplay _ _ _ s t C P false HC.out HP.out hs ht ⟨fun e => (by cases e), fun h => absurd h HV.out⟩).mono ?_
    rintro e w2 ⟨rfl, hb2⟩
    have HC2 := keptI (HC.out.below hb2)
    have HP2 := keptI (HP.out.below hb2)
    have HBX2 := keptI (HBX.out.below hb2 HBX.out.lt)
    have HDX2 := keptI (HDX.out.below hb2 HDX.out.lt)
    have hsA2 := hb2.size
    have HB2 := keptI (below_next HB.out hb2)
    clear hb2 c0 c1 c2 c3
    obtain ⟨c0, c1, c2, c3⟩ := HBX2.out.cells
    clear c0 c1 c2 c3
    obtain ⟨f0, f1, f2, f3⟩ := HDX2.out.cells
    have z0 := HDX2.out.free 0
    have z1 := HDX2.out.free 1
    have z2 := HDX2.out.free 2
    have z3 := HDX2.out.free 3
    have hk := HDX2.out.put4 (.slice none 0 0) (.slice none 0 0) 0 0
    have hb := below_put4 HB2.out (w.heap.size + 1) (by omega) (.slice none 0 0) (.slice none 0 0) 0 0
    have FIN := keptI (And.intro hk hb)
    clear hk hb
    go_wp2
    refine bodyPost_ret (results_row_tmpD rfl _ _ (w.heap.size + 1) _ _ _ _ rfl FIN.out.1 Try.underlying25 rfl (by kernel_rfl)) rfl ?_
    rw [HR.out]
    exact ⟨w.heap.size, none, 0, 0, none, 0, 0, rfl, DspOwn.nil _ _ FIN.out.2.size, FIN.out.2⟩
  · have HV := kepD hV
    have hst := hV.start
    have h1t := hV.2.2.1
    have hl200 := hV.1.1
    have hm200 : m ≤ 200 := by have h1 := hV.2.1.1; obtain ⟨_, _, e, _⟩ := HP.out; injection e with _ e _; omega
    have hP200 : P.length ≤ 200 := by have h1 := hV.2.1.1; omega
    rw [HN.out] at hst hl200
    clear hV
    by_cases hK : Wn k 0 59
    rotate_left
    · have HK := kepD hK
      have HR : Hid (r = ⟨[], [], 0, 0, false⟩) := by rcases hr.out with h | h; exact absurd h.1.2 hK; exact h.2
      clear hK hst
      go_enter Try.func33, Try.ntmps33
      go_wp2_with fail
      generalize (w.alloc (.cells #[.slice (some ⟨g, 0, none⟩) n n, .slice (some ⟨h, 0, none⟩) m m, .int .i64 s, .int .i64 t] 25)).alloc (.cells #[.slice none 0 0, .slice none 0 0, .int .i64 0, .int .i64 0] 25) = wA at HC HP HB HBX HDX ⊢
      have hszA := HDX.out.lt
      obtain ⟨c0, c1, c2, c3⟩ := HBX.out.cells
      refine (s_validDisplay _ _ _ s t C P true HC.out HP.out hs ht ⟨fun _ => HV.out, fun _ => rfl⟩).mono ?_
      rintro e w2 ⟨rfl, hb2⟩
      have HC2 := keptI (HC.out.below hb2)
      have HP2 := keptI (HP.out.below hb2)
      have HBX2 := keptI (HBX.out.below hb2 HBX.out.lt)
      have HDX2 := keptI (HDX.out.below hb2 HDX.out.lt)
      have hsA2 := hb2.size
      have HB2 := keptI (below_next HB.out hb2)
      clear hb2 c0 c1 c2 c3
      obtain ⟨c0, c1, c2, c3⟩ := HBX2.out.cells
      go_wp2_with fail
      refine (s_range_d _ _ _ _ false ⟨fun e => (by cases e), fun h => absurd h HK.out⟩).mono ?_
      rintro e w' ⟨rfl, rfl⟩
      clear c0 c1 c2 c3
      obtain ⟨f0, f1, f2, f3⟩ := HDX2.out.cells
      have z0 := HDX2.out.free 0
      have z1 := HDX2.out.free 1
      have z2 := HDX2.out.free 2
      have z3 := HDX2.out.free 3
      have hk := HDX2.out.put4 (.slice none 0 0) (.slice none 0 0) 0 0
      have hb := below_put4 HB2.out (w.heap.size + 1) (by omega) (.slice none 0 0) (.slice none 0 0) 0 0
      have FIN := keptI (And.intro hk hb)
      clear hk hb
      go_wp2
      refine bodyPost_ret (results_row_tmpD rfl _ _ (w.heap.size + 1) _ _ _ _ rfl FIN.out.1 Try.underlying25 rfl (by kernel_rfl)) rfl ?_
      rw [HR.out]
      exact ⟨w.heap.size, none, 0, 0, none, 0, 0, rfl, DspOwn.nil _ _ FIN.out.2.size, FIN.out.2⟩
    · have HK := kepD hK
      have hcb := cpN_bd P k P.length
      obtain ⟨f, hf⟩ : ∃ f, cpN P k P.length = f := ⟨_, rfl⟩
      rw [hf] at hcb
      have HFF := Lib.hid hf
      have HIS : Hid (CpIs C P s t k f) := .inl ⟨⟨HV.out, hK⟩, hf.symm⟩
      by_cases hf0 : 0 ≤ f
      · skip
        obtain ⟨j, rfl⟩ : ∃ j : Nat, f = j := ⟨f.toNat, by omega⟩
        obtain ⟨b, rfl⟩ : ∃ b : Nat, t = b := ⟨t.toNat, by omega⟩
        obtain ⟨y, hy⟩ : ∃ y : Nat, j % b = y := ⟨_, rfl⟩
        obtain ⟨z, hz⟩ : ∃ z : Nat, j / b = z := ⟨_, rfl⟩
        obtain ⟨Y, hY⟩ : ∃ Y : Nat, z * b = Y := ⟨_, rfl⟩
        have hdm : Y + y = j := by rw [← hY, ← hz, ← hy, Nat.mul_comm]; exact Nat.div_add_mod j b
        have hzj : z ≤ j := by rw [← hz]; exact Nat.div_le_self _ _
        have HR : Hid (r = ⟨C, P, (Y : Int), (b : Int), true⟩) := by
          show r = _
          rcases hr.out with h | h
          · rcases h.2 with h2 | h2
            · have e : (j : Int) - (j : Int) % (b : Int) = (Y : Int) := by rw [← Int.natCast_emod, hy]; omega
              rw [h2.2, hf, e]
            · exact absurd (by rw [hf]; omega) h2.1
          · exact absurd ⟨HV.out, HK.out⟩ h.1
        have t1 : (j : Int).tmod (b : Int) = (y : Int) := by rw [Int.tmod_eq_emod_of_nonneg (by omega), ← Int.natCast_emod, hy]
        have t2 : (j : Int).tdiv (b : Int) = (z : Int) := by rw [Int.tdiv_eq_ediv_of_nonneg (by omega), ← Int.natCast_ediv, hz]
        have u1 : IntKind.i64.wrap (y : Int) = (y : Int) := IntWalk.i64_in _ (by omega)
        have u2 : IntKind.i64.wrap ((j : Int) - (y : Int)) = (Y : Int) := by rw [show (j : Int) - (y : Int) = (Y : Int) from by omega]; exact IntWalk.i64_in _ (by omega)
        have u3 : IntKind.i64.wrap (z : Int) = (z : Int) := IntWalk.i64_in _ (by omega)
        have u4 : IntKind.i64.wrap ((z : Int) * (b : Int)) = (Y : Int) := by rw [show (z : Int) * (b : Int) = (Y : Int) from by rw [← Int.natCast_mul, hY]]; exact IntWalk.i64_in _ (by omega)
        have v0 : ((b : Int) == 0) = false := by simp; omega
        have v1 : decide ((b : Int) = 0) = false := decide_eq_false (by omega)
        have v2 : ¬ (b : Int) = 0 := by omega
        have v3 : ¬ (b : Int) = -1 := by omega
        have v4 : ¬ b = 0 := by omega
        have d1 : decide ((j : Int) < 0) = false := decide_eq_false (by omega)
        clear hy hz hY hdm hzj hst hK hf hcb
        go_enter Try.func33, Try.ntmps33
        go_wp2_with fail
        generalize (w.alloc (.cells #[.slice (some ⟨g, 0, none⟩) n n, .slice (some ⟨h, 0, none⟩) m m, .int .i64 s, .int .i64 (b : Int)] 25)).alloc (.cells #[.slice none 0 0, .slice none 0 0, .int .i64 0, .int .i64 0] 25) = wA at HC HP HB HBX HDX ⊢
        have hszA := HDX.out.lt
        obtain ⟨c0, c1, c2, c3⟩ := HBX.out.cells
        refine (s_validDisplay _ _ _ s b C P true HC.out HP.out hs ht ⟨fun _ => HV.out, fun _ => rfl⟩).mono ?_
        rintro e w2 ⟨rfl, hb2⟩
        have HC2 := keptI (HC.out.below hb2)
        have HP2 := keptI (HP.out.below hb2)
        have HBX2 := keptI (HBX.out.below hb2 HBX.out.lt)
        have HDX2 := keptI (HDX.out.below hb2 HDX.out.lt)
        have hsA2 := hb2.size
        have HB2 := keptI (below_next HB.out hb2)
        clear hb2 c0 c1 c2 c3
        obtain ⟨c0, c1, c2, c3⟩ := HBX2.out.cells
        go_wp2_with fail
        refine (s_range_d _ _ _ _ true ⟨fun _ => HK.out, fun _ => rfl⟩).mono ?_
        rintro e w' ⟨rfl, rfl⟩
        go_wp2_with fail
        refine (s_copyDisplay w2 g n h m s b C P HC2.out HP2.out (by omega) (by omega)).mono ?_
        rintro e w3 ⟨S3, a6, n6, c6, b6, m6, d6, rfl, hO3, hb3⟩
        have HD3 := keptI (HDX2.out.below hb3 HDX2.out.lt)
        have HBX3 := keptI (HBX2.out.below hb3 HBX2.out.lt)
        have HC3 := keptI (HC2.out.below hb3)
        have HP3 := keptI (HP2.out.below hb3)
        have HO3 := keptI hO3
        have hs3 := hb3.size
        have HB3 := keptI (below_next HB2.out hb3)
        clear hb3 hO3 c0 c1 c2 c3
        obtain ⟨c0, c1, c2, c3⟩ := HBX3.out.cells
        obtain ⟨hE3, hal⟩ := dbox w3 (.slice a6 n6 c6) (.slice b6 m6 d6) s (b : Int)
        have hE4lt := hE3.lt
        have hO4 := HO3.out.below hal
        have hD4 := HD3.out.below hal HD3.out.lt
        have hB4x := HBX3.out.below hal HBX3.out.lt
        have hC4 := HC3.out.below hal
        have hP4 := HP3.out.below hal
        have hB4 := below_next HB3.out hal
        have hs4 := hal.size
        have hs3x := HBX3.out.lt
        have hlo : Hid ((∀ q, (Value.slice a6 n6 c6).ownBlock = some q → q < w3.heap.size) ∧ ∀ q, (Value.slice b6 m6 d6).ownBlock = some q → q < w3.heap.size) := ⟨fun q hq => (World.ownsRow.lt HO3.out.1 q hq).2, fun q hq => (World.ownsRow.lt HO3.out.2.2.1 q hq).2⟩
        clear hal c0 c1 c2 c3
        go_upto_region 4 with (fail)
        generalize w3.alloc (.cells #[.slice a6 n6 c6, .slice b6 m6 d6, .int .i64 s, .int .i64 (b : Int)] 25) = w4 at hE3 hE4lt hO4 hD4 hB4x hC4 hP4 hB4 hs4 ⊢
        have HO4 := keptI hO4
        have HE4 := keptI hE3
        have HD4 := keptI hD4
        have HBX4 := keptI hB4x
        have HC4 := keptI hC4
        have HP4 := keptI hP4
        have HB4 := keptI hB4
        clear hE3 hO4 hD4 hB4x hC4 hP4 hB4
        obtain ⟨c0, c1, c2, c3⟩ := HBX4.out.cells
        go_wp2_with fail
        refine (s_cellOfPlace w4 _ _ s b k C P HC4.out HP4.out).mono ?_
        rw [HFF.out]
        rintro e w5 ⟨rfl, hb5⟩
        have hs5 := hb5.size
        have HO5 := keptI (HO4.out.below hb5)
        have HE5 := keptI (HE4.out.below hb5 hE4lt)
        have HD5 := keptI (HD4.out.below hb5 HD4.out.lt)
        have HBX5 := keptI (HBX4.out.below hb5 HBX4.out.lt)
        have HB5 := keptI (below_next HB4.out hb5)
        clear hb5 c0 c1 c2 c3
        obtain ⟨y0, y1, y2, y3⟩ := HE5.out.cells
        obtain ⟨c0, c1, c2, c3⟩ := HBX5.out.cells
        go_wp2_with fail
        go_still_tail 8, (by kernel_rfl)
        repeat still_step
        change wpList _ _ _ _ _ w5.drew
        have hE6 : BoxD w5.drew w3.heap.size (.slice a6 n6 c6) (.slice b6 m6 d6) s (b : Int) := HE5.out
        have hD6 : BoxD w5.drew (w.heap.size + 1) (.slice none 0 0) (.slice none 0 0) 0 0 := HD5.out
        have hO6 : DspOwn w5.drew w2.heap.size S3 (.slice a6 n6 c6) (.slice b6 m6 d6) C P := HO5.out.below (Below.refl _ _).drew
        have hB6 : Below w.heap.size w w5.drew := HB5.out.drew
        clear y0 y1 y2 y3 c0 c1 c2 c3
        generalize w5.drew = w6 at hE6 hD6 hO6 hB6 ⊢
        have HO6 := keptI hO6
        have HE6 := keptI hE6
        have HD6 := keptI hD6
        have HB6 := keptI hB6
        clear hE6 hD6 hO6 hB6
        obtain ⟨y0, y1, y2, y3⟩ := HE6.out.cells
        have yf := HE6.out.free 2
        have hs7 : w6.heap.size ≤ (w6.setCell ⟨w3.heap.size, 2, none⟩ (.int .i64 (Y : Int))).heap.size := by simp [World.setCell]
        have hE7 := HE6.out.set2 (Y : Int)
        have hD7 := HD6.out.other w3.heap.size 2 (.int .i64 (Y : Int)) (by omega)
        have hB7 := HB6.out.setCell (p := ⟨w3.heap.size, 2, none⟩) (show w.heap.size ≤ w3.heap.size from by omega) (.int .i64 (Y : Int))
        have hO7 : DspOwn (w6.setCell ⟨w3.heap.size, 2, none⟩ (.int .i64 (Y : Int))) w2.heap.size S3 (.slice a6 n6 c6) (.slice b6 m6 d6) C P :=
          ⟨HO6.out.1.of_blockE (fun q hq => heap_setCell_other w6 ⟨w3.heap.size, 2, none⟩ q _ (by have := hlo.out.1 q hq; show q ≠ w3.heap.size; omega)), HO6.out.2.1, HO6.out.2.2.1.of_blockE (fun q hq => heap_setCell_other w6 ⟨w3.heap.size, 2, none⟩ q _ (by have := hlo.out.2 q hq; show q ≠ w3.heap.size; omega)), HO6.out.2.2.2.1, Nat.le_trans HO6.out.2.2.2.2 hs7⟩
        go_upto_region 8 with (fail)
        generalize w6.setCell ⟨w3.heap.size, 2, none⟩ (.int .i64 (Y : Int)) = w7 at hE7 hD7 hB7 hO7 hs7 ⊢
        clear y0 y1 y2 y3 yf
        have HO7 := keptI hO7
        have HE7 := keptI hE7
        have HD7 := keptI hD7
        have HB7 := keptI hB7
        clear hE7 hD7 hB7 hO7
        obtain ⟨y0, y1, y2, y3⟩ := HE7.out.cells
        obtain ⟨f0, f1, f2, f3⟩ := HD7.out.cells
        have z0 := HD7.out.free 0
        have z1 := HD7.out.free 1
        have z2 := HD7.out.free 2
        have z3 := HD7.out.free 3
        have hk := HD7.out.put4 (.slice a6 n6 c6) (.slice b6 m6 d6) ((Y : Int)) (b : Int)
        have ho := (HO7.out.put4 (w.heap.size + 1) (by omega) (.slice a6 n6 c6) (.slice b6 m6 d6) ((Y : Int)) (b : Int)).mono (show w.heap.size ≤ w2.heap.size from by omega)
        have hb := below_put4 HB7.out (w.heap.size + 1) (by omega) (.slice a6 n6 c6) (.slice b6 m6 d6) ((Y : Int)) (b : Int)
        have FIN := keptI (And.intro hk (And.intro ho hb))
        clear hk ho hb
        go_wp2
        refine bodyPost_ret (results_row_tmpD rfl _ _ (w.heap.size + 1) _ _ _ _ rfl FIN.out.1 Try.underlying25 rfl (by kernel_rfl)) rfl ?_
        rw [HR.out]
        exact ⟨S3, a6, n6, c6, b6, m6, d6, rfl, FIN.out.2.1, FIN.out.2.2⟩
      · skip
        have HR : Hid (r = ⟨C, P, s, t, false⟩) := by
          show r = _
          rcases hr.out with h | h
          · rcases h.2 with h2 | h2
            · exact absurd (by rw [hf] at h2; exact h2.1) hf0
            · exact h2.2
          · exact absurd ⟨HV.out, HK.out⟩ h.1
        have d1 : decide (f < 0) = true := decide_eq_true (by omega)
        have d2 : f < 0 := by omega
        clear hf0 hst hK hf hcb
        go_enter Try.func33, Try.ntmps33
        go_wp2_with fail
        generalize (w.alloc (.cells #[.slice (some ⟨g, 0, none⟩) n n, .slice (some ⟨h, 0, none⟩) m m, .int .i64 s, .int .i64 t] 25)).alloc (.cells #[.slice none 0 0, .slice none 0 0, .int .i64 0, .int .i64 0] 25) = wA at HC HP HB HBX HDX ⊢
        have hszA := HDX.out.lt
        obtain ⟨c0, c1, c2, c3⟩ := HBX.out.cells
        refine (s_validDisplay _ _ _ s t C P true HC.out HP.out hs ht ⟨fun _ => HV.out, fun _ => rfl⟩).mono ?_
        rintro e w2 ⟨rfl, hb2⟩
        have HC2 := keptI (HC.out.below hb2)
        have HP2 := keptI (HP.out.below hb2)
        have HBX2 := keptI (HBX.out.below hb2 HBX.out.lt)
        have HDX2 := keptI (HDX.out.below hb2 HDX.out.lt)
        have hsA2 := hb2.size
        have HB2 := keptI (below_next HB.out hb2)
        clear hb2 c0 c1 c2 c3
        obtain ⟨c0, c1, c2, c3⟩ := HBX2.out.cells
        go_wp2_with fail
        refine (s_range_d _ _ _ _ true ⟨fun _ => HK.out, fun _ => rfl⟩).mono ?_
        rintro e w' ⟨rfl, rfl⟩
        go_wp2_with fail
        refine (s_copyDisplay w2 g n h m s t C P HC2.out HP2.out (by omega) (by omega)).mono ?_
        rintro e w3 ⟨S3, a6, n6, c6, b6, m6, d6, rfl, hO3, hb3⟩
        have HD3 := keptI (HDX2.out.below hb3 HDX2.out.lt)
        have HBX3 := keptI (HBX2.out.below hb3 HBX2.out.lt)
        have HC3 := keptI (HC2.out.below hb3)
        have HP3 := keptI (HP2.out.below hb3)
        have HO3 := keptI hO3
        have hs3 := hb3.size
        have HB3 := keptI (below_next HB2.out hb3)
        clear hb3 hO3 c0 c1 c2 c3
        obtain ⟨c0, c1, c2, c3⟩ := HBX3.out.cells
        obtain ⟨hE3, hal⟩ := dbox w3 (.slice a6 n6 c6) (.slice b6 m6 d6) s t
        have hE4lt := hE3.lt
        have hO4 := HO3.out.below hal
        have hD4 := HD3.out.below hal HD3.out.lt
        have hB4x := HBX3.out.below hal HBX3.out.lt
        have hC4 := HC3.out.below hal
        have hP4 := HP3.out.below hal
        have hB4 := below_next HB3.out hal
        have hs4 := hal.size
        have hs3x := HBX3.out.lt
        have hlo : Hid ((∀ q, (Value.slice a6 n6 c6).ownBlock = some q → q < w3.heap.size) ∧ ∀ q, (Value.slice b6 m6 d6).ownBlock = some q → q < w3.heap.size) := ⟨fun q hq => (World.ownsRow.lt HO3.out.1 q hq).2, fun q hq => (World.ownsRow.lt HO3.out.2.2.1 q hq).2⟩
        clear hal c0 c1 c2 c3
        go_upto_region 4 with (fail)
        generalize w3.alloc (.cells #[.slice a6 n6 c6, .slice b6 m6 d6, .int .i64 s, .int .i64 t] 25) = w4 at hE3 hE4lt hO4 hD4 hB4x hC4 hP4 hB4 hs4 ⊢
        have HO4 := keptI hO4
        have HE4 := keptI hE3
        have HD4 := keptI hD4
        have HBX4 := keptI hB4x
        have HC4 := keptI hC4
        have HP4 := keptI hP4
        have HB4 := keptI hB4
        clear hE3 hO4 hD4 hB4x hC4 hP4 hB4
        obtain ⟨c0, c1, c2, c3⟩ := HBX4.out.cells
        go_wp2_with fail
        refine (s_cellOfPlace w4 _ _ s t k C P HC4.out HP4.out).mono ?_
        rw [HFF.out]
        rintro e w5 ⟨rfl, hb5⟩
        have hs5 := hb5.size
        have HO5 := keptI (HO4.out.below hb5)
        have HE5 := keptI (HE4.out.below hb5 hE4lt)
        have HD5 := keptI (HD4.out.below hb5 HD4.out.lt)
        have HBX5 := keptI (HBX4.out.below hb5 HBX4.out.lt)
        have HB5 := keptI (below_next HB4.out hb5)
        clear hb5 c0 c1 c2 c3
        obtain ⟨y0, y1, y2, y3⟩ := HE5.out.cells
        obtain ⟨f0, f1, f2, f3⟩ := HD5.out.cells
        have z0 := HD5.out.free 0
        have z1 := HD5.out.free 1
        have z2 := HD5.out.free 2
        have z3 := HD5.out.free 3
        have hk := HD5.out.put4 (.slice a6 n6 c6) (.slice b6 m6 d6) (s) t
        have ho := (HO5.out.put4 (w.heap.size + 1) (by omega) (.slice a6 n6 c6) (.slice b6 m6 d6) (s) t).mono (show w.heap.size ≤ w2.heap.size from by omega)
        have hb := below_put4 HB5.out (w.heap.size + 1) (by omega) (.slice a6 n6 c6) (.slice b6 m6 d6) (s) t
        have FIN := keptI (And.intro hk (And.intro ho hb))
        clear hk ho hb
        go_wp2
        refine bodyPost_ret (results_row_tmpD rfl _ _ (w.heap.size + 1) _ _ _ _ rfl FIN.out.1 Try.underlying25 rfl (by kernel_rfl)) rfl ?_
        rw [HR.out]
        exact ⟨S3, a6, n6, c6, b6, m6, d6, rfl, FIN.out.2.1, FIN.out.2.2⟩
end Go.Proofs.Ytfgnckafpnobhaa
