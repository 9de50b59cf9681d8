
/- PanBy of both sides. -/
import Derived.Test.YtfgnckafpnobhaaDsk
import Derived.Deep.Cut
namespace Go.Proofs.Ytfgnckafpnobhaa
open Go.RowKit

theorem results_row_tmpD {P : Program} {fn : Func} {p u : Tmp} {ty : TypeId} (h : fn.results = #[.cell p ty, .tmp u]) (tmps : Array Value) (w : World) (g : Nat) (t : TypeId) (cs : Array Value) (fr : Nat × Nat) (d : TypeDesc)
    (hp : tmps.getD p undef = .pointer (some ⟨g, 0, none⟩)) (hg : w.heap[g]? = some (.cells cs t fr))
    (hu : P.underlying ty = some d) (hd : (match d with | .struct _ | .array _ _ => true | _ => false) = true) (hi : (P.info? ty).map (·.size) = some cs.size) :
    (results fn tmps).run P w = .ok (.tuple #[.agg cs, tmps.getD u undef]) w := by
  have hp' : tmps[p]?.getD undef = .pointer (some ⟨g, 0, none⟩) := by simpa using hp
  simp [results, h, hp', asAddr, run_loadVar_row w g t ty cs fr d hg hu hd hi]
abbrev put4 (w : World) (g : Nat) (c p : Value) (s t : Int) : World := (((w.setCell ⟨g, 0, none⟩ c).setCell ⟨g, 1, none⟩ p).setCell ⟨g, 2, none⟩ (.int .i64 s)).setCell ⟨g, 3, none⟩ (.int .i64 t)
theorem BoxD.put4 {w : World} {g : Nat} {c p : Value} {s t : Int} (h : BoxD w g c p s t) (c' p' : Value) (s' t' : Int) : BoxD (Go.Proofs.Ytfgnckafpnobhaa.put4 w g c' p' s' t') g c' p' s' t' := (((h.set0 c').set1 p').set2 s').set3 t'
theorem DspOwn.put4 {w : World} {B S : Nat} {c p : Value} {C P : List Int} (h : DspOwn w B S c p C P) (g : Nat) (hg : g < B) (c' p' : Value) (s' t' : Int) : DspOwn (Go.Proofs.Ytfgnckafpnobhaa.put4 w g c' p' s' t') B S c p C P :=
  h.of_block (by simp [World.setCell]) fun k hk _ => by
    have e : k ≠ g := by omega
    exact (heap_setCell_other _ ⟨g, 3, none⟩ k _ e).trans ((heap_setCell_other _ ⟨g, 2, none⟩ k _ e).trans ((heap_setCell_other _ ⟨g, 1, none⟩ k _ e).trans (heap_setCell_other _ ⟨g, 0, none⟩ k _ e)))
theorem below_put4 {B : Nat} {a w : World} (h : Below B a w) (g : Nat) (hg : B ≤ g) (c' p' : Value) (s' t' : Int) : Below B a (Go.Proofs.Ytfgnckafpnobhaa.put4 w g c' p' s' t') :=
  (((h.setCell (p := ⟨g, 0, none⟩) hg c').setCell (p := ⟨g, 1, none⟩) hg p').setCell (p := ⟨g, 2, none⟩) hg (.int .i64 s')).setCell (p := ⟨g, 3, none⟩) hg (.int .i64 t')
theorem DspOwn.nil (w : World) (B : Nat) (hB : B ≤ w.heap.size) : DspOwn w B B (.slice none 0 0) (.slice none 0 0) [] [] :=
  ⟨OwnInts.nil _ _, fun k hk => by simp [Value.ownBlock] at hk, OwnInts.nil _ _, Nat.le_refl _, hB⟩
/-- a call's answer: a display of its own, and whether it could be made -/
def DspAns (C P : List Int) (s t : Int) (ok : Bool) (w : World) (e : Ending) (w' : World) : Prop :=
  ∃ S a n c b m d, e = .returned (.tuple #[dspV (.slice a n c) (.slice b m d) s t, .bool ok]) ∧ DspOwn w' w.heap.size S (.slice a n c) (.slice b m d) C P ∧ Below w.heap.size w w'
/-- the display moved -/
structure DA where
  C : List Int
  P : List Int
  s : Int
  t : Int
  ok : Bool
def PanIs (C P : List Int) (s t k : Int) (r : DA) : Prop :=
  ((VDp C P s t ∧ (k = 1 ∨ k = -1)) ∧ ((Wn (s + k * t) 0 ((C.length : Int) - 1) ∧ r = ⟨C, P, s + k * t, t, true⟩) ∨ (¬ Wn (s + k * t) 0 ((C.length : Int) - 1) ∧ r = ⟨C, P, s, t, false⟩))) ∨ (¬ (VDp C P s t ∧ (k = 1 ∨ k = -1)) ∧ r = ⟨[], [], 0, 0, false⟩)
theorem panIs_any (C P : List Int) (s t k : Int) : ∃ r, PanIs C P s t k r := by
  by_cases h : VDp C P s t ∧ (k = 1 ∨ k = -1)
  · by_cases h2 : Wn (s + k * t) 0 ((C.length : Int) - 1)
    · exact ⟨_, .inl ⟨h, .inl ⟨h2, rfl⟩⟩⟩
    · exact ⟨_, .inl ⟨h, .inr ⟨h2, rfl⟩⟩⟩
  · exact ⟨_, .inr ⟨h, rfl⟩⟩
set_option maxRecDepth 20000 in
set_option maxHeartbeats 8000000 in
theorem i_PanBy (w : World) (g n h m : Nat) (s t k : Int) (C P : List Int) (r : DA) (hC : IntsAt w (.slice (some ⟨g, 0, none⟩) n n) C) (hP : IntsAt w (.slice (some ⟨h, 0, none⟩) m m) P) (hs : -9223372036854775808 ≤ s ∧ s ≤ 9223372036854775807) (ht : -9223372036854775808 ≤ t ∧ t ≤ 9223372036854775807) (hr : Hid (PanIs C P s t k r)) :
    Calls Try.prog 25 #[dspV (.slice (some ⟨g, 0, none⟩) n n) (.slice (some ⟨h, 0, none⟩) m m) s t, .int .i64 k] w fun e w' => DspAns r.C r.P r.s r.t r.ok w e w' := by
  have hn : C.length = n := by obtain ⟨_, _, e, _⟩ := hC; injection e with _ e _; exact e.symm
  have hm : P.length = m := by obtain ⟨_, _, e, _⟩ := hP; injection e with _ e _; exact e.symm
  have HN := Lib.hid hn
  obtain ⟨hB, hbx⟩ := dbox w (.slice (some ⟨g, 0, none⟩) n n) (.slice (some ⟨h, 0, none⟩) m m) s t
  obtain ⟨hD, hbx1⟩ := dbox (w.alloc (dspO (.slice (some ⟨g, 0, none⟩) n n) (.slice (some ⟨h, 0, none⟩) m m) s t)) (.slice none 0 0) (.slice none 0 0) 0 0
  have hB := hB.alloc (dspO (.slice none 0 0) (.slice none 0 0) 0 0)
  have hbb := below_next hbx hbx1
  rw [World.size_alloc] at hD
  have hC0 := keptI hC
  have hP0 := keptI hP
  have HC := keptI (hC.below hbb)
  have HP := keptI (hP.below hbb)
  have HB := keptI hbb
  have HBX := keptI hB
  have HDX := keptI hD
  clear hC hP hbx hbx1 hbb hB hD hm hn
  by_cases hV : VDp C P s t
  rotate_left
  · have HV := kepD hV
    have HR : Hid (r = ⟨[], [], 0, 0, false⟩) := by rcases hr.out with h | h; exact absurd h.1.1 hV; exact h.2
    clear hV
    go_enter Try.func25, Try.ntmps25
    go_wp2_with fail
    generalize (w.alloc (.cells #[.slice (some ⟨g, 0, none⟩) n n, .slice (some ⟨h, 0, none⟩) m m, .int .i64 s, .int .i64 t] 25)).alloc (.cells #[.slice none 0 0, .slice none 0 0, .int .i64 0, .int .i64 0] 25) = wA at HC HP HB HBX HDX ⊢
    have hszA := HDX.out.lt
    obtain ⟨c0, c1, c2, c3⟩ := HBX.out.cells
    refine (i_ValidDisplay _ _ _ s t C P false HC.out HP.out hs ht ⟨fun e => (by cases e), fun h => absurd h HV.out⟩).mono ?_
    rintro e w2 ⟨rfl, hb2⟩
    have HC2 := keptI (HC.out.below hb2)
    have HP2 := keptI (HP.out.below hb2)
    have HBX2 := keptI (HBX.out.below hb2 HBX.out.lt)
    have HDX2 := keptI (HDX.out.below hb2 HDX.out.lt)
    have hsA2 := hb2.size
    have HB2 := keptI (below_next HB.out hb2)
    clear hb2 c0 c1 c2 c3
    obtain ⟨c0, c1, c2, c3⟩ := HBX2.out.cells
    clear c0 c1 c2 c3
    obtain ⟨f0, f1, f2, f3⟩ := HDX2.out.cells
    have z0 := HDX2.out.free 0
    have z1 := HDX2.out.free 1
    have z2 := HDX2.out.free 2
    have z3 := HDX2.out.free 3
    have hk := HDX2.out.put4 (.slice none 0 0) (.slice none 0 0) 0 0
    have hb := below_put4 HB2.out (w.heap.size + 1) (by omega) (.slice none 0 0) (.slice none 0 0) 0 0
    have FIN := keptI (And.intro hk hb)
    clear hk hb
    go_wp2
    refine bodyPost_ret (results_row_tmpD rfl _ _ (w.heap.size + 1) _ _ _ _ rfl FIN.out.1 Try.underlying25 rfl (by kernel_rfl)) rfl ?_
    rw [HR.out]
    exact ⟨w.heap.size, none, 0, 0, none, 0, 0, rfl, DspOwn.nil _ _ FIN.out.2.size, FIN.out.2⟩
  · have HV := kepD hV
    have hst := hV.start
    have h1t := hV.2.2.1
    have hl200 := hV.1.1
    have hm200 : m ≤ 200 := by have h1 := hV.2.1.1; obtain ⟨_, _, e, _⟩ := HP.out; injection e with _ e _; omega
    rw [HN.out] at hst hl200
    clear hV
    by_cases hk : k = 1 ∨ k = -1
    rotate_left
    · have HR : Hid (r = ⟨[], [], 0, 0, false⟩) := by rcases hr.out with h | h; exact absurd h.1.2 hk; exact h.2
      have e1 : (k == 1) = false := by simp; omega
      have e2 : (k != 1) = true := by simp [bne]; omega
      have e3 : decide (k = 1) = false := decide_eq_false (by omega)
      have e4 : (k == -1) = false := by simp; omega
      have e5 : (k != -1) = true := by simp [bne]; omega
      have e6 : decide (k = -1) = false := decide_eq_false (by omega)
      clear hk hst
      go_enter Try.func25, Try.ntmps25
      go_wp2_with fail
      generalize (w.alloc (.cells #[.slice (some ⟨g, 0, none⟩) n n, .slice (some ⟨h, 0, none⟩) m m, .int .i64 s, .int .i64 t] 25)).alloc (.cells #[.slice none 0 0, .slice none 0 0, .int .i64 0, .int .i64 0] 25) = wA at HC HP HB HBX HDX ⊢
      have hszA := HDX.out.lt
      obtain ⟨c0, c1, c2, c3⟩ := HBX.out.cells
      refine (i_ValidDisplay _ _ _ s t C P true HC.out HP.out hs ht ⟨fun _ => HV.out, fun _ => rfl⟩).mono ?_
      rintro e w2 ⟨rfl, hb2⟩
      have HC2 := keptI (HC.out.below hb2)
      have HP2 := keptI (HP.out.below hb2)
      have HBX2 := keptI (HBX.out.below hb2 HBX.out.lt)
      have HDX2 := keptI (HDX.out.below hb2 HDX.out.lt)
      have hsA2 := hb2.size
      have HB2 := keptI (below_next HB.out hb2)
      clear hb2 c0 c1 c2 c3
      obtain ⟨c0, c1, c2, c3⟩ := HBX2.out.cells
      clear c0 c1 c2 c3
      obtain ⟨f0, f1, f2, f3⟩ := HDX2.out.cells
      have z0 := HDX2.out.free 0
      have z1 := HDX2.out.free 1
      have z2 := HDX2.out.free 2
      have z3 := HDX2.out.free 3
      have hk := HDX2.out.put4 (.slice none 0 0) (.slice none 0 0) 0 0
      have hb := below_put4 HB2.out (w.heap.size + 1) (by omega) (.slice none 0 0) (.slice none 0 0) 0 0
      have FIN := keptI (And.intro hk hb)
      clear hk hb
      go_wp2
      refine bodyPost_ret (results_row_tmpD rfl _ _ (w.heap.size + 1) _ _ _ _ rfl FIN.out.1 Try.underlying25 rfl (by kernel_rfl)) rfl ?_
      rw [HR.out]
      exact ⟨w.heap.size, none, 0, 0, none, 0, 0, rfl, DspOwn.nil _ _ FIN.out.2.size, FIN.out.2⟩
    · obtain ⟨X, hX⟩ : ∃ X, k * t = X := ⟨_, rfl⟩
      have hXb : -40 ≤ X ∧ X ≤ 40 := by rcases hk with rfl | rfl <;> omega
      obtain ⟨Y, hY⟩ : ∃ Y, s + X = Y := ⟨_, rfl⟩
      have u1 : IntKind.i64.wrap X = X := IntWalk.i64_in _ (by omega)
      have u2 : IntKind.i64.wrap Y = Y := IntWalk.i64_in _ (by omega)
      have u3 : IntKind.i64.wrap ((n : Int) - 1) = (n : Int) - 1 := IntWalk.i64_in _ (by omega)
      have hE : (k = 1 ∧ (k == 1) = true ∧ (k != 1) = false ∧ decide (k = 1) = true) ∨ (k = -1 ∧ (k == 1) = false ∧ (k != 1) = true ∧ decide (k = 1) = false ∧ (k == -1) = true ∧ (k != -1) = false ∧ decide (k = -1) = true) := by
        rcases hk with rfl | rfl
        · exact .inl (by decide)
        · exact .inr (by decide)
      by_cases hW : Wn Y 0 ((n : Int) - 1)
      · have HW := kepD hW
        have HR : Hid (r = ⟨C, P, Y, t, true⟩) := by
          show r = _
          rcases hr.out with h | h
          · rcases h.2 with h2 | h2
            · rw [h2.2, hX, hY]
            · exact absurd (by rw [hX, hY, HN.out]; exact hW) h2.1
          · exact absurd ⟨HV.out, hk⟩ h.1
        clear hW hk
        rcases hE with ⟨hk1, e1, e2, e3⟩ | ⟨hk1, e1, e2, e3, e4, e5, e6⟩
        · skip
          have HX := Lib.hid hX
          clear hk1 hst
          go_enter Try.func25, Try.ntmps25
          go_wp2_with fail
          generalize (w.alloc (.cells #[.slice (some ⟨g, 0, none⟩) n n, .slice (some ⟨h, 0, none⟩) m m, .int .i64 s, .int .i64 t] 25)).alloc (.cells #[.slice none 0 0, .slice none 0 0, .int .i64 0, .int .i64 0] 25) = wA at HC HP HB HBX HDX ⊢
          have hszA := HDX.out.lt
          obtain ⟨c0, c1, c2, c3⟩ := HBX.out.cells
          refine (i_ValidDisplay _ _ _ s t C P true HC.out HP.out hs ht ⟨fun _ => HV.out, fun _ => rfl⟩).mono ?_
          rintro e w2 ⟨rfl, hb2⟩
          have HC2 := keptI (HC.out.below hb2)
          have HP2 := keptI (HP.out.below hb2)
          have HBX2 := keptI (HBX.out.below hb2 HBX.out.lt)
          have HDX2 := keptI (HDX.out.below hb2 HDX.out.lt)
          have hsA2 := hb2.size
          have HB2 := keptI (below_next HB.out hb2)
          clear hb2 c0 c1 c2 c3
          obtain ⟨c0, c1, c2, c3⟩ := HBX2.out.cells
          go_wp2_with fail
          refine (i_within_d Y 0 ((n : Int) - 1) _ true ⟨fun _ => HW.out, fun _ => rfl⟩).mono ?_
          rintro e w' ⟨rfl, rfl⟩
          go_wp2_with fail
          refine (i_displayAt w2 g n h m s t Y C P HC2.out HP2.out (by omega) (by omega)).mono ?_
          rintro e w3 ⟨S3, a6, n6, c6, b6, m6, d6, rfl, hO3, hb3⟩
          have HD3 := keptI (HDX2.out.below hb3 HDX2.out.lt)
          have HO3 := keptI hO3
          have hs3 := hb3.size
          have HB3 := keptI (below_next HB2.out hb3)
          clear hb3 hO3 c0 c1 c2 c3
          obtain ⟨f0, f1, f2, f3⟩ := HD3.out.cells
          have z0 := HD3.out.free 0
          have z1 := HD3.out.free 1
          have z2 := HD3.out.free 2
          have z3 := HD3.out.free 3
          have hk := HD3.out.put4 (.slice a6 n6 c6) (.slice b6 m6 d6) (Y) t
          have ho := (HO3.out.put4 (w.heap.size + 1) (by omega) (.slice a6 n6 c6) (.slice b6 m6 d6) (Y) t).mono (show w.heap.size ≤ w2.heap.size from by omega)
          have hb := below_put4 HB3.out (w.heap.size + 1) (by omega) (.slice a6 n6 c6) (.slice b6 m6 d6) (Y) t
          have FIN := keptI (And.intro hk (And.intro ho hb))
          clear hk ho hb
          go_wp2
          refine bodyPost_ret (results_row_tmpD rfl _ _ (w.heap.size + 1) _ _ _ _ rfl FIN.out.1 Try.underlying25 rfl (by kernel_rfl)) rfl ?_
          rw [HR.out]
          exact ⟨S3, a6, n6, c6, b6, m6, d6, rfl, FIN.out.2.1, FIN.out.2.2⟩
        · skip
          have HX := Lib.hid hX
          clear hk1 hst
          go_enter Try.func25, Try.ntmps25
          go_wp2_with fail
          generalize (w.alloc (.cells #[.slice (some ⟨g, 0, none⟩) n n, .slice (some ⟨h, 0, none⟩) m m, .int .i64 s, .int .i64 t] 25)).alloc (.cells #[.slice none 0 0, .slice none 0 0, .int .i64 0, .int .i64 0] 25) = wA at HC HP HB HBX HDX ⊢
          have hszA := HDX.out.lt
          obtain ⟨c0, c1, c2, c3⟩ := HBX.out.cells
          refine (i_ValidDisplay _ _ _ s t C P true HC.out HP.out hs ht ⟨fun _ => HV.out, fun _ => rfl⟩).mono ?_
          rintro e w2 ⟨rfl, hb2⟩
          have HC2 := keptI (HC.out.below hb2)
          have HP2 := keptI (HP.out.below hb2)
          have HBX2 := keptI (HBX.out.below hb2 HBX.out.lt)
          have HDX2 := keptI (HDX.out.below hb2 HDX.out.lt)
          have hsA2 := hb2.size
          have HB2 := keptI (below_next HB.out hb2)
          clear hb2 c0 c1 c2 c3
          obtain ⟨c0, c1, c2, c3⟩ := HBX2.out.cells
          go_wp2_with fail
          refine (i_within_d Y 0 ((n : Int) - 1) _ true ⟨fun _ => HW.out, fun _ => rfl⟩).mono ?_
          rintro e w' ⟨rfl, rfl⟩
          go_wp2_with fail
          refine (i_displayAt w2 g n h m s t Y C P HC2.out HP2.out (by omega) (by omega)).mono ?_
          rintro e w3 ⟨S3, a6, n6, c6, b6, m6, d6, rfl, hO3, hb3⟩
          have HD3 := keptI (HDX2.out.below hb3 HDX2.out.lt)
          have HO3 := keptI hO3
          have hs3 := hb3.size
          have HB3 := keptI (below_next HB2.out hb3)
          clear hb3 hO3 c0 c1 c2 c3
          obtain ⟨f0, f1, f2, f3⟩ := HD3.out.cells
          have z0 := HD3.out.free 0
          have z1 := HD3.out.free 1
          have z2 := HD3.out.free 2
          have z3 := HD3.out.free 3
          have hk := HD3.out.put4 (.slice a6 n6 c6) (.slice b6 m6 d6) (Y) t
          have ho := (HO3.out.put4 (w.heap.size + 1) (by omega) (.slice a6 n6 c6) (.slice b6 m6 d6) (Y) t).mono (show w.heap.size ≤ w2.heap.size from by omega)
          have hb := below_put4 HB3.out (w.heap.size + 1) (by omega) (.slice a6 n6 c6) (.slice b6 m6 d6) (Y) t
          have FIN := keptI (And.intro hk (And.intro ho hb))
          clear hk ho hb
          go_wp2
          refine bodyPost_ret (results_row_tmpD rfl _ _ (w.heap.size + 1) _ _ _ _ rfl FIN.out.1 Try.underlying25 rfl (by kernel_rfl)) rfl ?_
          rw [HR.out]
          exact ⟨S3, a6, n6, c6, b6, m6, d6, rfl, FIN.out.2.1, FIN.out.2.2⟩
      · have HW := kepD hW
        have HR : Hid (r = ⟨C, P, s, t, false⟩) := by
          show r = _
          rcases hr.out with h | h
          · rcases h.2 with h2 | h2
            · exact absurd (by have h3 := h2.1; rw [hX, hY, HN.out] at h3; exact h3) hW
            · exact h2.2
          · exact absurd ⟨HV.out, hk⟩ h.1
        clear hW hk
        rcases hE with ⟨hk1, e1, e2, e3⟩ | ⟨hk1, e1, e2, e3, e4, e5, e6⟩
        · skip
          have HX := Lib.hid hX
          clear hk1 hst
          go_enter Try.func25, Try.ntmps25
          go_wp2_with fail
          generalize (w.alloc (.cells #[.slice (some ⟨g, 0, none⟩) n n, .slice (some ⟨h, 0, none⟩) m m, .int .i64 s, .int .i64 t] 25)).alloc (.cells #[.slice none 0 0, .slice none 0 0, .int .i64 0, .int .i64 0] 25) = wA at HC HP HB HBX HDX ⊢
          have hszA := HDX.out.lt
          obtain ⟨c0, c1, c2, c3⟩ := HBX.out.cells
          refine (i_ValidDisplay _ _ _ s t C P true HC.out HP.out hs ht ⟨fun _ => HV.out, fun _ => rfl⟩).mono ?_
          rintro e w2 ⟨rfl, hb2⟩
          have HC2 := keptI (HC.out.below hb2)
          have HP2 := keptI (HP.out.below hb2)
          have HBX2 := keptI (HBX.out.below hb2 HBX.out.lt)
          have HDX2 := keptI (HDX.out.below hb2 HDX.out.lt)
          have hsA2 := hb2.size
          have HB2 := keptI (below_next HB.out hb2)
          clear hb2 c0 c1 c2 c3
          obtain ⟨c0, c1, c2, c3⟩ := HBX2.out.cells
          go_wp2_with fail
          refine (i_within_d Y 0 ((n : Int) - 1) _ false ⟨fun e => (by cases e), fun h => absurd h HW.out⟩).mono ?_
          rintro e w' ⟨rfl, rfl⟩
          go_wp2_with fail
          refine (i_displayAt w2 g n h m s t s C P HC2.out HP2.out (by omega) (by omega)).mono ?_
          rintro e w3 ⟨S3, a6, n6, c6, b6, m6, d6, rfl, hO3, hb3⟩
          have HD3 := keptI (HDX2.out.below hb3 HDX2.out.lt)
          have HO3 := keptI hO3
          have hs3 := hb3.size
          have HB3 := keptI (below_next HB2.out hb3)
          clear hb3 hO3 c0 c1 c2 c3
          obtain ⟨f0, f1, f2, f3⟩ := HD3.out.cells
          have z0 := HD3.out.free 0
          have z1 := HD3.out.free 1
          have z2 := HD3.out.free 2
          have z3 := HD3.out.free 3
          have hk := HD3.out.put4 (.slice a6 n6 c6) (.slice b6 m6 d6) (s) t
          have ho := (HO3.out.put4 (w.heap.size + 1) (by omega) (.slice a6 n6 c6) (.slice b6 m6 d6) (s) t).mono (show w.heap.size ≤ w2.heap.size from by omega)
          have hb := below_put4 HB3.out (w.heap.size + 1) (by omega) (.slice a6 n6 c6) (.slice b6 m6 d6) (s) t
          have FIN := keptI (And.intro hk (And.intro ho hb))
          clear hk ho hb
          go_wp2
          refine bodyPost_ret (results_row_tmpD rfl _ _ (w.heap.size + 1) _ _ _ _ rfl FIN.out.1 Try.underlying25 rfl (by kernel_rfl)) rfl ?_
          rw [HR.out]
          exact ⟨S3, a6, n6, c6, b6, m6, d6, rfl, FIN.out.2.1, FIN.out.2.2⟩
        · skip
          have HX := Lib.hid hX
          clear hk1 hst
          go_enter Try.func25, Try.ntmps25
          go_wp2_with fail
          generalize (w.alloc (.cells #[.slice (some ⟨g, 0, none⟩) n n, .slice (some ⟨h, 0, none⟩) m m, .int .i64 s, .int .i64 t] 25)).alloc (.cells #[.slice none 0 0, .slice none 0 0, .int .i64 0, .int .i64 0] 25) = wA at HC HP HB HBX HDX ⊢
          have hszA := HDX.out.lt
          obtain ⟨c0, c1, c2, c3⟩ := HBX.out.cells
          refine (i_ValidDisplay _ _ _ s t C P true HC.out HP.out hs ht ⟨fun _ => HV.out, fun _ => rfl⟩).mono ?_
          rintro e w2 ⟨rfl, hb2⟩
          have HC2 := keptI (HC.out.below hb2)
          have HP2 := keptI (HP.out.below hb2)
          have HBX2 := keptI (HBX.out.below hb2 HBX.out.lt)
          have HDX2 := keptI (HDX.out.below hb2 HDX.out.lt)
          have hsA2 := hb2.size
          have HB2 := keptI (below_next HB.out hb2)
          clear hb2 c0 c1 c2 c3
          obtain ⟨c0, c1, c2, c3⟩ := HBX2.out.cells
          go_wp2_with fail
          refine (i_within_d Y 0 ((n : Int) - 1) _ false ⟨fun e => (by cases e), fun h => absurd h HW.out⟩).mono ?_
          rintro e w' ⟨rfl, rfl⟩
          go_wp2_with fail
          refine (i_displayAt w2 g n h m s t s C P HC2.out HP2.out (by omega) (by omega)).mono ?_
          rintro e w3 ⟨S3, a6, n6, c6, b6, m6, d6, rfl, hO3, hb3⟩
          have HD3 := keptI (HDX2.out.below hb3 HDX2.out.lt)
          have HO3 := keptI hO3
          have hs3 := hb3.size
          have HB3 := keptI (below_next HB2.out hb3)
          clear hb3 hO3 c0 c1 c2 c3
          obtain ⟨f0, f1, f2, f3⟩ := HD3.out.cells
          have z0 := HD3.out.free 0
          have z1 := HD3.out.free 1
          have z2 := HD3.out.free 2
          have z3 := HD3.out.free 3
          have hk := HD3.out.put4 (.slice a6 n6 c6) (.slice b6 m6 d6) (s) t
          have ho := (HO3.out.put4 (w.heap.size + 1) (by omega) (.slice a6 n6 c6) (.slice b6 m6 d6) (s) t).mono (show w.heap.size ≤ w2.heap.size from by omega)
          have hb := below_put4 HB3.out (w.heap.size + 1) (by omega) (.slice a6 n6 c6) (.slice b6 m6 d6) (s) t
          have FIN := keptI (And.intro hk (And.intro ho hb))
          clear hk ho hb
          go_wp2
          refine bodyPost_ret (results_row_tmpD rfl _ _ (w.heap.size + 1) _ _ _ _ rfl FIN.out.1 Try.underlying25 rfl (by kernel_rfl)) rfl ?_
          rw [HR.out]
          exact ⟨S3, a6, n6, c6, b6, m6, d6, rfl, FIN.out.2.1, FIN.out.2.2⟩
set_option maxRecDepth 20000 in
set_option maxHeartbeats 8000000 in
theorem s_PanBy (w : World) (g n h m : Nat) (s t k : Int) (C P : List Int) (r : DA) (hC : IntsAt w (.slice (some ⟨g, 0, none⟩) n n) C) (hP : IntsAt w (.slice (some ⟨h, 0, none⟩) m m) P) (hs : -9223372036854775808 ≤ s ∧ s ≤ 9223372036854775807) (ht : -9223372036854775808 ≤ t ∧ t ≤ 9223372036854775807) (hr : Hid (PanIs C P s t k r)) :
    Calls Try.prog 26 #[dspV (.slice (some ⟨g, 0, none⟩) n n) (.slice (some ⟨h, 0, none⟩) m m) s t, .int .i64 k] w fun e w' => DspAns r.C r.P r.s r.t r.ok w e w' := by
  have hn : C.length = n := by obtain ⟨_, _, e, _⟩ := hC; injection e with _ e _; exact e.symm
  have hm : P.length = m := by obtain ⟨_, _, e, _⟩ := hP; injection e with _ e _; exact e.symm
  have HN := Lib.hid hn
  obtain ⟨hB, hbx⟩ := dbox w (.slice (some ⟨g, 0, none⟩) n n) (.slice (some ⟨h, 0, none⟩) m m) s t
  obtain ⟨hD, hbx1⟩ := dbox (w.alloc (dspO (.slice (some ⟨g, 0, none⟩) n n) (.slice (some ⟨h, 0, none⟩) m m) s t)) (.slice none 0 0) (.slice none 0 0) 0 0
  have hB := hB.alloc (dspO (.slice none 0 0) (.slice none 0 0) 0 0)
  have hbb := below_next hbx hbx1
  rw [World.size_alloc] at hD
  have hC0 := keptI hC
  have hP0 := keptI hP
  have HC := keptI (hC.below hbb)
  have HP := keptI (hP.below hbb)
  have HB := keptI hbb
  have HBX := keptI hB
  have HDX := keptI hD
  clear hC hP hbx hbx1 hbb hB hD hm hn
  by_cases hV : VDp C P s t
  rotate_left
  · have HV := kepD hV
    have HR : Hid (r = ⟨[], [], 0, 0, false⟩) := by rcases hr.out with h | h; exact absurd h.1.1 hV; exact h.2
    clear hV
    go_enter Try.func26, Try.ntmps26
    go_wp2_with fail
    generalize (w.alloc (.cells #[.slice (some ⟨g, 0, none⟩) n n, .slice (some ⟨h, 0, none⟩) m m, .int .i64 s, .int .i64 t] 25)).alloc (.cells #[.slice none 0 0, .slice none 0 0, .int .i64 0, .int .i64 0] 25) = wA at HC HP HB HBX HDX ⊢
    have hszA := HDX.out.lt
    obtain ⟨c0, c1, c2, c3⟩ := HBX.out.cells
    refine (s_validDisplay _ _ _ s t C P false HC.out HP.out hs ht ⟨fun e => (by cases e), fun h => absurd h HV.out⟩).mono ?_
    rintro e w2 ⟨rfl, hb2⟩
    have HC2 := keptI (HC.out.below hb2)
    have HP2 := keptI (HP.out.below hb2)
    have HBX2 := keptI (HBX.out.below hb2 HBX.out.lt)
    have HDX2 := keptI (HDX.out.below hb2 HDX.out.lt)
    have hsA2 := hb2.size
    have HB2 := keptI (below_next HB.out hb2)
    clear hb2 c0 c1 c2 c3
    obtain ⟨c0, c1, c2, c3⟩ := HBX2.out.cells
    clear c0 c1 c2 c3
    obtain ⟨f0, f1, f2, f3⟩ := HDX2.out.cells
    have z0 := HDX2.out.free 0
    have z1 := HDX2.out.free 1
    have z2 := HDX2.out.free 2
    have z3 := HDX2.out.free 3
    have hk := HDX2.out.put4 (.slice none 0 0) (.slice none 0 0) 0 0
    have hb := below_put4 HB2.out (w.heap.size + 1) (by omega) (.slice none 0 0) (.slice none 0 0) 0 0
    have FIN := keptI (And.intro hk hb)
    clear hk hb
    go_wp2
    refine bodyPost_ret (results_row_tmpD rfl _ _ (w.heap.size + 1) _ _ _ _ rfl FIN.out.1 Try.underlying25 rfl (by kernel_rfl)) rfl ?_
    rw [HR.out]
    exact ⟨w.heap.size, none, 0, 0, none, 0, 0, rfl, DspOwn.nil _ _ FIN.out.2.size, FIN.out.2⟩
  · have HV := kepD hV
    have hst := hV.start
    have h1t := hV.2.2.1
    have hl200 := hV.1.1
    have hm200 : m ≤ 200 := by have h1 := hV.2.1.1; obtain ⟨_, _, e, _⟩ := HP.out; injection e with _ e _; omega
    rw [HN.out] at hst hl200
    clear hV
    by_cases hk : k = 1 ∨ k = -1
    rotate_left
    · have HR : Hid (r = ⟨[], [], 0, 0, false⟩) := by rcases hr.out with h | h; exact absurd h.1.2 hk; exact h.2
      have e1 : (k == 1) = false := by simp; omega
      have e2 : (k != 1) = true := by simp [bne]; omega
      have e3 : decide (k = 1) = false := decide_eq_false (by omega)
      have e4 : (k == -1) = false := by simp; omega
      have e5 : (k != -1) = true := by simp [bne]; omega
      have e6 : decide (k = -1) = false := decide_eq_false (by omega)
      clear hk hst
      go_enter Try.func26, Try.ntmps26
      go_wp2_with fail
      generalize (w.alloc (.cells #[.slice (some ⟨g, 0, none⟩) n n, .slice (some ⟨h, 0, none⟩) m m, .int .i64 s, .int .i64 t] 25)).alloc (.cells #[.slice none 0 0, .slice none 0 0, .int .i64 0, .int .i64 0] 25) = wA at HC HP HB HBX HDX ⊢
      have hszA := HDX.out.lt
      obtain ⟨c0, c1, c2, c3⟩ := HBX.out.cells
      refine (s_validDisplay _ _ _ s t C P true HC.out HP.out hs ht ⟨fun _ => HV.out, fun _ => rfl⟩).mono ?_
      rintro e w2 ⟨rfl, hb2⟩
      have HC2 := keptI (HC.out.below hb2)
      have HP2 := keptI (HP.out.below hb2)
      have HBX2 := keptI (HBX.out.below hb2 HBX.out.lt)
      have HDX2 := keptI (HDX.out.below hb2 HDX.out.lt)
      have hsA2 := hb2.size
      have HB2 := keptI (below_next HB.out hb2)
      clear hb2 c0 c1 c2 c3
      obtain ⟨c0, c1, c2, c3⟩ := HBX2.out.cells
      clear c0 c1 c2 c3
      obtain ⟨f0, f1, f2, f3⟩ := HDX2.out.cells
      have z0 := HDX2.out.free 0
      have z1 := HDX2.out.free 1
      have z2 := HDX2.out.free 2
      have z3 := HDX2.out.free 3
      have hk := HDX2.out.put4 (.slice none 0 0) (.slice none 0 0) 0 0
      have hb := below_put4 HB2.out (w.heap.size + 1) (by omega) (.slice none 0 0) (.slice none 0 0) 0 0
      have FIN := keptI (And.intro hk hb)
      clear hk hb
      go_wp2
      refine bodyPost_ret (results_row_tmpD rfl _ _ (w.heap.size + 1) _ _ _ _ rfl FIN.out.1 Try.underlying25 rfl (by kernel_rfl)) rfl ?_
      rw [HR.out]
      exact ⟨w.heap.size, none, 0, 0, none, 0, 0, rfl, DspOwn.nil _ _ FIN.out.2.size, FIN.out.2⟩
    · obtain ⟨X, hX⟩ : ∃ X, k * t = X := ⟨_, rfl⟩
      have hXb : -40 ≤ X ∧ X ≤ 40 := by rcases hk with rfl | rfl <;> omega
      obtain ⟨Y, hY⟩ : ∃ Y, s + X = Y := ⟨_, rfl⟩
      have u1 : IntKind.i64.wrap X = X := IntWalk.i64_in _ (by omega)
      have u2 : IntKind.i64.wrap Y = Y := IntWalk.i64_in _ (by omega)
      have u3 : IntKind.i64.wrap ((n : Int) - 1) = (n : Int) - 1 := IntWalk.i64_in _ (by omega)
      have hE : (k = 1 ∧ (k == 1) = true ∧ (k != 1) = false ∧ decide (k = 1) = true) ∨ (k = -1 ∧ (k == 1) = false ∧ (k != 1) = true ∧ decide (k = 1) = false ∧ (k == -1) = true ∧ (k != -1) = false ∧ decide (k = -1) = true) := by
        rcases hk with rfl | rfl
        · exact .inl (by decide)
        · exact .inr (by decide)
      by_cases hW : Wn Y 0 ((n : Int) - 1)
      · have HW := kepD hW
        have HR : Hid (r = ⟨C, P, Y, t, true⟩) := by
          show r = _
          rcases hr.out with h | h
          · rcases h.2 with h2 | h2
            · rw [h2.2, hX, hY]
            · exact absurd (by rw [hX, hY, HN.out]; exact hW) h2.1
          · exact absurd ⟨HV.out, hk⟩ h.1
        clear hW hk
        rcases hE with ⟨hk1, e1, e2, e3⟩ | ⟨hk1, e1, e2, e3, e4, e5, e6⟩
        · skip
          have HX := Lib.hid hX
          clear hk1 hst
          go_enter Try.func26, Try.ntmps26
          go_wp2_with fail
          generalize (w.alloc (.cells #[.slice (some ⟨g, 0, none⟩) n n, .slice (some ⟨h, 0, none⟩) m m, .int .i64 s, .int .i64 t] 25)).alloc (.cells #[.slice none 0 0, .slice none 0 0, .int .i64 0, .int .i64 0] 25) = wA at HC HP HB HBX HDX ⊢
          have hszA := HDX.out.lt
          obtain ⟨c0, c1, c2, c3⟩ := HBX.out.cells
          refine (s_validDisplay _ _ _ s t C P true HC.out HP.out hs ht ⟨fun _ => HV.out, fun _ => rfl⟩).mono ?_
          rintro e w2 ⟨rfl, hb2⟩
          have HC2 := keptI (HC.out.below hb2)
          have HP2 := keptI (HP.out.below hb2)
          have HBX2 := keptI (HBX.out.below hb2 HBX.out.lt)
          have HDX2 := keptI (HDX.out.below hb2 HDX.out.lt)
          have hsA2 := hb2.size
          have HB2 := keptI (below_next HB.out hb2)
          clear hb2 c0 c1 c2 c3
          obtain ⟨c0, c1, c2, c3⟩ := HBX2.out.cells
          go_wp2_with fail
          refine (s_copyDisplay w2 g n h m s t C P HC2.out HP2.out (by omega) (by omega)).mono ?_
          rintro e w3 ⟨S3, a6, n6, c6, b6, m6, d6, rfl, hO3, hb3⟩
          have HD3 := keptI (HDX2.out.below hb3 HDX2.out.lt)
          have HBX3 := keptI (HBX2.out.below hb3 HBX2.out.lt)
          have HC3 := keptI (HC2.out.below hb3)
          have HP3 := keptI (HP2.out.below hb3)
          have HO3 := keptI hO3
          have hs3 := hb3.size
          have HB3 := keptI (below_next HB2.out hb3)
          clear hb3 hO3 c0 c1 c2 c3
          obtain ⟨c0, c1, c2, c3⟩ := HBX3.out.cells
          obtain ⟨hE3, hal⟩ := dbox w3 (.slice a6 n6 c6) (.slice b6 m6 d6) s t
          have hE4lt := hE3.lt
          have hO4 := HO3.out.below hal
          have hD4 := HD3.out.below hal HD3.out.lt
          have hB4x := HBX3.out.below hal HBX3.out.lt
          have hC4 := HC3.out.below hal
          have hP4 := HP3.out.below hal
          have hB4 := below_next HB3.out hal
          have hs4 := hal.size
          have hs3x := HBX3.out.lt
          have hlo : Hid ((∀ q, (Value.slice a6 n6 c6).ownBlock = some q → q < w3.heap.size) ∧ ∀ q, (Value.slice b6 m6 d6).ownBlock = some q → q < w3.heap.size) := ⟨fun q hq => (World.ownsRow.lt HO3.out.1 q hq).2, fun q hq => (World.ownsRow.lt HO3.out.2.2.1 q hq).2⟩
          clear hal c0 c1 c2 c3
          go_upto_region 4 with (fail)
          generalize w3.alloc (.cells #[.slice a6 n6 c6, .slice b6 m6 d6, .int .i64 s, .int .i64 t] 25) = w4 at hE3 hE4lt hO4 hD4 hB4x hC4 hP4 hB4 hs4 ⊢
          have HO4 := keptI hO4
          have HE4 := keptI hE3
          have HD4 := keptI hD4
          have HBX4 := keptI hB4x
          have HC4 := keptI hC4
          have HP4 := keptI hP4
          have HB4 := keptI hB4
          clear hE3 hO4 hD4 hB4x hC4 hP4 hB4
          obtain ⟨c0, c1, c2, c3⟩ := HBX4.out.cells
          obtain ⟨y0, y1, y2, y3⟩ := HE4.out.cells
          have yf := HE4.out.free 2
          have hs5 : w4.heap.size ≤ (w4.setCell ⟨w3.heap.size, 2, none⟩ (.int .i64 Y)).heap.size := by simp [World.setCell]
          have hE5 := HE4.out.set2 Y
          have hD5 := HD4.out.other w3.heap.size 2 (.int .i64 Y) (by omega)
          have hB5x := HBX4.out.other w3.heap.size 2 (.int .i64 Y) (by omega)
          have hB5 := HB4.out.setCell (p := ⟨w3.heap.size, 2, none⟩) (show w.heap.size ≤ w3.heap.size from by omega) (.int .i64 Y)
          have hO5 : DspOwn (w4.setCell ⟨w3.heap.size, 2, none⟩ (.int .i64 Y)) w2.heap.size S3 (.slice a6 n6 c6) (.slice b6 m6 d6) C P :=
            ⟨HO4.out.1.of_blockE (fun q hq => heap_setCell_other w4 ⟨w3.heap.size, 2, none⟩ q _ (by have := hlo.out.1 q hq; show q ≠ w3.heap.size; omega)), HO4.out.2.1, HO4.out.2.2.1.of_blockE (fun q hq => heap_setCell_other w4 ⟨w3.heap.size, 2, none⟩ q _ (by have := hlo.out.2 q hq; show q ≠ w3.heap.size; omega)), HO4.out.2.2.2.1, Nat.le_trans HO4.out.2.2.2.2 hs5⟩
          go_upto_region 5 with (fail)
          generalize w4.setCell ⟨w3.heap.size, 2, none⟩ (.int .i64 Y) = w5 at hE5 hD5 hB5x hB5 hO5 hs5 ⊢
          clear c0 c1 c2 c3 y0 y1 y2 y3 yf
          have HO5 := keptI hO5
          have HE5 := keptI hE5
          have HD5 := keptI hD5
          have HBX5 := keptI hB5x
          have HB5 := keptI hB5
          clear hE5 hD5 hB5x hB5 hO5
          obtain ⟨c0, c1, c2, c3⟩ := HBX5.out.cells
          obtain ⟨y0, y1, y2, y3⟩ := HE5.out.cells
          go_wp2_with fail
          refine (s_range_d Y 0 ((n : Int) - 1) _ true ⟨fun _ => HW.out, fun _ => rfl⟩).mono ?_
          rintro e w' ⟨rfl, rfl⟩
          obtain ⟨f0, f1, f2, f3⟩ := HD5.out.cells
          have z0 := HD5.out.free 0
          have z1 := HD5.out.free 1
          have z2 := HD5.out.free 2
          have z3 := HD5.out.free 3
          have hk := HD5.out.put4 (.slice a6 n6 c6) (.slice b6 m6 d6) (Y) t
          have ho := (HO5.out.put4 (w.heap.size + 1) (by omega) (.slice a6 n6 c6) (.slice b6 m6 d6) (Y) t).mono (show w.heap.size ≤ w2.heap.size from by omega)
          have hb := below_put4 HB5.out (w.heap.size + 1) (by omega) (.slice a6 n6 c6) (.slice b6 m6 d6) (Y) t
          have FIN := keptI (And.intro hk (And.intro ho hb))
          clear hk ho hb
          go_wp2
          refine bodyPost_ret (results_row_tmpD rfl _ _ (w.heap.size + 1) _ _ _ _ rfl FIN.out.1 Try.underlying25 rfl (by kernel_rfl)) rfl ?_
          rw [HR.out]
          exact ⟨S3, a6, n6, c6, b6, m6, d6, rfl, FIN.out.2.1, FIN.out.2.2⟩
        · skip
          have HX := Lib.hid hX
          clear hk1 hst
          go_enter Try.func26, Try.ntmps26
          go_wp2_with fail
          generalize (w.alloc (.cells #[.slice (some ⟨g, 0, none⟩) n n, .slice (some ⟨h, 0, none⟩) m m, .int .i64 s, .int .i64 t] 25)).alloc (.cells #[.slice none 0 0, .slice none 0 0, .int .i64 0, .int .i64 0] 25) = wA at HC HP HB HBX HDX ⊢
          have hszA := HDX.out.lt
          obtain ⟨c0, c1, c2, c3⟩ := HBX.out.cells
          refine (s_validDisplay _ _ _ s t C P true HC.out HP.out hs ht ⟨fun _ => HV.out, fun _ => rfl⟩).mono ?_
          rintro e w2 ⟨rfl, hb2⟩
          have HC2 := keptI (HC.out.below hb2)
          have HP2 := keptI (HP.out.below hb2)
          have HBX2 := keptI (HBX.out.below hb2 HBX.out.lt)
          have HDX2 := keptI (HDX.out.below hb2 HDX.out.lt)
          have hsA2 := hb2.size
          have HB2 := keptI (below_next HB.out hb2)
          clear hb2 c0 c1 c2 c3
          obtain ⟨c0, c1, c2, c3⟩ := HBX2.out.cells
          go_wp2_with fail
          refine (s_copyDisplay w2 g n h m s t C P HC2.out HP2.out (by omega) (by omega)).mono ?_
          rintro e w3 ⟨S3, a6, n6, c6, b6, m6, d6, rfl, hO3, hb3⟩
          have HD3 := keptI (HDX2.out.below hb3 HDX2.out.lt)
          have HBX3 := keptI (HBX2.out.below hb3 HBX2.out.lt)
          have HC3 := keptI (HC2.out.below hb3)
          have HP3 := keptI (HP2.out.below hb3)
          have HO3 := keptI hO3
          have hs3 := hb3.size
          have HB3 := keptI (below_next HB2.out hb3)
          clear hb3 hO3 c0 c1 c2 c3
          obtain ⟨c0, c1, c2, c3⟩ := HBX3.out.cells
          obtain ⟨hE3, hal⟩ := dbox w3 (.slice a6 n6 c6) (.slice b6 m6 d6) s t
          have hE4lt := hE3.lt
          have hO4 := HO3.out.below hal
          have hD4 := HD3.out.below hal HD3.out.lt
          have hB4x := HBX3.out.below hal HBX3.out.lt
          have hC4 := HC3.out.below hal
          have hP4 := HP3.out.below hal
          have hB4 := below_next HB3.out hal
          have hs4 := hal.size
          have hs3x := HBX3.out.lt
          have hlo : Hid ((∀ q, (Value.slice a6 n6 c6).ownBlock = some q → q < w3.heap.size) ∧ ∀ q, (Value.slice b6 m6 d6).ownBlock = some q → q < w3.heap.size) := ⟨fun q hq => (World.ownsRow.lt HO3.out.1 q hq).2, fun q hq => (World.ownsRow.lt HO3.out.2.2.1 q hq).2⟩
          clear hal c0 c1 c2 c3
          go_upto_region 4 with (fail)
          generalize w3.alloc (.cells #[.slice a6 n6 c6, .slice b6 m6 d6, .int .i64 s, .int .i64 t] 25) = w4 at hE3 hE4lt hO4 hD4 hB4x hC4 hP4 hB4 hs4 ⊢
          have HO4 := keptI hO4
          have HE4 := keptI hE3
          have HD4 := keptI hD4
          have HBX4 := keptI hB4x
          have HC4 := keptI hC4
          have HP4 := keptI hP4
          have HB4 := keptI hB4
          clear hE3 hO4 hD4 hB4x hC4 hP4 hB4
          obtain ⟨c0, c1, c2, c3⟩ := HBX4.out.cells
          obtain ⟨y0, y1, y2, y3⟩ := HE4.out.cells
          have yf := HE4.out.free 2
          have hs5 : w4.heap.size ≤ (w4.setCell ⟨w3.heap.size, 2, none⟩ (.int .i64 Y)).heap.size := by simp [World.setCell]
          have hE5 := HE4.out.set2 Y
          have hD5 := HD4.out.other w3.heap.size 2 (.int .i64 Y) (by omega)
          have hB5x := HBX4.out.other w3.heap.size 2 (.int .i64 Y) (by omega)
          have hB5 := HB4.out.setCell (p := ⟨w3.heap.size, 2, none⟩) (show w.heap.size ≤ w3.heap.size from by omega) (.int .i64 Y)
          have hO5 : DspOwn (w4.setCell ⟨w3.heap.size, 2, none⟩ (.int .i64 Y)) w2.heap.size S3 (.slice a6 n6 c6) (.slice b6 m6 d6) C P :=
            ⟨HO4.out.1.of_blockE (fun q hq => heap_setCell_other w4 ⟨w3.heap.size, 2, none⟩ q _ (by have := hlo.out.1 q hq; show q ≠ w3.heap.size; omega)), HO4.out.2.1, HO4.out.2.2.1.of_blockE (fun q hq => heap_setCell_other w4 ⟨w3.heap.size, 2, none⟩ q _ (by have := hlo.out.2 q hq; show q ≠ w3.heap.size; omega)), HO4.out.2.2.2.1, Nat.le_trans HO4.out.2.2.2.2 hs5⟩
          go_upto_region 5 with (fail)
          generalize w4.setCell ⟨w3.heap.size, 2, none⟩ (.int .i64 Y) = w5 at hE5 hD5 hB5x hB5 hO5 hs5 ⊢
          clear c0 c1 c2 c3 y0 y1 y2 y3 yf
          have HO5 := keptI hO5
          have HE5 := keptI hE5
          have HD5 := keptI hD5
          have HBX5 := keptI hB5x
          have HB5 := keptI hB5
          clear hE5 hD5 hB5x hB5 hO5
          obtain ⟨c0, c1, c2, c3⟩ := HBX5.out.cells
          obtain ⟨y0, y1, y2, y3⟩ := HE5.out.cells
          go_wp2_with fail
          refine (s_range_d Y 0 ((n : Int) - 1) _ true ⟨fun _ => HW.out, fun _ => rfl⟩).mono ?_
          rintro e w' ⟨rfl, rfl⟩
          obtain ⟨f0, f1, f2, f3⟩ := HD5.out.cells
          have z0 := HD5.out.free 0
          have z1 := HD5.out.free 1
          have z2 := HD5.out.free 2
          have z3 := HD5.out.free 3
          have hk := HD5.out.put4 (.slice a6 n6 c6) (.slice b6 m6 d6) (Y) t
          have ho := (HO5.out.put4 (w.heap.size + 1) (by omega) (.slice a6 n6 c6) (.slice b6 m6 d6) (Y) t).mono (show w.heap.size ≤ w2.heap.size from by omega)
          have hb := below_put4 HB5.out (w.heap.size + 1) (by omega) (.slice a6 n6 c6) (.slice b6 m6 d6) (Y) t
          have FIN := keptI (And.intro hk (And.intro ho hb))
          clear hk ho hb
          go_wp2
          refine bodyPost_ret (results_row_tmpD rfl _ _ (w.heap.size + 1) _ _ _ _ rfl FIN.out.1 Try.underlying25 rfl (by kernel_rfl)) rfl ?_
          rw [HR.out]
          exact ⟨S3, a6, n6, c6, b6, m6, d6, rfl, FIN.out.2.1, FIN.out.2.2⟩
      · have HW := kepD hW
        have HR : Hid (r = ⟨C, P, s, t, false⟩) := by
          show r = _
          rcases hr.out with h | h
          · rcases h.2 with h2 | h2
            · exact absurd (by have h3 := h2.1; rw [hX, hY, HN.out] at h3; exact h3) hW
            · exact h2.2
          · exact absurd ⟨HV.out, hk⟩ h.1
        clear hW hk
        rcases hE with ⟨hk1, e1, e2, e3⟩ | ⟨hk1, e1, e2, e3, e4, e5, e6⟩
        · skip
          have HX := Lib.hid hX
          clear hk1 hst
          go_enter Try.func26, Try.ntmps26
          go_wp2_with fail
          generalize (w.alloc (.cells #[.slice (some ⟨g, 0, none⟩) n n, .slice (some ⟨h, 0, none⟩) m m, .int .i64 s, .int .i64 t] 25)).alloc (.cells #[.slice none 0 0, .slice none 0 0, .int .i64 0, .int .i64 0] 25) = wA at HC HP HB HBX HDX ⊢
          have hszA := HDX.out.lt
          obtain ⟨c0, c1, c2, c3⟩ := HBX.out.cells
          refine (s_validDisplay _ _ _ s t C P true HC.out HP.out hs ht ⟨fun _ => HV.out, fun _ => rfl⟩).mono ?_
          rintro e w2 ⟨rfl, hb2⟩
          have HC2 := keptI (HC.out.below hb2)
          have HP2 := keptI (HP.out.below hb2)
          have HBX2 := keptI (HBX.out.below hb2 HBX.out.lt)
          have HDX2 := keptI (HDX.out.below hb2 HDX.out.lt)
          have hsA2 := hb2.size
          have HB2 := keptI (below_next HB.out hb2)
          clear hb2 c0 c1 c2 c3
          obtain ⟨c0, c1, c2, c3⟩ := HBX2.out.cells
          go_wp2_with fail
          refine (s_copyDisplay w2 g n h m s t C P HC2.out HP2.out (by omega) (by omega)).mono ?_
          rintro e w3 ⟨S3, a6, n6, c6, b6, m6, d6, rfl, hO3, hb3⟩
          have HD3 := keptI (HDX2.out.below hb3 HDX2.out.lt)
          have HBX3 := keptI (HBX2.out.below hb3 HBX2.out.lt)
          have HC3 := keptI (HC2.out.below hb3)
          have HP3 := keptI (HP2.out.below hb3)
          have HO3 := keptI hO3
          have hs3 := hb3.size
          have HB3 := keptI (below_next HB2.out hb3)
          clear hb3 hO3 c0 c1 c2 c3
          obtain ⟨c0, c1, c2, c3⟩ := HBX3.out.cells
          obtain ⟨hE3, hal⟩ := dbox w3 (.slice a6 n6 c6) (.slice b6 m6 d6) s t
          have hE4lt := hE3.lt
          have hO4 := HO3.out.below hal
          have hD4 := HD3.out.below hal HD3.out.lt
          have hB4x := HBX3.out.below hal HBX3.out.lt
          have hC4 := HC3.out.below hal
          have hP4 := HP3.out.below hal
          have hB4 := below_next HB3.out hal
          have hs4 := hal.size
          have hs3x := HBX3.out.lt
          have hlo : Hid ((∀ q, (Value.slice a6 n6 c6).ownBlock = some q → q < w3.heap.size) ∧ ∀ q, (Value.slice b6 m6 d6).ownBlock = some q → q < w3.heap.size) := ⟨fun q hq => (World.ownsRow.lt HO3.out.1 q hq).2, fun q hq => (World.ownsRow.lt HO3.out.2.2.1 q hq).2⟩
          clear hal c0 c1 c2 c3
          go_upto_region 4 with (fail)
          generalize w3.alloc (.cells #[.slice a6 n6 c6, .slice b6 m6 d6, .int .i64 s, .int .i64 t] 25) = w4 at hE3 hE4lt hO4 hD4 hB4x hC4 hP4 hB4 hs4 ⊢
          have HO4 := keptI hO4
          have HE4 := keptI hE3
          have HD4 := keptI hD4
          have HBX4 := keptI hB4x
          have HC4 := keptI hC4
          have HP4 := keptI hP4
          have HB4 := keptI hB4
          clear hE3 hO4 hD4 hB4x hC4 hP4 hB4
          obtain ⟨c0, c1, c2, c3⟩ := HBX4.out.cells
          obtain ⟨y0, y1, y2, y3⟩ := HE4.out.cells
          have yf := HE4.out.free 2
          have hs5 : w4.heap.size ≤ (w4.setCell ⟨w3.heap.size, 2, none⟩ (.int .i64 Y)).heap.size := by simp [World.setCell]
          have hE5 := HE4.out.set2 Y
          have hD5 := HD4.out.other w3.heap.size 2 (.int .i64 Y) (by omega)
          have hB5x := HBX4.out.other w3.heap.size 2 (.int .i64 Y) (by omega)
          have hB5 := HB4.out.setCell (p := ⟨w3.heap.size, 2, none⟩) (show w.heap.size ≤ w3.heap.size from by omega) (.int .i64 Y)
          have hO5 : DspOwn (w4.setCell ⟨w3.heap.size, 2, none⟩ (.int .i64 Y)) w2.heap.size S3 (.slice a6 n6 c6) (.slice b6 m6 d6) C P :=
            ⟨HO4.out.1.of_blockE (fun q hq => heap_setCell_other w4 ⟨w3.heap.size, 2, none⟩ q _ (by have := hlo.out.1 q hq; show q ≠ w3.heap.size; omega)), HO4.out.2.1, HO4.out.2.2.1.of_blockE (fun q hq => heap_setCell_other w4 ⟨w3.heap.size, 2, none⟩ q _ (by have := hlo.out.2 q hq; show q ≠ w3.heap.size; omega)), HO4.out.2.2.2.1, Nat.le_trans HO4.out.2.2.2.2 hs5⟩
          go_upto_region 5 with (fail)
          generalize w4.setCell ⟨w3.heap.size, 2, none⟩ (.int .i64 Y) = w5 at hE5 hD5 hB5x hB5 hO5 hs5 ⊢
          clear c0 c1 c2 c3 y0 y1 y2 y3 yf
          have HO5 := keptI hO5
          have HE5 := keptI hE5
          have HD5 := keptI hD5
          have HBX5 := keptI hB5x
          have HB5 := keptI hB5
          clear hE5 hD5 hB5x hB5 hO5
          obtain ⟨c0, c1, c2, c3⟩ := HBX5.out.cells
          obtain ⟨y0, y1, y2, y3⟩ := HE5.out.cells
          go_wp2_with fail
          refine (s_range_d Y 0 ((n : Int) - 1) _ false ⟨fun e => (by cases e), fun h => absurd h HW.out⟩).mono ?_
          rintro e w' ⟨rfl, rfl⟩
          have HC5 := keptI (hC0.out.below HB5.out)
          have HP5 := keptI (hP0.out.below HB5.out)
          clear y0 y1 y2 y3
          go_wp2_with fail
          refine (s_copyDisplay w5 g n h m s t C P HC5.out HP5.out (by omega) (by omega)).mono ?_
          rintro e w6 ⟨S6, a6, n6, c6, b6, m6, d6, rfl, hO6, hb6⟩
          have HD6 := keptI (HD5.out.below hb6 HD5.out.lt)
          have HO6 := keptI hO6
          have hs6 := hb6.size
          have HB6 := keptI (below_next HB5.out hb6)
          clear hb6 hO6 c0 c1 c2 c3
          obtain ⟨f0, f1, f2, f3⟩ := HD6.out.cells
          have z0 := HD6.out.free 0
          have z1 := HD6.out.free 1
          have z2 := HD6.out.free 2
          have z3 := HD6.out.free 3
          have hk := HD6.out.put4 (.slice a6 n6 c6) (.slice b6 m6 d6) (s) t
          have ho := (HO6.out.put4 (w.heap.size + 1) (by omega) (.slice a6 n6 c6) (.slice b6 m6 d6) (s) t).mono (show w.heap.size ≤ w5.heap.size from by omega)
          have hb := below_put4 HB6.out (w.heap.size + 1) (by omega) (.slice a6 n6 c6) (.slice b6 m6 d6) (s) t
          have FIN := keptI (And.intro hk (And.intro ho hb))
          clear hk ho hb
          go_wp2
          refine bodyPost_ret (results_row_tmpD rfl _ _ (w.heap.size + 1) _ _ _ _ rfl FIN.out.1 Try.underlying25 rfl (by kernel_rfl)) rfl ?_
          rw [HR.out]
          exact ⟨S6, a6, n6, c6, b6, m6, d6, rfl, FIN.out.2.1, FIN.out.2.2⟩
        · skip
          have HX := Lib.hid hX
          clear hk1 hst
          go_enter Try.func26, Try.ntmps26
          go_wp2_with fail
          generalize (w.alloc (.cells #[.slice (some ⟨g, 0, none⟩) n n, .slice (some ⟨h, 0, none⟩) m m, .int .i64 s, .int .i64 t] 25)).alloc (.cells #[.slice none 0 0, .slice none 0 0, .int .i64 0, .int .i64 0] 25) = wA at HC HP HB HBX HDX ⊢
          have hszA := HDX.out.lt
          obtain ⟨c0, c1, c2, c3⟩ := HBX.out.cells
          refine (s_validDisplay _ _ _ s t C P true HC.out HP.out hs ht ⟨fun _ => HV.out, fun _ => rfl⟩).mono ?_
          rintro e w2 ⟨rfl, hb2⟩
          have HC2 := keptI (HC.out.below hb2)
          have HP2 := keptI (HP.out.below hb2)
          have HBX2 := keptI (HBX.out.below hb2 HBX.out.lt)
          have HDX2 := keptI (HDX.out.below hb2 HDX.out.lt)
          have hsA2 := hb2.size
          have HB2 := keptI (below_next HB.out hb2)
          clear hb2 c0 c1 c2 c3
          obtain ⟨c0, c1, c2, c3⟩ := HBX2.out.cells
          go_wp2_with fail
          refine (s_copyDisplay w2 g n h m s t C P HC2.out HP2.out (by omega) (by omega)).mono ?_
          rintro e w3 ⟨S3, a6, n6, c6, b6, m6, d6, rfl, hO3, hb3⟩
          have HD3 := keptI (HDX2.out.below hb3 HDX2.out.lt)
          have HBX3 := keptI (HBX2.out.below hb3 HBX2.out.lt)
          have HC3 := keptI (HC2.out.below hb3)
          have HP3 := keptI (HP2.out.below hb3)
          have HO3 := keptI hO3
          have hs3 := hb3.size
          have HB3 := keptI (below_next HB2.out hb3)
          clear hb3 hO3 c0 c1 c2 c3
          obtain ⟨c0, c1, c2, c3⟩ := HBX3.out.cells
          obtain ⟨hE3, hal⟩ := dbox w3 (.slice a6 n6 c6) (.slice b6 m6 d6) s t
          have hE4lt := hE3.lt
          have hO4 := HO3.out.below hal
          have hD4 := HD3.out.below hal HD3.out.lt
          have hB4x := HBX3.out.below hal HBX3.out.lt
          have hC4 := HC3.out.below hal
          have hP4 := HP3.out.below hal
          have hB4 := below_next HB3.out hal
          have hs4 := hal.size
          have hs3x := HBX3.out.lt
          have hlo : Hid ((∀ q, (Value.slice a6 n6 c6).ownBlock = some q → q < w3.heap.size) ∧ ∀ q, (Value.slice b6 m6 d6).ownBlock = some q → q < w3.heap.size) := ⟨fun q hq => (World.ownsRow.lt HO3.out.1 q hq).2, fun q hq => (World.ownsRow.lt HO3.out.2.2.1 q hq).2⟩
          clear hal c0 c1 c2 c3
          go_upto_region 4 with (fail)
          generalize w3.alloc (.cells #[.slice a6 n6 c6, .slice b6 m6 d6, .int .i64 s, .int .i64 t] 25) = w4 at hE3 hE4lt hO4 hD4 hB4x hC4 hP4 hB4 hs4 ⊢
          have HO4 := keptI hO4
          have HE4 := keptI hE3
          have HD4 := keptI hD4
          have HBX4 := keptI hB4x
          have HC4 := keptI hC4
          have HP4 := keptI hP4
          have HB4 := keptI hB4
          clear hE3 hO4 hD4 hB4x hC4 hP4 hB4
          obtain ⟨c0, c1, c2, c3⟩ := HBX4.out.cells
          obtain ⟨y0, y1, y2, y3⟩ := HE4.out.cells
          have yf := HE4.out.free 2
          have hs5 : w4.heap.size ≤ (w4.setCell ⟨w3.heap.size, 2, none⟩ (.int .i64 Y)).heap.size := by simp [World.setCell]
          have hE5 := HE4.out.set2 Y
          have hD5 := HD4.out.other w3.heap.size 2 (.int .i64 Y) (by omega)
          have hB5x := HBX4.out.other w3.heap.size 2 (.int .i64 Y) (by omega)
          have hB5 := HB4.out.setCell (p := ⟨w3.heap.size, 2, none⟩) (show w.heap.size ≤ w3.heap.size from by omega) (.int .i64 Y)
          have hO5 : DspOwn (w4.setCell ⟨w3.heap.size, 2, none⟩ (.int .i64 Y)) w2.heap.size S3 (.slice a6 n6 c6) (.slice b6 m6 d6) C P :=
            ⟨HO4.out.1.of_blockE (fun q hq => heap_setCell_other w4 ⟨w3.heap.size, 2, none⟩ q _ (by have := hlo.out.1 q hq; show q ≠ w3.heap.size; omega)), HO4.out.2.1, HO4.out.2.2.1.of_blockE (fun q hq => heap_setCell_other w4 ⟨w3.heap.size, 2, none⟩ q _ (by have := hlo.out.2 q hq; show q ≠ w3.heap.size; omega)), HO4.out.2.2.2.1, Nat.le_trans HO4.out.2.2.2.2 hs5⟩
          go_upto_region 5 with (fail)
          generalize w4.setCell ⟨w3.heap.size, 2, none⟩ (.int .i64 Y) = w5 at hE5 hD5 hB5x hB5 hO5 hs5 ⊢
          clear c0 c1 c2 c3 y0 y1 y2 y3 yf
          have HO5 := keptI hO5
          have HE5 := keptI hE5
          have HD5 := keptI hD5
          have HBX5 := keptI hB5x
          have HB5 := keptI hB5
          clear hE5 hD5 hB5x hB5 hO5
          obtain ⟨c0, c1, c2, c3⟩ := HBX5.out.cells
          obtain ⟨y0, y1, y2, y3⟩ := HE5.out.cells
          go_wp2_with fail
          refine (s_range_d Y 0 ((n : Int) - 1) _ false ⟨fun e => (by cases e), fun h => absurd h HW.out⟩).mono ?_
          rintro e w' ⟨rfl, rfl⟩
          have HC5 := keptI (hC0.out.below HB5.out)
          have HP5 := keptI (hP0.out.below HB5.out)
          clear y0 y1 y2 y3
          go_wp2_with fail
          refine (s_copyDisplay w5 g n h m s t C P HC5.out HP5.out (by omega) (by omega)).mono ?_
          rintro e w6 ⟨S6, a6, n6, c6, b6, m6, d6, rfl, hO6, hb6⟩
          have HD6 := keptI (HD5.out.below hb6 HD5.out.lt)
          have HO6 := keptI hO6
          have hs6 := hb6.size
          have HB6 := keptI (below_next HB5.out hb6)
          clear hb6 hO6 c0 c1 c2 c3
          obtain ⟨f0, f1, f2, f3⟩ := HD6.out.cells
          have z0 := HD6.out.free 0
          have z1 := HD6.out.free 1
          have z2 := HD6.out.free 2
          have z3 := HD6.out.free 3
          have hk := HD6.out.put4 (.slice a6 n6 c6) (.slice b6 m6 d6) (s) t
          have ho := (HO6.out.put4 (w.heap.size + 1) (by omega) (.slice a6 n6 c6) (.slice b6 m6 d6) (s) t).mono (show w.heap.size ≤ w5.heap.size from by omega)
          have hb := below_put4 HB6.out (w.heap.size + 1) (by omega) (.slice a6 n6 c6) (.slice b6 m6 d6) (s) t
          have FIN := keptI (And.intro hk (And.intro ho hb))
          clear hk ho hb
          go_wp2
          refine bodyPost_ret (results_row_tmpD rfl _ _ (w.heap.size + 1) _ _ _ _ rfl FIN.out.1 Try.underlying25 rfl (by kernel_rfl)) rfl ?_
          rw [HR.out]
          exact ⟨S6, a6, n6, c6, b6, m6, d6, rfl, FIN.out.2.1, FIN.out.2.2⟩
end Go.Proofs.Ytfgnckafpnobhaa
