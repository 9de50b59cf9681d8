
/- proofSteps of the model. -/
import Derived.Test.YtekchmbbafjmmaaPed
namespace Go.Proofs.Ytekchmbbafjmmaa
open Go.RowKit

theorem cellDN {w : World} {p : Addr} {v : Value} (n : Nat) (h : w.cell? p = some v) : (w.drewN n).cell? p = some v := h
set_option maxRecDepth 20000 in
set_option maxHeartbeats 8000000 in
theorem s_proofSteps (w : World) (u v : Value) (A B : List Int) (hA : IntsAt w u A) (hB : IntsAt w v B) (h1 : OkP A) (h2 : OkP B) :
    Calls Try.prog 65 #[u, v] w fun e w' => FaOut (stepsL A B 0) w e w' := by
  have HA := keptI hA
  have HB := keptI hB
  have HK : Hid (OkP A ∧ OkP B) := ⟨h1, h2⟩
  have HT : Hid (Calls Try.prog 62 #[u, v] w fun e w' => PlOut (gridOf (A.length + 1) (B.length + 1) (dF A B)) w e w') := s_costs w u v A B hA hB h1.1 h2.1 h1.cl h2.cl
  obtain ⟨aa, na, ca, rfl, hna, _, x2, _⟩ := hA.partsI
  obtain ⟨ab, nb, cb, rfl, hnb, _, y2, _⟩ := hB.partsI
  have bna : na ≤ 30 := by have := h1.1; omega
  have bnb : nb ≤ 30 := by have := h2.1; omega
  have HN := Lib.hid hna
  have HM := Lib.hid hnb
  clear hA hB h1 h2 hna hnb
  go_enter Try.func65, Try.ntmps65
  go_wp2_with fail
  refine HT.out.mono ?_
  rintro e w1 ⟨al, nl, cl, rfl, hO1, hb1⟩
  obtain ⟨hnl, hp1⟩ := hO1.pic (by omega) (by omega)
  obtain ⟨_, _, g, off, rfl, hrow⟩ := hp1
  obtain ⟨m, hm⟩ : ∃ m, B.length + 1 = m := ⟨_, rfl⟩
  rw [hm] at hrow
  have HNL : Hid (nl = na + 1) := by show _ = _; rw [hnl, HN.out]
  have HMM : Hid (m = nb + 1) := by show _ = _; rw [← hm, HM.out]
  have HR := Lib.hid hrow
  have HB1 := keptI hb1
  have hs1 := hb1.size
  have HE0 := keptI (OwnFc.made w1 w1.heap.size (Nat.le_refl _))
  have HB0 := keptI (Below.alloc (Below.refl w1.heap.size w1) (Nat.le_refl _) (.cells #[] 42))
  clear hO1 hrow hb1 hnl hm HT
  go_wp2_with fail
  go_loopw [6, 7, 8] (fun o i j wr => ∃ (x y : Nat) (F : List PF), x ≤ na ∧ y ≤ nb ∧ i = .int .i64 x ∧ j = .int .i64 y ∧ Hid (F ++ stepsL (A.drop x) (B.drop y) x = stepsL A B 0) ∧ OwnFn wr w1.heap.size o F ∧ Below w1.heap.size w1 wr) (fun _ i j _ => 100 - (intOf i).toNat - (intOf j).toNat)
  case atStart => exact ⟨0, 0, [], by omega, by omega, rfl, rfl, by show _ = _; simp, HE0.out.1, HB0.out⟩
  case round =>
    obtain ⟨x, y, F, hx, hy, rfl, rfl, hF, hO, hbb⟩ := hrel
    have hszb := hbb.size
    have hb : Below w.heap.size w wr := HB1.out.trans (hbb.mono hs1)
    have hsz := hb.size
    have HO := keptI hO
    have HBr := keptI hb
    have HBB := keptI hbb
    have HL : Hid (F.length ≤ 60) := pre_len hF.out HK.out.1.1 HK.out.2.1
    obtain ⟨ao, no, co, hoo⟩ := hO.isSlice
    subst hoo
    clear hO hb hbb HE0 HB0
    have HTab : Hid (∀ r c, r < nl → c < m → ∃ b o d, (∀ wy, Below wr.heap.size wr wy → wy.cell? ⟨g, off + r, none⟩ = some (.slice (some ⟨b, o, none⟩) m d) ∧ wy.cell? ⟨b, o + c, none⟩ = some (.int .i64 (dF A B r c)))) := fun r c hr hc => by
      obtain ⟨b, o, d, r1, _, _, r4⟩ := HR.out r hr
      have e1 := (HBB.out.cell (World.block_lt_of_cell? w1 _ r1)).trans r1
      have e2 := (HBB.out.cell (World.block_lt_of_cell? w1 _ (r4 c hc))).trans (r4 c hc)
      exact ⟨b, o, d, fun wy hbx => ⟨(hbx.cell (World.block_lt_of_cell? wr _ e1)).trans e1, (hbx.cell (World.block_lt_of_cell? wr _ e2)).trans e2⟩⟩
    obtain ⟨t, ht⟩ : ∃ t, takeB A B x y = t := ⟨_, rfl⟩
    obtain ⟨s, hs⟩ : ∃ s, cutB A B x y = s := ⟨_, rfl⟩
    obtain ⟨x1, hx1⟩ : ∃ x1, x + 1 = x1 := ⟨_, rfl⟩
    obtain ⟨y1, hy1⟩ : ∃ y1, y + 1 = y1 := ⟨_, rfl⟩
    have ux : IntKind.i64.wrap ((x : Int) + 1) = (x1 : Int) := by rw [show ((x : Int) + 1) = (x1 : Int) from by omega]; exact IntWalk.i64_in _ (by omega)
    have uy : IntKind.i64.wrap ((y : Int) + 1) = (y1 : Int) := by rw [show ((y : Int) + 1) = (y1 : Int) from by omega]; exact IntWalk.i64_in _ (by omega)
    have HX1 := Lib.hid hx1
    have HY1 := Lib.hid hy1
    by_cases hend : na ≤ x ∧ nb ≤ y
    · have HE : Hid (F = stepsL A B 0) := by
        show _ = _
        rw [← hF.out, steps_end (by rw [HN.out]; omega) (by rw [HM.out]; omega), List.append_nil]
      clear ux uy
      have d1 : decide (x < na) = false := decide_eq_false (by omega)
      have d2 : decide (y < nb) = false := decide_eq_false (by omega)
      go_wp2
      go_ret
      exact ⟨_, rfl, by rw [← HE.out]; exact World.ownsRow.mono HO.out hs1, HBr.out⟩
    · cases t with
      | true =>
        obtain ⟨h1, h2, h3⟩ := steps_take ht
        obtain ⟨_, _, h4⟩ := of_decide_eq_true ht
        rw [HN.out] at h1
        rw [HM.out] at h2
        obtain ⟨p, hp, hp64⟩ : ∃ p : Nat, A.getD x 0 = p ∧ p < 64 := by
          have hm : A.getD x 0 ∈ A := by rw [List.getD_eq_getElem?_getD, List.getElem?_eq_getElem (by rw [HN.out]; omega)]; exact List.getElem_mem _
          have := HK.out.1.cl _ hm
          exact ⟨(A.getD x 0).toNat, by have := this.1; omega, by have := this.2; have := this; omega⟩
        obtain ⟨q, hq, hq64⟩ : ∃ q : Nat, B.getD y 0 = q ∧ q < 64 := by
          have hm : B.getD y 0 ∈ B := by rw [List.getD_eq_getElem?_getD, List.getElem?_eq_getElem (by rw [HM.out]; omega)]; exact List.getElem_mem _
          have := HK.out.2.cl _ hm
          exact ⟨(B.getD y 0).toNat, by have := this.1; omega, by have := this.2; have := this; omega⟩
        rw [hp, hq] at h3 h4
        obtain ⟨c, hc⟩ : ∃ c, sw (p : Int) (q : Int) = c := ⟨_, rfl⟩
        have hc6 := sw_le (p : Int) (q : Int)
        rw [hc] at h4 hc6
        have HC := Lib.hid hc
        have H3 := Lib.hid h3
        clear h3
        obtain ⟨aq, cq, eq, _, _, xa3⟩ := HA.out
        injection eq with eq1 eq2 eq3
        clear eq2 eq3
        subst eq1
        rcases xa3 with xa3 | ⟨ga, oa, rfl, xa3⟩
        · have := HN.out; rw [xa3] at this; simp at this; omega
        have ea0 := xa3 x (by rw [HN.out]; omega)
        rw [hp] at ea0
        have EA : Hid (∀ wy, Below wr.heap.size wr wy → wy.cell? ⟨ga, oa + x, none⟩ = some (.int .i64 (p : Int))) := fun wy hbx => ((HBr.out.trans (hbx.mono hsz)).cell (World.block_lt_of_cell? w _ ea0)).trans ea0
        clear ea0 xa3
        obtain ⟨bq, dq, eq, _, _, xb3⟩ := HB.out
        injection eq with eq1 eq2 eq3
        clear eq2 eq3
        subst eq1
        rcases xb3 with xb3 | ⟨gb, ob, rfl, xb3⟩
        · have := HM.out; rw [xb3] at this; simp at this; omega
        have eb0 := xb3 y (by rw [HM.out]; omega)
        rw [hq] at eb0
        have EB : Hid (∀ wy, Below wr.heap.size wr wy → wy.cell? ⟨gb, ob + y, none⟩ = some (.int .i64 (q : Int))) := fun wy hbx => ((HBr.out.trans (hbx.mono hsz)).cell (World.block_lt_of_cell? w _ eb0)).trans eb0
        clear eb0 xb3
        obtain ⟨X, hX⟩ : ∃ X, dF A B x y = X := ⟨_, rfl⟩
        obtain ⟨b0, o0, d0, HX⟩ := HTab.out x y (by have := HNL.out; omega) (by have := HMM.out; omega)
        rw [hX] at HX
        have bX := dF_bd A B x y
        rw [hX] at bX
        replace HX := Lib.hid HX
        obtain ⟨Z, hZ⟩ : ∃ Z, dF A B x1 y1 = Z := ⟨_, rfl⟩
        obtain ⟨bZ, oZ, dZ, HZ⟩ := HTab.out x1 y1 (by have := HNL.out; omega) (by have := HMM.out; omega)
        rw [hZ] at HZ
        have bZ' := dF_bd A B x1 y1
        rw [hZ] at bZ'
        replace HZ := Lib.hid HZ
        rw [hx1, hy1, hX, hZ] at h4
        have q1 : (X == Z + (c : Int)) = true := by rw [h4, Int.add_comm]; simp
        have q2 : decide (X = Z + (c : Int)) = true := by rw [h4, Int.add_comm]; simp
        have u3 : IntKind.i64.wrap (Z + (c : Int)) = Z + (c : Int) := IntWalk.i64_in _ (by have := HK.out.1.1; have := HK.out.2.1; omega)
        clear ht hs hend hX hZ h4 hc hp hq
        have zx : (0 : Int) ≤ (x : Int) := by omega
        have lx : (x : Int) < (nl : Int) := by have := HNL.out; omega
        have nx : x < nl := by have := HNL.out; omega
        have zx1 : (0 : Int) ≤ (x1 : Int) := by omega
        have lx1 : (x1 : Int) < (nl : Int) := by have := HNL.out; omega
        have nx1 : x1 < nl := by have := HNL.out; omega
        have lcy : (y : Int) < (m : Int) := by have := HMM.out; omega
        have ncy : y < m := by have := HMM.out; omega
        have lcy1 : (y1 : Int) < (m : Int) := by have := HMM.out; omega
        have ncy1 : y1 < m := by have := HMM.out; omega
        have d1 : decide (x < na) = true := decide_eq_true (by omega)
        have d1i : (x : Int) < (na : Int) := by omega
        have d1n : x < na := by omega
        have d2 : decide (y < nb) = true := decide_eq_true (by omega)
        have d2i : (y : Int) < (nb : Int) := by omega
        have d2n : y < nb := by omega
        have HSW : Hid (∀ k, Calls Try.prog 76 #[.int .i64 p, .int .i64 q] (wr.drewN k) fun e w' => e = .returned (.int .i64 (c : Int)) ∧ w' = wr.drewN k) := fun k => by rw [← HC.out]; exact (s_dotsDiffer p q _ hp64 hq64).mono fun _ _ ⟨h, k⟩ => ⟨h, k.symm⟩
        have ea := EA.out _ (Below.refl _ _)
        have eb := EB.out _ (Below.refl _ _)
        obtain ⟨r0, r1⟩ := HX.out _ (Below.refl _ _)
        obtain ⟨s0, s1⟩ := HZ.out _ (Below.refl _ _)
        clear hx1 hy1
        go_wp2_with fail
        go_quiet (first | (go_at_call 76; with_reducible exact Calls.quiet_of_same (HSW.out _)))
        clear r0 r1 s0 s1 ea eb HSW u3 q1 q2
        have hb2 : Below wr.heap.size wr (wr.drewN nq) := below_drewNP (Below.refl _ _) _
        have ea := EA.out _ hb2
        have eb := EB.out _ hb2
        generalize wr.drewN nq = w2 at hb2 ea eb ⊢
        by_cases hpq : (p : Int) = q
        · have hpn : p = q := by omega
          subst hpn
          have HF : Hid (F ++ stepsL (A.drop x1) (B.drop y1) x1 = stepsL A B 0) := by
            show _ = _
            rw [← hF.out, H3.out, if_neg (by simp), List.nil_append, ← HX1.out, ← HY1.out]
          have hO2 := HO.out.below hb2
          have hBB2 := HBB.out.trans (hb2.mono hszb)
          have HO2 := keptI hO2
          have HBB2 := keptI hBB2
          clear hO2 hBB2 EA EB hF
          go_wp2_with fail
          go_quiet (fail)
          go_wp2
          go_roundw
          case rel => exact ⟨x1, y1, F, by have := HX1.out; omega, by have := HY1.out; omega, by go_num, by go_num, HF, HO2.out.below (below_drewNP (Below.refl _ _) _), below_drewNP HBB2.out _⟩
          case measure => have := HX1.out; have := HY1.out; simp [intOf]; omega
        · have HF : Hid ((F ++ [⟨0, (x : Int), (q : Int)⟩]) ++ stepsL (A.drop x1) (B.drop y1) x1 = stepsL A B 0) := by
            show _ = _
            rw [← hF.out, H3.out, if_pos hpq, List.append_assoc, ← HX1.out, ← HY1.out]
          have q3 : ((p : Int) == (q : Int)) = false := by simp [hpq]
          have q4 : decide ((p : Int) = (q : Int)) = false := decide_eq_false hpq
          have q5 : ((p : Int) != (q : Int)) = true := by simp [bne, hpq]
          have hpn : ¬ p = q := by omega
          have q6 : (p == q) = false := by simp [hpn]
          have q7 : decide (p = q) = false := decide_eq_false hpn
          have q8 : (p != q) = true := by simp [bne, hpn]
          clear EA hF
          go_wp2_with fail
          go_quiet (fail)
          have hbv : Below wr.heap.size wr (w2.drewN nq) := below_drewNP hb2 _
          have eb := EB.out _ hbv
          generalize w2.drewN nq = w3 at hbv eb ⊢
          clear ea hb2 EB q3 q4 q5 q6 q7 q8
          have hO2 := HO.out.below hbv
          have hBB2 := HBB.out.trans (hbv.mono hszb)
          have hsb2 := hBB2.size
          have hO3 := keptI (hO2.below (Below.alloc (Below.refl _ _) (Nat.le_refl _) (.cells #[.int .i64 0, .int .i64 (x : Int), .int .i64 (q : Int)] 42)))
          have hA3 := keptI (faultAt_alloc w3 ⟨0, (x : Int), (q : Int)⟩)
          have hl3 : F.length ≤ 100000 := by have := HL.out; omega
          have hl4 : w1.heap.size ≤ (w3.alloc (.cells #[.int .i64 0, .int .i64 (x : Int), .int .i64 (q : Int)] 42)).heap.size := by rw [World.size_alloc]; omega
          have HL9 := keptI (And.intro hl3 hl4)
          have HO2 := keptI hO2
          have HBB2 := keptI hBB2
          clear hO2 hBB2 hl3 hl4 hbv
          go_wp2_with (at_builtin; go_loud (refine wpList_append_fn rfl _ _ rfl w1.heap.size w3.heap.size ⟨0, (x : Int), (q : Int)⟩ rfl rfl hO3.out hA3.out HL9.out.1 HL9.out.2 ?_))
          intro v5 w5 hO9 hg9
          have NXT := keptI (And.intro hO9 (OwnFn.push HBB2.out hsb2 HO2.out hg9))
          clear hO9 hg9 hO3 hA3
          go_wp2
          go_roundw
          case rel => exact ⟨x1, y1, _, by have := HX1.out; omega, by have := HY1.out; omega, by go_num, by go_num, HF, NXT.out.1, NXT.out.2⟩
          case measure => have := HX1.out; have := HY1.out; simp [intOf]; omega
      | false =>
        cases s with
        | true =>
          obtain ⟨h1, h3⟩ := steps_cut ht hs
          obtain ⟨_, h5⟩ := of_decide_eq_true hs
          rw [HN.out] at h1
          obtain ⟨p, hp, hp64⟩ : ∃ p : Nat, A.getD x 0 = p ∧ p < 64 := by
            have hm : A.getD x 0 ∈ A := by rw [List.getD_eq_getElem?_getD, List.getElem?_eq_getElem (by rw [HN.out]; omega)]; exact List.getElem_mem _
            have := HK.out.1.cl _ hm
            exact ⟨(A.getD x 0).toNat, by have := this.1; omega, by have := this.2; have := this; omega⟩
          rw [hp] at h3
          have H3 := Lib.hid h3
          clear h3
          obtain ⟨aq, cq, eq, _, _, xa3⟩ := HA.out
          injection eq with eq1 eq2 eq3
          clear eq2 eq3
          subst eq1
          rcases xa3 with xa3 | ⟨ga, oa, rfl, xa3⟩
          · have := HN.out; rw [xa3] at this; simp at this; omega
          have ea0 := xa3 x (by rw [HN.out]; omega)
          rw [hp] at ea0
          have EA : Hid (∀ wy, Below wr.heap.size wr wy → wy.cell? ⟨ga, oa + x, none⟩ = some (.int .i64 (p : Int))) := fun wy hbx => ((HBr.out.trans (hbx.mono hsz)).cell (World.block_lt_of_cell? w _ ea0)).trans ea0
          clear ea0 xa3
          have HF : Hid ((F ++ [⟨1, (x : Int), (p : Int)⟩]) ++ stepsL (A.drop x1) (B.drop y) x1 = stepsL A B 0) := by
            show _ = _
            rw [← hF.out, H3.out, List.append_assoc, ← HX1.out]; rfl
          clear hF
          obtain ⟨X, hX⟩ : ∃ X, dF A B x y = X := ⟨_, rfl⟩
          obtain ⟨b0, o0, d0, HX⟩ := HTab.out x y (by have := HNL.out; omega) (by have := HMM.out; omega)
          rw [hX] at HX
          have bX := dF_bd A B x y
          rw [hX] at bX
          replace HX := Lib.hid HX
          obtain ⟨V, hV⟩ : ∃ V, dF A B x1 y = V := ⟨_, rfl⟩
          obtain ⟨bV, oV, dV, HV⟩ := HTab.out x1 y (by have := HNL.out; omega) (by have := HMM.out; omega)
          rw [hV] at HV
          have bV' := dF_bd A B x1 y
          rw [hV] at bV'
          replace HV := Lib.hid HV
          rw [hx1, hX, hV] at h5
          have q8 : (X == V + 4) = true := by rw [h5, Int.add_comm]; simp
          have q9 : decide (X = V + 4) = true := by rw [h5, Int.add_comm]; simp
          have u4 : IntKind.i64.wrap (V + 4) = V + 4 := IntWalk.i64_in _ (by have := HK.out.1.1; have := HK.out.2.1; omega)
          have zx : (0 : Int) ≤ (x : Int) := by omega
          have lx : (x : Int) < (nl : Int) := by have := HNL.out; omega
          have nx : x < nl := by have := HNL.out; omega
          have zx1 : (0 : Int) ≤ (x1 : Int) := by omega
          have lx1 : (x1 : Int) < (nl : Int) := by have := HNL.out; omega
          have nx1 : x1 < nl := by have := HNL.out; omega
          have lcy : (y : Int) < (m : Int) := by have := HMM.out; omega
          have ncy : y < m := by have := HMM.out; omega
          have d1 : decide (x < na) = true := decide_eq_true (by omega)
          have d1i : (x : Int) < (na : Int) := by omega
          have d1n : x < na := by omega
          by_cases hyb : y < nb
          · skip
            obtain ⟨q, hq, hq64⟩ : ∃ q : Nat, B.getD y 0 = q ∧ q < 64 := by
              have hm : B.getD y 0 ∈ B := by rw [List.getD_eq_getElem?_getD, List.getElem?_eq_getElem (by rw [HM.out]; omega)]; exact List.getElem_mem _
              have := HK.out.2.cl _ hm
              exact ⟨(B.getD y 0).toNat, by have := this.1; omega, by have := this.2; have := this; omega⟩
            obtain ⟨bq, dq, eq, _, _, xb3⟩ := HB.out
            injection eq with eq1 eq2 eq3
            clear eq2 eq3
            subst eq1
            rcases xb3 with xb3 | ⟨gb, ob, rfl, xb3⟩
            · have := HM.out; rw [xb3] at this; simp at this; omega
            have eb0 := xb3 y (by rw [HM.out]; omega)
            rw [hq] at eb0
            have EB : Hid (∀ wy, Below wr.heap.size wr wy → wy.cell? ⟨gb, ob + y, none⟩ = some (.int .i64 (q : Int))) := fun wy hbx => ((HBr.out.trans (hbx.mono hsz)).cell (World.block_lt_of_cell? w _ eb0)).trans eb0
            clear eb0 xb3
            obtain ⟨c, hc⟩ : ∃ c, sw (p : Int) (q : Int) = c := ⟨_, rfl⟩
            have hc6 := sw_le (p : Int) (q : Int)
            rw [hc] at hc6
            have HC := Lib.hid hc
            obtain ⟨Z, hZ⟩ : ∃ Z, dF A B x1 y1 = Z := ⟨_, rfl⟩
            obtain ⟨bZ, oZ, dZ, HZ⟩ := HTab.out x1 y1 (by have := HNL.out; omega) (by have := HMM.out; omega)
            rw [hZ] at HZ
            have bZ' := dF_bd A B x1 y1
            rw [hZ] at bZ'
            replace HZ := Lib.hid HZ
            have h4 : ¬ X = Z + (c : Int) := fun h => of_decide_eq_false ht ⟨by rw [HN.out]; omega, by rw [HM.out]; omega, by rw [hp, hq, hc, hx1, hy1, hX, hZ, h, Int.add_comm]⟩
            have q1 : (X == Z + (c : Int)) = false := by simp [h4]
            have q2 : decide (X = Z + (c : Int)) = false := decide_eq_false h4
            have u3 : IntKind.i64.wrap (Z + (c : Int)) = Z + (c : Int) := IntWalk.i64_in _ (by have := HK.out.1.1; have := HK.out.2.1; omega)
            have d2 : decide (y < nb) = true := decide_eq_true (by omega)
            have d2i : (y : Int) < (nb : Int) := by omega
            have d2n : y < nb := by omega
            have lcy1 : (y1 : Int) < (m : Int) := by have := HMM.out; omega
            have ncy1 : y1 < m := by have := HMM.out; omega
            clear hs hV h5
            have HSW : Hid (∀ k, Calls Try.prog 76 #[.int .i64 p, .int .i64 q] (wr.drewN k) fun e w' => e = .returned (.int .i64 (c : Int)) ∧ w' = wr.drewN k) := fun k => by rw [← HC.out]; exact (s_dotsDiffer p q _ hp64 hq64).mono fun _ _ ⟨h, k⟩ => ⟨h, k.symm⟩
            have ea := EA.out _ (Below.refl _ _)
            have eb := EB.out _ (Below.refl _ _)
            obtain ⟨r0, r1⟩ := HX.out _ (Below.refl _ _)
            obtain ⟨s0, s1⟩ := HZ.out _ (Below.refl _ _)
            clear hx1 hy1 hp hq hc hX hZ ht hend
            go_wp2_with fail
            go_quiet (first | (go_at_call 76; with_reducible exact Calls.quiet_of_same (HSW.out _)))
            clear r0 r1 s0 s1 ea eb HSW u3 q1 q2
            have hb2 : Below wr.heap.size wr (wr.drewN nq) := below_drewNP (Below.refl _ _) _
            generalize wr.drewN nq = w2 at hb2 ⊢
            have ea := EA.out _ hb2
            obtain ⟨r0, r1⟩ := HX.out _ hb2
            obtain ⟨s0, s1⟩ := HV.out _ hb2
            go_wp2_with fail
            go_quiet (fail)
            clear r0 r1 s0 s1 ea
            have hbv : Below wr.heap.size wr (w2.drewN nq) := below_drewNP hb2 _
            have ea := EA.out _ hbv
            generalize w2.drewN nq = w3 at hbv ea ⊢
            clear hb2 EA
            have hO2 := HO.out.below hbv
            have hBB2 := HBB.out.trans (hbv.mono hszb)
            have hsb2 := hBB2.size
            have hO3 := keptI (hO2.below (Below.alloc (Below.refl _ _) (Nat.le_refl _) (.cells #[.int .i64 1, .int .i64 (x : Int), .int .i64 (p : Int)] 42)))
            have hA3 := keptI (faultAt_alloc w3 ⟨1, (x : Int), (p : Int)⟩)
            have hl3 : F.length ≤ 100000 := by have := HL.out; omega
            have hl4 : w1.heap.size ≤ (w3.alloc (.cells #[.int .i64 1, .int .i64 (x : Int), .int .i64 (p : Int)] 42)).heap.size := by rw [World.size_alloc]; omega
            have HL9 := keptI (And.intro hl3 hl4)
            have HO2 := keptI hO2
            have HBB2 := keptI hBB2
            clear hO2 hBB2 hl3 hl4 hbv
            go_wp2_with (at_builtin; go_loud (refine wpList_append_fn rfl _ _ rfl w1.heap.size w3.heap.size ⟨1, (x : Int), (p : Int)⟩ rfl rfl hO3.out hA3.out HL9.out.1 HL9.out.2 ?_))
            intro v5 w5 hO9 hg9
            have NXT := keptI (And.intro hO9 (OwnFn.push HBB2.out hsb2 HO2.out hg9))
            clear hO9 hg9 hO3 hA3
            go_wp2
            go_roundw
            case rel => exact ⟨x1, y, _, by have := HX1.out; omega, by have := HY1.out; omega, by go_num, by go_num, HF, NXT.out.1, NXT.out.2⟩
            case measure => have := HX1.out; have := HY1.out; simp [intOf]; omega

          · skip
            have d2 : decide (y < nb) = false := decide_eq_false (by omega)
            clear hs hV h5
            clear hx1 hy1 hp hX ht hend
            go_wp2_with fail
            go_quiet (fail)
            have hb2 : Below wr.heap.size wr (wr.drewN nq) := below_drewNP (Below.refl _ _) _
            generalize wr.drewN nq = w2 at hb2 ⊢
            have ea := EA.out _ hb2
            obtain ⟨r0, r1⟩ := HX.out _ hb2
            obtain ⟨s0, s1⟩ := HV.out _ hb2
            go_wp2_with fail
            go_quiet (fail)
            clear r0 r1 s0 s1 ea
            have hbv : Below wr.heap.size wr (w2.drewN nq) := below_drewNP hb2 _
            have ea := EA.out _ hbv
            generalize w2.drewN nq = w3 at hbv ea ⊢
            clear hb2 EA
            have hO2 := HO.out.below hbv
            have hBB2 := HBB.out.trans (hbv.mono hszb)
            have hsb2 := hBB2.size
            have hO3 := keptI (hO2.below (Below.alloc (Below.refl _ _) (Nat.le_refl _) (.cells #[.int .i64 1, .int .i64 (x : Int), .int .i64 (p : Int)] 42)))
            have hA3 := keptI (faultAt_alloc w3 ⟨1, (x : Int), (p : Int)⟩)
            have hl3 : F.length ≤ 100000 := by have := HL.out; omega
            have hl4 : w1.heap.size ≤ (w3.alloc (.cells #[.int .i64 1, .int .i64 (x : Int), .int .i64 (p : Int)] 42)).heap.size := by rw [World.size_alloc]; omega
            have HL9 := keptI (And.intro hl3 hl4)
            have HO2 := keptI hO2
            have HBB2 := keptI hBB2
            clear hO2 hBB2 hl3 hl4 hbv
            go_wp2_with (at_builtin; go_loud (refine wpList_append_fn rfl _ _ rfl w1.heap.size w3.heap.size ⟨1, (x : Int), (p : Int)⟩ rfl rfl hO3.out hA3.out HL9.out.1 HL9.out.2 ?_))
            intro v5 w5 hO9 hg9
            have NXT := keptI (And.intro hO9 (OwnFn.push HBB2.out hsb2 HO2.out hg9))
            clear hO9 hg9 hO3 hA3
            go_wp2
            go_roundw
            case rel => exact ⟨x1, y, _, by have := HX1.out; omega, by have := HY1.out; omega, by go_num, by go_num, HF, NXT.out.1, NXT.out.2⟩
            case measure => have := HX1.out; have := HY1.out; simp [intOf]; omega
        | false =>
          obtain ⟨h1, h3⟩ := steps_put (by rw [HN.out]; omega) ht hs (by rw [HN.out, HM.out]; omega)
          rw [HM.out] at h1
          obtain ⟨q, hq, hq64⟩ : ∃ q : Nat, B.getD y 0 = q ∧ q < 64 := by
            have hm : B.getD y 0 ∈ B := by rw [List.getD_eq_getElem?_getD, List.getElem?_eq_getElem (by rw [HM.out]; omega)]; exact List.getElem_mem _
            have := HK.out.2.cl _ hm
            exact ⟨(B.getD y 0).toNat, by have := this.1; omega, by have := this.2; have := this; omega⟩
          rw [hq] at h3
          have H3 := Lib.hid h3
          clear h3
          obtain ⟨bq, dq, eq, _, _, xb3⟩ := HB.out
          injection eq with eq1 eq2 eq3
          clear eq2 eq3
          subst eq1
          rcases xb3 with xb3 | ⟨gb, ob, rfl, xb3⟩
          · have := HM.out; rw [xb3] at this; simp at this; omega
          have eb0 := xb3 y (by rw [HM.out]; omega)
          rw [hq] at eb0
          have EB : Hid (∀ wy, Below wr.heap.size wr wy → wy.cell? ⟨gb, ob + y, none⟩ = some (.int .i64 (q : Int))) := fun wy hbx => ((HBr.out.trans (hbx.mono hsz)).cell (World.block_lt_of_cell? w _ eb0)).trans eb0
          clear eb0 xb3
          have HF : Hid ((F ++ [⟨2, (x : Int), (q : Int)⟩]) ++ stepsL (A.drop x) (B.drop y1) x = stepsL A B 0) := by
            show _ = _
            rw [← hF.out, H3.out, List.append_assoc, ← HY1.out]; rfl
          clear hF
          have hyb : y < nb := h1
          by_cases hxa : x < na
          · skip
            obtain ⟨p, hp, hp64⟩ : ∃ p : Nat, A.getD x 0 = p ∧ p < 64 := by
              have hm : A.getD x 0 ∈ A := by rw [List.getD_eq_getElem?_getD, List.getElem?_eq_getElem (by rw [HN.out]; omega)]; exact List.getElem_mem _
              have := HK.out.1.cl _ hm
              exact ⟨(A.getD x 0).toNat, by have := this.1; omega, by have := this.2; have := this; omega⟩
            obtain ⟨aq, cq, eq, _, _, xa3⟩ := HA.out
            injection eq with eq1 eq2 eq3
            clear eq2 eq3
            subst eq1
            rcases xa3 with xa3 | ⟨ga, oa, rfl, xa3⟩
            · have := HN.out; rw [xa3] at this; simp at this; omega
            have ea0 := xa3 x (by rw [HN.out]; omega)
            rw [hp] at ea0
            have EA : Hid (∀ wy, Below wr.heap.size wr wy → wy.cell? ⟨ga, oa + x, none⟩ = some (.int .i64 (p : Int))) := fun wy hbx => ((HBr.out.trans (hbx.mono hsz)).cell (World.block_lt_of_cell? w _ ea0)).trans ea0
            clear ea0 xa3
            obtain ⟨X, hX⟩ : ∃ X, dF A B x y = X := ⟨_, rfl⟩
            obtain ⟨b0, o0, d0, HX⟩ := HTab.out x y (by have := HNL.out; omega) (by have := HMM.out; omega)
            rw [hX] at HX
            have bX := dF_bd A B x y
            rw [hX] at bX
            replace HX := Lib.hid HX
            obtain ⟨V, hV⟩ : ∃ V, dF A B x1 y = V := ⟨_, rfl⟩
            obtain ⟨bV, oV, dV, HV⟩ := HTab.out x1 y (by have := HNL.out; omega) (by have := HMM.out; omega)
            rw [hV] at HV
            have bV' := dF_bd A B x1 y
            rw [hV] at bV'
            replace HV := Lib.hid HV
            have h5 : ¬ X = V + 4 := fun h => of_decide_eq_false hs ⟨by rw [HN.out]; omega, by rw [hx1, hX, hV, h, Int.add_comm]⟩
            have q8 : (X == V + 4) = false := by simp [h5]
            have q9 : decide (X = V + 4) = false := decide_eq_false h5
            have u4 : IntKind.i64.wrap (V + 4) = V + 4 := IntWalk.i64_in _ (by have := HK.out.1.1; have := HK.out.2.1; omega)
            have zx : (0 : Int) ≤ (x : Int) := by omega
            have lx : (x : Int) < (nl : Int) := by have := HNL.out; omega
            have nx : x < nl := by have := HNL.out; omega
            have zx1 : (0 : Int) ≤ (x1 : Int) := by omega
            have lx1 : (x1 : Int) < (nl : Int) := by have := HNL.out; omega
            have nx1 : x1 < nl := by have := HNL.out; omega
            have lcy : (y : Int) < (m : Int) := by have := HMM.out; omega
            have ncy : y < m := by have := HMM.out; omega
            have d1 : decide (x < na) = true := decide_eq_true (by omega)
            have d1i : (x : Int) < (na : Int) := by omega
            have d1n : x < na := by omega
            obtain ⟨c, hc⟩ : ∃ c, sw (p : Int) (q : Int) = c := ⟨_, rfl⟩
            have hc6 := sw_le (p : Int) (q : Int)
            rw [hc] at hc6
            have HC := Lib.hid hc
            obtain ⟨Z, hZ⟩ : ∃ Z, dF A B x1 y1 = Z := ⟨_, rfl⟩
            obtain ⟨bZ, oZ, dZ, HZ⟩ := HTab.out x1 y1 (by have := HNL.out; omega) (by have := HMM.out; omega)
            rw [hZ] at HZ
            have bZ' := dF_bd A B x1 y1
            rw [hZ] at bZ'
            replace HZ := Lib.hid HZ
            have h4 : ¬ X = Z + (c : Int) := fun h => of_decide_eq_false ht ⟨by rw [HN.out]; omega, by rw [HM.out]; omega, by rw [hp, hq, hc, hx1, hy1, hX, hZ, h, Int.add_comm]⟩
            have q1 : (X == Z + (c : Int)) = false := by simp [h4]
            have q2 : decide (X = Z + (c : Int)) = false := decide_eq_false h4
            have u3 : IntKind.i64.wrap (Z + (c : Int)) = Z + (c : Int) := IntWalk.i64_in _ (by have := HK.out.1.1; have := HK.out.2.1; omega)
            have d2 : decide (y < nb) = true := decide_eq_true (by omega)
            have d2i : (y : Int) < (nb : Int) := by omega
            have d2n : y < nb := by omega
            have lcy1 : (y1 : Int) < (m : Int) := by have := HMM.out; omega
            have ncy1 : y1 < m := by have := HMM.out; omega
            clear hs hV h5 h4
            have HSW : Hid (∀ k, Calls Try.prog 76 #[.int .i64 p, .int .i64 q] (wr.drewN k) fun e w' => e = .returned (.int .i64 (c : Int)) ∧ w' = wr.drewN k) := fun k => by rw [← HC.out]; exact (s_dotsDiffer p q _ hp64 hq64).mono fun _ _ ⟨h, k⟩ => ⟨h, k.symm⟩
            have ea := EA.out _ (Below.refl _ _)
            have eb := EB.out _ (Below.refl _ _)
            obtain ⟨r0, r1⟩ := HX.out _ (Below.refl _ _)
            obtain ⟨s0, s1⟩ := HZ.out _ (Below.refl _ _)
            clear hx1 hy1 hp hq hc hX hZ ht hend
            go_wp2_with fail
            go_quiet (first | (go_at_call 76; with_reducible exact Calls.quiet_of_same (HSW.out _)))
            clear r0 r1 s0 s1 ea eb HSW u3 q1 q2
            have hb2 : Below wr.heap.size wr (wr.drewN nq) := below_drewNP (Below.refl _ _) _
            generalize wr.drewN nq = w2 at hb2 ⊢
            obtain ⟨r0, r1⟩ := HX.out _ hb2
            obtain ⟨s0, s1⟩ := HV.out _ hb2
            go_wp2_with fail
            go_quiet (fail)
            clear r0 r1 s0 s1
            have hbv : Below wr.heap.size wr (w2.drewN nq) := below_drewNP hb2 _
            have eb := EB.out _ hbv
            generalize w2.drewN nq = w3 at hbv eb ⊢
            clear hb2 EB EA
            have hO2 := HO.out.below hbv
            have hBB2 := HBB.out.trans (hbv.mono hszb)
            have hsb2 := hBB2.size
            have hO3 := keptI (hO2.below (Below.alloc (Below.refl _ _) (Nat.le_refl _) (.cells #[.int .i64 2, .int .i64 (x : Int), .int .i64 (q : Int)] 42)))
            have hA3 := keptI (faultAt_alloc w3 ⟨2, (x : Int), (q : Int)⟩)
            have hl3 : F.length ≤ 100000 := by have := HL.out; omega
            have hl4 : w1.heap.size ≤ (w3.alloc (.cells #[.int .i64 2, .int .i64 (x : Int), .int .i64 (q : Int)] 42)).heap.size := by rw [World.size_alloc]; omega
            have HL9 := keptI (And.intro hl3 hl4)
            have HO2 := keptI hO2
            have HBB2 := keptI hBB2
            clear hO2 hBB2 hl3 hl4 hbv
            go_wp2_with (at_builtin; go_loud (refine wpList_append_fn rfl _ _ rfl w1.heap.size w3.heap.size ⟨2, (x : Int), (q : Int)⟩ rfl rfl hO3.out hA3.out HL9.out.1 HL9.out.2 ?_))
            intro v5 w5 hO9 hg9
            have NXT := keptI (And.intro hO9 (OwnFn.push HBB2.out hsb2 HO2.out hg9))
            clear hO9 hg9 hO3 hA3
            go_wp2
            go_roundw
            case rel => exact ⟨x, y1, _, by have := HX1.out; omega, by have := HY1.out; omega, by go_num, by go_num, HF, NXT.out.1, NXT.out.2⟩
            case measure => have := HX1.out; have := HY1.out; simp [intOf]; omega
          · skip
            have d1 : decide (x < na) = false := decide_eq_false (by omega)
            have d2 : decide (y < nb) = true := decide_eq_true (by omega)
            have d2i : (y : Int) < (nb : Int) := by omega
            have d2n : y < nb := by omega
            clear hx1 hy1 hq ht hs hend
            go_wp2_with fail
            go_quiet (fail)
            have hb2 : Below wr.heap.size wr (wr.drewN nq) := below_drewNP (Below.refl _ _) _
            generalize wr.drewN nq = w2 at hb2 ⊢
            go_wp2_with fail
            go_quiet (fail)
            have hbv : Below wr.heap.size wr (w2.drewN nq) := below_drewNP hb2 _
            have eb := EB.out _ hbv
            generalize w2.drewN nq = w3 at hbv eb ⊢
            clear hb2 EB
            have hO2 := HO.out.below hbv
            have hBB2 := HBB.out.trans (hbv.mono hszb)
            have hsb2 := hBB2.size
            have hO3 := keptI (hO2.below (Below.alloc (Below.refl _ _) (Nat.le_refl _) (.cells #[.int .i64 2, .int .i64 (x : Int), .int .i64 (q : Int)] 42)))
            have hA3 := keptI (faultAt_alloc w3 ⟨2, (x : Int), (q : Int)⟩)
            have hl3 : F.length ≤ 100000 := by have := HL.out; omega
            have hl4 : w1.heap.size ≤ (w3.alloc (.cells #[.int .i64 2, .int .i64 (x : Int), .int .i64 (q : Int)] 42)).heap.size := by rw [World.size_alloc]; omega
            have HL9 := keptI (And.intro hl3 hl4)
            have HO2 := keptI hO2
            have HBB2 := keptI hBB2
            clear hO2 hBB2 hl3 hl4 hbv
            go_wp2_with (at_builtin; go_loud (refine wpList_append_fn rfl _ _ rfl w1.heap.size w3.heap.size ⟨2, (x : Int), (q : Int)⟩ rfl rfl hO3.out hA3.out HL9.out.1 HL9.out.2 ?_))
            intro v5 w5 hO9 hg9
            have NXT := keptI (And.intro hO9 (OwnFn.push HBB2.out hsb2 HO2.out hg9))
            clear hO9 hg9 hO3 hA3
            go_wp2
            go_roundw
            case rel => exact ⟨x, y1, _, by have := HX1.out; omega, by have := HY1.out; omega, by go_num, by go_num, HF, NXT.out.1, NXT.out.2⟩
            case measure => have := HX1.out; have := HY1.out; simp [intOf]; omega
end Go.Proofs.Ytekchmbbafjmmaa
