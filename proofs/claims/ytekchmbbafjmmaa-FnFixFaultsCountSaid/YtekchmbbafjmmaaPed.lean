
/- ProofSteps of the program. -/
import Derived.Test.YtekchmbbafjmmaaPec
import Derived.Test.YtekchmbbafjmmaaPeb
namespace Go.Proofs.Ytekchmbbafjmmaa
open Go.RowKit

/-- a row of faults that a call has made -/
def FaOut (F : List PF) (w : World) (e : Ending) (w' : World) : Prop := ∃ v, e = .returned v ∧ OwnFn w' w.heap.size v F ∧ Below w.heap.size w w'
theorem pre_len {F : List PF} {A B : List Int} {x y : Nat} (h : F ++ stepsL (A.drop x) (B.drop y) x = stepsL A B 0) (ha : A.length ≤ 30) (hb : B.length ≤ 30) : F.length ≤ 60 := by
  have h1 := steps_len _ A B 0 (Nat.le_refl _)
  rw [← h, List.length_append] at h1
  omega
theorem OwnFn.push {w w' : World} {base : Nat} {v : Value} {F : List PF} {o : Obj} (hb : Below base w w') (hs : base ≤ w'.heap.size) (h : OwnFn w' base v F) {w2 : World} (hg : (w'.alloc o).grownBy w2 v.ownBlock) : Below base w w2 :=
  (hb.alloc hs o).grown hg (by have := (World.grownBy_alloc w' o none).size; omega) (fun k hk => (World.ownsRow.lt h k hk).1)
set_option maxHeartbeats 8000000 in
theorem i_ProofSteps (w : World) (u v : Value) (A B : List Int) (hA : IntsAt w u A) (hB : IntsAt w v B) (h1 : OkP A) (h2 : OkP B) :
    Calls Try.prog 29 #[u, v] w fun e w' => FaOut (stepsL A B 0) w e w' := by
  have HA := keptI hA
  have HB := keptI hB
  have H1 : Hid (decide (OkP A) = true) := decide_eq_true h1
  have H2 : Hid (decide (OkP B) = true) := decide_eq_true h2
  have HK : Hid (OkP A ∧ OkP B) := ⟨h1, h2⟩
  have HT : Hid (Calls Try.prog 60 #[u, v] w fun e w' => PlOut (gridOf (A.length + 1) (B.length + 1) (dF A B)) w e w') := i_leastCosts w u v A B hA hB h1.1 h2.1 h1.cl h2.cl
  obtain ⟨aa, na, ca, rfl, hna, _, x2, _⟩ := hA.partsI
  obtain ⟨ab, nb, cb, rfl, hnb, _, y2, _⟩ := hB.partsI
  have bna : na ≤ 30 := by have := h1.1; omega
  have bnb : nb ≤ 30 := by have := h2.1; omega
  have HN := Lib.hid hna
  have HM := Lib.hid hnb
  clear hA hB h1 h2 hna hnb
  go_enter Try.func29, Try.ntmps29
  go_wp2_with fail
  refine (i_canProof _ _ A true HA.out H1).mono ?_
  rintro e w' ⟨rfl, rfl⟩
  go_wp2_with fail
  refine (i_canProof _ _ B true HB.out H2).mono ?_
  rintro e w' ⟨rfl, rfl⟩
  go_wp2_with fail
  refine HT.out.mono ?_
  rintro e w1 ⟨al, nl, cl, rfl, hO1, hb1⟩
  obtain ⟨hnl, hp1⟩ := hO1.pic (by omega) (by omega)
  have HP := keptI hp1
  have HNL := Lib.hid hnl
  have HB1 := keptI hb1
  have hs1 := hb1.size
  clear hO1 hp1 hb1 hnl HT
  go_wp2_with fail
  go_loopw [6, 7, 8] (fun o i j wr => ∃ (x y : Nat) (F : List PF), x ≤ na ∧ y ≤ nb ∧ i = .int .i64 x ∧ j = .int .i64 y ∧ Hid (F ++ stepsL (A.drop x) (B.drop y) x = stepsL A B 0) ∧ OwnFn wr w1.heap.size o F ∧ Below w1.heap.size w1 wr) (fun _ i j _ => 100 - (intOf i).toNat - (intOf j).toNat)
  case atStart => exact ⟨0, 0, [], by omega, by omega, rfl, rfl, by show _ = _; simp, OwnFn.nil _ _, Below.refl _ _⟩
  case round =>
    obtain ⟨x, y, F, hx, hy, rfl, rfl, hF, hO, hbb⟩ := hrel
    have hszb := hbb.size
    have hb : Below w.heap.size w wr := HB1.out.trans (hbb.mono hs1)
    have hsz := hb.size
    have HO := keptI hO
    have HBr := keptI hb
    have HBB := keptI hbb
    have HL : Hid (F.length ≤ 60) := pre_len hF.out HK.out.1.1 HK.out.2.1
    obtain ⟨ao, no, co, hoo⟩ := hO.isSlice
    subst hoo
    clear hO hb hbb
    obtain ⟨t, ht⟩ : ∃ t, takeB A B x y = t := ⟨_, rfl⟩
    obtain ⟨s, hs⟩ : ∃ s, cutB A B x y = s := ⟨_, rfl⟩
    have CT : Hid (∀ wy, Below wr.heap.size wr wy → Calls Try.prog 63 #[.slice aa na ca, .slice ab nb cb, .int .i64 x, .int .i64 y, .slice al nl cl] wy fun e w' => e = .returned (.bool t) ∧ Below wy.heap.size wy w') := fun wy hbx =>
      i_canTake wy _ _ A B al nl cl _ x y t (HA.out.below (HBr.out.trans (hbx.mono hsz))) (HB.out.below (HBr.out.trans (hbx.mono hsz))) (HP.out.below (HBB.out.trans (hbx.mono hszb))) HNL.out rfl (by rw [HN.out]; omega) (by rw [HM.out]; omega) HK.out.1.1 HK.out.2.1 HK.out.1.cl HK.out.2.cl (Lib.hid ht)
    have CC : Hid (∀ wy, Below wr.heap.size wr wy → Calls Try.prog 64 #[.slice aa na ca, .int .i64 x, .int .i64 y, .slice al nl cl] wy fun e w' => e = .returned (.bool s) ∧ Below wy.heap.size wy w') := fun wy hbx =>
      i_canCut wy _ A B al nl cl _ x y s (HA.out.below (HBr.out.trans (hbx.mono hsz))) (HP.out.below (HBB.out.trans (hbx.mono hszb))) HNL.out rfl (by rw [HN.out]; omega) (by rw [HM.out]; omega) HK.out.1.1 HK.out.2.1 (Lib.hid hs)
    have ux : IntKind.i64.wrap ((x : Int) + 1) = ((x + 1 : Nat) : Int) := by rw [show ((x : Int) + 1) = ((x + 1 : Nat) : Int) from by omega]; exact IntWalk.i64_in _ (by omega)
    have uy : IntKind.i64.wrap ((y : Int) + 1) = ((y + 1 : Nat) : Int) := by rw [show ((y : Int) + 1) = ((y + 1 : Nat) : Int) from by omega]; exact IntWalk.i64_in _ (by omega)
    by_cases hend : na ≤ x ∧ nb ≤ y
    · have HE : Hid (F = stepsL A B 0) := by
        show _ = _
        rw [← hF.out, steps_end (by rw [HN.out]; omega) (by rw [HM.out]; omega), List.append_nil]
      clear CT CC ux uy
      have d1 : decide (x < na) = false := decide_eq_false (by omega)
      have d2 : decide (y < nb) = false := decide_eq_false (by omega)
      go_wp2
      go_ret
      exact ⟨_, rfl, by rw [← HE.out]; exact World.ownsRow.mono HO.out hs1, HBr.out⟩
    · cases t with
      | true =>
        obtain ⟨h1, h2, h3⟩ := steps_take ht
        rw [HN.out] at h1
        rw [HM.out] at h2
        obtain ⟨P, hP⟩ : ∃ P, A.getD x 0 = P := ⟨_, rfl⟩
        obtain ⟨Q, hQ⟩ : ∃ Q, B.getD y 0 = Q := ⟨_, rfl⟩
        rw [hP, hQ] at h3
        have H3 := Lib.hid h3
        clear h3
        obtain ⟨aq, cq, eq, _, _, xa3⟩ := HA.out
        injection eq with eq1 eq2 eq3
        clear eq2 eq3
        subst eq1
        rcases xa3 with xa3 | ⟨ga, oa, rfl, xa3⟩
        · have := HN.out; rw [xa3] at this; simp at this; omega
        have ea0 := xa3 x (by rw [HN.out]; omega)
        have EA : Hid (∀ wy, Below wr.heap.size wr wy → wy.cell? ⟨ga, oa + x, none⟩ = some (.int .i64 P)) := fun wy hbx => by rw [← hP]; exact ((HBr.out.trans (hbx.mono hsz)).cell (World.block_lt_of_cell? w _ ea0)).trans ea0
        clear ea0 xa3
        obtain ⟨bq, dq, eq, _, _, xb3⟩ := HB.out
        injection eq with eq1 eq2 eq3
        clear eq2 eq3
        subst eq1
        rcases xb3 with xb3 | ⟨gb, ob, rfl, xb3⟩
        · have := HM.out; rw [xb3] at this; simp at this; omega
        have eb0 := xb3 y (by rw [HM.out]; omega)
        have EB : Hid (∀ wy, Below wr.heap.size wr wy → wy.cell? ⟨gb, ob + y, none⟩ = some (.int .i64 Q)) := fun wy hbx => by rw [← hQ]; exact ((HBr.out.trans (hbx.mono hsz)).cell (World.block_lt_of_cell? w _ eb0)).trans eb0
        clear eb0 xb3
        clear ht hs CC hend
        go_wp2_with fail
        refine (CT.out wr (Below.refl _ _)).mono ?_
        rintro e w2 ⟨rfl, hb2⟩
        have ea := EA.out _ hb2
        have eb := EB.out _ hb2
        have q1 : (x : Int) < (na : Int) := by omega
        have q2 : (y : Int) < (nb : Int) := by omega
        by_cases hpq : P = Q
        · subst hpq
          have HF : Hid (F ++ stepsL (A.drop (x + 1)) (B.drop (y + 1)) (x + 1) = stepsL A B 0) := by
            show _ = _
            rw [← hF.out, H3.out, if_neg (by simp), List.nil_append]
          have hO2 := HO.out.below hb2
          have hBB2 := HBB.out.trans (hb2.mono hszb)
          have HO2 := keptI hO2
          have HBB2 := keptI hBB2
          clear hO2 hBB2 CT EA EB hP hQ hF
          go_wp2_with fail
          go_quiet (fail)
          go_wp2
          go_roundw
          case rel => exact ⟨x + 1, y + 1, F, by omega, by omega, by go_num, by go_num, HF, HO2.out.below (below_drewNP (Below.refl _ _) _), below_drewNP HBB2.out _⟩
          case measure => simp [intOf]; omega
        · have HF : Hid ((F ++ [⟨0, (x : Int), Q⟩]) ++ stepsL (A.drop (x + 1)) (B.drop (y + 1)) (x + 1) = stepsL A B 0) := by
            show _ = _
            rw [← hF.out, H3.out, if_pos hpq, List.append_assoc]
          have q3 : (P == Q) = false := by simp [hpq]
          have q4 : decide (P = Q) = false := decide_eq_false hpq
          have q5 : (P != Q) = true := by simp [bne, hpq]
          clear CT EA hP hQ hF
          go_wp2_with fail
          go_quiet (fail)
          have hbv : Below wr.heap.size wr (w2.drewN nq) := below_drewNP hb2 _
          have eb := EB.out _ hbv
          generalize w2.drewN nq = w3 at hbv eb ⊢
          clear ea hb2 EB q3 q4 q5
          have hO2 := HO.out.below hbv
          have hBB2 := HBB.out.trans (hbv.mono hszb)
          have hsb2 := hBB2.size
          have hO3 := keptI (hO2.below (Below.alloc (Below.refl _ _) (Nat.le_refl _) (.cells #[.int .i64 0, .int .i64 (x : Int), .int .i64 Q] 42)))
          have hA3 := keptI (faultAt_alloc w3 ⟨0, (x : Int), Q⟩)
          have hl3 : F.length ≤ 100000 := by have := HL.out; omega
          have hl4 : w1.heap.size ≤ (w3.alloc (.cells #[.int .i64 0, .int .i64 (x : Int), .int .i64 Q] 42)).heap.size := by rw [World.size_alloc]; omega
          have HL9 := keptI (And.intro hl3 hl4)
          have HO2 := keptI hO2
          have HBB2 := keptI hBB2
          clear hO2 hBB2 hl3 hl4 hbv
          go_wp2_with (at_builtin; go_loud (refine wpList_append_fn rfl _ _ rfl w1.heap.size w3.heap.size ⟨0, (x : Int), Q⟩ rfl rfl hO3.out hA3.out HL9.out.1 HL9.out.2 ?_))
          intro v5 w5 hO9 hg9
          have NXT := keptI (And.intro hO9 (OwnFn.push HBB2.out hsb2 HO2.out hg9))
          clear hO9 hg9 hO3 hA3
          go_wp2
          go_roundw
          case rel => exact ⟨x + 1, y + 1, _, by omega, by omega, by go_num, by go_num, HF, NXT.out.1, NXT.out.2⟩
          case measure => simp [intOf]; omega
      | false =>
        cases s with
        | true =>
          obtain ⟨h1, h3⟩ := steps_cut ht hs
          rw [HN.out] at h1
          obtain ⟨P, hP⟩ : ∃ P, A.getD x 0 = P := ⟨_, rfl⟩
          rw [hP] at h3
          have H3 := Lib.hid h3
          clear h3
          obtain ⟨aq, cq, eq, _, _, xa3⟩ := HA.out
          injection eq with eq1 eq2 eq3
          clear eq2 eq3
          subst eq1
          rcases xa3 with xa3 | ⟨ga, oa, rfl, xa3⟩
          · have := HN.out; rw [xa3] at this; simp at this; omega
          have ea0 := xa3 x (by rw [HN.out]; omega)
          have EA : Hid (∀ wy, Below wr.heap.size wr wy → wy.cell? ⟨ga, oa + x, none⟩ = some (.int .i64 P)) := fun wy hbx => by rw [← hP]; exact ((HBr.out.trans (hbx.mono hsz)).cell (World.block_lt_of_cell? w _ ea0)).trans ea0
          clear ea0 xa3
          clear ht hs hend
          have HF : Hid ((F ++ [⟨1, (x : Int), P⟩]) ++ stepsL (A.drop (x + 1)) (B.drop y) (x + 1) = stepsL A B 0) := by
            show _ = _
            rw [← hF.out, H3.out, List.append_assoc]; rfl
          clear hF hP
          go_wp2_with fail
          refine (CT.out wr (Below.refl _ _)).mono ?_
          rintro e w2 ⟨rfl, hb2⟩
          go_wp2_with fail
          refine (CC.out w2 hb2).mono ?_
          rintro e w3 ⟨rfl, hb3⟩
          have hbv : Below wr.heap.size wr w3 := below_next hb2 hb3
          have ea := EA.out _ hbv
          have q1 : (x : Int) < (na : Int) := by omega
          clear hb2 hb3 CT CC EA
          have hO2 := HO.out.below hbv
          have hBB2 := HBB.out.trans (hbv.mono hszb)
          have hsb2 := hBB2.size
          have hO3 := keptI (hO2.below (Below.alloc (Below.refl _ _) (Nat.le_refl _) (.cells #[.int .i64 1, .int .i64 (x : Int), .int .i64 P] 42)))
          have hA3 := keptI (faultAt_alloc w3 ⟨1, (x : Int), P⟩)
          have hl3 : F.length ≤ 100000 := by have := HL.out; omega
          have hl4 : w1.heap.size ≤ (w3.alloc (.cells #[.int .i64 1, .int .i64 (x : Int), .int .i64 P] 42)).heap.size := by rw [World.size_alloc]; omega
          have HL9 := keptI (And.intro hl3 hl4)
          have HO2 := keptI hO2
          have HBB2 := keptI hBB2
          clear hO2 hBB2 hl3 hl4 hbv
          go_wp2_with (at_builtin; go_loud (refine wpList_append_fn rfl _ _ rfl w1.heap.size w3.heap.size ⟨1, (x : Int), P⟩ rfl rfl hO3.out hA3.out HL9.out.1 HL9.out.2 ?_))
          intro v5 w5 hO9 hg9
          have NXT := keptI (And.intro hO9 (OwnFn.push HBB2.out hsb2 HO2.out hg9))
          clear hO9 hg9 hO3 hA3
          go_wp2
          go_roundw
          case rel => exact ⟨x + 1, y, _, by omega, by omega, by go_num, by go_num, HF, NXT.out.1, NXT.out.2⟩
          case measure => simp [intOf]; omega
        | false =>
          obtain ⟨h1, h3⟩ := steps_put (by rw [HN.out]; omega) ht hs (by rw [HN.out, HM.out]; omega)
          rw [HM.out] at h1
          obtain ⟨Q, hQ⟩ : ∃ Q, B.getD y 0 = Q := ⟨_, rfl⟩
          rw [hQ] at h3
          have H3 := Lib.hid h3
          clear h3
          obtain ⟨bq, dq, eq, _, _, xb3⟩ := HB.out
          injection eq with eq1 eq2 eq3
          clear eq2 eq3
          subst eq1
          rcases xb3 with xb3 | ⟨gb, ob, rfl, xb3⟩
          · have := HM.out; rw [xb3] at this; simp at this; omega
          have eb0 := xb3 y (by rw [HM.out]; omega)
          have EB : Hid (∀ wy, Below wr.heap.size wr wy → wy.cell? ⟨gb, ob + y, none⟩ = some (.int .i64 Q)) := fun wy hbx => by rw [← hQ]; exact ((HBr.out.trans (hbx.mono hsz)).cell (World.block_lt_of_cell? w _ eb0)).trans eb0
          clear eb0 xb3
          clear ht hs hend
          have HF : Hid ((F ++ [⟨2, (x : Int), Q⟩]) ++ stepsL (A.drop x) (B.drop (y + 1)) x = stepsL A B 0) := by
            show _ = _
            rw [← hF.out, H3.out, List.append_assoc]; rfl
          clear hF hQ
          by_cases hxa : x < na
          · skip
            go_wp2_with fail
            refine (CT.out wr (Below.refl _ _)).mono ?_
            rintro e w2 ⟨rfl, hb2⟩
            go_wp2_with fail
            refine (CC.out w2 hb2).mono ?_
            rintro e w3 ⟨rfl, hb3⟩
            have hbv : Below wr.heap.size wr w3 := below_next hb2 hb3
            have eb := EB.out _ hbv
            have q2 : (y : Int) < (nb : Int) := by omega
            clear hb2 hb3 CT CC EB
            have hO2 := HO.out.below hbv
            have hBB2 := HBB.out.trans (hbv.mono hszb)
            have hsb2 := hBB2.size
            have hO3 := keptI (hO2.below (Below.alloc (Below.refl _ _) (Nat.le_refl _) (.cells #[.int .i64 2, .int .i64 (x : Int), .int .i64 Q] 42)))
            have hA3 := keptI (faultAt_alloc w3 ⟨2, (x : Int), Q⟩)
            have hl3 : F.length ≤ 100000 := by have := HL.out; omega
            have hl4 : w1.heap.size ≤ (w3.alloc (.cells #[.int .i64 2, .int .i64 (x : Int), .int .i64 Q] 42)).heap.size := by rw [World.size_alloc]; omega
            have HL9 := keptI (And.intro hl3 hl4)
            have HO2 := keptI hO2
            have HBB2 := keptI hBB2
            clear hO2 hBB2 hl3 hl4 hbv
            go_wp2_with (at_builtin; go_loud (refine wpList_append_fn rfl _ _ rfl w1.heap.size w3.heap.size ⟨2, (x : Int), Q⟩ rfl rfl hO3.out hA3.out HL9.out.1 HL9.out.2 ?_))
            intro v5 w5 hO9 hg9
            have NXT := keptI (And.intro hO9 (OwnFn.push HBB2.out hsb2 HO2.out hg9))
            clear hO9 hg9 hO3 hA3
            go_wp2
            go_roundw
            case rel => exact ⟨x, y + 1, _, by omega, by omega, by go_num, by go_num, HF, NXT.out.1, NXT.out.2⟩
            case measure => simp [intOf]; omega
          · skip
            have d1 : decide (x < na) = false := decide_eq_false (by omega)
            go_wp2_with fail
            refine (CT.out wr (Below.refl _ _)).mono ?_
            rintro e w2 ⟨rfl, hb2⟩
            go_wp2_with fail
            refine (CC.out w2 hb2).mono ?_
            rintro e w3 ⟨rfl, hb3⟩
            have hbv : Below wr.heap.size wr w3 := below_next hb2 hb3
            have eb := EB.out _ hbv
            have q2 : (y : Int) < (nb : Int) := by omega
            clear hb2 hb3 CT CC EB
            have hO2 := HO.out.below hbv
            have hBB2 := HBB.out.trans (hbv.mono hszb)
            have hsb2 := hBB2.size
            have hO3 := keptI (hO2.below (Below.alloc (Below.refl _ _) (Nat.le_refl _) (.cells #[.int .i64 2, .int .i64 (x : Int), .int .i64 Q] 42)))
            have hA3 := keptI (faultAt_alloc w3 ⟨2, (x : Int), Q⟩)
            have hl3 : F.length ≤ 100000 := by have := HL.out; omega
            have hl4 : w1.heap.size ≤ (w3.alloc (.cells #[.int .i64 2, .int .i64 (x : Int), .int .i64 Q] 42)).heap.size := by rw [World.size_alloc]; omega
            have HL9 := keptI (And.intro hl3 hl4)
            have HO2 := keptI hO2
            have HBB2 := keptI hBB2
            clear hO2 hBB2 hl3 hl4 hbv
            go_wp2_with (at_builtin; go_loud (refine wpList_append_fn rfl _ _ rfl w1.heap.size w3.heap.size ⟨2, (x : Int), Q⟩ rfl rfl hO3.out hA3.out HL9.out.1 HL9.out.2 ?_))
            intro v5 w5 hO9 hg9
            have NXT := keptI (And.intro hO9 (OwnFn.push HBB2.out hsb2 HO2.out hg9))
            clear hO9 hg9 hO3 hA3
            go_wp2
            go_roundw
            case rel => exact ⟨x, y + 1, _, by omega, by omega, by go_num, by go_num, HF, NXT.out.1, NXT.out.2⟩
            case measure => simp [intOf]; omega
end Go.Proofs.Ytekchmbbafjmmaa
