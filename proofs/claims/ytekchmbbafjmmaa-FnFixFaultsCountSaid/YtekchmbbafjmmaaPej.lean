
/- FixFaults of the model. -/
import Derived.Test.YtekchmbbafjmmaaPei
namespace Go.Proofs.Ytekchmbbafjmmaa
open Go.RowKit

theorem q_within (n lo hi : Int) (w : World) (b : Bool) (hb : Hid (decide (lo ≤ n ∧ n ≤ hi) = b)) :
    Calls Try.prog 68 #[.int .i64 n, .int .i64 lo, .int .i64 hi] w fun e w' => e = .returned (.bool b) ∧ w = w' := by
  have hb := hb.out
  cases b with
  | true =>
    obtain ⟨h0, h1⟩ := of_decide_eq_true hb
    exact inRange_yes n lo hi w h0 h1
  | false =>
    have h := of_decide_eq_false hb
    exact inRange_no n lo hi w (by omega)
theorem q_cell (n : Int) (w : World) (b : Bool) (hb : Hid (decide (Cl n) = b)) :
    Calls Try.prog 51 #[.int .i64 n] w fun e w' => e = .returned (.bool b) ∧ w = w' := by
  have hb := hb.out
  cases b with
  | true =>
    have h := of_decide_eq_true hb
    exact s_isCell_yes n w h.1 (by have := h.2; omega)
  | false =>
    have h' : ¬ Cl n := of_decide_eq_false hb
    exact s_isCell_no n w (by unfold Cl at h'; omega)
/-- an append of a list that is there, of long lists, too -/
theorem wpList_append_shF {ops : Array Oper} {rest : List Oper} {o : Oper} {a : Act} {w : World} {Q : Exit → Act → World → Prop} (hgd : o.guard = none) (s x : Operand)
    (ho : o.op = .call { callee := .builtin .append, args := #[s, x], argTypes := #[28, 28] }) (base : Nat) {v u : Value} {xs ys : List Int} (hs : a.eval s = v) (hx : a.eval x = u)
    (h1 : OwnInts w base v xs) (h2 : IntsSh w u ys) (hl : xs.length + ys.length ≤ 100000000) (hbase : base ≤ w.heap.size)
    (h : ∀ v' w', OwnInts w' base v' (xs ++ ys) → w.grownBy w' v.ownBlock → wpList Try.prog ops Q rest (a.put o.dst v') w') : wpList Try.prog ops Q (o :: rest) a w := by
  obtain ⟨i0, hi, hz0, hz1, hz2⟩ := info_parts infoInt
  have hx2 := h2.1
  rcases h2.2 with e | ⟨ad, n, c, e⟩
  · have hy : ys = [] := by
      obtain ⟨_, _, e2, _⟩ := hx2
      rw [e] at e2
      injection e2 with _ e3 _
      exact List.length_eq_zero_iff.1 e3.symm
    subst hy
    subst e
    exact wpList_append_own_none hgd s x 28 ho base 3 i0 1 Try.underlying28 hi v _ (ints xs) hs h1 hx (h v w (by rw [List.append_nil]; exact h1) (World.grownBy.refl w _))
  · subst e
    have hn : n = ys.length := by
      obtain ⟨_, _, e2, _⟩ := hx2
      injection e2 with _ e3 _
    subst hn
    refine wpList_append_own w hgd s x 28 ho base 3 i0 (.int .i64 0) 1 8 Try.underlying28 hi hz0 hz1 hz2 rfl (by decide) v xs.length (ints xs) hs h1 ad ys.length c (ints ys) hx (by rw [ints_length, Nat.mul_one]) ?_ (ints_oneE ys) (by unfold maxLen; omega) (by omega) hbase ?_
    · intro j u' hj
      obtain ⟨a', c', e3, _, _, h5⟩ := hx2
      injection e3 with e4 _ _
      rcases h5 with rfl | ⟨g, off, e5, h6⟩
      · simp [ints] at hj
      · rw [← e4] at e5
        injection e5 with e5
        subst e5
        have hjl : j < ys.length := by
          have := (List.getElem?_eq_some_iff.1 hj).1
          rw [ints_length] at this; exact this
        rw [Addr.add_lit, h6 j hjl]
        simp [ints, hjl] at hj
        rw [← hj]
        simp [List.getD_eq_getElem?_getD, hjl]
    · intro v' w' hown hgrow _
      exact h v' w' (OwnInts.addAllE hown rfl) hgrow
theorem own_ne {w : World} {S g : Nat} {v : Value} {L : List Int} {p : PF} (h : OwnInts w S v L) (hb : BoxF w g p) : ∀ z, v.ownBlock = some z → z ≠ g := by
  intro z hz e
  subst e
  rcases h.2 with ⟨hv, _⟩ | ⟨g', cap, cur, hv, _, hg, _⟩
  · rw [hv] at hz; simp [Value.ownBlock] at hz
  · rw [hv] at hz
    have : g' = z := by simpa [Value.ownBlock] using hz
    subst this
    unfold BoxF at hb
    rw [hg] at hb
    injection hb with hb
    injection hb with _ h2 _
    exact absurd h2 (by decide)
theorem BoxF.drewN {w : World} {g : Nat} {p : PF} (n : Nat) (h : BoxF w g p) : BoxF (w.drewN n) g p := h
set_option maxRecDepth 20000 in
set_option maxHeartbeats 8000000 in
theorem s_FixFaults_some (w : World) (ga oa na ca : Nat) (A : List Int) (v : Value) (P : List PF) (r : Option (List Int)) (hA : IntsAt w (.slice (some ⟨ga, oa, none⟩) na ca) A) (hP : FaultsAt w v P) (hl : P.length ≤ 2000000) (hok : OkP A) (hr : Hid (fixO A P = r)) :
    Calls Try.prog 35 #[.slice (some ⟨ga, oa, none⟩) na ca, v] w fun e w' => FxOut r w e w' := by
  obtain ⟨i0, hi, hz0, hz1, hz2⟩ := info_parts infoInt
  have HA := keptI hA
  have HOK := kepF hok
  have H1 : Hid (decide (ValidL A) = true) := decide_eq_true hok.2
  have hna : A.length = na := by obtain ⟨_, _, e, _⟩ := hA; injection e with _ e _; exact e.symm
  have hca : na ≤ ca ∧ ca ≤ 9223372036854775807 := by obtain ⟨_, _, e, e1, e2, _⟩ := hA; injection e with _ e3 e4; omega
  have bna : na ≤ 30 := by have := hok.1; omega
  have HN := Lib.hid hna
  obtain ⟨ap, cp, rfl, x1, x2, x3⟩ := hP
  obtain ⟨n, hn⟩ : ∃ n, P.length = n := ⟨_, rfl⟩
  rw [hn] at x1 hl ⊢
  have HM := Lib.hid hn
  have HP3 := Lib.hid x3
  have hO0 := OwnInts.made w w.heap.size (Nat.le_refl _)
  have hB0 := Below.alloc (Below.refl w.heap.size w) (Nat.le_refl _) (.cells #[] 3)
  have HA1 := kepF (HA.out.below hB0)
  have dd : decide ((30 : Int) < (na : Int)) = false := decide_eq_false (by omega)
  have dd2 : decide (30 < na) = false := decide_eq_false (by omega)
  clear hA hok hna hn x3
  go_enter Try.func35, Try.ntmps35
  go_wp2_with fail
  refine (q_valid _ _ A true HA1.out H1).mono ?_
  rintro e w' ⟨rfl, rfl⟩
  go_wp2
  go_loopw [6, 7, 8] (fun o j k wr => ∃ (q i : Nat) (L : List Int), q ≤ n ∧ i ≤ na ∧ k = .int .i64 q ∧ j = .int .i64 i ∧ Hid (fixL A P 0 = (fixL A (P.drop q) i).map (L ++ ·)) ∧ OwnInts wr w.heap.size o L ∧ L.length ≤ i + q ∧ Below w.heap.size w wr) (fun _ _ k _ => n - (intOf k).toNat)
  case atStart => exact ⟨0, 0, [], by omega, by omega, rfl, rfl, by show _ = _; simp, hO0, by simp, hB0⟩
  case round =>
    clear hO0 hB0
    obtain ⟨k, j, L, hk, hj, rfl, rfl, hs, hO, hL, hB⟩ := hrel
    have hsz := hB.size
    have HO := kepF hO
    have HB := kepF hB
    obtain ⟨ao, no, co, hoo, hno⟩ := own_parts hO
    subst hoo
    have HNO := Lib.hid hno
    clear hO hB
    by_cases hlt : k < n
    · obtain ⟨g, off, rfl, hx3⟩ : ∃ g off, ap = some ⟨g, off, none⟩ ∧ ∀ i, i < P.length → FaultAt w g (off + i * 3) (P.getD i noF) := by
        rcases HP3.out with h | h
        · have := HM.out; rw [h] at this; simp at this; omega
        · exact h
      obtain ⟨q, hq⟩ : ∃ q, P.getD k noF = q := ⟨_, rfl⟩
      have hra := hx3 k (by rw [HM.out]; exact hlt)
      rw [hq] at hra
      have HQ := Lib.hid hq
      clear hq hx3
      obtain ⟨fk, fi, fc⟩ := q
      obtain ⟨c0, c1, c2⟩ := hra
      simp only at c0 c1 c2
      have c0 := (HB.out.cell (World.block_lt_of_cell? w _ c0)).trans c0
      have c1 := (HB.out.cell (World.block_lt_of_cell? w _ c1)).trans c1
      have c2 := (HB.out.cell (World.block_lt_of_cell? w _ c2)).trans c2
      have g1 : (0 : Int) ≤ (k : Int) := by omega
      have g2 : (k : Int) < (n : Int) := by omega
      have hno' : Hid (¬ FixOk A ⟨fk, fi, fc⟩ j → r = none) := fun hf => by rw [← hr.out]; exact fixO_no hs.out (by rw [HM.out]; exact hlt) HQ.out hf
      by_cases hw : (j : Int) ≤ fi ∧ fi ≤ (na : Int)
      · have HW : Hid (decide ((j : Int) ≤ fi ∧ fi ≤ (na : Int)) = true) := decide_eq_true hw
        by_cases hc : Cl fc
        · have HC : Hid (decide (Cl fc) = true) := decide_eq_true hc
          obtain ⟨x, rfl⟩ : ∃ x : Nat, fi = x := ⟨fi.toNat, by omega⟩
          have hjx : j ≤ x := by omega
          have hxn : x ≤ na := by omega
          obtain ⟨Q, hQ⟩ : ∃ Q, (A.drop j).take (x - j) = Q := ⟨_, rfl⟩
          have hQl : Q.length = x - j := by rw [← hQ, List.length_take, List.length_drop]; have := HN.out; omega
          have HQ9 := Lib.hid hQ
          have HFX : Hid (∀ fk', FixOk A ⟨fk', (x : Int), fc⟩ j ↔ fk' = 2 ∨ (x < na ∧ ((fk' = 0 ∧ A.getD x 0 ≠ fc) ∨ (fk' = 1 ∧ A.getD x 0 = fc)))) := fun fk' => by
            unfold FixOk
            simp only [Int.toNat_natCast]
            have e : ((x : Int) < (A.length : Int)) ↔ x < na := by rw [HN.out]; omega
            rw [e]
            exact ⟨fun h => h.2.2, fun h => ⟨hc, ⟨hw.1, by rw [HN.out]; exact hw.2⟩, h⟩⟩
          have hcase : fk = 2 ∨ (fk ≠ 2 ∧ fk ≠ 0 ∧ fk ≠ 1) ∨ ((fk = 0 ∨ fk = 1) ∧ x = na) ∨ (fk = 0 ∧ x < na) ∨ (fk = 1 ∧ x < na) := by omega
          clear hQ hw hc
          rcases hcase with rfl | ⟨k2, k0, k1⟩ | ⟨h01, hxe⟩ | ⟨rfl, hxl⟩ | ⟨rfl, hxl⟩
          · have hfo : FixOk A ⟨2, (x : Int), fc⟩ j := (HFX.out 2).2 (.inl rfl)
            obtain ⟨ad, had, hsh⟩ := part_sh HA.out j x hjx hxn
            rw [HQ9.out] at hsh
            have HS2 : Hid (fixL A P 0 = (fixL A (P.drop (k + 1)) x).map ((L ++ Q ++ [fc]) ++ ·)) := by
              show _ = _
              have := fixL_more hs.out (by rw [HM.out]; exact hlt) HQ.out hfo
              simp only [fixN, fixP, fixC, Int.toNat_natCast, HQ9.out] at this
              simpa using this
            clear hfo
            go_wp2_with fail
            obtain ⟨hbx, hb12⟩ := fbox wr 2 (x : Int) fc
            generalize wr.alloc (.cells #[.int .i64 2, .int .i64 (x : Int), .int .i64 fc] 42) = w2 at hbx hb12 ⊢
            have hB2 := HB.out.trans (hb12.mono hsz)
            clear c0 c1 c2
            obtain ⟨b0, b1, b2⟩ := hbx.cells
            refine (q_within _ _ _ _ true HW).mono ?_
            rintro e w' ⟨rfl, rfl⟩
            go_wp2_with fail
            refine (q_cell _ _ true HC).mono ?_
            rintro e w' ⟨rfl, rfl⟩
            have hO2 := HO.out.below hb12
            have HO2 := kepF hO2
            have hsz2 := hB2.size
            have HB2 := kepF hB2
            have hne : Hid (∀ z, (Value.slice ao no co).ownBlock = some z → z < wr.heap.size) := fun z hz => (World.ownsRow.lt HO.out z hz).2
            have HBX := kepF hbx
            have hlQ : L.length + Q.length ≤ 100000000 := by omega
            have HSH2 := kepF (hsh w2 hB2)
            have f1 : (0 : Int) ≤ (j : Int) := by omega
            have f2 : (j : Int) ≤ (x : Int) := by omega
            have f3 : (x : Int) ≤ (ca : Int) := by omega
            have f4 : x ≤ ca := by omega
            have f5 : j ≤ ca := by omega
            have f6 : (x : Int) ≤ (na : Int) := by omega
            clear hbx hB2 hO2 hb12 hsh
            go_wp2_with (at_builtin; go_loud (refine wpList_append_shF rfl _ _ rfl w.heap.size rfl rfl HO2.out HSH2.out hlQ hsz2 ?_))
            intro v3 w3 hO3 hg3
            have hB3 := HB2.out.grown hg3 hsz2 (fun z hz => (World.ownsRow.lt HO2.out z hz).1)
            have hbx3 : BoxF w3 _ _ := (hg3.block _ HBX.out.lt (fun e => by have := hne.out _ e.symm; omega)).trans HBX.out
            clear b0 b1 b2 HBX HSH2 HO2 HB2 hg3
            obtain ⟨b0, b1, b2⟩ := hbx3.cells
            obtain ⟨a3, n3, c3, h3o, hn3⟩ := own_parts hO3
            subst h3o
            have hsz3 := hB3.size
            have HO3 := kepF hO3
            have HB3 := kepF hB3
            have HBX3 := kepF hbx3
            clear hbx3 hO3 hB3
            have hl3 : (L ++ Q).length ≤ 3000000 := by rw [List.length_append]; omega
            go_wp2_with (at_builtin; go_loud (refine wpList_append_own _ rfl _ _ 28 rfl w.heap.size 3 i0 (.int .i64 0) 1 8 Try.underlying28 hi hz0 hz1 hz2 rfl (by decide) _ _ _ rfl (HO3.out.alloc _) ⟨w3.heap.size, 0, none⟩ 1 1 [.int .i64 fc] rfl rfl new_one one_cell (by unfold maxLen; omega) (by omega) (by simp; omega) ?_))
            intro v5 w5 hown5 hgrow5 hnil5
            rw [← hn3] at hown5
            have HO5 := kepF (OwnInts.snoc hown5)
            have HB5 := kepF (below_append HB3.out hsz3 HO3.out hgrow5)
            clear hown5 hgrow5 hnil5 b0 b1 b2
            go_wp2
            go_roundw
            case rel => exact ⟨k + 1, x, _, by omega, by omega, by go_num, by go_num, HS2, HO5.out, by simp only [List.length_append, List.length_singleton]; omega, HB5.out⟩
            case measure => simp [intOf]; omega
          · have HNF : Hid (r = none) := hno'.out (fun h => by have := (HFX.out _).1 h; omega)
            have t0 : (fk == 2) = false := by simp [k2]
            have t1 : (fk != 2) = true := by simp [bne, k2]
            have t2 : decide (fk = 2) = false := decide_eq_false k2
            have y0 : (fk == 0) = false := by simp [k0]
            have y1 : (fk != 0) = true := by simp [bne, k0]
            have y2 : decide (fk = 0) = false := decide_eq_false k0
            have z0 : (fk == 1) = false := by simp [k1]
            have z1 : (fk != 1) = true := by simp [bne, k1]
            have z2 : decide (fk = 1) = false := decide_eq_false k1
            obtain ⟨ad, had, hsh⟩ := part_sh HA.out j x hjx hxn
            rw [HQ9.out] at hsh
            go_wp2_with fail
            obtain ⟨hbx, hb12⟩ := fbox wr fk (x : Int) fc
            generalize wr.alloc (.cells #[.int .i64 fk, .int .i64 (x : Int), .int .i64 fc] 42) = w2 at hbx hb12 ⊢
            have hB2 := HB.out.trans (hb12.mono hsz)
            clear c0 c1 c2
            obtain ⟨b0, b1, b2⟩ := hbx.cells
            refine (q_within _ _ _ _ true HW).mono ?_
            rintro e w' ⟨rfl, rfl⟩
            go_wp2_with fail
            refine (q_cell _ _ true HC).mono ?_
            rintro e w' ⟨rfl, rfl⟩
            have hO2 := HO.out.below hb12
            have HO2 := kepF hO2
            have hsz2 := hB2.size
            have HB2 := kepF hB2
            have hne : Hid (∀ z, (Value.slice ao no co).ownBlock = some z → z < wr.heap.size) := fun z hz => (World.ownsRow.lt HO.out z hz).2
            have HBX := kepF hbx
            have hlQ : L.length + Q.length ≤ 100000000 := by omega
            have HSH2 := kepF (hsh w2 hB2)
            have f1 : (0 : Int) ≤ (j : Int) := by omega
            have f2 : (j : Int) ≤ (x : Int) := by omega
            have f3 : (x : Int) ≤ (ca : Int) := by omega
            have f4 : x ≤ ca := by omega
            have f5 : j ≤ ca := by omega
            have f6 : (x : Int) ≤ (na : Int) := by omega
            clear hbx hB2 hO2 hb12 hsh
            go_wp2_with (at_builtin; go_loud (refine wpList_append_shF rfl _ _ rfl w.heap.size rfl rfl HO2.out HSH2.out hlQ hsz2 ?_))
            intro v3 w3 hO3 hg3
            have hB3 := HB2.out.grown hg3 hsz2 (fun z hz => (World.ownsRow.lt HO2.out z hz).1)
            have hbx3 : BoxF w3 _ _ := (hg3.block _ HBX.out.lt (fun e => by have := hne.out _ e.symm; omega)).trans HBX.out
            clear b0 b1 b2 HBX HSH2 HO2 HB2 hg3
            obtain ⟨b0, b1, b2⟩ := hbx3.cells
            obtain ⟨a3, n3, c3, h3o, hn3⟩ := own_parts hO3
            subst h3o
            have hsz3 := hB3.size
            have HO3 := kepF hO3
            have HB3 := kepF hB3
            have HBX3 := kepF hbx3
            clear hbx3 hO3 hB3
            go_wp2_with fail
            go_quiet (fail)
            go_wp2
            refine bodyPost_ret (results_twoF rfl _ _ _) rfl ?_
            exact FxOut.no (hno'.out (fun h => by have := (HFX.out _).1 h; omega)) (below_drewNP HB3.out _)
          · subst hxe
            rcases h01 with rfl | rfl
            · have hxl : x = x := rfl
              obtain ⟨ad, had, hsh⟩ := part_sh HA.out j x hjx hxn
              rw [HQ9.out] at hsh
              go_wp2_with fail
              obtain ⟨hbx, hb12⟩ := fbox wr 0 (x : Int) fc
              generalize wr.alloc (.cells #[.int .i64 0, .int .i64 (x : Int), .int .i64 fc] 42) = w2 at hbx hb12 ⊢
              have hB2 := HB.out.trans (hb12.mono hsz)
              clear c0 c1 c2
              obtain ⟨b0, b1, b2⟩ := hbx.cells
              refine (q_within _ _ _ _ true HW).mono ?_
              rintro e w' ⟨rfl, rfl⟩
              go_wp2_with fail
              refine (q_cell _ _ true HC).mono ?_
              rintro e w' ⟨rfl, rfl⟩
              have hO2 := HO.out.below hb12
              have HO2 := kepF hO2
              have hsz2 := hB2.size
              have HB2 := kepF hB2
              have hne : Hid (∀ z, (Value.slice ao no co).ownBlock = some z → z < wr.heap.size) := fun z hz => (World.ownsRow.lt HO.out z hz).2
              have HBX := kepF hbx
              have hlQ : L.length + Q.length ≤ 100000000 := by omega
              have HSH2 := kepF (hsh w2 hB2)
              have f1 : (0 : Int) ≤ (j : Int) := by omega
              have f2 : (j : Int) ≤ (x : Int) := by omega
              have f3 : (x : Int) ≤ (ca : Int) := by omega
              have f4 : x ≤ ca := by omega
              have f5 : j ≤ ca := by omega
              have f6 : (x : Int) ≤ (x : Int) := by omega
              clear hbx hB2 hO2 hb12 hsh
              go_wp2_with (at_builtin; go_loud (refine wpList_append_shF rfl _ _ rfl w.heap.size rfl rfl HO2.out HSH2.out hlQ hsz2 ?_))
              intro v3 w3 hO3 hg3
              have hB3 := HB2.out.grown hg3 hsz2 (fun z hz => (World.ownsRow.lt HO2.out z hz).1)
              have hbx3 : BoxF w3 _ _ := (hg3.block _ HBX.out.lt (fun e => by have := hne.out _ e.symm; omega)).trans HBX.out
              clear b0 b1 b2 HBX HSH2 HO2 HB2 hg3
              obtain ⟨b0, b1, b2⟩ := hbx3.cells
              obtain ⟨a3, n3, c3, h3o, hn3⟩ := own_parts hO3
              subst h3o
              have hsz3 := hB3.size
              have HO3 := kepF hO3
              have HB3 := kepF hB3
              have HBX3 := kepF hbx3
              clear hbx3 hO3 hB3
              go_wp2_with fail
              go_quiet (fail)
              go_wp2
              refine bodyPost_ret (results_twoF rfl _ _ _) rfl ?_
              exact FxOut.no (hno'.out (fun h => by have := (HFX.out _).1 h; omega)) (below_drewNP HB3.out _)
            · have hxl : x = x := rfl
              obtain ⟨ad, had, hsh⟩ := part_sh HA.out j x hjx hxn
              rw [HQ9.out] at hsh
              go_wp2_with fail
              obtain ⟨hbx, hb12⟩ := fbox wr 1 (x : Int) fc
              generalize wr.alloc (.cells #[.int .i64 1, .int .i64 (x : Int), .int .i64 fc] 42) = w2 at hbx hb12 ⊢
              have hB2 := HB.out.trans (hb12.mono hsz)
              clear c0 c1 c2
              obtain ⟨b0, b1, b2⟩ := hbx.cells
              refine (q_within _ _ _ _ true HW).mono ?_
              rintro e w' ⟨rfl, rfl⟩
              go_wp2_with fail
              refine (q_cell _ _ true HC).mono ?_
              rintro e w' ⟨rfl, rfl⟩
              have hO2 := HO.out.below hb12
              have HO2 := kepF hO2
              have hsz2 := hB2.size
              have HB2 := kepF hB2
              have hne : Hid (∀ z, (Value.slice ao no co).ownBlock = some z → z < wr.heap.size) := fun z hz => (World.ownsRow.lt HO.out z hz).2
              have HBX := kepF hbx
              have hlQ : L.length + Q.length ≤ 100000000 := by omega
              have HSH2 := kepF (hsh w2 hB2)
              have f1 : (0 : Int) ≤ (j : Int) := by omega
              have f2 : (j : Int) ≤ (x : Int) := by omega
              have f3 : (x : Int) ≤ (ca : Int) := by omega
              have f4 : x ≤ ca := by omega
              have f5 : j ≤ ca := by omega
              have f6 : (x : Int) ≤ (x : Int) := by omega
              clear hbx hB2 hO2 hb12 hsh
              go_wp2_with (at_builtin; go_loud (refine wpList_append_shF rfl _ _ rfl w.heap.size rfl rfl HO2.out HSH2.out hlQ hsz2 ?_))
              intro v3 w3 hO3 hg3
              have hB3 := HB2.out.grown hg3 hsz2 (fun z hz => (World.ownsRow.lt HO2.out z hz).1)
              have hbx3 : BoxF w3 _ _ := (hg3.block _ HBX.out.lt (fun e => by have := hne.out _ e.symm; omega)).trans HBX.out
              clear b0 b1 b2 HBX HSH2 HO2 HB2 hg3
              obtain ⟨b0, b1, b2⟩ := hbx3.cells
              obtain ⟨a3, n3, c3, h3o, hn3⟩ := own_parts hO3
              subst h3o
              have hsz3 := hB3.size
              have HO3 := kepF hO3
              have HB3 := kepF hB3
              have HBX3 := kepF hbx3
              clear hbx3 hO3 hB3
              go_wp2_with fail
              go_quiet (fail)
              go_wp2
              refine bodyPost_ret (results_twoF rfl _ _ _) rfl ?_
              exact FxOut.no (hno'.out (fun h => by have := (HFX.out _).1 h; omega)) (below_drewNP HB3.out _)
          · skip
            · obtain ⟨p, hp⟩ : ∃ p, A.getD x 0 = p := ⟨_, rfl⟩
              obtain ⟨x1, hx1⟩ : ∃ x1, x + 1 = x1 := ⟨_, rfl⟩
              have HX1 := Lib.hid hx1
              have u1 : IntKind.i64.wrap ((x : Int) + 1) = (x1 : Int) := by rw [show ((x : Int) + 1) = (x1 : Int) from by omega]; exact IntWalk.i64_in _ (by omega)
              have e3 : ((x : Int) == (na : Int)) = false := by simp; omega
              have e4 : decide ((x : Int) = (na : Int)) = false := decide_eq_false (by omega)
              have e5 : decide (x = na) = false := decide_eq_false (by omega)
              have e6 : (x == na) = false := by simp; omega
              have q1 : (x : Int) < (na : Int) := by omega
              have q0 : (0 : Int) ≤ (x : Int) := by omega
              rw [hp] at HFX
              have EA : Hid (∀ wy, Below w.heap.size w wy → wy.cell? ⟨ga, oa + x, none⟩ = some (.int .i64 p)) := fun wy hbx => by
                obtain ⟨aq, cq, eq, _, _, xa3⟩ := HA.out
                injection eq with eq1 eq2 eq3
                rcases xa3 with xa3 | ⟨ga', oa', e9, xa3⟩
                · have := HN.out; rw [xa3] at this; simp at this; omega
                · rw [← eq1] at e9
                  injection e9 with e9
                  injection e9 with e10 e11
                  subst e10 e11
                  have ea0 := xa3 x (by rw [HN.out]; omega)
                  rw [hp] at ea0
                  exact (hbx.cell (World.block_lt_of_cell? w _ ea0)).trans ea0
              clear hx1 hp
              by_cases hs9 : p = fc
              · subst hs9
                obtain ⟨ad, had, hsh⟩ := part_sh HA.out j x hjx hxn
                rw [HQ9.out] at hsh
                rw [if_neg (by omega)] at had
                injection had with had
                subst had
                have HNF : Hid (r = none) := hno'.out (fun h => by have := (HFX.out _).1 h; simp at this)
                go_wp2_with fail
                obtain ⟨hbx, hb12⟩ := fbox wr 0 (x : Int) p
                generalize wr.alloc (.cells #[.int .i64 0, .int .i64 (x : Int), .int .i64 p] 42) = w2 at hbx hb12 ⊢
                have hB2 := HB.out.trans (hb12.mono hsz)
                clear c0 c1 c2
                obtain ⟨b0, b1, b2⟩ := hbx.cells
                refine (q_within _ _ _ _ true HW).mono ?_
                rintro e w' ⟨rfl, rfl⟩
                go_wp2_with fail
                refine (q_cell _ _ true HC).mono ?_
                rintro e w' ⟨rfl, rfl⟩
                have hO2 := HO.out.below hb12
                have HO2 := kepF hO2
                have hsz2 := hB2.size
                have HB2 := kepF hB2
                have hne : Hid (∀ z, (Value.slice ao no co).ownBlock = some z → z < wr.heap.size) := fun z hz => (World.ownsRow.lt HO.out z hz).2
                have HBX := kepF hbx
                have hlQ : L.length + Q.length ≤ 100000000 := by omega
                have HSH2 := kepF (hsh w2 hB2)
                have f1 : (0 : Int) ≤ (j : Int) := by omega
                have f2 : (j : Int) ≤ (x : Int) := by omega
                have f3 : (x : Int) ≤ (ca : Int) := by omega
                have f4 : x ≤ ca := by omega
                have f5 : j ≤ ca := by omega
                have f6 : (x : Int) ≤ (na : Int) := by omega
                clear hbx hB2 hO2 hb12 hsh
                go_wp2_with (at_builtin; go_loud (refine wpList_append_shF rfl _ _ rfl w.heap.size rfl rfl HO2.out HSH2.out hlQ hsz2 ?_))
                intro v3 w3 hO3 hg3
                have hB3 := HB2.out.grown hg3 hsz2 (fun z hz => (World.ownsRow.lt HO2.out z hz).1)
                have hbx3 : BoxF w3 _ _ := (hg3.block _ HBX.out.lt (fun e => by have := hne.out _ e.symm; omega)).trans HBX.out
                clear b0 b1 b2 HBX HSH2 HO2 HB2 hg3
                obtain ⟨b0, b1, b2⟩ := hbx3.cells
                obtain ⟨a3, n3, c3, h3o, hn3⟩ := own_parts hO3
                subst h3o
                have hsz3 := hB3.size
                have HO3 := kepF hO3
                have HB3 := kepF hB3
                have HBX3 := kepF hbx3
                clear hbx3 hO3 hB3
                have ea := EA.out w3 HB3.out
                go_wp2_with fail
                go_quiet (fail)
                go_wp2
                refine bodyPost_ret (results_twoF rfl _ _ _) rfl ?_
                exact FxOut.no (hno'.out (fun h => by have := (HFX.out _).1 h; omega)) (below_drewNP HB3.out _)
              · have j0 : (p == fc) = false := by simp [hs9]
                have j1 : decide (p = fc) = false := decide_eq_false hs9
                have j2 : (p != fc) = true := by simp [bne, hs9]
                have hfo : FixOk A ⟨0, (x : Int), fc⟩ j := (HFX.out 0).2 (.inr ⟨hxl, .inl ⟨rfl, hs9⟩⟩)
                obtain ⟨ad, had, hsh⟩ := part_sh HA.out j x hjx hxn
                rw [HQ9.out] at hsh
                rw [if_neg (by omega)] at had
                injection had with had
                subst had
                have HS2 : Hid (fixL A P 0 = (fixL A (P.drop (k + 1)) x1).map ((L ++ Q ++ [fc]) ++ ·)) := by
                  show _ = _
                  have := fixL_more hs.out (by rw [HM.out]; exact hlt) HQ.out hfo
                  simp only [fixN, fixP, fixC, Int.toNat_natCast, HQ9.out] at this
                  simpa [← HX1.out] using this
                clear hfo
                go_wp2_with fail
                obtain ⟨hbx, hb12⟩ := fbox wr 0 (x : Int) fc
                generalize wr.alloc (.cells #[.int .i64 0, .int .i64 (x : Int), .int .i64 fc] 42) = w2 at hbx hb12 ⊢
                have hB2 := HB.out.trans (hb12.mono hsz)
                clear c0 c1 c2
                obtain ⟨b0, b1, b2⟩ := hbx.cells
                refine (q_within _ _ _ _ true HW).mono ?_
                rintro e w' ⟨rfl, rfl⟩
                go_wp2_with fail
                refine (q_cell _ _ true HC).mono ?_
                rintro e w' ⟨rfl, rfl⟩
                have hO2 := HO.out.below hb12
                have HO2 := kepF hO2
                have hsz2 := hB2.size
                have HB2 := kepF hB2
                have hne : Hid (∀ z, (Value.slice ao no co).ownBlock = some z → z < wr.heap.size) := fun z hz => (World.ownsRow.lt HO.out z hz).2
                have HBX := kepF hbx
                have hlQ : L.length + Q.length ≤ 100000000 := by omega
                have HSH2 := kepF (hsh w2 hB2)
                have f1 : (0 : Int) ≤ (j : Int) := by omega
                have f2 : (j : Int) ≤ (x : Int) := by omega
                have f3 : (x : Int) ≤ (ca : Int) := by omega
                have f4 : x ≤ ca := by omega
                have f5 : j ≤ ca := by omega
                have f6 : (x : Int) ≤ (na : Int) := by omega
                clear hbx hB2 hO2 hb12 hsh
                go_wp2_with (at_builtin; go_loud (refine wpList_append_shF rfl _ _ rfl w.heap.size rfl rfl HO2.out HSH2.out hlQ hsz2 ?_))
                intro v3 w3 hO3 hg3
                have hB3 := HB2.out.grown hg3 hsz2 (fun z hz => (World.ownsRow.lt HO2.out z hz).1)
                have hbx3 : BoxF w3 _ _ := (hg3.block _ HBX.out.lt (fun e => by have := hne.out _ e.symm; omega)).trans HBX.out
                clear b0 b1 b2 HBX HSH2 HO2 HB2 hg3
                obtain ⟨b0, b1, b2⟩ := hbx3.cells
                obtain ⟨a3, n3, c3, h3o, hn3⟩ := own_parts hO3
                subst h3o
                have hsz3 := hB3.size
                have HO3 := kepF hO3
                have HB3 := kepF hB3
                have HBX3 := kepF hbx3
                clear hbx3 hO3 hB3
                have ea := EA.out w3 HB3.out
                go_wp2_with fail
                go_quiet (fail)
                have hB4 := below_drewNP HB3.out nq
                have hO4 : OwnInts (w3.drewN nq) _ _ _ := HO3.out.below (below_drewNP (Below.refl _ _) nq)
                have hbx4 := HBX3.out.drewN nq
                generalize w3.drewN nq = w4 at hB4 hO4 hbx4 ⊢
                clear b0 b1 b2 HBX3 HB3 HO3 hsz3
                clear ea
                obtain ⟨b0, b1, b2⟩ := hbx4.cells
                have hsz4 := hB4.size
                have HO4 := kepF hO4
                have HB4 := kepF hB4
                have HBX4 := kepF hbx4
                clear hB4 hO4 hbx4
                have hl3 : (L ++ Q).length ≤ 3000000 := by rw [List.length_append]; omega
                go_wp2_with (at_builtin; go_loud (refine wpList_append_own _ rfl _ _ 28 rfl w.heap.size 3 i0 (.int .i64 0) 1 8 Try.underlying28 hi hz0 hz1 hz2 rfl (by decide) _ _ _ rfl (HO4.out.alloc _) ⟨w4.heap.size, 0, none⟩ 1 1 [.int .i64 fc] rfl rfl new_one one_cell (by unfold maxLen; omega) (by omega) (by simp; omega) ?_))
                intro v5 w5 hown5 hgrow5 hnil5
                rw [← hn3] at hown5
                have HO5 := kepF (OwnInts.snoc hown5)
                have HB5 := kepF (below_append HB4.out hsz4 HO4.out hgrow5)
                have hbx5 : BoxF w5 wr.heap.size ⟨0, (x : Int), fc⟩ := by
                  have h4 : BoxF w4 wr.heap.size ⟨0, (x : Int), fc⟩ := HBX4.out
                  have h4a : BoxF (w4.alloc (.cells #[.int .i64 fc] 3)) wr.heap.size ⟨0, (x : Int), fc⟩ := (Below.heap_alloc _ _ _ h4.lt).trans h4
                  exact (hgrow5.block _ h4a.lt (fun e => own_ne HO4.out h4 _ e.symm rfl)).trans h4a
                clear hown5 hgrow5 hnil5 b0 b1 b2
                obtain ⟨b0, b1, b2⟩ := hbx5.cells
                clear hbx5
                go_wp2
                go_roundw
                case rel => exact ⟨k + 1, x1, _, by omega, by have := HX1.out; omega, by go_num, by go_num, HS2, HO5.out, by simp only [List.length_append, List.length_singleton]; have := HX1.out; omega, HB5.out⟩
                case measure => simp [intOf]; omega
          · skip
            · obtain ⟨p, hp⟩ : ∃ p, A.getD x 0 = p := ⟨_, rfl⟩
              obtain ⟨x1, hx1⟩ : ∃ x1, x + 1 = x1 := ⟨_, rfl⟩
              have HX1 := Lib.hid hx1
              have u1 : IntKind.i64.wrap ((x : Int) + 1) = (x1 : Int) := by rw [show ((x : Int) + 1) = (x1 : Int) from by omega]; exact IntWalk.i64_in _ (by omega)
              have e3 : ((x : Int) == (na : Int)) = false := by simp; omega
              have e4 : decide ((x : Int) = (na : Int)) = false := decide_eq_false (by omega)
              have e5 : decide (x = na) = false := decide_eq_false (by omega)
              have e6 : (x == na) = false := by simp; omega
              have q1 : (x : Int) < (na : Int) := by omega
              have q0 : (0 : Int) ≤ (x : Int) := by omega
              rw [hp] at HFX
              have EA : Hid (∀ wy, Below w.heap.size w wy → wy.cell? ⟨ga, oa + x, none⟩ = some (.int .i64 p)) := fun wy hbx => by
                obtain ⟨aq, cq, eq, _, _, xa3⟩ := HA.out
                injection eq with eq1 eq2 eq3
                rcases xa3 with xa3 | ⟨ga', oa', e9, xa3⟩
                · have := HN.out; rw [xa3] at this; simp at this; omega
                · rw [← eq1] at e9
                  injection e9 with e9
                  injection e9 with e10 e11
                  subst e10 e11
                  have ea0 := xa3 x (by rw [HN.out]; omega)
                  rw [hp] at ea0
                  exact (hbx.cell (World.block_lt_of_cell? w _ ea0)).trans ea0
              clear hx1 hp
              by_cases hs9 : p = fc
              · subst hs9
                have hfo : FixOk A ⟨1, (x : Int), p⟩ j := (HFX.out 1).2 (.inr ⟨hxl, .inr ⟨rfl, rfl⟩⟩)
                obtain ⟨ad, had, hsh⟩ := part_sh HA.out j x hjx hxn
                rw [HQ9.out] at hsh
                rw [if_neg (by omega)] at had
                injection had with had
                subst had
                have HS2 : Hid (fixL A P 0 = (fixL A (P.drop (k + 1)) x1).map ((L ++ Q) ++ ·)) := by
                  show _ = _
                  have := fixL_more hs.out (by rw [HM.out]; exact hlt) HQ.out hfo
                  simp only [fixN, fixP, fixC, Int.toNat_natCast, HQ9.out] at this
                  simpa [← HX1.out] using this
                clear hfo
                go_wp2_with fail
                obtain ⟨hbx, hb12⟩ := fbox wr 1 (x : Int) p
                generalize wr.alloc (.cells #[.int .i64 1, .int .i64 (x : Int), .int .i64 p] 42) = w2 at hbx hb12 ⊢
                have hB2 := HB.out.trans (hb12.mono hsz)
                clear c0 c1 c2
                obtain ⟨b0, b1, b2⟩ := hbx.cells
                refine (q_within _ _ _ _ true HW).mono ?_
                rintro e w' ⟨rfl, rfl⟩
                go_wp2_with fail
                refine (q_cell _ _ true HC).mono ?_
                rintro e w' ⟨rfl, rfl⟩
                have hO2 := HO.out.below hb12
                have HO2 := kepF hO2
                have hsz2 := hB2.size
                have HB2 := kepF hB2
                have hne : Hid (∀ z, (Value.slice ao no co).ownBlock = some z → z < wr.heap.size) := fun z hz => (World.ownsRow.lt HO.out z hz).2
                have HBX := kepF hbx
                have hlQ : L.length + Q.length ≤ 100000000 := by omega
                have HSH2 := kepF (hsh w2 hB2)
                have f1 : (0 : Int) ≤ (j : Int) := by omega
                have f2 : (j : Int) ≤ (x : Int) := by omega
                have f3 : (x : Int) ≤ (ca : Int) := by omega
                have f4 : x ≤ ca := by omega
                have f5 : j ≤ ca := by omega
                have f6 : (x : Int) ≤ (na : Int) := by omega
                clear hbx hB2 hO2 hb12 hsh
                go_wp2_with (at_builtin; go_loud (refine wpList_append_shF rfl _ _ rfl w.heap.size rfl rfl HO2.out HSH2.out hlQ hsz2 ?_))
                intro v3 w3 hO3 hg3
                have hB3 := HB2.out.grown hg3 hsz2 (fun z hz => (World.ownsRow.lt HO2.out z hz).1)
                have hbx3 : BoxF w3 _ _ := (hg3.block _ HBX.out.lt (fun e => by have := hne.out _ e.symm; omega)).trans HBX.out
                clear b0 b1 b2 HBX HSH2 HO2 HB2 hg3
                obtain ⟨b0, b1, b2⟩ := hbx3.cells
                obtain ⟨a3, n3, c3, h3o, hn3⟩ := own_parts hO3
                subst h3o
                have hsz3 := hB3.size
                have HO3 := kepF hO3
                have HB3 := kepF hB3
                have HBX3 := kepF hbx3
                clear hbx3 hO3 hB3
                have ea := EA.out w3 HB3.out
                go_wp2_with fail
                go_quiet (fail)
                have hB4 := below_drewNP HB3.out nq
                have hO4 : OwnInts (w3.drewN nq) _ _ _ := HO3.out.below (below_drewNP (Below.refl _ _) nq)
                have hbx4 := HBX3.out.drewN nq
                generalize w3.drewN nq = w4 at hB4 hO4 hbx4 ⊢
                clear b0 b1 b2 HBX3 HB3 HO3 hsz3
                clear ea
                obtain ⟨b0, b1, b2⟩ := hbx4.cells
                have hsz4 := hB4.size
                have HO4 := kepF hO4
                have HB4 := kepF hB4
                have HBX4 := kepF hbx4
                clear hB4 hO4 hbx4
                go_wp2
                go_roundw
                case rel => exact ⟨k + 1, x1, _, by omega, by have := HX1.out; omega, by go_num, by go_num, HS2, HO4.out, by simp only [List.length_append]; have := HX1.out; omega, HB4.out⟩
                case measure => simp [intOf]; omega
              · have j0 : (p == fc) = false := by simp [hs9]
                have j1 : decide (p = fc) = false := decide_eq_false hs9
                have j2 : (p != fc) = true := by simp [bne, hs9]
                obtain ⟨ad, had, hsh⟩ := part_sh HA.out j x hjx hxn
                rw [HQ9.out] at hsh
                rw [if_neg (by omega)] at had
                injection had with had
                subst had
                have HNF : Hid (r = none) := hno'.out (fun h => by have := (HFX.out _).1 h; simp [hs9] at this)
                go_wp2_with fail
                obtain ⟨hbx, hb12⟩ := fbox wr 1 (x : Int) fc
                generalize wr.alloc (.cells #[.int .i64 1, .int .i64 (x : Int), .int .i64 fc] 42) = w2 at hbx hb12 ⊢
                have hB2 := HB.out.trans (hb12.mono hsz)
                clear c0 c1 c2
                obtain ⟨b0, b1, b2⟩ := hbx.cells
                refine (q_within _ _ _ _ true HW).mono ?_
                rintro e w' ⟨rfl, rfl⟩
                go_wp2_with fail
                refine (q_cell _ _ true HC).mono ?_
                rintro e w' ⟨rfl, rfl⟩
                have hO2 := HO.out.below hb12
                have HO2 := kepF hO2
                have hsz2 := hB2.size
                have HB2 := kepF hB2
                have hne : Hid (∀ z, (Value.slice ao no co).ownBlock = some z → z < wr.heap.size) := fun z hz => (World.ownsRow.lt HO.out z hz).2
                have HBX := kepF hbx
                have hlQ : L.length + Q.length ≤ 100000000 := by omega
                have HSH2 := kepF (hsh w2 hB2)
                have f1 : (0 : Int) ≤ (j : Int) := by omega
                have f2 : (j : Int) ≤ (x : Int) := by omega
                have f3 : (x : Int) ≤ (ca : Int) := by omega
                have f4 : x ≤ ca := by omega
                have f5 : j ≤ ca := by omega
                have f6 : (x : Int) ≤ (na : Int) := by omega
                clear hbx hB2 hO2 hb12 hsh
                go_wp2_with (at_builtin; go_loud (refine wpList_append_shF rfl _ _ rfl w.heap.size rfl rfl HO2.out HSH2.out hlQ hsz2 ?_))
                intro v3 w3 hO3 hg3
                have hB3 := HB2.out.grown hg3 hsz2 (fun z hz => (World.ownsRow.lt HO2.out z hz).1)
                have hbx3 : BoxF w3 _ _ := (hg3.block _ HBX.out.lt (fun e => by have := hne.out _ e.symm; omega)).trans HBX.out
                clear b0 b1 b2 HBX HSH2 HO2 HB2 hg3
                obtain ⟨b0, b1, b2⟩ := hbx3.cells
                obtain ⟨a3, n3, c3, h3o, hn3⟩ := own_parts hO3
                subst h3o
                have hsz3 := hB3.size
                have HO3 := kepF hO3
                have HB3 := kepF hB3
                have HBX3 := kepF hbx3
                clear hbx3 hO3 hB3
                have ea := EA.out w3 HB3.out
                go_wp2_with fail
                go_quiet (fail)
                go_wp2
                refine bodyPost_ret (results_twoF rfl _ _ _) rfl ?_
                exact FxOut.no (hno'.out (fun h => by have := (HFX.out _).1 h; omega)) (below_drewNP HB3.out _)
        · have HC : Hid (decide (Cl fc) = false) := decide_eq_false hc
          have HR0 : Hid (r = none) := hno'.out (fun h => hc h.1)
          clear hc hw
          go_wp2_with fail
          obtain ⟨hbx, hb12⟩ := fbox wr fk fi fc
          generalize wr.alloc (.cells #[.int .i64 fk, .int .i64 fi, .int .i64 fc] 42) = w2 at hbx hb12 ⊢
          have hB2 := HB.out.trans (hb12.mono hsz)
          clear c0 c1 c2
          obtain ⟨b0, b1, b2⟩ := hbx.cells
          refine (q_within _ _ _ _ true HW).mono ?_
          rintro e w' ⟨rfl, rfl⟩
          go_wp2_with fail
          refine (q_cell _ _ false HC).mono ?_
          rintro e w' ⟨rfl, rfl⟩
          go_wp2
          refine bodyPost_ret (results_twoF rfl _ _ _) rfl ?_
          exact FxOut.no HR0.out hB2
      · have HW : Hid (decide ((j : Int) ≤ fi ∧ fi ≤ (na : Int)) = false) := decide_eq_false hw
        have HR0 : Hid (r = none) := hno'.out (fun h => hw (by rw [← HN.out]; exact h.2.1))
        clear hw
        go_wp2_with fail
        obtain ⟨hbx, hb12⟩ := fbox wr fk fi fc
        generalize wr.alloc (.cells #[.int .i64 fk, .int .i64 fi, .int .i64 fc] 42) = w2 at hbx hb12 ⊢
        have hB2 := HB.out.trans (hb12.mono hsz)
        clear c0 c1 c2
        obtain ⟨b0, b1, b2⟩ := hbx.cells
        refine (q_within _ _ _ _ false HW).mono ?_
        rintro e w' ⟨rfl, rfl⟩
        go_wp2
        refine bodyPost_ret (results_twoF rfl _ _ _) rfl ?_
        exact FxOut.no HR0.out hB2
    · obtain rfl : k = n := by omega
      have HE : Hid (fixL A P 0 = some (L ++ A.drop j)) := fixL_end hs.out (by rw [HM.out]; omega)
      obtain ⟨Q, hQ⟩ : ∃ Q, A.drop j = Q := ⟨_, rfl⟩
      have HQ9 := Lib.hid hQ
      have hQl : Q.length ≤ 30 := by rw [← hQ, List.length_drop]; have := HN.out; omega
      clear hQ
      have hlQ : L.length + Q.length ≤ 100000000 := by omega
      · obtain ⟨ad, had, hsh⟩ := part_sh HA.out j na hj (Nat.le_refl _)
        rw [List.take_of_length_le (by rw [List.length_drop, HN.out]; omega), HQ9.out] at hsh
        have HSH2 := kepF (hsh wr HB.out)
        have f1 : (0 : Int) ≤ (j : Int) := by omega
        have f2 : (j : Int) ≤ (na : Int) := by omega
        have f3 : (na : Int) ≤ (ca : Int) := by omega
        have f4 : na ≤ ca := by omega
        have f5 : j ≤ ca := by omega
        clear hsh
        go_wp2_with (at_builtin; go_loud (refine wpList_append_shF rfl _ _ rfl w.heap.size rfl rfl HO.out HSH2.out hlQ hsz ?_))
        intro v3 w3 hO3 hg3
        have hB3 := HB.out.grown hg3 hsz (fun z hz => (World.ownsRow.lt HO.out z hz).1)
        obtain ⟨a3, n3, c3, h3o, hn3⟩ := own_parts hO3
        subst h3o
        have HO3 := kepF hO3
        have HB3 := kepF hB3
        clear hO3 hB3 hg3
        by_cases hlong : 30 < n3
        · have HR0 : Hid (r = none) := by
            show _ = _
            rw [← hr.out]
            unfold fixO
            rw [HE.out, HQ9.out]
            simp only [Option.bind_some]
            rw [if_neg (show ¬ (L ++ Q).length ≤ 30 from by omega)]
            simp
          have d1 : decide ((30 : Int) < (n3 : Int)) = true := decide_eq_true (by omega)
          have d2 : decide (30 < n3) = true := decide_eq_true hlong
          have d3 : (30 : Int) < (n3 : Int) := by omega
          go_wp2
          refine bodyPost_ret (results_twoF rfl _ _ _) rfl ?_
          exact FxOut.no HR0.out HB3.out
        · have HR0 : Hid (r = some (L ++ Q)) := by
            show _ = _
            rw [← hr.out]
            unfold fixO
            rw [if_pos HOK.out, HE.out, HQ9.out]
            simp only [Option.bind_some]
            rw [if_pos (show (L ++ Q).length ≤ 30 from by omega)]
          have d1 : decide ((30 : Int) < (n3 : Int)) = false := decide_eq_false (by omega)
          have d2 : decide (30 < n3) = false := decide_eq_false hlong
          go_wp2
          refine bodyPost_ret (results_twoF rfl _ _ _) rfl ?_
          exact FxOut.yes HR0.out HO3.out HB3.out
set_option maxRecDepth 20000 in
set_option maxHeartbeats 8000000 in
theorem s_FixFaults_none (w : World) (v : Value) (P : List PF) (r : Option (List Int)) (hP : FaultsAt w v P) (hl : P.length ≤ 2000000) (hr : Hid (fixO [] P = r)) :
    Calls Try.prog 35 #[.slice none 0 0, v] w fun e w' => FxOut r w e w' := by
  obtain ⟨i0, hi, hz0, hz1, hz2⟩ := info_parts infoInt
  obtain ⟨A, hAe⟩ : ∃ A : List Int, A = [] := ⟨_, rfl⟩
  have hv0 : ValidL A := by subst hAe; exact ⟨by decide, fun z hz => absurd hz (by simp)⟩
  have HOK : Hid (OkP A) := ⟨by subst hAe; simp, hv0⟩
  have H1 : Hid (decide (ValidL A) = true) := decide_eq_true hv0
  have HN : Hid (A.length = 0) := by show _ = _; rw [hAe]; rfl
  rw [← hAe] at hr
  obtain ⟨ap, cp, rfl, x1, x2, x3⟩ := hP
  obtain ⟨n, hn⟩ : ∃ n, P.length = n := ⟨_, rfl⟩
  rw [hn] at x1 hl ⊢
  have HM := Lib.hid hn
  have HP3 := Lib.hid x3
  have hO0 := OwnInts.made w w.heap.size (Nat.le_refl _)
  have hB0 := Below.alloc (Below.refl w.heap.size w) (Nat.le_refl _) (.cells #[] 3)
  have HA1 : Hid (IntsAt (w.alloc (.cells #[] 3)) (.slice none 0 0) A) := by rw [hAe]; exact IntsAt.nil _
  clear hn x3 hv0 hAe
  go_enter Try.func35, Try.ntmps35
  go_wp2_with fail
  refine (q_valid _ _ A true HA1.out H1).mono ?_
  rintro e w' ⟨rfl, rfl⟩
  go_wp2
  go_loopw [6, 7, 8] (fun o j k wr => ∃ (q : Nat) (L : List Int), q ≤ n ∧ k = .int .i64 q ∧ j = .int .i64 0 ∧ Hid (fixL A P 0 = (fixL A (P.drop q) 0).map (L ++ ·)) ∧ OwnInts wr w.heap.size o L ∧ L.length ≤ q ∧ Below w.heap.size w wr) (fun _ _ k _ => n - (intOf k).toNat)
  case atStart => exact ⟨0, [], by omega, rfl, rfl, by show _ = _; simp, hO0, by simp, hB0⟩
  case round =>
    clear hO0 hB0
    obtain ⟨k, L, hk, rfl, rfl, hs, hO, hL, hB⟩ := hrel
    have hsz := hB.size
    have HO := kepF hO
    have HB := kepF hB
    obtain ⟨ao, no, co, hoo, hno⟩ := own_parts hO
    subst hoo
    have HNO := Lib.hid hno
    clear hO hB
    by_cases hlt : k < n
    · obtain ⟨g, off, rfl, hx3⟩ : ∃ g off, ap = some ⟨g, off, none⟩ ∧ ∀ i, i < P.length → FaultAt w g (off + i * 3) (P.getD i noF) := by
        rcases HP3.out with h | h
        · have := HM.out; rw [h] at this; simp at this; omega
        · exact h
      obtain ⟨q, hq⟩ : ∃ q, P.getD k noF = q := ⟨_, rfl⟩
      have hra := hx3 k (by rw [HM.out]; exact hlt)
      rw [hq] at hra
      have HQ := Lib.hid hq
      clear hq hx3
      obtain ⟨fk, fi, fc⟩ := q
      obtain ⟨c0, c1, c2⟩ := hra
      simp only at c0 c1 c2
      have c0 := (HB.out.cell (World.block_lt_of_cell? w _ c0)).trans c0
      have c1 := (HB.out.cell (World.block_lt_of_cell? w _ c1)).trans c1
      have c2 := (HB.out.cell (World.block_lt_of_cell? w _ c2)).trans c2
      have g1 : (0 : Int) ≤ (k : Int) := by omega
      have g2 : (k : Int) < (n : Int) := by omega
      have hno' : Hid (¬ FixOk A ⟨fk, fi, fc⟩ 0 → r = none) := fun hf => by rw [← hr.out]; exact fixO_no hs.out (by rw [HM.out]; exact hlt) HQ.out hf
      have hQ0 : ∃ Q : List Int, Q = [] := ⟨_, rfl⟩
      obtain ⟨Q, hQ⟩ := hQ0
      have HQ9 := Lib.hid hQ
      have hQl : Q.length = 0 := by rw [hQ]; rfl
      have hsh : ∀ wx, IntsSh wx (.slice none 0 0) Q := fun wx => ⟨by rw [hQ]; exact IntsAt.nil _, .inl rfl⟩
      clear hQ
      by_cases hw : (0 : Int) ≤ fi ∧ fi ≤ (0 : Int)
      · have HW : Hid (decide ((0 : Int) ≤ fi ∧ fi ≤ (0 : Int)) = true) := decide_eq_true hw
        obtain rfl : fi = 0 := by omega
        by_cases hc : Cl fc
        · have HC : Hid (decide (Cl fc) = true) := decide_eq_true hc
          have HFX : Hid (FixOk A ⟨fk, 0, fc⟩ 0 ↔ fk = 2) := by
            have e : ¬ ((0 : Int) < (A.length : Int)) := by rw [HN.out]; simp
            unfold FixOk
            simp only [e, false_and, or_false]
            exact ⟨fun h => h.2.2, fun h => ⟨hc, ⟨by simp, by rw [HN.out]; simp⟩, h⟩⟩
          have hcase : fk = 2 ∨ (fk ≠ 2 ∧ fk ≠ 0 ∧ fk ≠ 1) ∨ fk = 0 ∨ fk = 1 := by omega
          clear hw hc
          rcases hcase with rfl | ⟨k2, k0, k1⟩ | rfl | rfl
          · have hfo : FixOk A ⟨2, 0, fc⟩ 0 := HFX.out.2 rfl
            have HS2 : Hid (fixL A P 0 = (fixL A (P.drop (k + 1)) 0).map ((L ++ Q ++ [fc]) ++ ·)) := by
              show _ = _
              have := fixL_more hs.out (by rw [HM.out]; exact hlt) HQ.out hfo
              rw [HQ9.out]
              simpa [fixN, fixP, fixC] using this
            clear hfo
            go_wp2_with fail
            obtain ⟨hbx, hb12⟩ := fbox wr 2 0 fc
            generalize wr.alloc (.cells #[.int .i64 2, .int .i64 0, .int .i64 fc] 42) = w2 at hbx hb12 ⊢
            have hB2 := HB.out.trans (hb12.mono hsz)
            clear c0 c1 c2
            obtain ⟨b0, b1, b2⟩ := hbx.cells
            refine (q_within _ _ _ _ true HW).mono ?_
            rintro e w' ⟨rfl, rfl⟩
            go_wp2_with fail
            refine (q_cell _ _ true HC).mono ?_
            rintro e w' ⟨rfl, rfl⟩
            have hO2 := HO.out.below hb12
            have HO2 := kepF hO2
            have hsz2 := hB2.size
            have HB2 := kepF hB2
            have hne : Hid (∀ z, (Value.slice ao no co).ownBlock = some z → z < wr.heap.size) := fun z hz => (World.ownsRow.lt HO.out z hz).2
            have HBX := kepF hbx
            have hlQ : L.length + Q.length ≤ 100000000 := by omega
            have HSH2 := kepF (hsh w2)
            clear hbx hB2 hO2 hb12 hsh
            go_wp2_with (at_builtin; go_loud (refine wpList_append_shF rfl _ _ rfl w.heap.size rfl rfl HO2.out HSH2.out hlQ hsz2 ?_))
            intro v3 w3 hO3 hg3
            have hB3 := HB2.out.grown hg3 hsz2 (fun z hz => (World.ownsRow.lt HO2.out z hz).1)
            have hbx3 : BoxF w3 _ _ := (hg3.block _ HBX.out.lt (fun e => by have := hne.out _ e.symm; omega)).trans HBX.out
            clear b0 b1 b2 HBX HSH2 HO2 HB2 hg3
            obtain ⟨b0, b1, b2⟩ := hbx3.cells
            obtain ⟨a3, n3, c3, h3o, hn3⟩ := own_parts hO3
            subst h3o
            have hsz3 := hB3.size
            have HO3 := kepF hO3
            have HB3 := kepF hB3
            clear hbx3 hO3 hB3
            have hl3 : (L ++ Q).length ≤ 3000000 := by rw [List.length_append]; omega
            go_wp2_with (at_builtin; go_loud (refine wpList_append_own _ rfl _ _ 28 rfl w.heap.size 3 i0 (.int .i64 0) 1 8 Try.underlying28 hi hz0 hz1 hz2 rfl (by decide) _ _ _ rfl (HO3.out.alloc _) ⟨w3.heap.size, 0, none⟩ 1 1 [.int .i64 fc] rfl rfl new_one one_cell (by unfold maxLen; omega) (by omega) (by simp; omega) ?_))
            intro v5 w5 hown5 hgrow5 hnil5
            rw [← hn3] at hown5
            have HO5 := kepF (OwnInts.snoc hown5)
            have HB5 := kepF (below_append HB3.out hsz3 HO3.out hgrow5)
            clear hown5 hgrow5 hnil5 b0 b1 b2
            go_wp2
            go_roundw
            case rel => exact ⟨k + 1, _, by omega, by go_num, by go_num, HS2, HO5.out, by simp only [List.length_append, List.length_singleton]; omega, HB5.out⟩
            case measure => simp [intOf]; omega
          · have HNF : Hid (r = none) := hno'.out (fun h => k2 (HFX.out.1 h))
            have t0 : (fk == 2) = false := by simp [k2]
            have t1 : (fk != 2) = true := by simp [bne, k2]
            have t2 : decide (fk = 2) = false := decide_eq_false k2
            have y0 : (fk == 0) = false := by simp [k0]
            have y1 : (fk != 0) = true := by simp [bne, k0]
            have y2 : decide (fk = 0) = false := decide_eq_false k0
            have z0 : (fk == 1) = false := by simp [k1]
            have z1 : (fk != 1) = true := by simp [bne, k1]
            have z2 : decide (fk = 1) = false := decide_eq_false k1
            go_wp2_with fail
            obtain ⟨hbx, hb12⟩ := fbox wr fk 0 fc
            generalize wr.alloc (.cells #[.int .i64 fk, .int .i64 0, .int .i64 fc] 42) = w2 at hbx hb12 ⊢
            have hB2 := HB.out.trans (hb12.mono hsz)
            clear c0 c1 c2
            obtain ⟨b0, b1, b2⟩ := hbx.cells
            refine (q_within _ _ _ _ true HW).mono ?_
            rintro e w' ⟨rfl, rfl⟩
            go_wp2_with fail
            refine (q_cell _ _ true HC).mono ?_
            rintro e w' ⟨rfl, rfl⟩
            have hO2 := HO.out.below hb12
            have HO2 := kepF hO2
            have hsz2 := hB2.size
            have HB2 := kepF hB2
            have hne : Hid (∀ z, (Value.slice ao no co).ownBlock = some z → z < wr.heap.size) := fun z hz => (World.ownsRow.lt HO.out z hz).2
            have HBX := kepF hbx
            have hlQ : L.length + Q.length ≤ 100000000 := by omega
            have HSH2 := kepF (hsh w2)
            clear hbx hB2 hO2 hb12 hsh
            go_wp2_with (at_builtin; go_loud (refine wpList_append_shF rfl _ _ rfl w.heap.size rfl rfl HO2.out HSH2.out hlQ hsz2 ?_))
            intro v3 w3 hO3 hg3
            have hB3 := HB2.out.grown hg3 hsz2 (fun z hz => (World.ownsRow.lt HO2.out z hz).1)
            have hbx3 : BoxF w3 _ _ := (hg3.block _ HBX.out.lt (fun e => by have := hne.out _ e.symm; omega)).trans HBX.out
            clear b0 b1 b2 HBX HSH2 HO2 HB2 hg3
            obtain ⟨b0, b1, b2⟩ := hbx3.cells
            obtain ⟨a3, n3, c3, h3o, hn3⟩ := own_parts hO3
            subst h3o
            have hsz3 := hB3.size
            have HO3 := kepF hO3
            have HB3 := kepF hB3
            clear hbx3 hO3 hB3
            go_wp2_with fail
            go_quiet (fail)
            go_wp2
            refine bodyPost_ret (results_twoF rfl _ _ _) rfl ?_
            exact FxOut.no HNF.out (below_drewNP HB3.out _)
          · have HNF : Hid (r = none) := hno'.out (fun h => absurd (HFX.out.1 h) (by decide))
            go_wp2_with fail
            obtain ⟨hbx, hb12⟩ := fbox wr 0 0 fc
            generalize wr.alloc (.cells #[.int .i64 0, .int .i64 0, .int .i64 fc] 42) = w2 at hbx hb12 ⊢
            have hB2 := HB.out.trans (hb12.mono hsz)
            clear c0 c1 c2
            obtain ⟨b0, b1, b2⟩ := hbx.cells
            refine (q_within _ _ _ _ true HW).mono ?_
            rintro e w' ⟨rfl, rfl⟩
            go_wp2_with fail
            refine (q_cell _ _ true HC).mono ?_
            rintro e w' ⟨rfl, rfl⟩
            have hO2 := HO.out.below hb12
            have HO2 := kepF hO2
            have hsz2 := hB2.size
            have HB2 := kepF hB2
            have hne : Hid (∀ z, (Value.slice ao no co).ownBlock = some z → z < wr.heap.size) := fun z hz => (World.ownsRow.lt HO.out z hz).2
            have HBX := kepF hbx
            have hlQ : L.length + Q.length ≤ 100000000 := by omega
            have HSH2 := kepF (hsh w2)
            clear hbx hB2 hO2 hb12 hsh
            go_wp2_with (at_builtin; go_loud (refine wpList_append_shF rfl _ _ rfl w.heap.size rfl rfl HO2.out HSH2.out hlQ hsz2 ?_))
            intro v3 w3 hO3 hg3
            have hB3 := HB2.out.grown hg3 hsz2 (fun z hz => (World.ownsRow.lt HO2.out z hz).1)
            have hbx3 : BoxF w3 _ _ := (hg3.block _ HBX.out.lt (fun e => by have := hne.out _ e.symm; omega)).trans HBX.out
            clear b0 b1 b2 HBX HSH2 HO2 HB2 hg3
            obtain ⟨b0, b1, b2⟩ := hbx3.cells
            obtain ⟨a3, n3, c3, h3o, hn3⟩ := own_parts hO3
            subst h3o
            have hsz3 := hB3.size
            have HO3 := kepF hO3
            have HB3 := kepF hB3
            clear hbx3 hO3 hB3
            go_wp2_with fail
            go_quiet (fail)
            go_wp2
            refine bodyPost_ret (results_twoF rfl _ _ _) rfl ?_
            exact FxOut.no HNF.out (below_drewNP HB3.out _)
          · have HNF : Hid (r = none) := hno'.out (fun h => absurd (HFX.out.1 h) (by decide))
            go_wp2_with fail
            obtain ⟨hbx, hb12⟩ := fbox wr 1 0 fc
            generalize wr.alloc (.cells #[.int .i64 1, .int .i64 0, .int .i64 fc] 42) = w2 at hbx hb12 ⊢
            have hB2 := HB.out.trans (hb12.mono hsz)
            clear c0 c1 c2
            obtain ⟨b0, b1, b2⟩ := hbx.cells
            refine (q_within _ _ _ _ true HW).mono ?_
            rintro e w' ⟨rfl, rfl⟩
            go_wp2_with fail
            refine (q_cell _ _ true HC).mono ?_
            rintro e w' ⟨rfl, rfl⟩
            have hO2 := HO.out.below hb12
            have HO2 := kepF hO2
            have hsz2 := hB2.size
            have HB2 := kepF hB2
            have hne : Hid (∀ z, (Value.slice ao no co).ownBlock = some z → z < wr.heap.size) := fun z hz => (World.ownsRow.lt HO.out z hz).2
            have HBX := kepF hbx
            have hlQ : L.length + Q.length ≤ 100000000 := by omega
            have HSH2 := kepF (hsh w2)
            clear hbx hB2 hO2 hb12 hsh
            go_wp2_with (at_builtin; go_loud (refine wpList_append_shF rfl _ _ rfl w.heap.size rfl rfl HO2.out HSH2.out hlQ hsz2 ?_))
            intro v3 w3 hO3 hg3
            have hB3 := HB2.out.grown hg3 hsz2 (fun z hz => (World.ownsRow.lt HO2.out z hz).1)
            have hbx3 : BoxF w3 _ _ := (hg3.block _ HBX.out.lt (fun e => by have := hne.out _ e.symm; omega)).trans HBX.out
            clear b0 b1 b2 HBX HSH2 HO2 HB2 hg3
            obtain ⟨b0, b1, b2⟩ := hbx3.cells
            obtain ⟨a3, n3, c3, h3o, hn3⟩ := own_parts hO3
            subst h3o
            have hsz3 := hB3.size
            have HO3 := kepF hO3
            have HB3 := kepF hB3
            clear hbx3 hO3 hB3
            go_wp2_with fail
            go_quiet (fail)
            go_wp2
            refine bodyPost_ret (results_twoF rfl _ _ _) rfl ?_
            exact FxOut.no HNF.out (below_drewNP HB3.out _)
        · have HC : Hid (decide (Cl fc) = false) := decide_eq_false hc
          have HR0 : Hid (r = none) := hno'.out (fun h => hc h.1)
          clear hc hw
          go_wp2_with fail
          obtain ⟨hbx, hb12⟩ := fbox wr fk 0 fc
          generalize wr.alloc (.cells #[.int .i64 fk, .int .i64 0, .int .i64 fc] 42) = w2 at hbx hb12 ⊢
          have hB2 := HB.out.trans (hb12.mono hsz)
          clear c0 c1 c2
          obtain ⟨b0, b1, b2⟩ := hbx.cells
          refine (q_within _ _ _ _ true HW).mono ?_
          rintro e w' ⟨rfl, rfl⟩
          go_wp2_with fail
          refine (q_cell _ _ false HC).mono ?_
          rintro e w' ⟨rfl, rfl⟩
          go_wp2
          refine bodyPost_ret (results_twoF rfl _ _ _) rfl ?_
          exact FxOut.no HR0.out hB2
      · have HW : Hid (decide ((0 : Int) ≤ fi ∧ fi ≤ (0 : Int)) = false) := decide_eq_false hw
        have HR0 : Hid (r = none) := hno'.out (fun h => hw (by have := h.2.1; rw [HN.out] at this; exact this))
        clear hw
        go_wp2_with fail
        obtain ⟨hbx, hb12⟩ := fbox wr fk fi fc
        generalize wr.alloc (.cells #[.int .i64 fk, .int .i64 fi, .int .i64 fc] 42) = w2 at hbx hb12 ⊢
        have hB2 := HB.out.trans (hb12.mono hsz)
        clear c0 c1 c2
        obtain ⟨b0, b1, b2⟩ := hbx.cells
        refine (q_within _ _ _ _ false HW).mono ?_
        rintro e w' ⟨rfl, rfl⟩
        go_wp2
        refine bodyPost_ret (results_twoF rfl _ _ _) rfl ?_
        exact FxOut.no HR0.out hB2
    · obtain rfl : k = n := by omega
      have HE : Hid (fixL A P 0 = some (L ++ A.drop 0)) := fixL_end hs.out (by rw [HM.out]; omega)
      obtain ⟨Q, hQ⟩ : ∃ Q, A.drop 0 = Q := ⟨_, rfl⟩
      have HQ9 := Lib.hid hQ
      have hQl : Q.length ≤ 30 := by rw [← hQ, List.length_drop]; have := HN.out; omega
      clear hQ
      have hlQ : L.length + Q.length ≤ 100000000 := by omega
      have HSH2 : Hid (IntsSh wr (.slice none 0 0) Q) := ⟨by rw [List.length_eq_zero_iff.1 (show Q.length = 0 from by rw [← HQ9.out, List.length_drop, HN.out])]; exact IntsAt.nil _, .inl rfl⟩
      go_wp2_with (at_builtin; go_loud (refine wpList_append_shF rfl _ _ rfl w.heap.size rfl rfl HO.out HSH2.out hlQ hsz ?_))
      intro v3 w3 hO3 hg3
      have hB3 := HB.out.grown hg3 hsz (fun z hz => (World.ownsRow.lt HO.out z hz).1)
      obtain ⟨a3, n3, c3, h3o, hn3⟩ := own_parts hO3
      subst h3o
      have HO3 := kepF hO3
      have HB3 := kepF hB3
      clear hO3 hB3 hg3
      by_cases hlong : 30 < n3
      · have HR0 : Hid (r = none) := by
          show _ = _
          rw [← hr.out]
          unfold fixO
          rw [HE.out, HQ9.out]
          simp only [Option.bind_some]
          rw [if_neg (show ¬ (L ++ Q).length ≤ 30 from by omega)]
          simp
        have d1 : decide ((30 : Int) < (n3 : Int)) = true := decide_eq_true (by omega)
        have d2 : decide (30 < n3) = true := decide_eq_true hlong
        have d3 : (30 : Int) < (n3 : Int) := by omega
        go_wp2
        refine bodyPost_ret (results_twoF rfl _ _ _) rfl ?_
        exact FxOut.no HR0.out HB3.out
      · have HR0 : Hid (r = some (L ++ Q)) := by
          show _ = _
          rw [← hr.out]
          unfold fixO
          rw [if_pos HOK.out, HE.out, HQ9.out]
          simp only [Option.bind_some]
          rw [if_pos (show (L ++ Q).length ≤ 30 from by omega)]
        have d1 : decide ((30 : Int) < (n3 : Int)) = false := decide_eq_false (by omega)
        have d2 : decide (30 < n3) = false := decide_eq_false hlong
        go_wp2
        refine bodyPost_ret (results_twoF rfl _ _ _) rfl ?_
        exact FxOut.yes HR0.out HO3.out HB3.out
set_option maxHeartbeats 1000000 in
theorem s_FixFaults (w : World) (aa : Option Addr) (na ca : Nat) (A : List Int) (v : Value) (P : List PF) (r : Option (List Int)) (hA : IntsAt w (.slice aa na ca) A) (hfm : FormF aa na ca) (hP : FaultsAt w v P) (hl : P.length ≤ 2000000) (hr : Hid (fixO A P = r)) :
    Calls Try.prog 35 #[.slice aa na ca, v] w fun e w' => FxOut r w e w' := by
  by_cases h1 : OkP A
  · rcases hfm with ⟨ga, oa, rfl⟩ | ⟨rfl, rfl, rfl⟩
    · exact s_FixFaults_some w ga oa na ca A v P r hA hP hl h1 hr
    · have hA0 : A = [] := by obtain ⟨_, _, e, _⟩ := hA; injection e with _ e _; exact List.length_eq_zero_iff.1 e.symm
      subst hA0
      exact s_FixFaults_none w v P r hP hl hr
  · have HR0 : Hid (r = none) := by show _ = _; rw [← hr.out]; exact if_neg h1
    have hna : A.length = na := by obtain ⟨_, _, e, _⟩ := hA; injection e with _ e _; exact e.symm
    have hB0 := Below.alloc (Below.refl w.heap.size w) (Nat.le_refl _) (.cells #[] 3)
    have HA1 := kepF (hA.below hB0)
    have HB0 := kepF hB0
    by_cases h2 : ValidL A
    · have H1 : Hid (decide (ValidL A) = true) := decide_eq_true h2
      have hlong : 30 < na := by rw [← hna]; exact Nat.lt_of_not_le (fun h => h1 ⟨h, h2⟩)
      have d1 : decide ((30 : Int) < (na : Int)) = true := decide_eq_true (by omega)
      have d2 : decide (30 < na) = true := decide_eq_true hlong
      have d3 : (30 : Int) < (na : Int) := by omega
      clear hA h1 h2 hP hna hB0
      go_enter Try.func35, Try.ntmps35
      go_wp2_with fail
      refine (q_valid _ _ A true HA1.out H1).mono ?_
      rintro e w' ⟨rfl, rfl⟩
      go_wp2
      refine bodyPost_ret (results_twoF rfl _ _ _) rfl ?_
      exact FxOut.no HR0.out HB0.out
    · have H1 : Hid (decide (ValidL A) = false) := decide_eq_false h2
      clear hA h1 h2 hP hna hB0
      go_enter Try.func35, Try.ntmps35
      go_wp2_with fail
      refine (q_valid _ _ A false HA1.out H1).mono ?_
      rintro e w' ⟨rfl, rfl⟩
      go_wp2
      refine bodyPost_ret (results_twoF rfl _ _ _) rfl ?_
      exact FxOut.no HR0.out HB0.out
end Go.Proofs.Ytekchmbbafjmmaa
