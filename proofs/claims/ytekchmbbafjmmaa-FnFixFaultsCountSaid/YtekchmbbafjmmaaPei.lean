
/- FixFaults of the program. -/
import Derived.Test.YtekchmbbafjmmaaPeh
import Derived.Test.YtekchmbbafjmmaaEb
namespace Go.Proofs.Ytekchmbbafjmmaa
open Go.RowKit

/-- the cells after their faults were put right -/
def fixO (A : List Int) (P : List PF) : Option (List Int) := if OkP A then (fixL A P 0).bind (fun r => if r.length ≤ 30 then some r else none) else none
def FxOut (r : Option (List Int)) (w : World) (e : Ending) (w' : World) : Prop := ∃ v, e = .returned (.tuple #[v, .bool r.isSome]) ∧ OwnInts w' w.heap.size v (r.getD []) ∧ Below w.heap.size w w'
theorem FxOut.no {w w' : World} {r : Option (List Int)} (hr : r = none) (hb : Below w.heap.size w w') : FxOut r w (.returned (.tuple #[.slice none 0 0, .bool false])) w' := by
  subst hr
  exact ⟨_, rfl, OwnInts.nil _ _, hb⟩
theorem FxOut.yes {w w' : World} {r : Option (List Int)} {L : List Int} {v : Value} (hr : r = some L) (ho : OwnInts w' w.heap.size v L) (hb : Below w.heap.size w w') : FxOut r w (.returned (.tuple #[v, .bool true])) w' := by
  subst hr
  exact ⟨_, rfl, ho, hb⟩
/-- the slice lies somewhere, or is nil -/
def FormF (a : Option Addr) (n c : Nat) : Prop := (∃ g off, a = some ⟨g, off, none⟩) ∨ (a = none ∧ n = 0 ∧ c = 0)
theorem drop_fault {P : List PF} {k : Nat} (h : k < P.length) : P.drop k = P.getD k noF :: P.drop (k + 1) := by
  rw [List.drop_eq_getElem_cons h, List.getD_eq_getElem?_getD, List.getElem?_eq_getElem h]; rfl
theorem fixL_at {A : List Int} {P : List PF} {k : Nat} {q : PF} {j : Nat} (h : k < P.length) (hq : P.getD k noF = q) :
    fixL A (P.drop k) j = if FixOk A q j then (fixL A (P.drop (k + 1)) (fixN q)).map (fun r => fixP A q j ++ fixC q ++ r) else none := by
  rw [drop_fault h, hq, fixL]
theorem fixO_no {A : List Int} {P : List PF} {k : Nat} {q : PF} {j : Nat} {L : List Int} (hs : fixL A P 0 = (fixL A (P.drop k) j).map (L ++ ·)) (h : k < P.length) (hq : P.getD k noF = q) (hn : ¬ FixOk A q j) : fixO A P = none := by
  unfold fixO
  rw [hs, fixL_at h hq, if_neg hn]
  simp
theorem fixO_long {A : List Int} {P Q : List PF} {j : Nat} {L : List Int} (hs : fixL A P 0 = (fixL A Q j).map (L ++ ·)) (h : 30 < L.length) : fixO A P = none := by
  unfold fixO
  rw [hs]
  cases fixL A Q j with
  | none => simp
  | some r => simp; intro _; omega
theorem fixL_more {A : List Int} {P : List PF} {k : Nat} {q : PF} {j : Nat} {L : List Int} (hs : fixL A P 0 = (fixL A (P.drop k) j).map (L ++ ·)) (h : k < P.length) (hq : P.getD k noF = q) (hn : FixOk A q j) :
    fixL A P 0 = (fixL A (P.drop (k + 1)) (fixN q)).map ((L ++ fixP A q j ++ fixC q) ++ ·) := by
  rw [hs, fixL_at h hq, if_pos hn]
  cases fixL A (P.drop (k + 1)) (fixN q) <;> simp
theorem fixL_end {A : List Int} {P : List PF} {k j : Nat} {L : List Int} (hs : fixL A P 0 = (fixL A (P.drop k) j).map (L ++ ·)) (h : P.length ≤ k) : fixL A P 0 = some (L ++ A.drop j) := by
  rw [hs, List.drop_eq_nil_of_le h, fixL]; rfl
theorem fixN_le {A : List Int} {q : PF} {j : Nat} (hn : FixOk A q j) : fixN q ≤ A.length := by
  obtain ⟨_, ⟨h1, h2⟩, h3⟩ := hn
  unfold fixN
  split
  · omega
  · rcases h3 with h3 | ⟨h3, _⟩
    · contradiction
    · omega
/-- a part of a list, as the walk sees it -/
theorem part_sh {w : World} {g off n c : Nat} {A : List Int} (h : IntsAt w (.slice (some ⟨g, off, none⟩) n c) A) (j x : Nat) (hj : j ≤ x) (hx : x ≤ n) :
    ∃ ad, (if c = j then some (⟨g, off, none⟩ : Addr) else some ⟨g, off + j, none⟩) = some ad ∧ ∀ wx, Below w.heap.size w wx → IntsSh wx (.slice (some ad) (x - j) (c - j)) ((A.drop j).take (x - j)) := by
  obtain ⟨_, c', e, e1, e2, e3⟩ := h
  injection e with e4 e5 e6
  subst e4 e5 e6
  have hl : ((A.drop j).take (x - j)).length = x - j := by rw [List.length_take, List.length_drop]; omega
  by_cases hc : c = j
  · exact ⟨_, if_pos hc, fun wx hb => ⟨⟨_, c - j, by rw [hl], by omega, by omega, .inl (List.length_eq_zero_iff.1 (by omega))⟩, .inr ⟨_, _, _, rfl⟩⟩⟩
  · refine ⟨_, if_neg hc, fun wx hb => ⟨⟨_, c - j, by rw [hl], by omega, by omega, ?_⟩, .inr ⟨_, _, _, rfl⟩⟩⟩
    rcases e3 with e3 | ⟨g', off', e3, e7⟩
    · subst e3
      exact .inl (by simp)
    · injection e3 with e3
      injection e3 with e8 e9
      subst e8 e9
      refine .inr ⟨g, off + j, rfl, fun i hi => ?_⟩
      rw [hl] at hi
      have := e7 (j + i) (by omega)
      rw [show off + j + i = off + (j + i) from by omega, (hb.cell (World.block_lt_of_cell? w _ this)).trans this]
      rw [List.getD_eq_getElem?_getD, List.getD_eq_getElem?_getD, List.getElem?_take, if_pos hi, List.getElem?_drop]
theorem own_parts {w : World} {S : Nat} {v : Value} {L : List Int} (h : OwnInts w S v L) : ∃ a n c, v = .slice a n c ∧ L.length = n := by
  obtain ⟨a, c, e, _⟩ := h.at
  exact ⟨a, _, c, e, rfl⟩
theorem results_twoF {fn : Func} {t u : Tmp} (h : fn.results = #[.tmp t, .tmp u]) (tmps : Array Value) (P : Program) (w : World) :
    (results fn tmps).run P w = .ok (.tuple #[tmps.getD t undef, tmps.getD u undef]) w := by
  simp [results, h]
theorem kepF {p : Prop} (h : p) : Hid p := h
set_option maxHeartbeats 8000000 in
theorem i_FixFaults_ok (w : World) (aa : Option Addr) (na ca : Nat) (A : List Int) (v : Value) (P : List PF) (r : Option (List Int)) (hA : IntsAt w (.slice aa na ca) A) (hfm : FormF aa na ca) (hP : FaultsAt w v P) (hl : P.length ≤ 2000000) (hok : OkP A) (hr : Hid (fixO A P = r)) :
    Calls Try.prog 32 #[.slice aa na ca, v] w fun e w' => FxOut r w e w' := by
  obtain ⟨i0, hi, hz0, hz1, hz2⟩ := info_parts infoInt
  have HA := keptI hA
  have H1 : Hid (decide (OkP A) = true) := decide_eq_true hok
  have hna : A.length = na := by obtain ⟨_, _, e, _⟩ := hA; injection e with _ e _; exact e.symm
  have hca : na ≤ ca ∧ ca ≤ 9223372036854775807 := by obtain ⟨_, _, e, e1, e2, _⟩ := hA; injection e with _ e3 e4; omega
  have bna : na ≤ 30 := by have := hok.1; omega
  have HN := Lib.hid hna
  obtain ⟨ap, cp, rfl, x1, x2, x3⟩ := hP
  obtain ⟨n, hn⟩ : ∃ n, P.length = n := ⟨_, rfl⟩
  rw [hn] at x1 hl ⊢
  have HM := Lib.hid hn
  have HP3 := Lib.hid x3
  have hO0 := OwnInts.nil w w.heap.size
  clear hA hok hna hn x3
  go_enter Try.func32, Try.ntmps32
  go_wp2_with fail
  refine (i_canProof _ _ A true HA.out H1).mono ?_
  rintro e w' ⟨rfl, rfl⟩
  go_wp2
  go_loopw [6, 7, 15] (fun o j k wr => ∃ (q i : Nat) (L : List Int), q ≤ n ∧ i ≤ na ∧ k = .int .i64 q ∧ j = .int .i64 i ∧ Hid (fixL A P 0 = (fixL A (P.drop q) i).map (L ++ ·)) ∧ OwnInts wr w.heap.size o L ∧ L.length ≤ 61 ∧ Below w.heap.size w wr) (fun _ _ k _ => n - (intOf k).toNat)
  case atStart => exact ⟨0, 0, [], by omega, by omega, rfl, rfl, by show _ = _; simp, hO0, by simp, Below.refl _ _⟩
  case round =>
    clear hO0
    obtain ⟨k, j, L, hk, hj, rfl, rfl, hs, hO, hL, hB⟩ := hrel
    have hsz := hB.size
    have HO := kepF hO
    have HB := kepF hB
    obtain ⟨ao, no, co, hoo, hno⟩ := own_parts hO
    subst hoo
    have HNO := Lib.hid hno
    clear hO hB
    by_cases hlt : k < n
    · obtain ⟨g, off, rfl, hx3⟩ : ∃ g off, ap = some ⟨g, off, none⟩ ∧ ∀ i, i < P.length → FaultAt w g (off + i * 3) (P.getD i noF) := by
        rcases HP3.out with h | h
        · have := HM.out; rw [h] at this; simp at this; omega
        · exact h
      obtain ⟨q, hq⟩ : ∃ q, P.getD k noF = q := ⟨_, rfl⟩
      have hra := hx3 k (by rw [HM.out]; exact hlt)
      rw [hq] at hra
      have HQ := Lib.hid hq
      clear hq hx3
      obtain ⟨fk, fi, fc⟩ := q
      obtain ⟨c0, c1, c2⟩ := hra
      simp only at c0 c1 c2
      have c0 := (HB.out.cell (World.block_lt_of_cell? w _ c0)).trans c0
      have c1 := (HB.out.cell (World.block_lt_of_cell? w _ c1)).trans c1
      have c2 := (HB.out.cell (World.block_lt_of_cell? w _ c2)).trans c2
      have g1 : (0 : Int) ≤ (k : Int) := by omega
      have g2 : (k : Int) < (n : Int) := by omega
      by_cases hfo : FixOk A ⟨fk, fi, fc⟩ j
      · have HT : Hid (decide (FixOk A ⟨fk, fi, fc⟩ j) = true) := decide_eq_true hfo
        by_cases hlong : 30 < no
        · have HR0 : Hid (r = none) := by show _ = _; rw [← hr.out]; exact fixO_long hs.out (by omega)
          have d1 : decide ((30 : Int) < (no : Int)) = true := decide_eq_true (by omega)
          have d2 : decide (30 < no) = true := decide_eq_true hlong
          have d3 : (30 : Int) < (no : Int) := by omega
          clear hfo hlong
          go_wp2_with fail
          obtain ⟨hbx, hbA⟩ := fbox wr fk fi fc
          have hgl : Hid (wr.heap.size = wr.heap.size) := rfl
          generalize wr.alloc (.cells #[.int .i64 fk, .int .i64 fi, .int .i64 fc] 42) = wA at hbx hbA ⊢
          refine (i_canFix wA _ A fk fi fc j true ((HA.out.below HB.out).below hbA) HT).mono ?_
          rintro e w2 ⟨rfl, hb2⟩
          have hb12 := below_next hbA hb2
          replace hbx := hbx.below hb2 hbx.lt
          have hB2 := HB.out.trans (hb12.mono hsz)
          clear hbA hb2 c0 c1 c2
          clear hbx hb12
          go_wp2
          refine bodyPost_ret (results_twoF rfl _ _ _) rfl ?_
          exact FxOut.no HR0.out hB2
        · have d1 : decide ((30 : Int) < (no : Int)) = false := decide_eq_false (by omega)
          have d2 : decide (30 < no) = false := decide_eq_false hlong
          have HMR : Hid (fixL A P 0 = (fixL A (P.drop (k + 1)) (fixN ⟨fk, fi, fc⟩)).map ((L ++ fixP A ⟨fk, fi, fc⟩ j ++ fixC ⟨fk, fi, fc⟩) ++ ·)) := fixL_more hs.out (by rw [HM.out]; exact hlt) HQ.out hfo
          obtain ⟨hc, ⟨h1, h2⟩, h3⟩ := hfo
          simp only at h1 h2
          obtain ⟨x, rfl⟩ : ∃ x : Nat, fi = x := ⟨fi.toNat, by omega⟩
          have hjx : j ≤ x := by omega
          have hxn : x ≤ na := by have := HN.out; omega
          have hno30 : no ≤ 30 := by omega
          obtain ⟨Q, hQ⟩ : ∃ Q, (A.drop j).take (x - j) = Q := ⟨_, rfl⟩
          have hQl : Q.length ≤ 30 := by rw [← hQ, List.length_take]; omega
          have HQ9 := Lib.hid hQ
          clear hQ hlong hc h1 h2
          have hcase : fk = 2 ∨ (x < na ∧ fk = 0) ∨ (x < na ∧ fk = 1) := by
            rcases h3 with h3 | ⟨h3, ⟨h4, _⟩ | ⟨h4, _⟩⟩
            · exact .inl h3
            · exact .inr (.inl ⟨by have := HN.out; simp only at h3; omega, h4⟩)
            · exact .inr (.inr ⟨by have := HN.out; simp only at h3; omega, h4⟩)
          clear h3
          rcases hcase with rfl | ⟨hxl, rfl⟩ | ⟨hxl, rfl⟩
          · skip
            rcases hfm with ⟨ga, oa, rfl⟩ | ⟨h7, h8, h9⟩
            · obtain ⟨ad, had, hsh⟩ := part_sh HA.out j x hjx hxn
              rw [HQ9.out] at hsh
              have HS2 : Hid (fixL A P 0 = (fixL A (P.drop (k + 1)) x).map ((L ++ Q ++ [fc]) ++ ·)) := by
                show _ = _
                have := HMR.out
                simp only [fixN, fixP, fixC, Int.toNat_natCast, HQ9.out] at this
                simpa using this
              clear HMR
              go_wp2_with fail
              obtain ⟨hbx, hbA⟩ := fbox wr 2 (x : Int) fc
              have hgl : Hid (wr.heap.size = wr.heap.size) := rfl
              generalize wr.alloc (.cells #[.int .i64 2, .int .i64 (x : Int), .int .i64 fc] 42) = wA at hbx hbA ⊢
              refine (i_canFix wA _ A 2 (x : Int) fc j true ((HA.out.below HB.out).below hbA) HT).mono ?_
              rintro e w2 ⟨rfl, hb2⟩
              have hb12 := below_next hbA hb2
              replace hbx := hbx.below hb2 hbx.lt
              have hB2 := HB.out.trans (hb12.mono hsz)
              clear hbA hb2 c0 c1 c2
              obtain ⟨b0, b1, b2⟩ := hbx.cells
              have hO2 := HO.out.below hb12
              have HO2 := kepF hO2
              have hsz2 := hB2.size
              have HB2 := kepF hB2
              have hne : Hid (∀ z, (Value.slice ao no co).ownBlock = some z → z < wr.heap.size) := fun z hz => (World.ownsRow.lt HO.out z hz).2
              have HBX := kepF hbx
              have hlQ : L.length + Q.length ≤ 1000000 := by omega
              have HSH2 := kepF (hsh w2 hB2)
              have f1 : (0 : Int) ≤ (j : Int) := by omega
              have f2 : (j : Int) ≤ (x : Int) := by omega
              have f3 : (x : Int) ≤ (ca : Int) := by omega
              have f4 : x ≤ ca := by omega
              have f5 : j ≤ ca := by omega
              have f6 : (x : Int) ≤ (na : Int) := by omega
              clear hbx hB2 hO2 hb12 hsh
              go_wp2_with (at_builtin; go_loud (refine wpList_append_sh rfl _ _ rfl w.heap.size rfl rfl HO2.out HSH2.out hlQ hsz2 ?_))
              intro v3 w3 hO3 hg3 _
              have hB3 := HB2.out.grown hg3 hsz2 (fun z hz => (World.ownsRow.lt HO2.out z hz).1)
              have hbx3 : BoxF w3 _ _ := (hg3.block _ HBX.out.lt (fun e => by have := hne.out _ e.symm; omega)).trans HBX.out
              clear b0 b1 b2 HBX HSH2 HO2 HB2 hg3
              obtain ⟨b0, b1, b2⟩ := hbx3.cells
              obtain ⟨a3, n3, c3, h3o, hn3⟩ := own_parts hO3
              subst h3o
              have hsz3 := hB3.size
              have HO3 := kepF hO3
              have HB3 := kepF hB3
              have hl3 : (L ++ Q).length ≤ 60 := by rw [List.length_append]; omega
              clear hbx3 hO3 hB3
              go_wp2_with (at_builtin; go_loud (refine wpList_append_own _ rfl _ _ 28 rfl w.heap.size 3 i0 (.int .i64 0) 1 8 Try.underlying28 hi hz0 hz1 hz2 rfl (by decide) _ _ _ rfl (HO3.out.alloc _) ⟨w3.heap.size, 0, none⟩ 1 1 [.int .i64 fc] rfl rfl new_one one_cell (by unfold maxLen; omega) (by omega) (by simp; omega) ?_))
              intro v5 w5 hown5 hgrow5 hnil5
              rw [← hn3] at hown5
              have HO5 := kepF (OwnInts.snoc hown5)
              have HB5 := kepF (below_append HB3.out hsz3 HO3.out hgrow5)
              have hl5 : (L ++ Q ++ [fc]).length ≤ 61 := by rw [List.length_append, List.length_singleton]; omega
              clear hown5 hgrow5 hnil5 b0 b1 b2
              go_wp2
              go_roundw
              case rel => exact ⟨k + 1, x, _, by omega, by omega, by go_num, by go_num, HS2, HO5.out, hl5, HB5.out⟩
              case measure => simp [intOf]; omega
            · subst h7 h8 h9
              obtain rfl : x = 0 := by omega
              obtain rfl : j = 0 := by omega
              change Hid (decide (FixOk A ⟨2, 0, fc⟩ 0) = true) at HT
              change wr.cell? _ = some (.int .i64 0) at c1
              change Hid (fixL A P 0 = (fixL A (P.drop (k + 1)) (fixN ⟨2, 0, fc⟩)).map ((L ++ fixP A ⟨2, 0, fc⟩ 0 ++ fixC ⟨2, 0, fc⟩) ++ ·)) at HMR
              have hsh : ∀ wx, Below w.heap.size w wx → IntsSh wx (.slice none 0 0) Q := fun wx _ => ⟨by rw [List.length_eq_zero_iff.1 (show Q.length = 0 from by rw [← HQ9.out]; simp)]; exact IntsAt.nil _, .inl rfl⟩
              have HS2 : Hid (fixL A P 0 = (fixL A (P.drop (k + 1)) 0).map ((L ++ Q ++ [fc]) ++ ·)) := by
                show _ = _
                have := HMR.out
                simp only [fixN, fixP, fixC, Int.toNat_zero, HQ9.out] at this
                simpa using this
              clear HMR
              go_wp2_with fail
              obtain ⟨hbx, hbA⟩ := fbox wr 2 0 fc
              have hgl : Hid (wr.heap.size = wr.heap.size) := rfl
              generalize wr.alloc (.cells #[.int .i64 2, .int .i64 0, .int .i64 fc] 42) = wA at hbx hbA ⊢
              refine (i_canFix wA _ A 2 0 fc 0 true ((HA.out.below HB.out).below hbA) HT).mono ?_
              rintro e w2 ⟨rfl, hb2⟩
              have hb12 := below_next hbA hb2
              replace hbx := hbx.below hb2 hbx.lt
              have hB2 := HB.out.trans (hb12.mono hsz)
              clear hbA hb2 c0 c1 c2
              obtain ⟨b0, b1, b2⟩ := hbx.cells
              have hO2 := HO.out.below hb12
              have HO2 := kepF hO2
              have hsz2 := hB2.size
              have HB2 := kepF hB2
              have hne : Hid (∀ z, (Value.slice ao no co).ownBlock = some z → z < wr.heap.size) := fun z hz => (World.ownsRow.lt HO.out z hz).2
              have HBX := kepF hbx
              have hlQ : L.length + Q.length ≤ 1000000 := by omega
              have HSH2 := kepF (hsh w2 hB2)
              clear hbx hB2 hO2 hb12 hsh
              go_wp2_with (at_builtin; go_loud (refine wpList_append_sh rfl _ _ rfl w.heap.size rfl rfl HO2.out HSH2.out hlQ hsz2 ?_))
              intro v3 w3 hO3 hg3 _
              have hB3 := HB2.out.grown hg3 hsz2 (fun z hz => (World.ownsRow.lt HO2.out z hz).1)
              have hbx3 : BoxF w3 _ _ := (hg3.block _ HBX.out.lt (fun e => by have := hne.out _ e.symm; omega)).trans HBX.out
              clear b0 b1 b2 HBX HSH2 HO2 HB2 hg3
              obtain ⟨b0, b1, b2⟩ := hbx3.cells
              obtain ⟨a3, n3, c3, h3o, hn3⟩ := own_parts hO3
              subst h3o
              have hsz3 := hB3.size
              have HO3 := kepF hO3
              have HB3 := kepF hB3
              have hl3 : (L ++ Q).length ≤ 60 := by rw [List.length_append]; omega
              clear hbx3 hO3 hB3
              go_wp2_with (at_builtin; go_loud (refine wpList_append_own _ rfl _ _ 28 rfl w.heap.size 3 i0 (.int .i64 0) 1 8 Try.underlying28 hi hz0 hz1 hz2 rfl (by decide) _ _ _ rfl (HO3.out.alloc _) ⟨w3.heap.size, 0, none⟩ 1 1 [.int .i64 fc] rfl rfl new_one one_cell (by unfold maxLen; omega) (by omega) (by simp; omega) ?_))
              intro v5 w5 hown5 hgrow5 hnil5
              rw [← hn3] at hown5
              have HO5 := kepF (OwnInts.snoc hown5)
              have HB5 := kepF (below_append HB3.out hsz3 HO3.out hgrow5)
              have hl5 : (L ++ Q ++ [fc]).length ≤ 61 := by rw [List.length_append, List.length_singleton]; omega
              clear hown5 hgrow5 hnil5 b0 b1 b2
              go_wp2
              go_roundw
              case rel => exact ⟨k + 1, 0, _, by omega, by omega, by go_num, by go_num, HS2, HO5.out, hl5, HB5.out⟩
              case measure => simp [intOf]; omega
          · skip
            obtain ⟨x1, hx1⟩ : ∃ x1, x + 1 = x1 := ⟨_, rfl⟩
            have HX1 := Lib.hid hx1
            have u1 : IntKind.i64.wrap ((x : Int) + 1) = (x1 : Int) := by rw [show ((x : Int) + 1) = (x1 : Int) from by omega]; exact IntWalk.i64_in _ (by omega)
            clear hx1
            rcases hfm with ⟨ga, oa, rfl⟩ | ⟨h7, h8, h9⟩
            · obtain ⟨ad, had, hsh⟩ := part_sh HA.out j x hjx hxn
              rw [HQ9.out] at hsh
              rw [if_neg (by omega)] at had
              injection had with had
              subst had
              have HS2 : Hid (fixL A P 0 = (fixL A (P.drop (k + 1)) x1).map ((L ++ Q ++ [fc]) ++ ·)) := by
                show _ = _
                have := HMR.out
                simp only [fixN, fixP, fixC, Int.toNat_natCast, HQ9.out] at this
                simpa [← HX1.out] using this
              clear HMR
              go_wp2_with fail
              obtain ⟨hbx, hbA⟩ := fbox wr 0 (x : Int) fc
              have hgl : Hid (wr.heap.size = wr.heap.size) := rfl
              generalize wr.alloc (.cells #[.int .i64 0, .int .i64 (x : Int), .int .i64 fc] 42) = wA at hbx hbA ⊢
              refine (i_canFix wA _ A 0 (x : Int) fc j true ((HA.out.below HB.out).below hbA) HT).mono ?_
              rintro e w2 ⟨rfl, hb2⟩
              have hb12 := below_next hbA hb2
              replace hbx := hbx.below hb2 hbx.lt
              have hB2 := HB.out.trans (hb12.mono hsz)
              clear hbA hb2 c0 c1 c2
              obtain ⟨b0, b1, b2⟩ := hbx.cells
              have hO2 := HO.out.below hb12
              have HO2 := kepF hO2
              have hsz2 := hB2.size
              have HB2 := kepF hB2
              have hne : Hid (∀ z, (Value.slice ao no co).ownBlock = some z → z < wr.heap.size) := fun z hz => (World.ownsRow.lt HO.out z hz).2
              have HBX := kepF hbx
              have hlQ : L.length + Q.length ≤ 1000000 := by omega
              have HSH2 := kepF (hsh w2 hB2)
              have f1 : (0 : Int) ≤ (j : Int) := by omega
              have f2 : (j : Int) ≤ (x : Int) := by omega
              have f3 : (x : Int) ≤ (ca : Int) := by omega
              have f4 : x ≤ ca := by omega
              have f5 : j ≤ ca := by omega
              have f6 : (x : Int) ≤ (na : Int) := by omega
              clear hbx hB2 hO2 hb12 hsh
              go_wp2_with (at_builtin; go_loud (refine wpList_append_sh rfl _ _ rfl w.heap.size rfl rfl HO2.out HSH2.out hlQ hsz2 ?_))
              intro v3 w3 hO3 hg3 _
              have hB3 := HB2.out.grown hg3 hsz2 (fun z hz => (World.ownsRow.lt HO2.out z hz).1)
              have hbx3 : BoxF w3 _ _ := (hg3.block _ HBX.out.lt (fun e => by have := hne.out _ e.symm; omega)).trans HBX.out
              clear b0 b1 b2 HBX HSH2 HO2 HB2 hg3
              obtain ⟨b0, b1, b2⟩ := hbx3.cells
              obtain ⟨a3, n3, c3, h3o, hn3⟩ := own_parts hO3
              subst h3o
              have hsz3 := hB3.size
              have HO3 := kepF hO3
              have HB3 := kepF hB3
              have hl3 : (L ++ Q).length ≤ 60 := by rw [List.length_append]; omega
              clear hbx3 hO3 hB3
              go_wp2_with (at_builtin; go_loud (refine wpList_append_own _ rfl _ _ 28 rfl w.heap.size 3 i0 (.int .i64 0) 1 8 Try.underlying28 hi hz0 hz1 hz2 rfl (by decide) _ _ _ rfl (HO3.out.alloc _) ⟨w3.heap.size, 0, none⟩ 1 1 [.int .i64 fc] rfl rfl new_one one_cell (by unfold maxLen; omega) (by omega) (by simp; omega) ?_))
              intro v5 w5 hown5 hgrow5 hnil5
              rw [← hn3] at hown5
              have HO5 := kepF (OwnInts.snoc hown5)
              have HB5 := kepF (below_append HB3.out hsz3 HO3.out hgrow5)
              have hl5 : (L ++ Q ++ [fc]).length ≤ 61 := by rw [List.length_append, List.length_singleton]; omega
              clear hown5 hgrow5 hnil5 b0 b1 b2
              go_wp2
              go_roundw
              case rel => exact ⟨k + 1, x1, _, by omega, by have := HX1.out; omega, by go_num, by go_num, HS2, HO5.out, hl5, HB5.out⟩
              case measure => simp [intOf]; omega
            · omega
          · skip
            obtain ⟨x1, hx1⟩ : ∃ x1, x + 1 = x1 := ⟨_, rfl⟩
            have HX1 := Lib.hid hx1
            have u1 : IntKind.i64.wrap ((x : Int) + 1) = (x1 : Int) := by rw [show ((x : Int) + 1) = (x1 : Int) from by omega]; exact IntWalk.i64_in _ (by omega)
            clear hx1
            rcases hfm with ⟨ga, oa, rfl⟩ | ⟨h7, h8, h9⟩
            · obtain ⟨ad, had, hsh⟩ := part_sh HA.out j x hjx hxn
              rw [HQ9.out] at hsh
              rw [if_neg (by omega)] at had
              injection had with had
              subst had
              have HS2 : Hid (fixL A P 0 = (fixL A (P.drop (k + 1)) x1).map ((L ++ Q) ++ ·)) := by
                show _ = _
                have := HMR.out
                simp only [fixN, fixP, fixC, Int.toNat_natCast, HQ9.out] at this
                simpa [← HX1.out] using this
              clear HMR
              go_wp2_with fail
              obtain ⟨hbx, hbA⟩ := fbox wr 1 (x : Int) fc
              have hgl : Hid (wr.heap.size = wr.heap.size) := rfl
              generalize wr.alloc (.cells #[.int .i64 1, .int .i64 (x : Int), .int .i64 fc] 42) = wA at hbx hbA ⊢
              refine (i_canFix wA _ A 1 (x : Int) fc j true ((HA.out.below HB.out).below hbA) HT).mono ?_
              rintro e w2 ⟨rfl, hb2⟩
              have hb12 := below_next hbA hb2
              replace hbx := hbx.below hb2 hbx.lt
              have hB2 := HB.out.trans (hb12.mono hsz)
              clear hbA hb2 c0 c1 c2
              obtain ⟨b0, b1, b2⟩ := hbx.cells
              have hO2 := HO.out.below hb12
              have HO2 := kepF hO2
              have hsz2 := hB2.size
              have HB2 := kepF hB2
              have hne : Hid (∀ z, (Value.slice ao no co).ownBlock = some z → z < wr.heap.size) := fun z hz => (World.ownsRow.lt HO.out z hz).2
              have HBX := kepF hbx
              have hlQ : L.length + Q.length ≤ 1000000 := by omega
              have HSH2 := kepF (hsh w2 hB2)
              have f1 : (0 : Int) ≤ (j : Int) := by omega
              have f2 : (j : Int) ≤ (x : Int) := by omega
              have f3 : (x : Int) ≤ (ca : Int) := by omega
              have f4 : x ≤ ca := by omega
              have f5 : j ≤ ca := by omega
              have f6 : (x : Int) ≤ (na : Int) := by omega
              clear hbx hB2 hO2 hb12 hsh
              go_wp2_with (at_builtin; go_loud (refine wpList_append_sh rfl _ _ rfl w.heap.size rfl rfl HO2.out HSH2.out hlQ hsz2 ?_))
              intro v3 w3 hO3 hg3 _
              have hB3 := HB2.out.grown hg3 hsz2 (fun z hz => (World.ownsRow.lt HO2.out z hz).1)
              have hbx3 : BoxF w3 _ _ := (hg3.block _ HBX.out.lt (fun e => by have := hne.out _ e.symm; omega)).trans HBX.out
              clear b0 b1 b2 HBX HSH2 HO2 HB2 hg3
              obtain ⟨b0, b1, b2⟩ := hbx3.cells
              obtain ⟨a3, n3, c3, h3o, hn3⟩ := own_parts hO3
              subst h3o
              have hsz3 := hB3.size
              have HO3 := kepF hO3
              have HB3 := kepF hB3
              have hl3 : (L ++ Q).length ≤ 60 := by rw [List.length_append]; omega
              clear hbx3 hO3 hB3
              go_wp2
              go_roundw
              case rel => exact ⟨k + 1, x1, _, by omega, by have := HX1.out; omega, by go_num, by go_num, HS2, HO3.out, (by omega), HB3.out⟩
              case measure => simp [intOf]; omega
            · omega
      · have HT : Hid (decide (FixOk A ⟨fk, fi, fc⟩ j) = false) := decide_eq_false hfo
        have HR0 : Hid (r = none) := by show _ = _; rw [← hr.out]; exact fixO_no hs.out (by rw [HM.out]; exact hlt) HQ.out hfo
        clear hfo
        go_wp2_with fail
        obtain ⟨hbx, hbA⟩ := fbox wr fk fi fc
        have hgl : Hid (wr.heap.size = wr.heap.size) := rfl
        generalize wr.alloc (.cells #[.int .i64 fk, .int .i64 fi, .int .i64 fc] 42) = wA at hbx hbA ⊢
        refine (i_canFix wA _ A fk fi fc j false ((HA.out.below HB.out).below hbA) HT).mono ?_
        rintro e w2 ⟨rfl, hb2⟩
        have hb12 := below_next hbA hb2
        replace hbx := hbx.below hb2 hbx.lt
        have hB2 := HB.out.trans (hb12.mono hsz)
        clear hbA hb2 c0 c1 c2
        clear hbx hb12
        go_wp2
        refine bodyPost_ret (results_twoF rfl _ _ _) rfl ?_
        exact FxOut.no HR0.out hB2
    · obtain rfl : k = n := by omega
      have HE : Hid (fixL A P 0 = some (L ++ A.drop j)) := fixL_end hs.out (by rw [HM.out]; omega)
      obtain ⟨Q, hQ⟩ : ∃ Q, A.drop j = Q := ⟨_, rfl⟩
      have HQ9 := Lib.hid hQ
      have hQl : Q.length ≤ 30 := by rw [← hQ, List.length_drop]; have := HN.out; omega
      clear hQ
      have hlQ : L.length + Q.length ≤ 1000000 := by omega
      have hg : (k : Int) < (k : Int) ↔ False := by simp
      rcases hfm with ⟨ga, oa, rfl⟩ | ⟨h7, h8, h9⟩
      · obtain ⟨ad, had, hsh⟩ := part_sh HA.out j na hj (Nat.le_refl _)
        rw [List.take_of_length_le (by rw [List.length_drop, HN.out]; omega), HQ9.out] at hsh
        have HSH2 := kepF (hsh wr HB.out)
        have f1 : (0 : Int) ≤ (j : Int) := by omega
        have f2 : (j : Int) ≤ (na : Int) := by omega
        have f3 : (na : Int) ≤ (ca : Int) := by omega
        have f4 : na ≤ ca := by omega
        have f5 : j ≤ ca := by omega
        clear hsh
        go_wp2_with (at_builtin; go_loud (refine wpList_append_sh rfl _ _ rfl w.heap.size rfl rfl HO.out HSH2.out hlQ hsz ?_))
        intro v3 w3 hO3 hg3 _
        have hB3 := HB.out.grown hg3 hsz (fun z hz => (World.ownsRow.lt HO.out z hz).1)
        obtain ⟨a3, n3, c3, h3o, hn3⟩ := own_parts hO3
        subst h3o
        have HO3 := kepF hO3
        have HB3 := kepF hB3
        clear hO3 hB3 hg3
        by_cases hlong : 30 < n3
        · have HR0 : Hid (r = none) := by
            show _ = _
            rw [← hr.out]
            unfold fixO
            rw [HE.out, HQ9.out]
            simp only [Option.bind_some]
            rw [if_neg (show ¬ (L ++ Q).length ≤ 30 from by omega)]
            simp
          have d1 : decide ((30 : Int) < (n3 : Int)) = true := decide_eq_true (by omega)
          have d2 : decide (30 < n3) = true := decide_eq_true hlong
          have d3 : (30 : Int) < (n3 : Int) := by omega
          go_wp2
          refine bodyPost_ret (results_twoF rfl _ _ _) rfl ?_
          exact FxOut.no HR0.out HB3.out
        · have HR0 : Hid (r = some (L ++ Q)) := by
            show _ = _
            rw [← hr.out]
            unfold fixO
            rw [if_pos (of_decide_eq_true H1.out), HE.out, HQ9.out]
            simp only [Option.bind_some]
            rw [if_pos (show (L ++ Q).length ≤ 30 from by omega)]
          have d1 : decide ((30 : Int) < (n3 : Int)) = false := decide_eq_false (by omega)
          have d2 : decide (30 < n3) = false := decide_eq_false hlong
          go_wp2
          refine bodyPost_ret (results_twoF rfl _ _ _) rfl ?_
          exact FxOut.yes HR0.out HO3.out HB3.out
      · subst h7 h8 h9
        obtain rfl : j = 0 := by omega
        have HSH2 : Hid (IntsSh wr (.slice none 0 0) Q) := ⟨by rw [List.length_eq_zero_iff.1 (show Q.length = 0 from by rw [← HQ9.out, List.length_drop, HN.out])]; exact IntsAt.nil _, .inl rfl⟩
        go_wp2_with (at_builtin; go_loud (refine wpList_append_sh rfl _ _ rfl w.heap.size rfl rfl HO.out HSH2.out hlQ hsz ?_))
        intro v3 w3 hO3 hg3 _
        have hB3 := HB.out.grown hg3 hsz (fun z hz => (World.ownsRow.lt HO.out z hz).1)
        obtain ⟨a3, n3, c3, h3o, hn3⟩ := own_parts hO3
        subst h3o
        have HO3 := kepF hO3
        have HB3 := kepF hB3
        clear hO3 hB3 hg3
        by_cases hlong : 30 < n3
        · have HR0 : Hid (r = none) := by
            show _ = _
            rw [← hr.out]
            unfold fixO
            rw [HE.out, HQ9.out]
            simp only [Option.bind_some]
            rw [if_neg (show ¬ (L ++ Q).length ≤ 30 from by omega)]
            simp
          have d1 : decide ((30 : Int) < (n3 : Int)) = true := decide_eq_true (by omega)
          have d2 : decide (30 < n3) = true := decide_eq_true hlong
          have d3 : (30 : Int) < (n3 : Int) := by omega
          go_wp2
          refine bodyPost_ret (results_twoF rfl _ _ _) rfl ?_
          exact FxOut.no HR0.out HB3.out
        · have HR0 : Hid (r = some (L ++ Q)) := by
            show _ = _
            rw [← hr.out]
            unfold fixO
            rw [if_pos (of_decide_eq_true H1.out), HE.out, HQ9.out]
            simp only [Option.bind_some]
            rw [if_pos (show (L ++ Q).length ≤ 30 from by omega)]
          have d1 : decide ((30 : Int) < (n3 : Int)) = false := decide_eq_false (by omega)
          have d2 : decide (30 < n3) = false := decide_eq_false hlong
          go_wp2
          refine bodyPost_ret (results_twoF rfl _ _ _) rfl ?_
          exact FxOut.yes HR0.out HO3.out HB3.out
set_option maxHeartbeats 1000000 in
theorem i_FixFaults (w : World) (aa : Option Addr) (na ca : Nat) (A : List Int) (v : Value) (P : List PF) (r : Option (List Int)) (hA : IntsAt w (.slice aa na ca) A) (hfm : FormF aa na ca) (hP : FaultsAt w v P) (hl : P.length ≤ 2000000) (hr : Hid (fixO A P = r)) :
    Calls Try.prog 32 #[.slice aa na ca, v] w fun e w' => FxOut r w e w' := by
  by_cases h1 : OkP A
  · exact i_FixFaults_ok w aa na ca A v P r hA hfm hP hl h1 hr
  · have H1 : Hid (decide (OkP A) = false) := decide_eq_false h1
    have HR0 : Hid (r = none) := by show _ = _; rw [← hr.out]; exact if_neg h1
    have HA := keptI hA
    clear hA h1 hP
    go_enter Try.func32, Try.ntmps32
    go_wp2_with fail
    refine (i_canProof _ _ A false HA.out H1).mono ?_
    rintro e w' ⟨rfl, rfl⟩
    go_wp2
    refine bodyPost_ret (results_twoF rfl _ _ _) rfl ?_
    exact FxOut.no HR0.out (Below.refl _ _)
end Go.Proofs.Ytekchmbbafjmmaa
