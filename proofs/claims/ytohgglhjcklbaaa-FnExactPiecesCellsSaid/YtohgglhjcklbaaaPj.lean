
/- The exact law of PiecesCells: its walk. -/
import Derived.Test.YtohgglhjcklbaaaPi
namespace Go.Proofs.Ytohgglhjcklbaaa
open Go.RowKit

set_option maxHeartbeats 4000000 in
theorem exPiecesCells_walk (a : Option Addr) (len cap : Nat) (T : List PRule) (s : ByteArray) (a' : Option Addr) (len' cap' : Nat) (P : List PPiece) (w : World) (hx : TableAt w (.slice a len cap) T) (hn : T.length = len) (hf : TableFits T) (w1 : s.size ≤ maxLen) (hy : PiecesAt w (.slice a' len' cap') P) (hn' : P.length = len') (hp : PiecesFit P) :
    Calls Try.prog 12 #[.slice a len cap, .string s, .slice a' len' cap'] w fun e w' => e = .returned (.bool true) ∧ Below w.heap.size w w' := by
  have hss : s.size ≤ 9223372036854775807 := by unfold maxLen at w1; exact w1
  clear w1
  have HN := Lib.hid hn
  have HX := Lib.hid hx
  have HF := Lib.hid hf
  have HN' := Lib.hid hn'
  have HY := Lib.hid hy
  by_cases hbig : 1048576 < s.size
  · go_enter Try.func12, Try.ntmps12
    go_wp2
    go_ret
    exact ⟨rfl, Below.refl _ _⟩
  · obtain ⟨L, hL⟩ : ∃ L : List Int, L.length ≤ 32 ∧ (∀ wx u v, TableAt wx u T → PiecesAt wx v P → Calls Try.prog 43 #[u, .string s, v] wx fun e w' => ListMade L wx e w') ∧ (∀ wx u v, TableAt wx u T → PiecesAt wx v P → Calls Try.prog 44 #[u, .string s, v] wx fun e w' => ListMade L wx e w') := by
      by_cases hv : (ValidTb T ∧ WordB 16 s.data.toList) ∧ ValidPv T s P
      · have h1 := pcsTo_len hv.1.1.2.1 _ hv.2.1
        have h2 := endAt_ge hv.1.1.2.1 _ hv.2.1
        have h3 := endAt_bd hv.2.1 hv.1.1.2.1
        have h4 := hv.1.2.2.1
        rw [wd_size] at h4
        exact ⟨pcsL T s P, by show (pcsTo T s P P.length).length ≤ 32; omega, fun wx u v h h' => s_PiecesCells wx u v T s P h hf hss h' hp (Lib.hid hv), fun wx u v h h' => i_PiecesCells wx u v T s P h hf hss h' hp (Lib.hid hv)⟩
      · exact ⟨[], by simp, fun wx u v h h' => s_PiecesCells_no wx u v T s P h hf hss h' hp (Lib.hid hv), fun wx u v h h' => i_PiecesCells_no wx u v T s P h hf hss h' hp (Lib.hid hv)⟩
    obtain ⟨hL16, hS, hI⟩ := hL
    have HSp := Lib.hid hS
    have HIm := Lib.hid hI
    obtain ⟨nl, hnl⟩ : ∃ nl, L.length = nl := ⟨_, rfl⟩
    rw [hnl] at hL16
    have HNL := Lib.hid hnl
    clear hS hI hn hx hf hnl hn' hy hp
    go_enter Try.func12, Try.ntmps12
    go_wp2_with fail
    refine (szRuleS_any w _ T HX.out HF.out).mono ?_
    rintro e w1 ⟨l, rfl, hb1, hl⟩
    rcases hl with rfl | ⟨hl0, hl1, hsm⟩
    · go_wp2
      go_ret
      exact ⟨rfl, hb1⟩
    · have HS := Lib.hid hsm
      have d1 : decide (l < 0) = false := decide_eq_false (by omega)
      have hlen : len ≤ 1048576 := by have := HS.out.1; have := HN.out; omega
      clear hsm
      go_wp2_with fail
      refine (szPieceS_any w1 _ P l (HY.out.below hb1) hl0 hl1).mono ?_
      rintro e w' ⟨⟨l2, rfl, hl2⟩, rfl⟩
      rcases hl2 with rfl | ⟨hl20, hl21, hl22⟩
      · go_wp2
        go_ret
        exact ⟨rfl, hb1⟩
      · have d2 : decide (l2 < 0) = false := decide_eq_false (by omega)
        have hlen' : len' ≤ 1048576 := by have := HN'.out; omega
        clear hl22
        go_wp2_with fail
        refine (toRuleS_any w1 _ T len (HX.out.below hb1) HS.out HN).mono ?_
        rintro e w2 ⟨rfl, ⟨_, hnew2⟩, _, hb2⟩
        have hB2 := below_next hb1 hb2
        have ht2 : TableAt w2 _ T := TableAt.of_new hnew2 HN.out (by omega)
        clear hnew2
        go_wp2_with fail
        refine (toPieceS_any w2 _ P len' (HY.out.below hB2) hlen' HN').mono ?_
        rintro e w3 ⟨rfl, hp3, _, hb3⟩
        have hB3 := below_next hB2 hb3
        have hp3' : PiecesAt w3 _ P := PiecesAt.of_new hp3 HN'.out (by omega)
        have ht3 := ht2.below hb3
        clear hp3 ht2
        go_wp2_with fail
        refine (HSp.out w3 _ _ ht3 hp3').mono ?_
        rintro e w4 ⟨v0, rfl, hO0, hb4, a0, n0, c0, rfl⟩
        have hB4 := below_next hB3 hb4
        clear ht3 hp3'
        go_wp2_with fail
        refine (toRuleS_any w4 _ T len (HX.out.below hB4) HS.out HN).mono ?_
        rintro e w5 ⟨rfl, ⟨bs, hnew5⟩, hroom5, hb5⟩
        have hB5 := below_next hB4 hb5
        have ht5 : TableAt w5 _ T := TableAt.of_new hnew5 HN.out (by omega)
        have hO05 := hO0.below hb5
        have hlt0 : Hid (∀ k, (Value.slice a0 n0 c0).ownBlock = some k → k < w4.heap.size) := fun k hk => (hO0.lt k hk).2
        have hbs : Hid (∀ j, j < len → bs j < w5.heap.size) := fun j hj => (hnew5.1 j hj).lt.2
        have hg5 : w4.heap.size < w5.heap.size := hroom5.2.2
        have hw4 : w.heap.size ≤ w4.heap.size := hB4.size
        clear hO0
        go_wp2_with fail
        refine (toPieceS_any w5 _ P len' (HY.out.below hB5) hlen' HN').mono ?_
        rintro e w6 ⟨rfl, hp6, hroomp6, hb6⟩
        have hB6 := below_next hB5 hb6
        have hp6' : PiecesAt w6 _ P := PiecesAt.of_new hp6 HN'.out (by omega)
        have ht6 := ht5.below hb6
        have hO06 := hO05.below hb6
        have hnew6 := hnew5.below hb6
        have hroom6 := hroom5.below hb6
        have hg6 : w5.heap.size < w6.heap.size := hroomp6.2.2
        clear hp6 ht5 hO05 hnew5 hroom5
        go_wp2_with fail
        refine (HIm.out w6 _ _ ht6 hp6').mono ?_
        rintro e w7 ⟨v1, rfl, hO1, hb7, a1, n1, c1, rfl⟩
        have hB7 := below_next hB6 hb7
        have hO07 := hO06.below hb7
        have ht7 := ht6.below hb7
        have hp7 := hp6'.below hb7
        have hnew7 := hnew6.below hb7
        have hroom7 := hroom6.below hb7
        have hroomp7 := hroomp6.below hb7
        clear ht6 hp6' hO06 hnew6 hroom6 hroomp6
        go_wp2_with fail
        refine (eqIntS_sameT w7 _ _ L hO1.at hO07.at).mono ?_
        rintro e w8 ⟨rfl, hb8⟩
        have hB8 := below_next hB7 hb8
        have hO08 := hO07.below hb8
        have hO18 := hO1.below hb8
        have ht8 := ht7.below hb8
        have hp8 := hp7.below hb8
        have hnew8 := hnew7.below hb8
        have hroom8 := hroom7.below hb8
        have hroomp8 := hroomp7.below hb8
        clear hO07 hO1 ht7 hp7 hnew7 hroom7 hroomp7
        go_wp2_with fail
        refine (toRuleS_any w8 _ T len (HX.out.below hB8) HS.out HN).mono ?_
        rintro e w9 ⟨rfl, ⟨_, hnewx⟩, _, hb9⟩
        have hB9 := below_next hB8 hb9
        have htx : TableAt w9 _ T := TableAt.of_new hnewx HN.out (by omega)
        have hO09 := hO08.below hb9
        have hO19 := hO18.below hb9
        have ht9 := ht8.below hb9
        have hp9 := hp8.below hb9
        have hnew9 := hnew8.below hb9
        have hroom9 := hroom8.below hb9
        have hroomp9 := hroomp8.below hb9
        clear hO08 hO18 ht8 hp8 hnew8 hroom8 hroomp8 hnewx
        go_wp2_with fail
        refine (eqRuleS_same w9 _ _ T ht9 htx).mono ?_
        rintro e w10 ⟨rfl, hb10⟩
        have hB10 := below_next hB9 hb10
        have hO010 := hO09.below hb10
        have hO110 := hO19.below hb10
        have hp10 := hp9.below hb10
        have hnew10 := hnew9.below hb10
        have hroom10 := hroom9.below hb10
        have hroomp10 := hroomp9.below hb10
        clear hO09 hO19 ht9 htx hp9 hnew9 hroom9 hroomp9
        go_wp2_with fail
        refine (toPieceS_any w10 _ P len' (HY.out.below hB10) hlen' HN').mono ?_
        rintro e w11 ⟨rfl, hpx, _, hb11⟩
        have hB11 := below_next hB10 hb11
        have hpx' : PiecesAt w11 _ P := PiecesAt.of_new hpx HN'.out (by omega)
        have hO011 := hO010.below hb11
        have hO111 := hO110.below hb11
        have hp11 := hp10.below hb11
        have hnew11 := hnew10.below hb11
        have hroom11 := hroom10.below hb11
        have hroomp11 := hroomp10.below hb11
        clear hO010 hO110 hp10 hnew10 hroom10 hroomp10 hpx
        go_wp2_with fail
        refine (eqPieceS_same w11 _ _ P hp11 hpx').mono ?_
        rintro e w12 ⟨rfl, hb12⟩
        have hB12 := below_next hB11 hb12
        have hO012 := hO011.below hb12
        have hO112 := hO111.below hb12
        have hnew12 := hnew11.below hb12
        have hroom12 := hroom11.below hb12
        have hroomp12 := hroomp11.below hb12
        clear hO011 hO111 hp11 hpx' hnew11 hroom11 hroomp11
        go_wp2_with fail
        refine (markRuleS_any w12 w4.heap.size len w5.heap.size bs T hnew12 hroom12 hbs.out hg5 HS.out HN).mono ?_
        rintro e w13 ⟨⟨k, rfl, hk0, hk1⟩, hmid⟩
        have hB13 := Mid.below hB12 hmid hw4 (Nat.le_trans hw4 (by have := hroom12.2.2; omega))
        have hO013 := hO012.mid hmid (fun b hb => .inl (hlt0.out b hb))
        have hO113 := hO112.mid hmid (fun b hb => .inr (by have := (hO112.lt b hb).1; omega))
        have hroomp13 : Room w13 w5.heap.size len' := by
          have hblk := hmid.2.2.2.2 w5.heap.size hroomp12.2.2 (.inr (Nat.le_refl _))
          refine ⟨fun o ho => ?_, fun o => (World.frozen?_of_block (a := ⟨w5.heap.size, o, none⟩) hblk).trans (hroomp12.2.1 o), Nat.lt_of_lt_of_le hroomp12.2.2 hmid.2.2.2.1⟩
          obtain ⟨u, hu⟩ := hroomp12.1 o ho
          exact ⟨u, (World.cell?_of_block (a := ⟨w5.heap.size, o, none⟩) hblk).trans hu⟩
        clear hO012 hO112 hnew12 hroom12 hmid hroomp12
        go_wp2_with fail
        refine (markPieceS_room w13 w5.heap.size len' k hroomp13 hlen' hk0 hk1).mono ?_
        rintro e w14 ⟨⟨k2, rfl, hk20⟩, hgr⟩
        have hB14 : Below w.heap.size w w14 := hB13.grown hgr (by have := hroomp13.2.2; omega) (fun q hq => by injection hq with hq; omega)
        have hO014 := own_of_block hO013 (fun b hb => hgr.block b (hO013.lt b hb).2 (by have := hlt0.out b hb; simp; omega))
        have hO114 := own_of_block hO113 (fun b hb => hgr.block b (hO113.lt b hb).2 (by have := (hO113.lt b hb).1; simp; omega))
        have d3 : decide (k2 < 0) = false := decide_eq_false (by omega)
        clear hO013 hO113 hroomp13 hgr
        go_wp2_with fail
        refine (eqIntS_sameT w14 _ _ L hO114.at hO014.at).mono ?_
        rintro e w15 ⟨rfl, hb15⟩
        have hB15 := below_next hB14 hb15
        have hO015 := hO014.below hb15
        have hO115 := hO114.below hb15
        clear hO014 hO114
        go_wp2_with fail
        refine (markIntS_own w15 w6.heap.size a1 nl n1 c1 L hO115 HNL (by omega)).mono ?_
        rintro e w16 ⟨rfl, hO116, hb16⟩
        have hB16 : Below w.heap.size w w16 := hB15.trans (hb16.mono (by omega))
        have hO016 := own_of_block hO015 (fun b hb => hb16.block b (by have := hlt0.out b hb; omega))
        clear hO015 hO115
        go_wp2_with fail
        refine (heldIntS_own _ _ _ nl hO116 (by omega)).mono ?_
        rintro e w' ⟨rfl, rfl⟩
        go_wp2_with fail
        refine (toRuleS_any w16 _ T len (HX.out.below hB16) HS.out HN).mono ?_
        rintro e w17 ⟨rfl, ⟨_, hnew17⟩, _, hb17⟩
        have hB17 := below_next hB16 hb17
        have ht17 : TableAt w17 _ T := TableAt.of_new hnew17 HN.out (by omega)
        have hO017 := hO016.below hb17
        have hO117 := hO116.below hb17
        clear hO016 hO116 hnew17
        go_wp2_with fail
        refine (toPieceS_any w17 _ P len' (HY.out.below hB17) hlen' HN').mono ?_
        rintro e w18 ⟨rfl, hp18, _, hb18⟩
        have hB18 := below_next hB17 hb18
        have hp18' : PiecesAt w18 _ P := PiecesAt.of_new hp18 HN'.out (by omega)
        have ht18 := ht17.below hb18
        have hO018 := hO017.below hb18
        have hO118 := hO117.below hb18
        clear hO017 hO117 hp18 ht17
        go_wp2_with fail
        refine (HIm.out w18 _ _ ht18 hp18').mono ?_
        rintro e w19 ⟨v2, rfl, hO2, hb19, a2, n2, c2, rfl⟩
        have hB19 := below_next hB18 hb19
        have hO019 := hO018.below hb19
        have hO119 := hO118.below hb19
        clear hO018 hO118 ht18 hp18'
        go_wp2_with fail
        refine (eqIntS_sameT w19 _ _ L hO2.at hO019.at).mono ?_
        rintro e w20 ⟨rfl, hb20⟩
        have hB20 := below_next hB19 hb20
        have hO120 := hO119.below hb20
        clear hO019 hO119 hO2
        go_wp2_with fail
        refine (heldIntS_own _ _ _ nl hO120 (by omega)).mono ?_
        rintro e w' ⟨rfl, rfl⟩
        go_wp2
        go_ret
        exact ⟨rfl, hB20⟩
end Go.Proofs.Ytohgglhjcklbaaa
