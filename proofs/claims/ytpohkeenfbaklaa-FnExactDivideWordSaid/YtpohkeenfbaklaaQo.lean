
/- The exact law of DivideWord. -/
import Derived.Test.YtpohkeenfbaklaaQn
namespace Go.Proofs.Ytpohkeenfbaklaa
open Go.RowKit

theorem own_of_blockSt {w w' : World} {base : Nat} {v : Value} {zs : List ByteArray} (h : OwnSt w base v zs) (hk : ∀ k, v.ownBlock = some k → w'.heap[k]? = w.heap[k]?) : OwnSt w' base v zs := by
  rcases h with ⟨h0, ⟨hv, hn⟩ | ⟨g, cap, cur, hv, hb, hg, h1, h2, h3, h4⟩⟩
  · exact ⟨h0, .inl ⟨hv, hn⟩⟩
  · exact ⟨h0, .inr ⟨g, cap, cur, hv, hb, (hk g (by rw [hv]; rfl)).trans hg, h1, h2, h3, h4⟩⟩
theorem OwnSt.midQ {g B base : Nat} {w w' : World} {v : Value} {zs : List ByteArray} (h : OwnSt w base v zs) (k : Mid g B w w') (hk : ∀ b, v.ownBlock = some b → b < g ∨ B ≤ b) : OwnSt w' base v zs :=
  own_of_blockSt h fun b hb => k.2.2.2.2 b (World.ownsRow.lt h b hb).2 (hk b hb)

set_option maxHeartbeats 4000000 in
theorem exDivideWord_walk (a : Option Addr) (len cap : Nat) (T : List PPat) (s : ByteArray) (w : World) (hx : PatsAt w (.slice a len cap) T) (hn : T.length = len) (hf : PatsFit T) (w1 : s.size ≤ maxLen) :
    Calls Try.prog 12 #[.slice a len cap, .string s] w fun e w' => e = .returned (.bool true) ∧ Below w.heap.size w w' := by
  have hss : s.size ≤ 9223372036854775807 := by unfold maxLen at w1; exact w1
  clear w1
  have HN := Lib.hid hn
  have HX := Lib.hid hx
  have HF := Lib.hid hf
  by_cases hbig : 1048576 < s.size
  · go_enter Try.func12, Try.ntmps12
    go_wp2
    go_ret
    exact ⟨rfl, Below.refl _ _⟩
  · obtain ⟨L, hL⟩ : ∃ L : List ByteArray, L.length ≤ 20 ∧ (∀ wx u, PatsAt wx u T → PatsMid T → Calls Try.prog 29 #[u, .string s] wx fun e w' => TextsMadeQ L wx e w') ∧ (∀ wx u, PatsAt wx u T → PatsMid T → Calls Try.prog 27 #[u, .string s] wx fun e w' => TextsMadeQ L wx e w') := by
      by_cases hv : OkH T s
      · have hsl : s.size ≤ 16 := by have h2 := hv.2.2.1; rw [wd_size] at h2; exact h2
        exact ⟨parts s (ptL T s (s.size - 1)), by have := ptL_len T s (s.size - 1); rw [parts_len]; omega, fun wx u h hm => s_DivideWord wx u T s h hm (Lib.hid hv), fun wx u h hm => i_DivideWord wx u T s h hm (Lib.hid hv)⟩
      · exact ⟨[], by simp, fun wx u h hm => s_DivideWord_no wx u T s h hm hss (Lib.hid hv), fun wx u h hm => i_DivideWord_no wx u T s h hm hss (Lib.hid hv)⟩
    obtain ⟨hL16, hS, hI⟩ := hL
    have HSp := Lib.hid hS
    have HIm := Lib.hid hI
    obtain ⟨nl, hnl⟩ : ∃ nl, L.length = nl := ⟨_, rfl⟩
    rw [hnl] at hL16
    have HNL := Lib.hid hnl
    clear hS hI hn hx hf hnl
    go_enter Try.func12, Try.ntmps12
    go_wp2_with fail
    refine (szPatternS_any w _ T HX.out HF.out).mono ?_
    rintro e w1 ⟨l, rfl, hb1, hl⟩
    rcases hl with rfl | ⟨hl0, hl1, hsm⟩
    · go_wp2
      go_ret
      exact ⟨rfl, hb1⟩
    · have HS := Lib.hid hsm
      have d1 : decide (l < 0) = false := decide_eq_false (by omega)
      have hx1 := HX.out.below hb1
      have hlen : len ≤ 1048576 := by have := HS.out.1; have := HN.out; omega
      clear hsm
      go_wp2_with fail
      refine (toPatternS_any w1 _ T len hx1 HS.out HN).mono ?_
      rintro e w2 ⟨rfl, ⟨_, hnew2⟩, _, hb2⟩
      have hB2 := below_next hb1 hb2
      have ht2 : PatsAt w2 _ T := PatsAt.of_new hnew2 HN.out (by omega)
      clear hnew2 hx1
      go_wp2_with fail
      refine (HSp.out w2 _ ht2 HS.out.mid).mono ?_
      rintro e w3 ⟨v0, rfl, hO0, hb3⟩
      obtain ⟨a0, n0, c0, rfl⟩ := hO0.isSlice
      have hB3 := below_next hB2 hb3
      clear ht2
      go_wp2_with fail
      refine (toPatternS_any w3 _ T len (HX.out.below hB3) HS.out HN).mono ?_
      rintro e w4 ⟨rfl, ⟨bs, hnew4⟩, hroom4, hb4⟩
      have hB4 := below_next hB3 hb4
      have ht4 : PatsAt w4 _ T := PatsAt.of_new hnew4 HN.out (by omega)
      have hO04 := hO0.below hb4
      have hlt0 : Hid (∀ k, (Value.slice a0 n0 c0).ownBlock = some k → k < w3.heap.size) := fun k hk => (World.ownsRow.lt hO0 k hk).2
      have hbs : Hid (∀ j, j < len → bs j < w4.heap.size) := fun j hj => (hnew4.1 j hj).lt.2
      have hg4 : w3.heap.size < w4.heap.size := hroom4.2.2
      have hw3 : w.heap.size ≤ w3.heap.size := hB3.size
      clear hO0
      go_wp2_with fail
      refine (HIm.out w4 _ ht4 HS.out.mid).mono ?_
      rintro e w5 ⟨v1, rfl, hO1, hb5⟩
      obtain ⟨a1, n1, c1, rfl⟩ := hO1.isSlice
      have hB5 := below_next hB4 hb5
      have hO05 := hO04.below hb5
      have ht5 := ht4.below hb5
      have hnew5 := hnew4.below hb5
      have hroom5 := hroom4.below hb5
      clear ht4 hO04 hnew4 hroom4
      go_wp2_with fail
      refine (eqStringS_same w5 _ _ _ _ _ _ _ _ L hO1 hO05).mono ?_
      rintro e w6 ⟨rfl, hb6⟩
      have hB6 := below_next hB5 hb6
      have hO06 := hO05.below hb6
      have hO16 := hO1.below hb6
      have ht6 := ht5.below hb6
      have hnew6 := hnew5.below hb6
      have hroom6 := hroom5.below hb6
      clear hO05 hO1 ht5 hnew5 hroom5
      go_wp2_with fail
      refine (toPatternS_any w6 _ T len (HX.out.below hB6) HS.out HN).mono ?_
      rintro e w7 ⟨rfl, ⟨_, hnewx⟩, _, hb7⟩
      have hB7 := below_next hB6 hb7
      have htx : PatsAt w7 _ T := PatsAt.of_new hnewx HN.out (by omega)
      have hO07 := hO06.below hb7
      have hO17 := hO16.below hb7
      have ht7 := ht6.below hb7
      have hnew7 := hnew6.below hb7
      have hroom7 := hroom6.below hb7
      clear hO06 hO16 ht6 hnew6 hroom6 hnewx
      go_wp2_with fail
      refine (eqPatternS_same w7 _ _ T ht7 htx).mono ?_
      rintro e w8 ⟨rfl, hb8⟩
      have hB8 := below_next hB7 hb8
      have hO08 := hO07.below hb8
      have hO18 := hO17.below hb8
      have hnew8 := hnew7.below hb8
      have hroom8 := hroom7.below hb8
      clear hO07 hO17 ht7 htx hnew7 hroom7
      go_wp2_with fail
      refine (markPatternS_any w8 w3.heap.size len w4.heap.size bs T hnew8 hroom8 hbs.out hg4 HS.out HN).mono ?_
      rintro e w9 ⟨⟨k, rfl, hk0⟩, hmid⟩
      have hmid2 : Hid (w8.heap.size ≤ w9.heap.size) := hmid.2.2.2.1
      have hB9 := Mid.belowQ hB8 hmid hw3 (Nat.le_trans hw3 (by have := hroom8.2.2; omega))
      have hO09 := OwnSt.midQ hO08 hmid (fun b hb => .inl (hlt0.out b hb))
      have hO19 := OwnSt.midQ hO18 hmid (fun b hb => .inr (World.ownsRow.lt hO18 b hb).1)
      have d2 : decide (k < 0) = false := decide_eq_false (by omega)
      clear hO08 hO18 hnew8 hroom8 hmid
      go_wp2_with fail
      refine (eqStringS_same w9 _ _ _ _ _ _ _ _ L hO19 hO09).mono ?_
      rintro e w10 ⟨rfl, hb10⟩
      have hB10 := below_next hB9 hb10
      have hO010 := hO09.below hb10
      have hO110 := hO19.below hb10
      clear hO09 hO19
      have hs410 : w4.heap.size ≤ w10.heap.size := by have h1 := hb5.size; have h2 := hb6.size; have h3 := hb7.size; have h4 := hb8.size; have h5 := hmid2.out; have h6 := hb10.size; omega
      have hn1 : n1 ≤ 1000 := by have := hO110.len; have := HNL.out; omega
      have hm := markStringS_own w10 w4.heap.size a1 n1 c1 L hO110 hn1 hs410
      have hh : ∀ wx, OwnSt wx w4.heap.size (.slice a1 n1 c1) (mkS L n1) → Calls Try.prog 39 #[.slice a1 n1 c1, .int .i64 1] wx fun e w' => e = .returned (.int .i64 (1 + (n1 : Int))) ∧ Below wx.heap.size wx w' := fun wx h => heldStringS_own wx w4.heap.size a1 n1 c1 L h hn1
      obtain ⟨q, hq⟩ : ∃ q : Int, 1 + (n1 : Int) = q := ⟨_, rfl⟩
      have d0 : decide (q < 0) = false := decide_eq_false (by omega)
      rw [hq] at hm hh
      have HM := keptQ hm
      have HH := keptQ hh
      have hw4 : w.heap.size ≤ w4.heap.size := hB4.size
      clear hm hh hq hs410
      go_wp2_with fail
      refine HM.out.mono ?_
      rintro e w11 ⟨rfl, hO111, hb11⟩
      have hB11 : Below w.heap.size w w11 := hB10.trans (hb11.mono hw4)
      have hO011 := own_of_blockSt hO010 (fun b hb => hb11.block b (by have := hlt0.out b hb; omega))
      have HO0 := keptQ hO011
      have HO1 := keptQ hO111
      have HB := keptQ hB11
      clear hO010 hO110 hO011 hO111 hB11 hb11
      go_wp2_with fail
      refine (HH.out _ HO1.out).mono ?_
      rintro e wh ⟨rfl, hbh⟩
      have HO0h := keptQ (HO0.out.below hbh)
      have HO1h := keptQ (HO1.out.below hbh)
      have HBh := keptQ (below_next HB.out hbh)
      clear hbh
      go_wp2_with fail
      refine (toPatternS_any wh _ T len (HX.out.below HBh.out) HS.out HN).mono ?_
      rintro e w12 ⟨rfl, ⟨_, hnew12⟩, _, hb12⟩
      have hB12 := below_next HBh.out hb12
      have ht12 : PatsAt w12 _ T := PatsAt.of_new hnew12 HN.out (by omega)
      have hO012 := HO0h.out.below hb12
      have hO112 := HO1h.out.below hb12
      clear hnew12
      go_wp2_with fail
      refine (HIm.out w12 _ ht12 HS.out.mid).mono ?_
      rintro e w13 ⟨v2, rfl, hO2, hb13⟩
      obtain ⟨a2, n2, c2, rfl⟩ := hO2.isSlice
      have hB13 := below_next hB12 hb13
      have hO013 := hO012.below hb13
      have hO113 := hO112.below hb13
      clear hO012 hO112 ht12
      go_wp2_with fail
      refine (eqStringS_same w13 _ _ _ _ _ _ _ _ L hO2 hO013).mono ?_
      rintro e w14 ⟨rfl, hb14⟩
      have hB14 := below_next hB13 hb14
      have HO114 := keptQ (hO113.below hb14)
      clear hO013 hO113 hO2
      go_wp2_with fail
      refine (HH.out _ HO114.out).mono ?_
      rintro e w15 ⟨rfl, hb15⟩
      have HB15 := keptQ (below_next hB14 hb15)
      clear hb15 hB14 hb14
      go_wp2
      go_ret
      exact ⟨rfl, HB15.out⟩
end Go.Proofs.Ytpohkeenfbaklaa
