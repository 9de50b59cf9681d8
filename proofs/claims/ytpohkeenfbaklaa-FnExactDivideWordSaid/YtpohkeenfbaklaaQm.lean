
/- The exact laws of HyphenLevels and HyphenPoints. -/
import Derived.Test.YtpohkeenfbaklaaQl
import Derived.Test.YtpohkeenfbaklaaQe
import Derived.Test.YtpohkeenfbaklaaExM
namespace Go.Proofs.Ytpohkeenfbaklaa
open Go.RowKit

theorem own_of_blockQ {w w' : World} {base : Nat} {v : Value} {zs : List Int} (h : OwnInts w base v zs) (hk : ∀ k, v.ownBlock = some k → w'.heap[k]? = w.heap[k]?) : OwnInts w' base v zs := by
  rcases h with ⟨h0, ⟨hv, hn⟩ | ⟨g, cap, cur, hv, hb, hg, h1, h2, h3, h4⟩⟩
  · exact ⟨h0, .inl ⟨hv, hn⟩⟩
  · exact ⟨h0, .inr ⟨g, cap, cur, hv, hb, (hk g (by rw [hv]; rfl)).trans hg, h1, h2, h3, h4⟩⟩
theorem Mid.belowQ {g B C : Nat} {w a b : World} (h : Below C w a) (k : Mid g B a b) (hC : C ≤ g) (hs : C ≤ a.heap.size) : Below C w b :=
  ⟨k.1.trans h.os, k.2.1.trans h.tape, k.2.2.1.trans h.output, Nat.le_trans h.size k.2.2.2.1, fun i hi => (k.2.2.2.2 i (by omega) (.inl (by omega))).trans (h.block i hi)⟩
theorem OwnInts.midQ {g B base : Nat} {w w' : World} {v : Value} {zs : List Int} (h : OwnInts w base v zs) (k : Mid g B w w') (hk : ∀ b, v.ownBlock = some b → b < g ∨ B ≤ b) : OwnInts w' base v zs :=
  own_of_blockQ h fun b hb => k.2.2.2.2 b (h.lt b hb).2 (hk b hb)

set_option maxHeartbeats 4000000 in
theorem exHyphenLevels_walk (a : Option Addr) (len cap : Nat) (T : List PPat) (s : ByteArray) (w : World) (hx : PatsAt w (.slice a len cap) T) (hn : T.length = len) (hf : PatsFit T) (w1 : s.size ≤ maxLen) :
    Calls Try.prog 10 #[.slice a len cap, .string s] w fun e w' => e = .returned (.bool true) ∧ Below w.heap.size w w' := by
  have hss : s.size ≤ 9223372036854775807 := by unfold maxLen at w1; exact w1
  clear w1
  have HN := Lib.hid hn
  have HX := Lib.hid hx
  have HF := Lib.hid hf
  by_cases hbig : 1048576 < s.size
  · go_enter Try.func10, Try.ntmps10
    go_wp2
    go_ret
    exact ⟨rfl, Below.refl _ _⟩
  · obtain ⟨L, hL⟩ : ∃ L : List Int, L.length ≤ 20 ∧ (∀ wx u, PatsAt wx u T → PatsMid T → Calls Try.prog 19 #[u, .string s] wx fun e w' => LM L wx e w') ∧ (∀ wx u, PatsAt wx u T → PatsMid T → Calls Try.prog 17 #[u, .string s] wx fun e w' => LM L wx e w') := by
      by_cases hv : OkH T s
      · have hsl : s.size ≤ 16 := by have h2 := hv.2.2.1; rw [wd_size] at h2; exact h2
        exact ⟨levL T s (s.size + 1), by rw [levL_len]; omega, fun wx u h hm => s_HyphenLevels wx u T s h hm (Lib.hid hv), fun wx u h hm => i_HyphenLevels wx u T s h hm (Lib.hid hv)⟩
      · exact ⟨[], by simp, fun wx u h hm => s_HyphenLevels_no wx u T s h hm hss (Lib.hid hv), fun wx u h hm => i_HyphenLevels_no wx u T s h hm hss (Lib.hid hv)⟩
    obtain ⟨hL16, hS, hI⟩ := hL
    have HSp := Lib.hid hS
    have HIm := Lib.hid hI
    obtain ⟨nl, hnl⟩ : ∃ nl, L.length = nl := ⟨_, rfl⟩
    rw [hnl] at hL16
    have HNL := Lib.hid hnl
    clear hS hI hn hx hf hnl
    go_enter Try.func10, Try.ntmps10
    go_wp2_with fail
    refine (szPatternS_any w _ T HX.out HF.out).mono ?_
    rintro e w1 ⟨l, rfl, hb1, hl⟩
    rcases hl with rfl | ⟨hl0, hl1, hsm⟩
    · go_wp2
      go_ret
      exact ⟨rfl, hb1⟩
    · have HS := Lib.hid hsm
      have d1 : decide (l < 0) = false := decide_eq_false (by omega)
      have hx1 := HX.out.below hb1
      have hlen : len ≤ 1048576 := by have := HS.out.1; have := HN.out; omega
      clear hsm
      go_wp2_with fail
      refine (toPatternS_any w1 _ T len hx1 HS.out HN).mono ?_
      rintro e w2 ⟨rfl, ⟨_, hnew2⟩, _, hb2⟩
      have hB2 := below_next hb1 hb2
      have ht2 : PatsAt w2 _ T := PatsAt.of_new hnew2 HN.out (by omega)
      clear hnew2 hx1
      go_wp2_with fail
      refine (HSp.out w2 _ ht2 HS.out.mid).mono ?_
      rintro e w3 ⟨v0, rfl, hO0, hb3, a0, n0, c0, rfl⟩
      have hB3 := below_next hB2 hb3
      clear ht2
      go_wp2_with fail
      refine (toPatternS_any w3 _ T len (HX.out.below hB3) HS.out HN).mono ?_
      rintro e w4 ⟨rfl, ⟨bs, hnew4⟩, hroom4, hb4⟩
      have hB4 := below_next hB3 hb4
      have ht4 : PatsAt w4 _ T := PatsAt.of_new hnew4 HN.out (by omega)
      have hO04 := hO0.below hb4
      have hlt0 : Hid (∀ k, (Value.slice a0 n0 c0).ownBlock = some k → k < w3.heap.size) := fun k hk => (hO0.lt k hk).2
      have hbs : Hid (∀ j, j < len → bs j < w4.heap.size) := fun j hj => (hnew4.1 j hj).lt.2
      have hg4 : w3.heap.size < w4.heap.size := hroom4.2.2
      have hw3 : w.heap.size ≤ w3.heap.size := hB3.size
      clear hO0
      go_wp2_with fail
      refine (HIm.out w4 _ ht4 HS.out.mid).mono ?_
      rintro e w5 ⟨v1, rfl, hO1, hb5, a1, n1, c1, rfl⟩
      have hB5 := below_next hB4 hb5
      have hO05 := hO04.below hb5
      have ht5 := ht4.below hb5
      have hnew5 := hnew4.below hb5
      have hroom5 := hroom4.below hb5
      clear ht4 hO04 hnew4 hroom4
      go_wp2_with fail
      refine (eqIntS_sameQ w5 _ _ L hO1.at hO05.at).mono ?_
      rintro e w6 ⟨rfl, hb6⟩
      have hB6 := below_next hB5 hb6
      have hO06 := hO05.below hb6
      have hO16 := hO1.below hb6
      have ht6 := ht5.below hb6
      have hnew6 := hnew5.below hb6
      have hroom6 := hroom5.below hb6
      clear hO05 hO1 ht5 hnew5 hroom5
      go_wp2_with fail
      refine (toPatternS_any w6 _ T len (HX.out.below hB6) HS.out HN).mono ?_
      rintro e w7 ⟨rfl, ⟨_, hnewx⟩, _, hb7⟩
      have hB7 := below_next hB6 hb7
      have htx : PatsAt w7 _ T := PatsAt.of_new hnewx HN.out (by omega)
      have hO07 := hO06.below hb7
      have hO17 := hO16.below hb7
      have ht7 := ht6.below hb7
      have hnew7 := hnew6.below hb7
      have hroom7 := hroom6.below hb7
      clear hO06 hO16 ht6 hnew6 hroom6 hnewx
      go_wp2_with fail
      refine (eqPatternS_same w7 _ _ T ht7 htx).mono ?_
      rintro e w8 ⟨rfl, hb8⟩
      have hB8 := below_next hB7 hb8
      have hO08 := hO07.below hb8
      have hO18 := hO17.below hb8
      have hnew8 := hnew7.below hb8
      have hroom8 := hroom7.below hb8
      clear hO07 hO17 ht7 htx hnew7 hroom7
      go_wp2_with fail
      refine (markPatternS_any w8 w3.heap.size len w4.heap.size bs T hnew8 hroom8 hbs.out hg4 HS.out HN).mono ?_
      rintro e w9 ⟨⟨k, rfl, hk0⟩, hmid⟩
      have hB9 := Mid.belowQ hB8 hmid hw3 (Nat.le_trans hw3 (by have := hroom8.2.2; omega))
      have hO09 := hO08.midQ hmid (fun b hb => .inl (hlt0.out b hb))
      have hO19 := hO18.midQ hmid (fun b hb => .inr (hO18.lt b hb).1)
      have d2 : decide (k < 0) = false := decide_eq_false (by omega)
      clear hO08 hO18 hnew8 hroom8 hmid
      go_wp2_with fail
      refine (eqIntS_sameQ w9 _ _ L hO19.at hO09.at).mono ?_
      rintro e w10 ⟨rfl, hb10⟩
      have hB10 := below_next hB9 hb10
      have hO010 := hO09.below hb10
      have hO110 := hO19.below hb10
      clear hO09 hO19
      go_wp2_with fail
      refine (markIntS_own w10 w4.heap.size a1 nl n1 c1 L hO110 HNL (by omega)).mono ?_
      rintro e w11 ⟨rfl, hO111, hb11⟩
      have hB11 : Below w.heap.size w w11 := hB10.trans (hb11.mono (by omega))
      have hO011 := own_of_blockQ hO010 (fun b hb => hb11.block b (by have := hlt0.out b hb; omega))
      clear hO010 hO110
      go_wp2_with fail
      refine (heldIntS_own _ _ _ nl hO111 (by omega)).mono ?_
      rintro e w' ⟨rfl, rfl⟩
      go_wp2_with fail
      refine (toPatternS_any w11 _ T len (HX.out.below hB11) HS.out HN).mono ?_
      rintro e w12 ⟨rfl, ⟨_, hnew12⟩, _, hb12⟩
      have hB12 := below_next hB11 hb12
      have ht12 : PatsAt w12 _ T := PatsAt.of_new hnew12 HN.out (by omega)
      have hO012 := hO011.below hb12
      have hO112 := hO111.below hb12
      clear hO011 hO111 hnew12
      go_wp2_with fail
      refine (HIm.out w12 _ ht12 HS.out.mid).mono ?_
      rintro e w13 ⟨v2, rfl, hO2, hb13, a2, n2, c2, rfl⟩
      have hB13 := below_next hB12 hb13
      have hO013 := hO012.below hb13
      have hO113 := hO112.below hb13
      clear hO012 hO112 ht12
      go_wp2_with fail
      refine (eqIntS_sameQ w13 _ _ L hO2.at hO013.at).mono ?_
      rintro e w14 ⟨rfl, hb14⟩
      have hB14 := below_next hB13 hb14
      have hO114 := hO113.below hb14
      clear hO013 hO113 hO2
      go_wp2_with fail
      refine (heldIntS_own _ _ _ nl hO114 (by omega)).mono ?_
      rintro e w' ⟨rfl, rfl⟩
      go_wp2
      go_ret
      exact ⟨rfl, hB14⟩
set_option maxHeartbeats 4000000 in
theorem exHyphenPoints_walk (a : Option Addr) (len cap : Nat) (T : List PPat) (s : ByteArray) (w : World) (hx : PatsAt w (.slice a len cap) T) (hn : T.length = len) (hf : PatsFit T) (w1 : s.size ≤ maxLen) :
    Calls Try.prog 11 #[.slice a len cap, .string s] w fun e w' => e = .returned (.bool true) ∧ Below w.heap.size w w' := by
  have hss : s.size ≤ 9223372036854775807 := by unfold maxLen at w1; exact w1
  clear w1
  have HN := Lib.hid hn
  have HX := Lib.hid hx
  have HF := Lib.hid hf
  by_cases hbig : 1048576 < s.size
  · go_enter Try.func11, Try.ntmps11
    go_wp2
    go_ret
    exact ⟨rfl, Below.refl _ _⟩
  · obtain ⟨L, hL⟩ : ∃ L : List Int, L.length ≤ 20 ∧ (∀ wx u, PatsAt wx u T → PatsMid T → Calls Try.prog 22 #[u, .string s] wx fun e w' => LM L wx e w') ∧ (∀ wx u, PatsAt wx u T → PatsMid T → Calls Try.prog 21 #[u, .string s] wx fun e w' => LM L wx e w') := by
      by_cases hv : OkH T s
      · have hsl : s.size ≤ 16 := by have h2 := hv.2.2.1; rw [wd_size] at h2; exact h2
        exact ⟨ptL T s (s.size - 1), by have := ptL_len T s (s.size - 1); omega, fun wx u h hm => s_HyphenPoints wx u T s h hm (Lib.hid hv), fun wx u h hm => i_HyphenPoints wx u T s h hm (Lib.hid hv)⟩
      · exact ⟨[], by simp, fun wx u h hm => s_HyphenPoints_no wx u T s h hm hss (Lib.hid hv), fun wx u h hm => i_HyphenPoints_no wx u T s h hm hss (Lib.hid hv)⟩
    obtain ⟨hL16, hS, hI⟩ := hL
    have HSp := Lib.hid hS
    have HIm := Lib.hid hI
    obtain ⟨nl, hnl⟩ : ∃ nl, L.length = nl := ⟨_, rfl⟩
    rw [hnl] at hL16
    have HNL := Lib.hid hnl
    clear hS hI hn hx hf hnl
    go_enter Try.func11, Try.ntmps11
    go_wp2_with fail
    refine (szPatternS_any w _ T HX.out HF.out).mono ?_
    rintro e w1 ⟨l, rfl, hb1, hl⟩
    rcases hl with rfl | ⟨hl0, hl1, hsm⟩
    · go_wp2
      go_ret
      exact ⟨rfl, hb1⟩
    · have HS := Lib.hid hsm
      have d1 : decide (l < 0) = false := decide_eq_false (by omega)
      have hx1 := HX.out.below hb1
      have hlen : len ≤ 1048576 := by have := HS.out.1; have := HN.out; omega
      clear hsm
      go_wp2_with fail
      refine (toPatternS_any w1 _ T len hx1 HS.out HN).mono ?_
      rintro e w2 ⟨rfl, ⟨_, hnew2⟩, _, hb2⟩
      have hB2 := below_next hb1 hb2
      have ht2 : PatsAt w2 _ T := PatsAt.of_new hnew2 HN.out (by omega)
      clear hnew2 hx1
      go_wp2_with fail
      refine (HSp.out w2 _ ht2 HS.out.mid).mono ?_
      rintro e w3 ⟨v0, rfl, hO0, hb3, a0, n0, c0, rfl⟩
      have hB3 := below_next hB2 hb3
      clear ht2
      go_wp2_with fail
      refine (toPatternS_any w3 _ T len (HX.out.below hB3) HS.out HN).mono ?_
      rintro e w4 ⟨rfl, ⟨bs, hnew4⟩, hroom4, hb4⟩
      have hB4 := below_next hB3 hb4
      have ht4 : PatsAt w4 _ T := PatsAt.of_new hnew4 HN.out (by omega)
      have hO04 := hO0.below hb4
      have hlt0 : Hid (∀ k, (Value.slice a0 n0 c0).ownBlock = some k → k < w3.heap.size) := fun k hk => (hO0.lt k hk).2
      have hbs : Hid (∀ j, j < len → bs j < w4.heap.size) := fun j hj => (hnew4.1 j hj).lt.2
      have hg4 : w3.heap.size < w4.heap.size := hroom4.2.2
      have hw3 : w.heap.size ≤ w3.heap.size := hB3.size
      clear hO0
      go_wp2_with fail
      refine (HIm.out w4 _ ht4 HS.out.mid).mono ?_
      rintro e w5 ⟨v1, rfl, hO1, hb5, a1, n1, c1, rfl⟩
      have hB5 := below_next hB4 hb5
      have hO05 := hO04.below hb5
      have ht5 := ht4.below hb5
      have hnew5 := hnew4.below hb5
      have hroom5 := hroom4.below hb5
      clear ht4 hO04 hnew4 hroom4
      go_wp2_with fail
      refine (eqIntS_sameQ w5 _ _ L hO1.at hO05.at).mono ?_
      rintro e w6 ⟨rfl, hb6⟩
      have hB6 := below_next hB5 hb6
      have hO06 := hO05.below hb6
      have hO16 := hO1.below hb6
      have ht6 := ht5.below hb6
      have hnew6 := hnew5.below hb6
      have hroom6 := hroom5.below hb6
      clear hO05 hO1 ht5 hnew5 hroom5
      go_wp2_with fail
      refine (toPatternS_any w6 _ T len (HX.out.below hB6) HS.out HN).mono ?_
      rintro e w7 ⟨rfl, ⟨_, hnewx⟩, _, hb7⟩
      have hB7 := below_next hB6 hb7
      have htx : PatsAt w7 _ T := PatsAt.of_new hnewx HN.out (by omega)
      have hO07 := hO06.below hb7
      have hO17 := hO16.below hb7
      have ht7 := ht6.below hb7
      have hnew7 := hnew6.below hb7
      have hroom7 := hroom6.below hb7
      clear hO06 hO16 ht6 hnew6 hroom6 hnewx
      go_wp2_with fail
      refine (eqPatternS_same w7 _ _ T ht7 htx).mono ?_
      rintro e w8 ⟨rfl, hb8⟩
      have hB8 := below_next hB7 hb8
      have hO08 := hO07.below hb8
      have hO18 := hO17.below hb8
      have hnew8 := hnew7.below hb8
      have hroom8 := hroom7.below hb8
      clear hO07 hO17 ht7 htx hnew7 hroom7
      go_wp2_with fail
      refine (markPatternS_any w8 w3.heap.size len w4.heap.size bs T hnew8 hroom8 hbs.out hg4 HS.out HN).mono ?_
      rintro e w9 ⟨⟨k, rfl, hk0⟩, hmid⟩
      have hB9 := Mid.belowQ hB8 hmid hw3 (Nat.le_trans hw3 (by have := hroom8.2.2; omega))
      have hO09 := hO08.midQ hmid (fun b hb => .inl (hlt0.out b hb))
      have hO19 := hO18.midQ hmid (fun b hb => .inr (hO18.lt b hb).1)
      have d2 : decide (k < 0) = false := decide_eq_false (by omega)
      clear hO08 hO18 hnew8 hroom8 hmid
      go_wp2_with fail
      refine (eqIntS_sameQ w9 _ _ L hO19.at hO09.at).mono ?_
      rintro e w10 ⟨rfl, hb10⟩
      have hB10 := below_next hB9 hb10
      have hO010 := hO09.below hb10
      have hO110 := hO19.below hb10
      clear hO09 hO19
      go_wp2_with fail
      refine (markIntS_own w10 w4.heap.size a1 nl n1 c1 L hO110 HNL (by omega)).mono ?_
      rintro e w11 ⟨rfl, hO111, hb11⟩
      have hB11 : Below w.heap.size w w11 := hB10.trans (hb11.mono (by omega))
      have hO011 := own_of_blockQ hO010 (fun b hb => hb11.block b (by have := hlt0.out b hb; omega))
      clear hO010 hO110
      go_wp2_with fail
      refine (heldIntS_own _ _ _ nl hO111 (by omega)).mono ?_
      rintro e w' ⟨rfl, rfl⟩
      go_wp2_with fail
      refine (toPatternS_any w11 _ T len (HX.out.below hB11) HS.out HN).mono ?_
      rintro e w12 ⟨rfl, ⟨_, hnew12⟩, _, hb12⟩
      have hB12 := below_next hB11 hb12
      have ht12 : PatsAt w12 _ T := PatsAt.of_new hnew12 HN.out (by omega)
      have hO012 := hO011.below hb12
      have hO112 := hO111.below hb12
      clear hO011 hO111 hnew12
      go_wp2_with fail
      refine (HIm.out w12 _ ht12 HS.out.mid).mono ?_
      rintro e w13 ⟨v2, rfl, hO2, hb13, a2, n2, c2, rfl⟩
      have hB13 := below_next hB12 hb13
      have hO013 := hO012.below hb13
      have hO113 := hO112.below hb13
      clear hO012 hO112 ht12
      go_wp2_with fail
      refine (eqIntS_sameQ w13 _ _ L hO2.at hO013.at).mono ?_
      rintro e w14 ⟨rfl, hb14⟩
      have hB14 := below_next hB13 hb14
      have hO114 := hO113.below hb14
      clear hO013 hO113 hO2
      go_wp2_with fail
      refine (heldIntS_own _ _ _ nl hO114 (by omega)).mono ?_
      rintro e w' ⟨rfl, rfl⟩
      go_wp2
      go_ret
      exact ⟨rfl, hB14⟩
end Go.Proofs.Ytpohkeenfbaklaa
