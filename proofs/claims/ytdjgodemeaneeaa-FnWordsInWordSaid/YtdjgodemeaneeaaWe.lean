
/- The exact law of WordsIn. -/
import Derived.Test.YtdjgodemeaneeaaWd
namespace Go.Proofs.Ytdjgodemeaneeaa
open Go.RowKit

theorem OwnSt.belowB {w w' : World} {base B : Nat} {v : Value} {l : List ByteArray} (h : OwnSt w base v l) (hb : Below B w w') (hlt : ∀ k, v.ownBlock = some k → k < B) : OwnSt w' base v l := by
  refine ⟨h.1, ?_⟩
  rcases h.2 with h | ⟨g, cap, cur, h1, h2, h3, h4⟩
  · exact .inl h
  · exact .inr ⟨g, cap, cur, h1, h2, (hb.block g (hlt g (by rw [h1]; rfl))).trans h3, h4⟩
theorem below_st {w w1 w2 : World} (h1 : Below w.heap.size w w1) (h2 : Below w1.heap.size w1 w2) : Below w.heap.size w w2 := h1.trans (h2.mono h1.size)
set_option maxHeartbeats 2000000 in
theorem exWordsIn_walk (s : ByteArray) (w : World) (w1 : s.size ≤ maxLen) :
    Calls Try.prog 5 #[.string s] w fun e w' => e = .returned (.bool true) ∧ Below w.heap.size w w' := by
  have hss : s.size ≤ 9223372036854775807 := by unfold maxLen at w1; exact w1
  clear w1
  by_cases hbig : 1048576 < s.size
  · go_enter Try.func5, Try.ntmps5
    go_wp2
    go_ret
    exact ⟨rfl, Below.refl _ _⟩
  · obtain ⟨P, hP⟩ : ∃ P, wordsL s.data.toList = P := ⟨_, rfl⟩
    have hP60 : P.length ≤ 60 := by rw [← hP]; exact wordsL_len _
    have HS : Hid (∀ wx, Calls Try.prog 18 #[.string s] wx fun e w' => TextsMade P wx e w') := fun wx => by rw [← hP]; exact s_WordsIn s _ wx rfl (by omega)
    have HI : Hid (∀ wx, Calls Try.prog 19 #[.string s] wx fun e w' => TextsMade P wx e w') := fun wx => by rw [← hP]; exact i_WordsIn s _ wx rfl (by omega)
    clear hP
    go_enter Try.func5, Try.ntmps5
    go_wp2_with fail
    refine (HS.out w).mono ?_
    rintro e w2 ⟨v0, rfl, hO0, hB2⟩
    obtain ⟨a0, n0, c0, rfl⟩ := hO0.isSlice
    have HO0 := keptS hO0
    have HLT := keptS (fun k hk => (World.ownsRow.lt hO0 k hk).2)
    have HB2 := keptS hB2
    clear hO0 hB2
    go_wp2_with fail
    refine (HI.out w2).mono ?_
    rintro e w3 ⟨v1, rfl, hO1, hb3⟩
    obtain ⟨a1, n1, c1, rfl⟩ := hO1.isSlice
    have hn1 : n1 ≤ 1000 := by have := hO1.len; omega
    have HB3 := keptS (below_st HB2.out hb3)
    have HO03 := keptS (HO0.out.below hb3)
    have HS23 := keptS hb3.size
    have HO1 := keptS hO1
    clear hb3 hO1
    go_wp2_with fail
    refine (eqStringS_same w3 _ _ _ _ _ _ _ _ P HO1.out HO03.out).mono ?_
    rintro e w4 ⟨rfl, hb4⟩
    have HB4 := keptS (below_st HB3.out hb4)
    have HO04 := keptS (HO03.out.below hb4)
    have hO14 := HO1.out.below hb4
    have hs24 : w2.heap.size ≤ w4.heap.size := Nat.le_trans HS23.out hb4.size
    have hm := markStringS_own w4 w2.heap.size a1 n1 c1 P hO14 hn1 hs24
    have hh : ∀ wx, OwnSt wx w2.heap.size (.slice a1 n1 c1) (mkS P n1) → Calls Try.prog 22 #[.slice a1 n1 c1, .int .i64 1] wx fun e w' => e = .returned (.int .i64 (1 + (n1 : Int))) ∧ Below wx.heap.size wx w' := fun wx h => heldStringS_own wx w2.heap.size a1 n1 c1 P h hn1
    obtain ⟨q, hq⟩ : ∃ q : Int, 1 + (n1 : Int) = q := ⟨_, rfl⟩
    have d0 : decide (q < 0) = false := decide_eq_false (by omega)
    rw [hq] at hm hh
    have HM := keptS hm
    have HH := keptS hh
    clear hb4 hO14 hs24 hm hh hq
    go_wp2_with fail
    refine HM.out.mono ?_
    rintro e w5 ⟨rfl, hO5, hb5⟩
    have HB5 := keptS (HB4.out.trans (hb5.mono HB2.out.size))
    have HO05 := keptS (HO04.out.belowB hb5 HLT.out)
    have HO5 := keptS hO5
    clear hb5 hO5
    go_wp2_with fail
    refine (HH.out w5 HO5.out).mono ?_
    rintro e w6 ⟨rfl, hb6⟩
    have HB6 := keptS (below_st HB5.out hb6)
    have HO06 := keptS (HO05.out.below hb6)
    have HO6 := keptS (HO5.out.below hb6)
    clear hb6
    go_wp2_with fail
    refine (HI.out w6).mono ?_
    rintro e w7 ⟨v2, rfl, hO2, hb7⟩
    obtain ⟨a2, n2, c2, rfl⟩ := hO2.isSlice
    have HB7 := keptS (below_st HB6.out hb7)
    have HO07 := keptS (HO06.out.below hb7)
    have HO7 := keptS (HO6.out.below hb7)
    have HO2 := keptS hO2
    clear hb7 hO2
    go_wp2_with fail
    refine (eqStringS_same w7 _ _ _ _ _ _ _ _ P HO2.out HO07.out).mono ?_
    rintro e w8 ⟨rfl, hb8⟩
    have HB8 := keptS (below_st HB7.out hb8)
    have HO8 := keptS (HO7.out.below hb8)
    clear hb8
    go_wp2_with fail
    refine (HH.out w8 HO8.out).mono ?_
    rintro e w9 ⟨rfl, hb9⟩
    have HB9 := keptS (below_st HB8.out hb9)
    clear hb9
    go_wp2
    go_ret
    exact ⟨rfl, HB9.out⟩
end Go.Proofs.Ytdjgodemeaneeaa
