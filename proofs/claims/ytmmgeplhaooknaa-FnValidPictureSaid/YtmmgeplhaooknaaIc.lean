
/- The exact law of ValidPicture. -/
import Derived.Test.YtmmgeplhaooknaaCb
import Derived.Test.YtmmgeplhaooknaaIb
namespace Go.Proofs.Ytmmgeplhaooknaa
open Go.RowKit

theorem boolOfI (P : Prop) : ∃ b : Bool, b = true ↔ P := by
  by_cases h : P
  · exact ⟨true, fun _ => h, fun _ => rfl⟩
  · exact ⟨false, fun e => by simp at e, fun k => absurd k h⟩
theorem bool_same {P : Prop} {a b : Bool} (h : a = true ↔ P) (k : b = true ↔ P) : a = b := by
  rw [Bool.eq_iff_iff]; exact h.trans k.symm
set_option maxHeartbeats 2000000 in
theorem exValidPicture_walk (a : Option Addr) (len cap : Nat) (L : List (List Int)) (w : World) (hx : ListsAt w (.slice a len cap) L) :
    Calls Try.prog 13 #[.slice a len cap] w fun e w' => e = .returned (.bool true) ∧ Below w.heap.size w w' := by
  have HX := Lib.hid hx
  obtain ⟨b, hb⟩ := boolOfI (BlockOk L 24 24 1)
  have HS : Hid (∀ wx v, ListsAt wx v L → Calls Try.prog 20 #[v] wx fun e w' => e = .returned (.bool b) ∧ Below wx.heap.size wx w') := fun wx v h => (s_ValidPicture wx v L h).mono fun _ _ ⟨b', h1, h2, h3⟩ => ⟨by rw [h1, bool_same h3 hb], h2⟩
  have HI : Hid (∀ wx v, ListsAt wx v L → Calls Try.prog 19 #[v] wx fun e w' => e = .returned (.bool b) ∧ Below wx.heap.size wx w') := fun wx v h => (i_ValidPicture wx v L h).mono fun _ _ ⟨b', h1, h2, h3⟩ => ⟨by rw [h1, bool_same h3 hb], by subst h2; exact Below.refl _ _⟩
  clear hb hx
  go_enter Try.func13, Try.ntmps13
  go_wp2_with fail
  refine (szIntSS_any w _ L HX.out).mono ?_
  rintro e w1 ⟨l, rfl, hb1, hl⟩
  rcases hl with rfl | ⟨hl0, hl1, hsm⟩
  · go_wp2
    go_ret
    exact ⟨rfl, hb1⟩
  · have HSM := Lib.hid hsm
    have d1 : decide (l < 0) = false := decide_eq_false (by omega)
    clear hsm
    go_wp2_with fail
    refine (toIntSS_any w1 _ L (HX.out.below hb1) HSM.out).mono ?_
    rintro e w2 ⟨u2, rfl, ht2, hb2⟩
    have hB2 := below_next hb1 hb2
    go_wp2_with fail
    refine (HS.out w2 _ ht2).mono ?_
    rintro e w3 ⟨rfl, hb3⟩
    have hB3 := below_next hB2 hb3
    clear ht2
    go_wp2_with fail
    refine (toIntSS_any w3 _ L (HX.out.below hB3) HSM.out).mono ?_
    rintro e w4 ⟨u4, rfl, ht4, hb4⟩
    have hB4 := below_next hB3 hb4
    go_wp2_with fail
    refine (HI.out w4 _ ht4).mono ?_
    rintro e w5 ⟨rfl, hb5⟩
    have hB5 := below_next hB4 hb5
    have ht5 := ht4.below hb5
    clear ht4
    go_wp2_with fail
    refine (toIntSS_any w5 _ L (HX.out.below hB5) HSM.out).mono ?_
    rintro e w6 ⟨u6, rfl, ht6, hb6⟩
    have hB6 := below_next hB5 hb6
    have ht56 := ht5.below hb6
    clear ht5
    go_wp2_with fail
    refine (eqIntSS_same w6 _ _ L ht56 ht6).mono ?_
    rintro e w7 ⟨rfl, hb7⟩
    go_wp2
    go_ret
    exact ⟨rfl, below_next hB6 hb7⟩
end Go.Proofs.Ytmmgeplhaooknaa
