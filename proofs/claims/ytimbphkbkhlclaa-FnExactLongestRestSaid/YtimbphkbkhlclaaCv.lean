
/- The exact laws of IsUnique and LongestRest. -/
import Derived.Test.YtimbphkbkhlclaaCb
import Derived.Test.YtimbphkbkhlclaaCu
namespace Go.Proofs.Ytimbphkbkhlclaa
open Go.RowKit

set_option maxHeartbeats 2000000 in
theorem exIsUnique_walk (a : Option Addr) (len cap : Nat) (L : List (List Int)) (w : World) (hx : ListsAt w (.slice a len cap) L) :
    Calls Try.prog 10 #[.slice a len cap] w fun e w' => e = .returned (.bool true) ∧ Below w.heap.size w w' := by
  have HX := Lib.hid hx
  obtain ⟨b, hb⟩ := ValidCd.b L
  have HB := Lib.hid hb
  obtain ⟨u, hu⟩ := Uniq.b L
  have HU := Lib.hid hu
  clear hb hx hu
  go_enter Try.func10, Try.ntmps10
  go_wp2_with fail
  refine (szIntSS_any w _ L HX.out).mono ?_
  rintro e w1 ⟨l, rfl, hb1, hl⟩
  rcases hl with rfl | ⟨hl0, hl1, hsm⟩
  · go_wp2
    go_ret
    exact ⟨rfl, hb1⟩
  · have HS := Lib.hid hsm
    have d1 : decide (l < 0) = false := decide_eq_false (by omega)
    clear hsm
    go_wp2_with fail
    refine (toIntSS_any w1 _ L (HX.out.below hb1) HS.out).mono ?_
    rintro e w2 ⟨u2, rfl, ht2, hb2⟩
    have hB2 := below_next hb1 hb2
    go_wp2_with fail
    refine (s_IsUnique w2 _ L b u ht2 HB HU).mono ?_
    rintro e w3 ⟨rfl, hb3⟩
    have hB3 := below_next hB2 hb3
    clear ht2
    go_wp2_with fail
    refine (toIntSS_any w3 _ L (HX.out.below hB3) HS.out).mono ?_
    rintro e w4 ⟨u4, rfl, ht4, hb4⟩
    have hB4 := below_next hB3 hb4
    go_wp2_with fail
    refine (i_IsUnique w4 _ L b u ht4 HB HU).mono ?_
    rintro e w5 ⟨rfl, hb5⟩
    have hB5 := below_next hB4 hb5
    have ht5 := ht4.below hb5
    clear ht4
    go_wp2_with fail
    refine (toIntSS_any w5 _ L (HX.out.below hB5) HS.out).mono ?_
    rintro e w6 ⟨u6, rfl, ht6, hb6⟩
    have hB6 := below_next hB5 hb6
    have ht56 := ht5.below hb6
    clear ht5
    go_wp2_with fail
    refine (eqIntSS_same w6 _ _ L ht56 ht6).mono ?_
    rintro e w7 ⟨rfl, hb7⟩
    go_wp2
    go_ret
    exact ⟨rfl, below_next hB6 hb7⟩
set_option maxHeartbeats 2000000 in
theorem exLongestRest_walk (a : Option Addr) (len cap : Nat) (L : List (List Int)) (w : World) (hx : ListsAt w (.slice a len cap) L) :
    Calls Try.prog 11 #[.slice a len cap] w fun e w' => e = .returned (.bool true) ∧ Below w.heap.size w w' := by
  have HX := Lib.hid hx
  obtain ⟨b, hb⟩ := ValidCd.b L
  have HB := Lib.hid hb
  obtain ⟨u, hu⟩ := Uniq.b L
  have HU := Lib.hid hu
  clear hb hx hu
  go_enter Try.func11, Try.ntmps11
  go_wp2_with fail
  refine (szIntSS_any w _ L HX.out).mono ?_
  rintro e w1 ⟨l, rfl, hb1, hl⟩
  rcases hl with rfl | ⟨hl0, hl1, hsm⟩
  · go_wp2
    go_ret
    exact ⟨rfl, hb1⟩
  · have HS := Lib.hid hsm
    have d1 : decide (l < 0) = false := decide_eq_false (by omega)
    clear hsm
    go_wp2_with fail
    refine (toIntSS_any w1 _ L (HX.out.below hb1) HS.out).mono ?_
    rintro e w2 ⟨u2, rfl, ht2, hb2⟩
    have hB2 := below_next hb1 hb2
    go_wp2_with fail
    refine (s_LongestRest_f w2 _ L b u ht2 HB HU).mono ?_
    rintro e w3 ⟨F, hF3, rfl, hb3⟩
    have hB3 := below_next hB2 hb3
    clear ht2
    go_wp2_with fail
    refine (toIntSS_any w3 _ L (HX.out.below hB3) HS.out).mono ?_
    rintro e w4 ⟨u4, rfl, ht4, hb4⟩
    have hB4 := below_next hB3 hb4
    go_wp2_with fail
    refine (i_LongestRest_f w4 _ L b u ht4 HB HU).mono ?_
    rintro e w5 ⟨G, hG5, rfl, hb5⟩
    obtain rfl := hF3.same hG5
    clear hF3 hG5
    have hB5 := below_next hB4 hb5
    have ht5 := ht4.below hb5
    clear ht4
    go_wp2_with fail
    refine (toIntSS_any w5 _ L (HX.out.below hB5) HS.out).mono ?_
    rintro e w6 ⟨u6, rfl, ht6, hb6⟩
    have hB6 := below_next hB5 hb6
    have ht56 := ht5.below hb6
    clear ht5
    go_wp2_with fail
    refine (eqIntSS_same w6 _ _ L ht56 ht6).mono ?_
    rintro e w7 ⟨rfl, hb7⟩
    go_wp2
    go_ret
    exact ⟨rfl, below_next hB6 hb7⟩
end Go.Proofs.Ytimbphkbkhlclaa
