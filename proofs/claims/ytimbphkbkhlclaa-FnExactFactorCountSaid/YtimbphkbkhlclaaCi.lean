
/- The exact law of FactorCount. -/
import Derived.Test.YtimbphkbkhlclaaCb
import Derived.Test.YtimbphkbkhlclaaCh
namespace Go.Proofs.Ytimbphkbkhlclaa
open Go.RowKit

set_option maxHeartbeats 2000000 in
theorem exFactorCount_walk (a : Option Addr) (len cap : Nat) (L : List (List Int)) (a' : Option Addr) (len' cap' : Nat) (zs : List Int) (w : World) (hx : ListsAt w (.slice a len cap) L) (hy : IntsAt w (.slice a' len' cap') zs) (hn : zs.length = len') :
    Calls Try.prog 5 #[.slice a len cap, .slice a' len' cap'] w fun e w' => e = .returned (.bool true) ∧ Below w.heap.size w w' := by
  have HX := Lib.hid hx
  have HY := Lib.hid hy
  have HN := Lib.hid hn
  obtain ⟨b, hb⟩ := ValidCd.b L
  have HB := Lib.hid hb
  have hl' : len' ≤ 9223372036854775807 := by
    obtain ⟨_, _, e, x1, x2, _⟩ := hy
    injection e with _ e2 _
    omega
  obtain ⟨F, hF⟩ : ∃ F, fcOf L zs b = F := ⟨_, rfl⟩
  have HS : Hid (∀ wx v u, ListsAt wx v L → IntsAt wx u zs → Calls Try.prog 21 #[v, u] wx fun e w' => e = .returned (.int .i64 F) ∧ Below wx.heap.size wx w') := fun wx v u h1 h2 => by rw [← hF]; exact s_FactorCount wx v u L zs b h1 h2 hb
  have HI : Hid (∀ wx v u, ListsAt wx v L → IntsAt wx u zs → Calls Try.prog 23 #[v, u] wx fun e w' => e = .returned (.int .i64 F) ∧ Below wx.heap.size wx w') := fun wx v u h1 h2 => by rw [← hF]; exact i_FactorCount_any wx v u L zs b h1 h2 hb
  clear hb hx hy hn hF
  by_cases hbig : 1048576 < len'
  · go_enter Try.func5, Try.ntmps5
    go_wp2
    go_ret
    exact ⟨rfl, Below.refl _ _⟩
  have hlz : Hid (zs.length ≤ 1048576) := by show _ ≤ _; rw [HN.out]; omega
  go_enter Try.func5, Try.ntmps5
  go_wp2_with fail
  refine (szIntSS_any w _ L HX.out).mono ?_
  rintro e w1 ⟨l, rfl, hb1, hl⟩
  rcases hl with rfl | ⟨hl0, hl1, hsm⟩
  · go_wp2
    go_ret
    exact ⟨rfl, hb1⟩
  · have HS' := Lib.hid hsm
    have d1 : decide (l < 0) = false := decide_eq_false (by omega)
    clear hsm
    go_wp2_with fail
    refine (toIntSS_any w1 _ L (HX.out.below hb1) HS'.out).mono ?_
    rintro e w2 ⟨u2, rfl, ht2, hb2⟩
    have hB2 := below_next hb1 hb2
    go_wp2_with fail
    refine (toIntS_any w2 _ zs (HY.out.below hB2) hlz.out).mono ?_
    rintro e w3 ⟨_, rfl, hO3, hb3, g3, rfl⟩
    have hB3 := below_next hB2 hb3
    have ht3 := ht2.below hb3
    have hI3 := hO3.at
    clear ht2 hO3
    go_wp2_with fail
    refine (HS.out w3 _ _ ht3 hI3).mono ?_
    rintro e w4 ⟨rfl, hb4⟩
    have hB4 := below_next hB3 hb4
    clear ht3 hI3
    go_wp2_with fail
    refine (toIntSS_any w4 _ L (HX.out.below hB4) HS'.out).mono ?_
    rintro e w5 ⟨u5, rfl, ht5, hb5⟩
    have hB5 := below_next hB4 hb5
    go_wp2_with fail
    refine (toIntS_any w5 _ zs (HY.out.below hB5) hlz.out).mono ?_
    rintro e w6 ⟨_, rfl, hO6, hb6, g6, rfl⟩
    have hB6 := below_next hB5 hb6
    have ht6 := ht5.below hb6
    have hI6 := hO6.at
    clear ht5 hO6
    go_wp2_with fail
    refine (HI.out w6 _ _ ht6 hI6).mono ?_
    rintro e w7 ⟨rfl, hb7⟩
    have hB7 := below_next hB6 hb7
    have ht7 := ht6.below hb7
    have hI7 := hI6.below hb7
    clear ht6 hI6
    go_wp2_with fail
    refine (toIntSS_any w7 _ L (HX.out.below hB7) HS'.out).mono ?_
    rintro e w8 ⟨u8, rfl, ht8, hb8⟩
    have hB8 := below_next hB7 hb8
    have ht78 := ht7.below hb8
    have hI8 := hI7.below hb8
    clear ht7 hI7
    go_wp2_with fail
    refine (eqIntSS_same w8 _ _ L ht78 ht8).mono ?_
    rintro e w9 ⟨rfl, hb9⟩
    have hB9 := below_next hB8 hb9
    have hI9 := hI8.below hb9
    clear ht78 ht8 hI8
    go_wp2_with fail
    refine (toIntS_any w9 _ zs (HY.out.below hB9) hlz.out).mono ?_
    rintro e w10 ⟨_, rfl, hO10, hb10, g10, rfl⟩
    have hB10 := below_next hB9 hb10
    have hI10 := hI9.below hb10
    have hJ10 := hO10.at
    clear hI9 hO10
    go_wp2_with fail
    refine (eqIntS_sameL w10 _ _ zs hI10 hJ10).mono ?_
    rintro e w11 ⟨rfl, hb11⟩
    have FIN := keptH' (below_next hB10 hb11)
    clear hI10 hJ10 hb11
    go_wp2
    go_ret
    exact ⟨rfl, FIN.out⟩
end Go.Proofs.Ytimbphkbkhlclaa
