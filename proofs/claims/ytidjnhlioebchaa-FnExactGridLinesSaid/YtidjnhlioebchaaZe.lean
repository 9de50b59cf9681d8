
/- The exact law of ValidGrid. -/
import Derived.Test.YtidjnhlioebchaaZd
namespace Go.Proofs.Ytidjnhlioebchaa
open Go.RowKit

theorem s_ValidGrid_z (w : World) (v : Value) (G : List (List (List Int))) (hx : GridAt w v G) :
    Calls Try.prog 16 #[v] w fun e w' => AsksB (GridOk G) w e w' := by
  have HX := keptZ hx
  obtain ⟨a, n, cp, rfl, _⟩ := hx.partsZ
  clear hx
  go_enter Try.func16, Try.ntmps16
  go_wp2_with fail
  refine (s_validGrid_z w _ G HX.out).mono ?_
  rintro e w' ⟨b, rfl, hb, hh⟩
  go_wp2
  go_ret
  exact ⟨b, rfl, hb, hh⟩
set_option maxHeartbeats 1000000 in
theorem exValidGrid_walk (a : Option Addr) (len cap : Nat) (G : List (List (List Int))) (w : World) (hx : GridAt w (.slice a len cap) G) :
    Calls Try.prog 10 #[.slice a len cap] w fun e w' => e = .returned (.bool true) ∧ Below w.heap.size w w' := by
  have HX := keptZ hx
  clear hx
  go_enter Try.func10, Try.ntmps10
  go_wp2_with fail
  refine (szIntSSS_any w _ G HX.out).mono ?_
  rintro e w1 ⟨k, rfl, hb1, hk⟩
  rcases hk with rfl | ⟨hk0, hk1, hs⟩
  · go_wp2
    go_ret
    exact ⟨rfl, hb1⟩
  · have d1 : decide (k < 0) = false := decide_eq_false (by omega)
    have HS := keptZ hs
    have HX1 := keptZ (HX.out.below hb1)
    clear hs
    go_wp2_with fail
    refine (toIntSSS_any w1 _ G HX1.out HS.out).mono ?_
    rintro e w2 ⟨u2, rfl, hu2, hb2⟩
    have hB2 := below_next hb1 hb2
    have HU2 := keptZ hu2
    have HX2 := keptZ (HX1.out.below hb2)
    clear hu2 hb1 hb2 HX1
    go_wp2_with fail
    refine (s_ValidGrid_z w2 _ G HU2.out).mono ?_
    rintro e w3 ⟨b3, rfl, hb3, hh3⟩
    have hB3 := below_next hB2 hb3
    have HX3 := keptZ (HX2.out.below hb3)
    clear hB2 hb3 HX2 HU2
    go_wp2_with fail
    refine (toIntSSS_any w3 _ G HX3.out HS.out).mono ?_
    rintro e w4 ⟨u4, rfl, hu4, hb4⟩
    have hB4 := below_next hB3 hb4
    have HU4 := keptZ hu4
    have HX4 := keptZ (HX3.out.below hb4)
    clear hu4 hB3 hb4 HX3
    go_wp2_with fail
    refine (i_ValidGrid_z w4 _ G HU4.out).mono ?_
    rintro e w5 ⟨b5, rfl, rfl, hh5⟩
    obtain rfl : b5 = b3 := by
      have := hh5.trans hh3.symm
      cases b5 <;> cases b3 <;> simp at this ⊢
    clear hh3 hh5
    have hbb : (b5 != b5) = false := by cases b5 <;> rfl
    have hbe : (b5 == b5) = true := by cases b5 <;> rfl
    go_wp2_with fail
    refine (toIntSSS_any w4 _ G HX4.out HS.out).mono ?_
    rintro e w6 ⟨u6, rfl, hu6, hb6⟩
    have hB6 := below_next hB4 hb6
    have HU6 := keptZ hu6
    have HU46 := keptZ (HU4.out.below hb6)
    clear hu6 hB4 hb6 HX4
    go_wp2_with fail
    refine (eqIntSSS_same w6 _ _ G HU46.out HU6.out).mono ?_
    rintro e w7 ⟨rfl, hb7⟩
    have hB7 := below_next hB6 hb7
    go_wp2
    go_ret
    exact ⟨rfl, hB7⟩
end Go.Proofs.Ytidjnhlioebchaa
