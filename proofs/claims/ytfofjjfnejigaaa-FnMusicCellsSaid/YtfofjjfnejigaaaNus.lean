
/- The law that music is read back. -/
import Derived.Test.YtfofjjfnejigaaaNup
import Derived.Test.YtfofjjfnejigaaaNuf
namespace Go.Proofs.Ytfofjjfnejigaaa
open Go.RowKit

set_option maxHeartbeats 2000000 in
theorem musicCells_walk (a : Option Addr) (len cap : Nat) (zs : List Int) (w : World) (h : RowIn .u8 w a len cap zs) :
    Calls Try.prog 3 #[.slice a len cap] w fun e w' => e = .returned (.bool true) ∧ Below w.heap.size w w' := by
  have hlen : len ≤ 9223372036854775807 := by
    obtain ⟨_, h2, h3⟩ := bytesAt_of_row h; unfold maxLen at h3; omega
  by_cases hbig : len ≤ 1048576
  · go_enter Try.func3, Try.ntmps3
    go_wp2_with fail
    refine (drawMusicCells_any w a len cap zs h).mono ?_
    rintro e w1 ⟨a1, n1, c1, P, rfl, hx, hl, hb1⟩
    clear h
    obtain ⟨L, hr⟩ := musIs_ex P
    have HR := keptN hr
    have HX := keptN hx
    clear hx
    go_wp2_with fail
    refine (i_MusicCells w1 _ P L HX.out HR).mono ?_
    rintro e w2 ⟨a2, n2, c2, rfl, hO2, hb2⟩
    have hB2 := below_next hb1 hb2
    have HI2 := keptN hO2.at
    have HX2 := keptN (HX.out.below hb2)
    clear hO2 hb1 hb2 HX
    go_wp2_with fail
    refine (s_MusicCells w2 _ P L HX2.out HR).mono ?_
    rintro e w3 ⟨a3, n3, c3, rfl, hO3, hb3⟩
    have hB3 := below_next hB2 hb3
    have HI3 := keptN hO3.at
    have HI23 := keptN (HI2.out.below hb3)
    have HX3 := keptN (HX2.out.below hb3)
    clear hO3 hb3 hB2 HI2 HX2
    go_wp2_with fail
    refine (equalInts_u w3 _ _ L HI23.out HI3.out).mono ?_
    rintro e w4 ⟨rfl, hb4⟩
    have hB4 := below_next hB3 hb4
    have HI4 := keptN (HI23.out.below hb4)
    have HX4 := keptN (HX3.out.below hb4)
    have hn2 := HI4.out.lenU
    have HN2 := Lib.hid hn2
    clear hB3 hb4 HI23 HX3 HI3
    by_cases h0 : n2 = 0
    · subst h0
      clear hn2
      go_wp2_with fail
      refine (s_MusicCells w4 _ P L HX4.out HR).mono ?_
      rintro e w5 ⟨a5, n5, c5, rfl, hO5, hb5⟩
      have hB5 := below_next hB4 hb5
      have HI5 := keptN hO5.at
      have HI45 := keptN (HI4.out.below hb5)
      clear hO5 hb5 hB4
      go_wp2_with fail
      refine (equalInts_u w5 _ _ L HI45.out HI5.out).mono ?_
      rintro e w6 ⟨rfl, hb6⟩
      have hB6 := below_next hB5 hb6
      go_wp2
      go_ret
      exact ⟨rfl, hB6⟩
    · have d0 : ((n2 : Int) == 0) = false := by simp; omega
      obtain ⟨hP, hL⟩ : NtsOk P ∧ L = musTo P P.length := by
        rcases hr with ⟨h, k⟩ | ⟨_, h⟩
        · exact ⟨h, k⟩
        · rw [h] at hn2; simp at hn2; omega
      have HRM : Hid (RmIs L P true) := .inl ⟨rfl, hP, hL.symm⟩
      have hn1 := HX4.out.len
      have hml := musTo_len P P.length
      rw [← hL, hn2, hn1] at hml
      have hP40 : n1 ≤ 40 := by rw [← hn1]; exact hP.1
      have d1 : decide ((n1 : Int) ≤ (n2 : Int)) = true := decide_eq_true (by omega)
      have d1n : decide (n1 ≤ n2) = true := decide_eq_true (by omega)
      have d2 : decide ((n2 : Int) ≤ 2 * (n1 : Int)) = true := decide_eq_true (by omega)
      have um : IntKind.i64.wrap (2 * (n1 : Int)) = 2 * (n1 : Int) := IntWalk.i64_in _ (by omega)
      clear hr hP hL hn1 hn2
      go_wp2_with fail
      refine (i_ReadMusic w4 _ L P true HI4.out HRM).mono ?_
      rintro e w5 ⟨a5, n5, c5, rfl, hO5, hb5⟩
      have hB5 := below_next hB4 hb5
      have HO5 := keptN hO5.at
      have HX5 := keptN (HX4.out.below hb5)
      clear hO5 hb5 hB4
      go_wp2_with fail
      refine (equalNotes_same w5 _ _ P HO5.out HX5.out).mono ?_
      rintro e w6 ⟨rfl, hb6⟩
      have hB6 := below_next hB5 hb6
      go_wp2
      go_ret
      exact ⟨rfl, hB6⟩
  · go_enter Try.func3, Try.ntmps3
    go_wp2
    go_ret
    exact ⟨rfl, Below.refl _ _⟩
end Go.Proofs.Ytfofjjfnejigaaa
