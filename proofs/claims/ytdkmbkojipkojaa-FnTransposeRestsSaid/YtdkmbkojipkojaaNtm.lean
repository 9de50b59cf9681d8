
/- The laws of Transpose on drawn notes. -/
import Derived.Test.YtdkmbkojipkojaaNtl
namespace Go.Proofs.Ytdkmbkojipkojaa
open Go.RowKit

theorem trL_at {P : List PNote} {b : Int} {k i : Nat} (h : i < k) (hk : k ≤ P.length) : (trL P b k).getD i noN = trN b (P.getD i noN) := by
  unfold trL
  have hi : i < (List.map (trN b) (List.take k P)).length := by simp; omega
  rw [List.getD_eq_getElem?_getD, List.getElem?_eq_getElem hi, List.getD_eq_getElem?_getD, List.getElem?_eq_getElem (by omega)]
  simp
theorem trL_length (P : List PNote) (b : Int) : (trL P b P.length).length = P.length := by unfold trL; simp
/-- what went up comes down -/
theorem TransIs.back {P : List PNote} {b : Int} {L : List PNote} {ok : Bool} (h : TransIs P b L ok) (e : ok = true) : TransIs L (-b) P true := by
  rcases h with ⟨_, ⟨h1, h2, h3⟩, rfl⟩ | ⟨a, _⟩
  · left
    have hone : ∀ i, i < P.length → NtOk (trN b (P.getD i noN)) ∧ TrOne (-b) (trN b (P.getD i noN)) ∧ trN (-b) (trN b (P.getD i noN)) = P.getD i noN := by
      intro i hi
      obtain ⟨a1, a2, a3, a4⟩ := h1.2 i hi
      rcases h3 i hi with h4 | ⟨h4, h5⟩
      · rw [trN, if_pos h4]
        exact ⟨⟨a1, a2, a3, a4⟩, .inl h4, by rw [trN, if_pos h4]⟩
      · by_cases h6 : (P.getD i noN).p = -1
        · rw [trN, if_pos h6]
          exact ⟨⟨a1, a2, a3, a4⟩, .inl h6, by rw [trN, if_pos h6]⟩
        · rw [trN, if_neg h6]
          refine ⟨⟨by simp only; omega, by simp only; omega, a3, a4⟩, .inr ⟨by simp only; omega, by simp only; omega⟩, ?_⟩
          rw [trN, if_neg (by simp only; omega)]
          simp only
          rw [show (P.getD i noN).p + b + -b = (P.getD i noN).p from by omega]
    have hlen := trL_length P b
    refine ⟨rfl, ⟨⟨by rw [hlen]; exact h1.1, fun i hi => ?_⟩, by omega, fun i hi => ?_⟩, ?_⟩
    · rw [hlen] at hi; rw [trL_at hi (Nat.le_refl _)]; exact (hone i hi).1
    · rw [hlen] at hi; rw [trL_at hi (Nat.le_refl _)]; exact (hone i hi).2.1
    · apply List.ext_getElem (by rw [trL_length, hlen])
      intro i i1 i2
      have := trL_at (P := trL P b P.length) (b := -b) (k := (trL P b P.length).length) (i := i) (by rw [hlen]; exact i1) (Nat.le_refl _)
      rw [trL_at i1 (Nat.le_refl _), (hone i i1).2.2] at this
      rw [List.getD_eq_getElem?_getD, List.getElem?_eq_getElem i2, List.getD_eq_getElem?_getD, List.getElem?_eq_getElem i1] at this
      simpa using this.symm
  · rw [e] at a; simp at a
set_option maxHeartbeats 2000000 in
theorem transpose_walk (a : Option Addr) (len cap : Nat) (zs : List Int) (w : World) (h : RowIn .u8 w a len cap zs) :
    Calls Try.prog 6 #[.slice a len cap] w fun e w' => e = .returned (.bool true) ∧ Below w.heap.size w w' := by
  have hlen : len ≤ 9223372036854775807 := by
    obtain ⟨_, h2, h3⟩ := bytesAt_of_row h; unfold maxLen at h3; omega
  by_cases hbig : len ≤ 1048576
  · go_enter Try.func6, Try.ntmps6
    go_wp2_with fail
    refine (drawTranspose_any w a len cap zs h).mono ?_
    rintro e w1 ⟨a1, n1, c1, P, s, rfl, hx, hl, hs, hb1⟩
    clear h
    obtain ⟨L, ok, hr⟩ := transIs_ex P s
    have HR := keptN hr
    have HX := keptN hx
    clear hx
    go_wp2_with fail
    refine (i_Transpose w1 _ P s L ok HX.out HR).mono ?_
    rintro e w2 ⟨a2, n2, c2, rfl, hO2, hb2⟩
    have hB2 := below_next hb1 hb2
    have hI2 := hO2.at
    go_wp2_with fail
    refine (s_Transpose w2 _ P s L ok (HX.out.below hb2) HR).mono ?_
    rintro e w3 ⟨a3, n3, c3, rfl, hO3, hb3⟩
    have hB3 := below_next hB2 hb3
    have hI23 := hI2.below hb3
    have hI3 := hO3.at
    have HX3 := keptN ((HX.out.below hb2).below hb3)
    clear hO2 hO3 hb2 hb3 hI2 hB2 hb1 HX
    go_wp2_with fail
    refine (equalNotes_same w3 _ _ L hI23 hI3).mono ?_
    rintro e w4 ⟨rfl, hb4⟩
    have hB4 := below_next hB3 hb4
    have hI24 := hI23.below hb4
    have hI34 := hI3.below hb4
    have HX4 := keptN (HX3.out.below hb4)
    clear hB3 hb4 hI23 hI3 HX3
    cases ok with
    | true =>
      have HB := keptN (hr.back rfl)
      clear hr
      have us : IntKind.i64.wrap (-s) = -s := IntWalk.i64_in _ (by omega)
      go_wp2_with fail
      refine (i_Transpose w4 _ L (-s) P true hI24 HB).mono ?_
      rintro e w5 ⟨a5, n5, c5, rfl, hO5, hb5⟩
      have hB5 := below_next hB4 hb5
      have hI5 := hO5.at
      have HX5 := keptN (HX4.out.below hb5)
      clear hO5 hB4 hb5 HX4 hI24 hI34
      go_wp2_with fail
      refine (equalNotes_same w5 _ _ P hI5 HX5.out).mono ?_
      rintro e w6 ⟨rfl, hb6⟩
      have hB6 := below_next hB5 hb6
      go_wp2
      go_ret
      exact ⟨rfl, hB6⟩
    | false =>
      clear hr
      go_wp2_with fail
      refine (equalNotes_same w4 _ _ L hI24 hI34).mono ?_
      rintro e w6 ⟨rfl, hb6⟩
      have hB6 := below_next hB4 hb6
      go_wp2
      go_ret
      exact ⟨rfl, hB6⟩
  · go_enter Try.func6, Try.ntmps6
    go_wp2
    go_ret
    exact ⟨rfl, Below.refl _ _⟩
end Go.Proofs.Ytdkmbkojipkojaa
