
/- Full lines are few. -/
import Derived.Test.YtnbppackijjohaaNg
namespace Go.Proofs.Ytnbppackijjohaa
open Go.RowKit

theorem fill_any (W : Int) : ∀ n (S : List (List Int)), S.length = n → ∃ R, FillFrom W S R := by
  intro n
  induction n using Nat.strongRecOn with
  | _ n ih =>
    intro S hS
    cases S with
    | nil => exact ⟨[], .done⟩
    | cons x r =>
      obtain ⟨c, hc⟩ := full_any (W := W) (S := x :: r) _ 1 rfl (Nat.le_refl _) (by simp) (Fit.one _ _)
      have h1 := hc.1
      obtain ⟨R, hR⟩ := ih ((x :: r).drop c).length (by rw [List.length_drop]; have := hc.2.1; omega) _ rfl
      exact ⟨_, .step hc hR⟩
theorem fill_nil {W : Int} {S R : List (List Int)} (h : FillFrom W S R) (h0 : S.length = 0) : R = [] := by
  obtain rfl := List.length_eq_zero_iff.1 h0
  cases h with
  | done => rfl
  | step hf _ => have h1 := hf.1; have h2 := hf.2.1; simp at h2; omega
theorem fill_cut {W : Int} {S R : List (List Int)} (h : FillFrom W S R) (h0 : 0 < S.length) : ∃ c R', Full W S c ∧ FillFrom W (S.drop c) R' ∧ R = pack (S.take c) :: R' := by
  cases h with
  | done => simp at h0
  | step hf hr => exact ⟨_, _, hf, hr, rfl⟩
theorem pack_mono (S : List (List Int)) {a b : Nat} (h : a ≤ b) (hb : b ≤ S.length) : (pack (S.take a)).length ≤ (pack (S.take b)).length := by
  obtain ⟨d, rfl⟩ : ∃ d, b = a + d := ⟨b - a, by omega⟩
  clear h
  induction d with
  | zero => exact Nat.le_refl _
  | succ d ih =>
    have h1 := ih (by omega)
    by_cases e : a + d = 0
    · have : a = 0 := by omega
      subst this
      simp [pack]
    · rw [show a + (d + 1) = a + d + 1 from by omega, pack_more (by omega) (by omega), List.length_append]; omega
theorem pack_drop (S : List (List Int)) {j d : Nat} (hb : j + d ≤ S.length) : (pack ((S.drop j).take d)).length ≤ (pack (S.take (j + d))).length := by
  induction d with
  | zero => simp [pack]
  | succ d ih =>
    have h1 := ih (by omega)
    have hl : d < (S.drop j).length := by rw [List.length_drop]; omega
    have hg : (S.drop j).getD d [] = S.getD (j + d) [] := by rw [List.getD_eq_getElem?_getD, List.getElem?_drop, ← List.getD_eq_getElem?_getD]
    by_cases e : d = 0
    · subst e
      rw [pack_one (by omega), hg]
      by_cases ej : j = 0
      · subst ej; rw [pack_one (by omega)]; exact Nat.le_refl _
      · rw [Nat.add_zero, pack_more (by omega) (by omega), List.length_append, List.length_cons]; omega
    · rw [pack_more hl (by omega), hg, List.length_append, List.length_cons, show j + (d + 1) = j + d + 1 from by omega, pack_more (by omega) (by omega), List.length_append, List.length_cons]
      omega
/-- what words of the first line are left out does not make more lines -/
theorem fill_mono (W : Int) : ∀ n (S : List (List Int)), S.length = n → ∀ R, FillFrom W S R → ∀ j R', FillFrom W (S.drop j) R' → R'.length ≤ R.length := by
  intro n
  induction n using Nat.strongRecOn with
  | _ n ih =>
    intro S hS R hR j R' hR'
    by_cases h0 : S.length = 0
    · have : (S.drop j).length = 0 := by rw [List.length_drop]; omega
      rw [fill_nil hR' this]; simp
    · obtain ⟨c, R1, hc, hR1, rfl⟩ := fill_cut hR (by omega)
      have hcl := hc.2.1
      have hc1 := hc.1
      have hd : (S.drop c).length < n := by rw [List.length_drop]; omega
      by_cases hj : c ≤ j
      · have e : S.drop j = (S.drop c).drop (j - c) := by rw [List.drop_drop, show c + (j - c) = j from by omega]
        rw [e] at hR'
        have := ih _ hd (S.drop c) rfl R1 hR1 (j - c) R' hR'
        simp only [List.length_cons]; omega
      · by_cases hT : (S.drop j).length = 0
        · rw [fill_nil hR' hT]; simp
        · obtain ⟨c', R2, hc', hR2, rfl⟩ := fill_cut hR' (by omega)
          have hcl' := hc'.2.1
          have hc1' := hc'.1
          rw [List.length_drop] at hcl'
          have hge : c ≤ j + c' := by
            rcases hc'.2.2.2 with h6 | h6
            · rw [List.length_drop] at h6; omega
            · by_cases hlt : c ≤ j + c'
              · exact hlt
              · have h7 := pack_drop S (j := j) (d := c' + 1) (by omega)
                have h8 := pack_mono S (a := j + (c' + 1)) (b := c) (by omega) hcl
                have h9 := hc.2.2.1 c (by omega) (Nat.le_refl _)
                omega
          have e : (S.drop j).drop c' = (S.drop c).drop (j + c' - c) := by rw [List.drop_drop, List.drop_drop, show c + (j + c' - c) = j + c' from by omega]
          rw [e] at hR2
          have := ih _ hd (S.drop c) rfl R1 hR1 (j + c' - c) R2 hR2
          simp only [List.length_cons]; omega
theorem fill_chunk {W : Int} {S R R' : List (List Int)} {c f : Nat} (h : FillFrom W S R) (hf : Full W S f) (hc : c ≤ f) (h0 : 0 < S.length) (k : FillFrom W (S.drop c) R') : R.length ≤ 1 + R'.length := by
  obtain ⟨f', R1, hf', hR1, rfl⟩ := fill_cut h h0
  obtain rfl := hf.same hf'
  have e : S.drop f = (S.drop c).drop (f - c) := by rw [List.drop_drop, show c + (f - c) = f from by omega]
  rw [e] at hR1
  have := fill_mono W _ (S.drop c) rfl R' k (f - c) R1 hR1
  simp only [List.length_cons]; omega
theorem fill_few {W : Int} {A : Nat → Int} {S Rb : List (List Int)} (h : BestFrom W A S Rb) : ∀ R, FillFrom W S R → R.length ≤ Rb.length := by
  induction h with
  | done => intro R k; rw [fill_nil k rfl]; simp
  | @step S c Rb hp _ ih =>
    intro R k
    obtain ⟨f, h1, h2, h3, _⟩ := hp
    obtain ⟨R', hR'⟩ := fill_any W _ (S.drop c) rfl
    have h4 := ih R' hR'
    have h5 := fill_chunk k h1 h3 (by have := h1.2.1; omega) hR'
    simp only [List.length_cons]; omega
theorem fill_wide {W : Int} {S R1 : List (List Int)} (h : FillFrom W S R1) : ∀ R2, FillFrom (W + 1) S R2 → R2.length ≤ R1.length := by
  induction h with
  | done => intro R k; rw [fill_nil k rfl]; simp
  | @step S c R hf _ ih =>
    intro R2 k
    have h1 := hf.1
    have h2 := hf.2.1
    obtain ⟨f, R3, g1, g2, rfl⟩ := fill_cut k (by omega)
    have hcf : c ≤ f := by
      rcases g1.2.2.2 with h6 | h6
      · omega
      · by_cases hlt : c ≤ f
        · exact hlt
        · have h8 := pack_mono S (a := f + 1) (b := c) (by omega) h2
          have h9 := hf.2.2.1 c (by have := g1.1; omega) (Nat.le_refl _)
          omega
    obtain ⟨R', hR'⟩ := fill_any (W + 1) _ (S.drop c) rfl
    have h4 := ih R' hR'
    have h5 := fill_chunk k g1 hcf (by omega) hR'
    simp only [List.length_cons] at h5 ⊢; omega
theorem fill_one {W : Int} {S R : List (List Int)} (h : FillFrom W S R) (h0 : 0 < S.length) (hp : ((pack S).length : Int) ≤ W) : Full W S S.length ∧ R = [pack S] := by
  have hF : Full W S S.length := ⟨by omega, Nat.le_refl _, fun j j1 j2 => by
    have h1 := pack_mono S (a := j) (b := S.length) j2 (Nat.le_refl _)
    rw [List.take_length] at h1
    omega, .inl rfl⟩
  have h5 : FillFrom W (S.drop S.length) [] := by rw [List.drop_length]; exact .done
  have h6 := FillFrom.step hF h5
  rw [List.take_length] at h6
  exact ⟨hF, h.same h6⟩
theorem fill_two {W : Int} {S R : List (List Int)} (h : FillFrom W S R) (hS : ∀ x ∈ S, ItemW W x) (h0 : 0 < S.length) (hp : W < ((pack S).length : Int)) : 1 < R.length := by
  obtain ⟨c, R', hc, hR', rfl⟩ := fill_cut h h0
  by_cases e : c = S.length
  · have h1 := fit_len hc.2.2.1 (fun x hx => (hS x hx).2.1) hc.1 (Nat.le_refl _) hc.2.1
    rw [e, List.take_length] at h1
    omega
  · have hl : 0 < (S.drop c).length := by rw [List.length_drop]; have := hc.2.1; omega
    obtain ⟨_, R2, _, _, rfl⟩ := fill_cut hR' hl
    simp
end Go.Proofs.Ytnbppackijjohaa
