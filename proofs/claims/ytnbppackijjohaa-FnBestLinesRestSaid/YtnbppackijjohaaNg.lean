
/- What the best lines are. -/
import Derived.Test.YtnbppackijjohaaNf
import Derived.Test.YtnbppackijjohaaLo
namespace Go.Proofs.Ytnbppackijjohaa
open Go.RowKit

theorem min_some (W : Int) (S : List (List Int)) (A : Nat → Int) : ∀ f, 1 ≤ f → ∃ m, IsMin W S A f m := by
  intro f
  induction f with
  | zero => intro h; omega
  | succ f ih =>
    intro _
    by_cases h0 : f = 0
    · subst h0
      exact ⟨_, ⟨1, by omega, by omega, rfl⟩, fun c h1 h2 => by rw [show c = 1 from by omega]; exact Int.le_refl _⟩
    · obtain ⟨m, ⟨d, d1, d2, d3⟩, hm⟩ := ih (by omega)
      by_cases h : stepC W S A (f + 1) < m
      · refine ⟨stepC W S A (f + 1), ⟨f + 1, by omega, by omega, rfl⟩, fun c h1 h2 => ?_⟩
        by_cases e : c = f + 1
        · subst e; exact Int.le_refl _
        · have := hm c h1 (by omega); omega
      · refine ⟨m, ⟨d, d1, by omega, d3⟩, fun c h1 h2 => ?_⟩
        by_cases e : c = f + 1
        · subst e; omega
        · exact hm c h1 (by omega)
theorem costs_some (W : Int) (L : List (List Int)) : ∀ j, j ≤ L.length → ∃ A, CostsUp W L A (L.length - j) := by
  intro j
  induction j with
  | zero => intro _; exact ⟨fun _ => 0, CostsUp.none _ _ _⟩
  | succ j ih =>
    intro hj
    obtain ⟨A, hA⟩ := ih (by omega)
    obtain ⟨i, hi⟩ : ∃ i, L.length - (j + 1) = i := ⟨_, rfl⟩
    rw [show L.length - j = i + 1 from by omega] at hA
    rw [hi]
    have hl : (L.drop i).length = j + 1 := by rw [List.length_drop]; omega
    obtain ⟨f, hf⟩ := full_any (W := W) (S := L.drop i) _ 1 rfl (Nat.le_refl _) (by omega) (Fit.one _ _)
    obtain ⟨m, hm⟩ := min_some W (L.drop i) A f hf.1
    refine ⟨fun x => if x = j + 1 then m else A x, (hA.congr fun x hx => ?_).down hf ?_⟩
    · have : x ≠ j + 1 := by omega
      simp [this]
    · have e : L.length - i = j + 1 := by omega
      rw [e]
      simp only [if_true]
      refine hm.congr hf.2.1 fun x hx => ?_
      have : x ≠ j + 1 := by omega
      simp [this]
theorem CostsUp.drop {W : Int} {L : List (List Int)} {A : Nat → Int} (h : CostsUp W L A 0) (c : Nat) : CostsUp W (L.drop c) A 0 := fun k _ hk => by
  rw [List.length_drop] at hk
  obtain ⟨f, h1, h2⟩ := h (c + k) (Nat.zero_le _) (by omega)
  rw [List.drop_drop, List.length_drop, show L.length - c - k = L.length - (c + k) from by omega]
  exact ⟨f, h1, h2⟩
theorem CostsUp.first {W : Int} {S : List (List Int)} {A : Nat → Int} (h : CostsUp W S A 0) (h0 : 0 < S.length) : ∃ f, Full W S f ∧ IsMin W S A f (A S.length) := by
  have := h 0 (Nat.le_refl _) h0
  rwa [List.drop_zero, Nat.sub_zero] at this
theorem endSt_some (W : Int) (S : List (List Int)) (A : Nat → Int) (m : Int) : ∀ c, 1 ≤ c → ∃ d, EndSt W S A m c d := by
  intro c
  induction c with
  | zero => intro h; omega
  | succ c ih =>
    intro _
    by_cases h0 : c = 0
    · subst h0; exact ⟨1, EndSt.one _ _ _ _⟩
    · obtain ⟨d, hd⟩ := ih (by omega)
      by_cases e : stepC W S A c = m
      · exact ⟨c, EndSt.hit (by omega) e⟩
      · exact ⟨d, hd.miss e⟩
theorem best_some {W : Int} {A : Nat → Int} : ∀ n (S : List (List Int)), S.length = n → CostsUp W S A 0 → ∃ R, BestFrom W A S R := by
  intro n
  induction n using Nat.strongRecOn with
  | _ n ih =>
    intro S hS hC
    cases S with
    | nil => exact ⟨[], .done⟩
    | cons x r =>
      obtain ⟨f, hf, hm⟩ := hC.first (by simp)
      obtain ⟨d, hd⟩ := endSt_some W (x :: r) A (A (x :: r).length) (f + 1) (by omega)
      have hp := hd.pick hf hm rfl
      obtain ⟨R, hR⟩ := ih ((x :: r).drop d).length (by rw [List.length_drop]; have := hp.pos; omega) _ rfl (hC.drop d)
      exact ⟨_, .step hp hR⟩
theorem bestRes_some (L : List (List Int)) (W : Int) (b : Bool) : ∃ R, BestRes L W b R := by
  cases b with
  | false => exact ⟨[], rfl⟩
  | true =>
    obtain ⟨A, hA⟩ := costs_some W L L.length (Nat.le_refl _)
    rw [Nat.sub_self] at hA
    obtain ⟨R, hR⟩ := best_some _ L rfl hA
    exact ⟨R, A, hA, hR⟩
theorem chunk_good {W : Int} {S : List (List Int)} {f c : Nat} (hf : Fit W S f) (hS : ∀ x ∈ S, ItemW W x) (h1 : 1 ≤ c) (h2 : c ≤ f) (h3 : c ≤ S.length) : GoodLine W (pack (S.take c)) := by
  have hne : S.take c ≠ [] := by
    intro e
    have := congrArg List.length e
    rw [List.length_take, List.length_nil] at this
    omega
  have h := pack_ends (M := S.take c) (fun x hx => by have := hS x (List.mem_of_mem_take hx); exact ⟨this.1, this.2.2.1.2, this.2.2.2⟩) hne
  exact ⟨h.1, fit_len hf (fun x hx => (hS x hx).2.1) h1 h2 h3, h.2.1, h.2.2.1, h.2.2.2⟩
theorem best_good {W : Int} {A : Nat → Int} {S R : List (List Int)} (h : BestFrom W A S R) : (∀ x ∈ S, ItemW W x) → ∀ r ∈ R, GoodLine W r := by
  induction h with
  | done => intro _ r hr; simp at hr
  | @step S c R hp _ ih =>
    intro hS r hr
    rcases List.mem_cons.1 hr with rfl | hr
    · obtain ⟨f, h1, h2, h3, _⟩ := hp
      exact chunk_good h1.2.2.1 hS h2 h3 (Nat.le_trans h3 h1.2.1)
    · exact ih (fun x hx => hS x (List.mem_of_mem_drop hx)) r hr
theorem best_words {W : Int} {A : Nat → Int} {S R : List (List Int)} (h : BestFrom W A S R) : Words S → wolAll R = S := by
  induction h with
  | done => intro _; rfl
  | @step S c R hf _ ih =>
    intro hw
    have e1 := ih (hw.drop c)
    unfold wolAll at e1 ⊢
    rw [List.flatMap_cons, e1, wol_pack (hw.take c), List.take_append_drop]
theorem best_small {L R : List (List Int)} {W : Int} {b : Bool} (h : BestRes L W b R) (hb : b = true ↔ FillOk L W) : R.length ≤ 30 ∧ ∀ r ∈ R, r.length ≤ 40 := by
  cases b with
  | false =>
    have : R = [] := h
    subst this
    exact ⟨by simp, fun r hr => by simp at hr⟩
  | true =>
    obtain ⟨A, _, hF⟩ := h
    have hO := hb.1 rfl
    have h1 := hF.le
    have h2 := hO.1
    refine ⟨by omega, fun r hr => ?_⟩
    have h3 := (best_good hF hO.2.2.all r hr).2.1
    have h4 := hO.2.1.2
    omega
/-- the best lines cost the least -/
theorem best_cost {W : Int} {A : Nat → Int} {S R : List (List Int)} (h : BestFrom W A S R) : 0 < S.length → costL W R = A S.length := by
  induction h with
  | done => intro h0; simp at h0
  | @step S c R hp hr ih =>
    intro _
    obtain ⟨f, h1, h2, h3, h4, _⟩ := hp
    rw [← h4]
    unfold stepC
    by_cases hc : c = S.length
    · rw [if_pos hc]
      have hz : S.drop c = [] := List.length_eq_zero_iff.1 (by rw [List.length_drop]; omega)
      rw [hz] at hr
      cases hr with
      | done => rfl
      | step hp' _ => have := hp'.pos; simp at this; omega
    · rw [if_neg hc]
      have hl : (S.drop c).length = S.length - c := List.length_drop ..
      have hcl : c ≤ S.length := Nat.le_trans h3 h1.2.1
      have h5 := ih (by omega)
      rw [hl] at h5
      cases hR : R with
      | nil =>
        subst hR
        have hz : S.drop c = [] := by
          generalize S.drop c = T at hr
          cases hr; rfl
        rw [hz, List.length_nil] at hl
        omega
      | cons y r =>
        rw [← h5, hR]
        rfl
theorem fill_cost {W : Int} {A : Nat → Int} {S R : List (List Int)} (h : FillFrom W S R) : CostsUp W S A 0 → 0 < S.length → A S.length ≤ costL W R := by
  induction h with
  | done => intro _ h0; simp at h0
  | @step S c R hf hr ih =>
    intro hC h0
    obtain ⟨f, g1, g2⟩ := hC.first h0
    obtain rfl := hf.same g1
    have h4 := g2.2 c hf.1 (Nat.le_refl _)
    refine Int.le_trans h4 ?_
    unfold stepC
    by_cases hc : c = S.length
    · rw [if_pos hc]
      have hz : S.drop c = [] := List.length_eq_zero_iff.1 (by rw [List.length_drop]; omega)
      rw [hz] at hr
      cases hr with
      | done => exact Int.le_refl _
      | step hp' _ => have := hp'.1; have := hp'.2.1; simp at this; omega
    · rw [if_neg hc]
      have hl : (S.drop c).length = S.length - c := List.length_drop ..
      have hcl := hf.2.1
      have h5 := ih (hC.drop c) (by omega)
      rw [hl] at h5
      cases hR : R with
      | nil =>
        subst hR
        have hz : S.drop c = [] := by
          generalize S.drop c = T at hr
          cases hr; rfl
        rw [hz, List.length_nil] at hl
        omega
      | cons y r =>
        rw [hR] at h5
        show _ ≤ sqFree W (pack (S.take c)) + costL W (y :: r)
        omega
theorem costs_pos {W : Int} {L : List (List Int)} {A : Nat → Int} (hL : ∀ x ∈ L, ItemW W x) (hW : W ≤ 40) (h : CostsUp W L A 0) : ∀ m, 1 ≤ m → m ≤ L.length → 0 ≤ A m := by
  intro m
  induction m using Nat.strongRecOn with
  | _ m ih =>
    intro h1 h2
    obtain ⟨f, f1, ⟨c, c1, c2, c3⟩, _⟩ := h (L.length - m) (Nat.zero_le _) (by omega)
    rw [show L.length - (L.length - m) = m from by omega] at c3
    have hl : (L.drop (L.length - m)).length = m := by rw [List.length_drop]; omega
    have hcl := f1.2.1
    rw [← c3]
    unfold stepC
    split
    · exact Int.le_refl _
    · next hne =>
      have h3 := fit_len f1.2.2.1 (fun x hx => (hL x (List.mem_of_mem_drop hx)).2.1) c1 c2 (by omega)
      have h4 := (sqFree_le h3 hW).1
      have h5 := ih (m - c) (by omega) (by omega) (by omega)
      rw [hl] at hne ⊢
      omega
/-- all words are on one line, if there is room -/
theorem best_one {W : Int} {A : Nat → Int} {S R : List (List Int)} (h : BestFrom W A S R) (hC : CostsUp W S A 0) (hS : ∀ x ∈ S, ItemW W x) (hW : W ≤ 40) (h0 : 0 < S.length) (hF : Full W S S.length) : R = [pack S] := by
  obtain ⟨f, g1, g2⟩ := hC.first h0
  obtain rfl := hF.same g1
  have h1 := g2.2 S.length (by omega) (Nat.le_refl _)
  have h2 := costs_pos hS hW hC S.length (by omega) (Nat.le_refl _)
  have h3 : stepC W S A S.length = 0 := if_pos rfl
  have hpk : PickAt W S A S.length := ⟨_, hF, by omega, Nat.le_refl _, by omega, fun d d1 d2 => absurd d1 (by omega)⟩
  have hb : BestFrom W A S [pack S] := by
    have h5 : BestFrom W A (S.drop S.length) [] := by rw [List.drop_length]; exact .done
    have h6 := BestFrom.step hpk h5
    rwa [List.take_length] at h6
  exact h.same (fun _ _ _ => rfl) hb
end Go.Proofs.Ytnbppackijjohaa
