
/- A valid code is unique exactly if no cells are code words in two ways. -/
import Derived.Test.YtdjgodemeaneeaaKj
namespace Go.Proofs.Ytdjgodemeaneeaa
open Go.RowKit

/-- two different rows of code words with the same cells -/
def Amb (L : List (List Int)) : Prop := ∃ us vs : List (List Int), (∀ u ∈ us, u ∈ L) ∧ (∀ v ∈ vs, v ∈ L) ∧ us ≠ vs ∧ us.flatten = vs.flatten
theorem mem_getD {L : List (List Int)} {u : List Int} (h : u ∈ L) : ∃ k, k < L.length ∧ L.getD k [] = u := by
  obtain ⟨i, hi, rfl⟩ := List.getElem_of_mem h
  exact ⟨i, hi, by rw [List.getD_eq_getElem?_getD, List.getElem?_eq_getElem hi, Option.getD_some]⟩
theorem rd_flat {L : List (List Int)} : ∀ us : List (List Int), (∀ u ∈ us, u ∈ L) → Rd L us.flatten := by
  intro us
  induction us with
  | nil => exact fun _ => .nil
  | cons u us ih =>
    intro h
    obtain ⟨k, hk, e⟩ := mem_getD (h u (List.mem_cons_self ..))
    rw [List.flatten_cons, ← e]
    exact .word hk (ih fun x hx => h x (List.mem_cons_of_mem _ hx))
theorem word_ne {L : List (List Int)} (hv : ValidCd L) {u : List Int} (h : u ∈ L) : 1 ≤ u.length := by
  obtain ⟨k, hk, rfl⟩ := mem_getD h
  exact (hv.2.1 k hk).1.1
theorem flat_nil {L : List (List Int)} (hv : ValidCd L) {us : List (List Int)} (h : ∀ u ∈ us, u ∈ L) (e : us.flatten = []) : us = [] := by
  cases us with
  | nil => rfl
  | cons u us =>
    have := word_ne hv (h u (List.mem_cons_self ..))
    have h2 := congrArg List.length e
    rw [List.flatten_cons, List.length_append, List.length_nil] at h2
    omega
theorem not_amb {L : List (List Int)} (hv : ValidCd L) (hu : Uniq L) : ∀ us vs : List (List Int), (∀ u ∈ us, u ∈ L) → (∀ v ∈ vs, v ∈ L) → us.flatten = vs.flatten → us = vs := by
  intro us
  induction us with
  | nil => exact fun vs _ h2 e => (flat_nil hv h2 e.symm).symm
  | cons u us ih =>
    intro vs h1 h2 e
    cases vs with
    | nil => exact flat_nil hv h1 e
    | cons v vs =>
      obtain ⟨i, hi, ei⟩ := mem_getD (h1 u (List.mem_cons_self ..))
      obtain ⟨j, hj, ej⟩ := mem_getD (h2 v (List.mem_cons_self ..))
      have h3 : ∀ x ∈ us, x ∈ L := fun x hx => h1 x (List.mem_cons_of_mem _ hx)
      have h4 : ∀ x ∈ vs, x ∈ L := fun x hx => h2 x (List.mem_cons_of_mem _ hx)
      rw [List.flatten_cons, List.flatten_cons] at e
      have hij : i = j := uniq_hit hv hu (zs := u ++ us.flatten) hi hj (by rw [ei]; simp) (by rw [ej, e]; simp) (by rw [ei]; simp; exact rd_flat us h3) (by rw [ej, e]; simp; exact rd_flat vs h4)
      subst hij
      have huv : u = v := ei.symm.trans ej
      subst huv
      rw [ih vs h3 h4 (List.append_cancel_left e)]
theorem fin_exists {L : List (List Int)} (hv : ValidCd L) : ∃ N, Fin L N := by
  have key : ∀ m, (∃ N, Fin L N) ∨ ∀ i, i < m → i < (restN L i).length := by
    intro m
    induction m with
    | zero => exact .inr fun i h => absurd h (by omega)
    | succ m ih =>
      rcases ih with h | ih
      · exact .inl h
      · by_cases h : m < (restN L m).length
        · refine .inr fun i hi => ?_
          by_cases e : i = m
          · subst e; exact h
          · exact ih i (by omega)
        · exact .inl ⟨m, ih, by omega⟩
  rcases key 26 with h | h
  · exact h
  · have := restN_le hv (n := 25) fun i hi => h i (by omega)
    have := h 25 (by omega)
    omega
/-- what shows that a list is a rest -/
def Wit (L : List (List Int)) (r : List Int) : Prop := ∃ (u v : List Int) (us vs : List (List Int)), u ≠ v ∧ (∀ x ∈ u :: us, x ∈ L) ∧ (∀ x ∈ v :: vs, x ∈ L) ∧ (u :: us).flatten ++ r = (v :: vs).flatten
theorem wit_first {L : List (List Int)} {i j : Nat} (hi : i < L.length) (hj : j < L.length) {r : List Int} (h : r ∈ candi (L.getD i []) (L.getD j [])) : Wit L r := by
  unfold candi at h
  split at h
  · rename_i hp
    simp only [List.mem_singleton] at h
    subst h
    refine ⟨L.getD j [], L.getD i [], [], [], fun e => ?_, fun x hx => ?_, fun x hx => ?_, ?_⟩
    · have := hp.1; rw [e] at this; omega
    · simp only [List.mem_singleton] at hx; subst hx; exact lmem_of_getD rfl hj rfl
    · simp only [List.mem_singleton] at hx; subst hx; exact lmem_of_getD rfl hi rfl
    · simp only [List.flatten_cons, List.flatten_nil, List.append_nil]
      conv => lhs; arg 1; rw [← hp.2]
      exact List.take_append_drop _ _
  · simp at h
theorem wit_fol {L : List (List Int)} {x y : List Int} (h : Wit L x) : ∀ n, n ≤ L.length → y ∈ folN L x n → Wit L y := by
  obtain ⟨u, v, us, vs, h1, h2, h3, h4⟩ := h
  intro n
  induction n with
  | zero => intro _ hy; simp [folN] at hy
  | succ n ih =>
    intro hn hy
    have hw : L.getD n [] ∈ L := lmem_of_getD rfl (by omega : n < L.length) rfl
    have happ : ∀ (a : List Int) (ws : List (List Int)), (∀ x ∈ a :: ws, x ∈ L) → ∀ x ∈ a :: (ws ++ [L.getD n []]), x ∈ L := by
      intro a ws ha x hx
      rcases List.mem_cons.1 hx with hx | hx
      · exact ha x (by rw [hx]; exact List.mem_cons_self ..)
      · rcases List.mem_append.1 hx with hx | hx
        · exact ha x (List.mem_cons_of_mem _ hx)
        · simp only [List.mem_singleton] at hx; subst hx; exact hw
    have hy' : y ∈ folN L x n ++ candi (L.getD n []) x ++ candi x (L.getD n []) := hy
    rcases List.mem_append.1 hy' with hy | hy
    · rcases List.mem_append.1 hy with hy | hy
      · exact ih (by omega) hy
      · unfold candi at hy
        split at hy
        · rename_i hp
          simp only [List.mem_singleton] at hy
          subst hy
          refine ⟨v, u, vs, us ++ [L.getD n []], h1.symm, h3, happ u us h2, ?_⟩
          have e : x ++ (L.getD n []).drop x.length = L.getD n [] := by
            have := List.take_append_drop x.length (L.getD n [])
            rw [hp.2] at this; exact this
          rw [← h4, List.append_assoc, e]
          simp [List.flatten_cons]
        · simp at hy
    · unfold candi at hy
      split at hy
      · rename_i hp
        simp only [List.mem_singleton] at hy
        subst hy
        refine ⟨u, v, us ++ [L.getD n []], vs, h1, happ u us h2, h3, ?_⟩
        have e : L.getD n [] ++ x.drop (L.getD n []).length = x := by
          have := List.take_append_drop (L.getD n []).length x
          rw [hp.2] at this; exact this
        rw [← h4]
        conv => rhs; rw [← e]
        simp [List.flatten_cons, List.append_assoc]
      · simp at hy
theorem wit_all {L : List (List Int)} : ∀ N, (∀ i, i < N → i < (restN L i).length) → ∀ r ∈ restN L N, Wit L r := by
  intro N
  induction N with
  | zero =>
    intro _ r hr
    obtain ⟨i, j, h1, h2, h3⟩ := (all_has L.length).1 hr
    exact wit_first h1 h2 h3
  | succ N ih =>
    intro hN r hr
    have hi := ih fun i h => hN i (by omega)
    have hr' : r ∈ stepW L ((restN L N).getD N []) (restN L N) L.length := hr
    rw [stepW_fol] at hr'
    rcases (foldl_mem _ _).1 hr' with hr' | hr'
    · exact hi r hr'
    · exact wit_fol (hi _ (lmem_of_getD rfl (hN N (by omega)) rfl)) L.length (Nat.le_refl _) hr'
theorem uniq_amb {L : List (List Int)} (hv : ValidCd L) : Uniq L ↔ ¬ Amb L := by
  constructor
  · rintro hu ⟨us, vs, h1, h2, h3, h4⟩
    exact h3 (not_amb hv hu us vs h1 h2 h4)
  · intro ha
    obtain ⟨N, hF⟩ := fin_exists hv
    refine ⟨N, hF, fun i hi hx => ha ?_⟩
    obtain ⟨u, v, us, vs, h1, h2, h3, h4⟩ := wit_all N hF.1 _ (lmem_of_getD (fin_len hF) hi rfl)
    refine ⟨(u :: us) ++ [(restN L N).getD i []], v :: vs, fun x hx' => ?_, h3, fun e => ?_, ?_⟩
    · rcases List.mem_append.1 hx' with hx' | hx'
      · exact h2 x hx'
      · simp only [List.mem_singleton] at hx'; subst hx'; exact hx
    · rw [List.cons_append] at e
      injection e with e _
      exact h1 e
    · rw [← h4, List.flatten_append]
      simp
/-- parts of unique codes -/
theorem amb_sub {L L' : List (List Int)} (h : ∀ x ∈ L', x ∈ L) (k : Amb L') : Amb L := by
  obtain ⟨us, vs, h1, h2, h3, h4⟩ := k
  exact ⟨us, vs, fun x hx => h x (h1 x hx), fun x hx => h x (h2 x hx), h3, h4⟩
/-- backwards -/
theorem flat_rev (us : List (List Int)) : ((us.map List.reverse).reverse).flatten = us.flatten.reverse := by
  induction us with
  | nil => rfl
  | cons u us ih => simp [List.flatten_append, ih]
theorem amb_rev {L : List (List Int)} (k : Amb L) : Amb (L.map List.reverse) := by
  obtain ⟨us, vs, h1, h2, h3, h4⟩ := k
  have hm : ∀ ws : List (List Int), (∀ x ∈ ws, x ∈ L) → ∀ x ∈ (ws.map List.reverse).reverse, x ∈ L.map List.reverse := by
    intro ws h x hx
    rw [List.mem_reverse, List.mem_map] at hx
    obtain ⟨y, hy, rfl⟩ := hx
    exact List.mem_map.2 ⟨y, h y hy, rfl⟩
  refine ⟨(us.map List.reverse).reverse, (vs.map List.reverse).reverse, hm us h1, hm vs h2, fun e => h3 ?_, by rw [flat_rev, flat_rev, h4]⟩
  have e2 : us.map List.reverse = vs.map List.reverse := by
    have := congrArg List.reverse e
    rw [List.reverse_reverse, List.reverse_reverse] at this
    exact this
  have e3 := congrArg (List.map List.reverse) e2
  rw [List.map_map, List.map_map] at e3
  have e4 : (List.reverse ∘ List.reverse : List Int → List Int) = id := funext fun x => List.reverse_reverse x
  rw [e4, List.map_id, List.map_id] at e3
  exact e3
theorem amb_rev_iff {L : List (List Int)} : Amb (L.map List.reverse) ↔ Amb L := by
  refine ⟨fun h => ?_, amb_rev⟩
  have := amb_rev h
  rw [List.map_map] at this
  have e4 : (List.reverse ∘ List.reverse : List Int → List Int) = id := funext fun x => List.reverse_reverse x
  rw [e4, List.map_id] at this
  exact this
theorem valid_rev {L : List (List Int)} (hv : ValidCd L) : ValidCd (L.map List.reverse) := by
  obtain ⟨h1, h2, h3⟩ := (valid_iff L).1 hv
  refine (valid_iff _).2 ⟨by rw [List.length_map]; exact h1, fun x hx => ?_, List.Pairwise.map _ (fun a b hab e => hab (List.reverse_inj.1 e)) h3⟩
  obtain ⟨y, hy, rfl⟩ := List.mem_map.1 hx
  obtain ⟨k1, k2⟩ := h2 y hy
  exact ⟨by rw [List.length_reverse]; exact k1, fun z hz => k2 z (List.mem_reverse.1 hz)⟩
end Go.Proofs.Ytdjgodemeaneeaa
