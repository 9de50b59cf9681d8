
/- Unique codes are read in at most one way. -/
import Derived.Test.YtdjgodemeaneeaaKe
namespace Go.Proofs.Ytdjgodemeaneeaa
open Go.RowKit

theorem mem_candi {xs ys : List Int} (h : Pre xs ys) : xs.drop ys.length ∈ candi xs ys := by unfold candi; rw [if_pos h]; simp
theorem fol_has {L : List (List Int)} {x y : List Int} : ∀ n k, k < n → (y ∈ candi (L.getD k []) x ∨ y ∈ candi x (L.getD k [])) → y ∈ folN L x n := by
  intro n
  induction n with
  | zero => intro k h; omega
  | succ n ih =>
    intro k hk h
    show y ∈ folN L x n ++ candi (L.getD n []) x ++ candi x (L.getD n [])
    by_cases e : k = n
    · subst e
      rcases h with h | h
      · exact List.mem_append_left _ (List.mem_append_right _ h)
      · exact List.mem_append_right _ h
    · exact List.mem_append_left _ (List.mem_append_left _ (ih k (by omega) h))
theorem row_has {L : List (List Int)} {xs : List Int} {R : List (List Int)} {y : List Int} : ∀ n, y ∈ putRow L xs R n ↔ y ∈ R ∨ ∃ j, j < n ∧ y ∈ candi xs (L.getD j []) := by
  intro n
  induction n with
  | zero => exact ⟨.inl, fun h => by rcases h with h | ⟨j, h, _⟩; exact h; omega⟩
  | succ n ih =>
    show y ∈ putL (putRow L xs R n) xs (L.getD n []) ↔ _
    rw [putL_candi, foldl_mem, ih]
    constructor
    · rintro ((h | ⟨j, h1, h2⟩) | h)
      · exact .inl h
      · exact .inr ⟨j, by omega, h2⟩
      · exact .inr ⟨n, by omega, h⟩
    · rintro (h | ⟨j, h1, h2⟩)
      · exact .inl (.inl h)
      · by_cases e : j = n
        · subst e; exact .inr h2
        · exact .inl (.inr ⟨j, by omega, h2⟩)
theorem all_has {L : List (List Int)} {y : List Int} : ∀ n, y ∈ putAll L n ↔ ∃ i j, i < n ∧ j < L.length ∧ y ∈ candi (L.getD i []) (L.getD j []) := by
  intro n
  induction n with
  | zero => exact ⟨fun h => by simp [putAll] at h, fun ⟨i, j, h, _⟩ => by omega⟩
  | succ n ih =>
    show y ∈ putRow L (L.getD n []) (putAll L n) L.length ↔ _
    rw [row_has, ih]
    constructor
    · rintro (⟨i, j, h1, h2⟩ | ⟨j, h1, h2⟩)
      · exact ⟨i, j, by omega, h2⟩
      · exact ⟨n, j, by omega, h1, h2⟩
    · rintro ⟨i, j, h1, h2, h3⟩
      by_cases e : i = n
      · subst e; exact .inr ⟨j, h2, h3⟩
      · exact .inl ⟨i, j, by omega, h2, h3⟩
/-- the rests are closed -/
theorem rest_closed {L : List (List Int)} {N : Nat} (hF : Fin L N) {x y : List Int} (hx : x ∈ restN L N) (hy : y ∈ folN L x L.length) : y ∈ restN L N := by
  obtain ⟨i, hi, rfl⟩ := List.getElem_of_mem hx
  have hlen := fin_len hF
  have hi' := hF.1 i (by omega)
  have e : (restN L N)[i] = (restN L i).getD i [] := by
    rw [← getD_pre (restN_mono L (show i ≤ N by omega)) hi', List.getD_eq_getElem?_getD, List.getElem?_eq_getElem hi, Option.getD_some]
  rw [e] at hy
  have h1 : y ∈ restN L (i + 1) := by
    show y ∈ stepW L _ _ _
    rw [stepW_fol]
    exact (foldl_mem _ _).2 (.inr hy)
  exact (restN_mono L (show i + 1 ≤ N by omega)).subset h1
theorem rest_first {L : List (List Int)} {N i j : Nat} (hi : i < L.length) (hj : j < L.length) (h : Pre (L.getD i []) (L.getD j [])) : (L.getD i []).drop (L.getD j []).length ∈ restN L N := by
  have h1 : (L.getD i []).drop (L.getD j []).length ∈ restN L 0 := (all_has L.length).2 ⟨i, j, hi, hj, mem_candi h⟩
  exact (restN_mono L (Nat.zero_le N)).subset h1
/-- two lists that begin the same cells -/
theorem two_begin {a b c d : List Int} (h : a ++ c = b ++ d) (hl : b.length ≤ a.length) : a.take b.length = b ∧ c = c ∧ a.drop b.length ++ c = d := by
  have h1 := congrArg (List.take b.length) h
  rw [List.take_append_of_le_length hl, List.take_append_of_le_length (Nat.le_refl _), List.take_length] at h1
  have h2 := congrArg (List.drop b.length) h
  rw [List.drop_append_of_le_length hl, List.drop_append_of_le_length (Nat.le_refl _), List.drop_length, List.nil_append] at h2
  exact ⟨h1, rfl, h2⟩
theorem sp {L : List (List Int)} (hv : ValidCd L) {N : Nat} (hF : Fin L N) (hu : ∀ i, i < N → (restN L N).getD i [] ∉ L) : ∀ (n : Nat) (r ys zs : List Int), zs.length ≤ n → r ∈ restN L N → Rd L ys → Rd L zs → r ++ ys = zs → False := by
  intro n
  have hok := restN_ok hv N hF.1
  induction n with
  | zero =>
    intro r ys zs h hr _ _ e
    have h1 := (hok.2 r hr).ne
    have h2 := congrArg List.length e
    rw [List.length_append] at h2
    omega
  | succ n ih =>
    intro r ys zs h hr hy hz e
    have h1 := (hok.2 r hr).ne
    have hlen := congrArg List.length e
    rw [List.length_append] at hlen
    cases hz with
    | nil => rw [List.length_nil] at hlen; omega
    | @word k zs' hk hz' =>
      rw [List.length_append] at h hlen
      have hk1 := (hv.2.1 k hk).1.1
      have hrn : r ∉ L := by
        obtain ⟨i, hi, rfl⟩ := List.getElem_of_mem hr
        have h3 := hu i (by rw [← fin_len hF]; exact hi)
        rw [List.getD_eq_getElem?_getD, List.getElem?_eq_getElem hi, Option.getD_some] at h3
        exact h3
      rcases Nat.lt_trichotomy (L.getD k []).length r.length with hl | hl | hl
      · obtain ⟨h3, _, h4⟩ := two_begin e (by omega)
        have hp : Pre r (L.getD k []) := ⟨hl, h3⟩
        have hr' := rest_closed hF hr (fol_has L.length k hk (.inr (mem_candi hp)))
        exact ih _ ys zs' (by omega) hr' hy hz' h4
      · obtain ⟨h3, _, _⟩ := two_begin e (by omega)
        rw [hl, List.take_length] at h3
        refine hrn ?_
        rw [h3]
        exact lmem_of_getD rfl hk rfl
      · obtain ⟨h3, _, h4⟩ := two_begin e.symm (by omega)
        have hp : Pre (L.getD k []) r := ⟨hl, h3⟩
        have hr' := rest_closed hF hr (fol_has L.length k hk (.inl (mem_candi hp)))
        exact ih _ zs' ys (by omega) hr' hz' hy h4
theorem uniq_hit {L : List (List Int)} (hv : ValidCd L) (hu : Uniq L) {zs : List Int} {i j : Nat} (hi : i < L.length) (hj : j < L.length) (h1 : zs.take (L.getD i []).length = L.getD i []) (h2 : zs.take (L.getD j []).length = L.getD j []) (r1 : Rd L (zs.drop (L.getD i []).length)) (r2 : Rd L (zs.drop (L.getD j []).length)) : i = j := by
  obtain ⟨N, hF, hn⟩ := hu
  have key : ∀ i j, i < L.length → j < L.length → zs.take (L.getD i []).length = L.getD i [] → zs.take (L.getD j []).length = L.getD j [] → Rd L (zs.drop (L.getD i []).length) → Rd L (zs.drop (L.getD j []).length) → (L.getD i []).length < (L.getD j []).length → False := by
    intro i j hi hj h1 h2 r1 r2 hl
    have e : L.getD i [] ++ zs.drop (L.getD i []).length = L.getD j [] ++ zs.drop (L.getD j []).length := by
      have e1 := List.take_append_drop (L.getD i []).length zs
      have e2 := List.take_append_drop (L.getD j []).length zs
      rw [h1] at e1
      rw [h2] at e2
      rw [e1, e2]
    obtain ⟨h3, _, h4⟩ := two_begin e.symm (by omega)
    exact sp hv hF hn _ _ _ _ (Nat.le_refl _) (rest_first hj hi ⟨hl, h3⟩) r2 r1 h4
  rcases Nat.lt_trichotomy (L.getD i []).length (L.getD j []).length with hl | hl | hl
  · exact (key i j hi hj h1 h2 r1 r2 hl).elim
  · exact hit_same hv hi hj h1 h2 hl
  · exact (key j i hj hi h2 h1 r2 r1 hl).elim
theorem cTo_one {L : List (List Int)} {zs : List Int} {f : Nat → Nat} (h1 : ∀ j, j < L.length → zs.take (L.getD j []).length = L.getD j [] → f (L.getD j []).length ≤ 1)
    (h2 : ∀ i j, i < L.length → j < L.length → zs.take (L.getD i []).length = L.getD i [] → zs.take (L.getD j []).length = L.getD j [] → 1 ≤ f (L.getD i []).length → 1 ≤ f (L.getD j []).length → i = j) : ∀ k, k ≤ L.length → cTo L zs f k ≤ 1 := by
  intro k
  induction k with
  | zero => intro _; exact Nat.zero_le _
  | succ k ih =>
    intro hk
    have hi := ih (by omega)
    by_cases h : zs.take (L.getD k []).length = L.getD k []
    · have e2 : cTo L zs f (k + 1) = cTo L zs f k + f (L.getD k []).length := if_pos h
      have h3 := h1 k (by omega) h
      by_cases h4 : 1 ≤ cTo L zs f k
      · obtain ⟨j, h5, h6, h7⟩ := cTo_pos k h4
        by_cases h8 : 1 ≤ f (L.getD k []).length
        · have := h2 j k (by omega) (by omega) h6 h h7 h8
          omega
        · omega
      · omega
    · have e2 : cTo L zs f (k + 1) = cTo L zs f k := if_neg h
      omega
theorem cnt_one {L : List (List Int)} (hv : ValidCd L) (hu : Uniq L) : ∀ (n : Nat) (zs : List Int), zs.length ≤ n → cnt L zs ≤ 1 := by
  intro n
  induction n with
  | zero =>
    intro zs h
    obtain rfl : zs = [] := List.length_eq_zero_iff.1 (by omega)
    exact Nat.le_refl _
  | succ n ih =>
    intro zs h
    by_cases h0 : zs = []
    · subst h0; exact Nat.le_refl _
    have hl : 1 ≤ zs.length := by
      cases zs with
      | nil => exact absurd rfl h0
      | cons => simp
    rw [cnt_cons hv h0]
    refine cTo_one (fun j hj hp => ?_) (fun i j hi hj hp hq h1 h2 => ?_) L.length (Nat.le_refl _)
    · have := (hv.2.1 j hj).1.1
      exact ih _ (by rw [List.length_drop]; omega)
    · exact uniq_hit hv hu hi hj hp hq (rd_of_cnt hv _ _ (Nat.le_refl _) h1) (rd_of_cnt hv _ _ (Nat.le_refl _) h2)
end Go.Proofs.Ytdjgodemeaneeaa
