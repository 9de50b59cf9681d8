
/- The rests of a code: the list that grows until nothing is new. -/
import Derived.Test.YtdjgodemeaneeaaCm
namespace Go.Proofs.Ytdjgodemeaneeaa
open Go.RowKit

/-- what one list leaves behind another one -/
def candi (xs ys : List Int) : List (List Int) := if Pre xs ys then [xs.drop ys.length] else []
def addOne (R : List (List Int)) (x : List Int) : List (List Int) := if x ∈ R then R else R ++ [x]
theorem putL_candi (R : List (List Int)) (xs ys : List Int) : putL R xs ys = (candi xs ys).foldl addOne R := by
  unfold candi
  by_cases h : Pre xs ys
  · rw [if_pos h]
    show _ = addOne R _
    unfold addOne
    by_cases k : xs.drop ys.length ∈ R
    · rw [if_pos k, putL_old k]
    · rw [if_neg k, putL_new h k]
  · rw [if_neg h, putL_no h]; rfl
/-- one rest against the first k words -/
def stepW (L : List (List Int)) (x : List Int) (R : List (List Int)) : Nat → List (List Int)
  | 0 => R
  | k + 1 => putL (putL (stepW L x R k) (L.getD k []) x) x (L.getD k [])
def folN (L : List (List Int)) (x : List Int) : Nat → List (List Int)
  | 0 => []
  | k + 1 => folN L x k ++ candi (L.getD k []) x ++ candi x (L.getD k [])
theorem stepW_fol (L : List (List Int)) (x : List Int) (R : List (List Int)) (k : Nat) : stepW L x R k = (folN L x k).foldl addOne R := by
  induction k with
  | zero => rfl
  | succ k ih =>
    show putL (putL (stepW L x R k) (L.getD k []) x) x (L.getD k []) = (folN L x k ++ candi (L.getD k []) x ++ candi x (L.getD k [])).foldl addOne R
    rw [List.foldl_append, List.foldl_append, ← ih, putL_candi, putL_candi]
theorem candi_len (xs ys : List Int) : (candi xs ys).length ≤ 1 := by unfold candi; split <;> simp
theorem folN_len (L : List (List Int)) (x : List Int) (k : Nat) : (folN L x k).length ≤ 2 * k := by
  induction k with
  | zero => simp [folN]
  | succ k ih =>
    have h1 := candi_len (L.getD k []) x
    have h2 := candi_len x (L.getD k [])
    show (folN L x k ++ candi (L.getD k []) x ++ candi x (L.getD k [])).length ≤ _
    rw [List.length_append, List.length_append]; omega
/-- after n rests have been looked at -/
def restN (L : List (List Int)) : Nat → List (List Int)
  | 0 => putAll L L.length
  | n + 1 => stepW L ((restN L n).getD n []) (restN L n) L.length
/-- after N rests nothing is left to be looked at -/
def Fin (L : List (List Int)) (N : Nat) : Prop := (∀ i, i < N → i < (restN L i).length) ∧ (restN L N).length ≤ N
theorem Fin.same {L : List (List Int)} {M N : Nat} (h : Fin L M) (k : Fin L N) : M = N := by
  rcases Nat.lt_trichotomy M N with e | e | e
  · have := k.1 M e; have := h.2; omega
  · exact e
  · have := h.1 N e; have := k.2; omega
theorem addOne_pre (R : List (List Int)) (x : List Int) : R <+: addOne R x := by
  unfold addOne; split
  · exact List.prefix_refl _
  · exact List.prefix_append _ _
theorem foldl_pre (ys : List (List Int)) : ∀ R : List (List Int), R <+: ys.foldl addOne R := by
  induction ys with
  | nil => exact fun R => List.prefix_refl _
  | cons y ys ih => exact fun R => (addOne_pre R y).trans (ih _)
theorem restN_pre (L : List (List Int)) (n : Nat) : restN L n <+: restN L (n + 1) := by
  show _ <+: stepW _ _ _ _
  rw [stepW_fol]
  exact foldl_pre _ _
theorem restN_mono (L : List (List Int)) {m n : Nat} (h : m ≤ n) : restN L m <+: restN L n := by
  induction n with
  | zero => obtain rfl : m = 0 := by omega
            exact List.prefix_refl _
  | succ n ih =>
    by_cases e : m = n + 1
    · subst e; exact List.prefix_refl _
    · exact (ih (by omega)).trans (restN_pre L n)
theorem getD_pre {A B : List (List Int)} (h : A <+: B) {i : Nat} (hi : i < A.length) : B.getD i [] = A.getD i [] := by
  obtain ⟨C, rfl⟩ := h
  rw [List.getD_eq_getElem?_getD, List.getElem?_append_left hi, ← List.getD_eq_getElem?_getD]

/-- a true end of a code word -/
def IsSuf (L : List (List Int)) (x : List Int) : Prop := ∃ i j, i < L.length ∧ 1 ≤ j ∧ j < (L.getD i []).length ∧ x = (L.getD i []).drop j
theorem IsSuf.ne {L : List (List Int)} {x : List Int} (h : IsSuf L x) : 1 ≤ x.length := by
  obtain ⟨i, j, _, _, h3, rfl⟩ := h
  rw [List.length_drop]; omega
theorem candi_word {L : List (List Int)} {k : Nat} {y x : List Int} (hk : k < L.length) (hy : 1 ≤ y.length) (hx : x ∈ candi (L.getD k []) y) : IsSuf L x := by
  unfold candi at hx
  split at hx
  · rename_i h
    simp only [List.mem_singleton] at hx
    subst hx
    exact ⟨k, y.length, hk, hy, h.1, rfl⟩
  · simp at hx
theorem candi_suf {L : List (List Int)} {w y x : List Int} (h : IsSuf L y) (hx : x ∈ candi y w) : IsSuf L x := by
  unfold candi at hx
  split at hx
  · rename_i hp
    simp only [List.mem_singleton] at hx
    subst hx
    obtain ⟨i, j, h1, h2, h3, rfl⟩ := h
    have := hp.1
    rw [List.length_drop] at this
    exact ⟨i, j + w.length, h1, by omega, by omega, by rw [List.drop_drop]⟩
  · simp at hx
theorem addOne_mem {R : List (List Int)} {x y : List Int} : y ∈ addOne R x ↔ y ∈ R ∨ y = x := by
  unfold addOne
  split
  · rename_i h
    constructor
    · exact .inl
    · rintro (h' | rfl)
      · exact h'
      · exact h
  · simp
theorem foldl_mem {y : List Int} : ∀ (ys R : List (List Int)), y ∈ ys.foldl addOne R ↔ y ∈ R ∨ y ∈ ys := by
  intro ys
  induction ys with
  | nil => intro R; simp
  | cons z ys ih =>
    intro R
    show y ∈ ys.foldl addOne (addOne R z) ↔ _
    rw [ih, addOne_mem, List.mem_cons, or_assoc]
theorem addOne_nodup {R : List (List Int)} {x : List Int} (h : R.Nodup) : (addOne R x).Nodup := by
  unfold addOne
  split
  · exact h
  · rename_i hx
    rw [List.nodup_append]
    exact ⟨h, by simp, fun a ha b hb => by simp only [List.mem_singleton] at hb; rintro rfl; subst hb; exact hx ha⟩
theorem foldl_nodup : ∀ (ys R : List (List Int)), R.Nodup → (ys.foldl addOne R).Nodup := by
  intro ys
  induction ys with
  | nil => exact fun R h => h
  | cons z ys ih => exact fun R h => ih _ (addOne_nodup h)
theorem fol_suf {L : List (List Int)} {x : List Int} (hx : IsSuf L x) : ∀ k, k ≤ L.length → ∀ y ∈ folN L x k, IsSuf L y := by
  intro k
  induction k with
  | zero => intro _ y hy; simp [folN] at hy
  | succ k ih =>
    intro hk y hy
    rcases List.mem_append.1 hy with hy | hy
    · rcases List.mem_append.1 hy with hy | hy
      · exact ih (by omega) y hy
      · exact candi_word (by omega) hx.ne hy
    · exact candi_suf hx hy
/-- all rests are ends of code words, each another one -/
theorem putRow_ok {L : List (List Int)} (hv : ValidCd L) {i : Nat} (hi : i < L.length) {R : List (List Int)} (h : R.Nodup ∧ ∀ y ∈ R, IsSuf L y) : ∀ k, k ≤ L.length → (putRow L (L.getD i []) R k).Nodup ∧ ∀ y ∈ putRow L (L.getD i []) R k, IsSuf L y := by
  intro k
  induction k with
  | zero => exact fun _ => h
  | succ k ih =>
    intro hk
    obtain ⟨h1, h2⟩ := ih (by omega)
    show (putL _ _ _).Nodup ∧ ∀ y ∈ putL _ _ _, _
    rw [putL_candi]
    refine ⟨foldl_nodup _ _ h1, fun y hy => ?_⟩
    rcases (foldl_mem _ _).1 hy with hy | hy
    · exact h2 y hy
    · exact candi_word hi (hv.2.1 k (by omega)).1.1 hy
theorem putAll_ok {L : List (List Int)} (hv : ValidCd L) : ∀ i, i ≤ L.length → (putAll L i).Nodup ∧ ∀ y ∈ putAll L i, IsSuf L y := by
  intro i
  induction i with
  | zero => exact fun _ => ⟨List.nodup_nil, fun y hy => by simp [putAll] at hy⟩
  | succ i ih => exact fun hi => putRow_ok hv (by omega) (ih (by omega)) L.length (Nat.le_refl _)
theorem restN_ok {L : List (List Int)} (hv : ValidCd L) : ∀ n, (∀ i, i < n → i < (restN L i).length) → (restN L n).Nodup ∧ ∀ y ∈ restN L n, IsSuf L y := by
  intro n
  induction n with
  | zero => exact fun _ => putAll_ok hv L.length (Nat.le_refl _)
  | succ n ih =>
    intro hn
    obtain ⟨h1, h2⟩ := ih fun i hi => hn i (by omega)
    have hlt := hn n (by omega)
    have hx : IsSuf L ((restN L n).getD n []) := h2 _ (lmem_of_getD rfl hlt rfl)
    show (stepW _ _ _ _).Nodup ∧ ∀ y ∈ stepW _ _ _ _, _
    rw [stepW_fol]
    refine ⟨foldl_nodup _ _ h1, fun y hy => ?_⟩
    rcases (foldl_mem _ _).1 hy with hy | hy
    · exact h2 y hy
    · exact fol_suf hx L.length (Nat.le_refl _) y hy
theorem nodup_le {R : List (List Int)} : ∀ S : List (List Int), R.Nodup → (∀ y ∈ R, y ∈ S) → R.length ≤ S.length := by
  induction R with
  | nil => intro S _ _; simp
  | cons x R ih =>
    intro S h hs
    have hx := hs x (List.mem_cons_self ..)
    have hn := List.nodup_cons.1 h
    have := ih (S.erase x) hn.2 (fun y hy => (List.mem_erase_of_ne (fun e => hn.1 (by rw [← e]; exact hy))).2 (hs y (List.mem_cons_of_mem _ hy)))
    rw [List.length_erase_of_mem hx] at this
    have := List.length_pos_of_mem hx
    rw [List.length_cons]; omega
theorem suf_le {L : List (List Int)} (hv : ValidCd L) {R : List (List Int)} (h1 : R.Nodup) (h2 : ∀ y ∈ R, IsSuf L y) : R.length ≤ 24 := by
  have h3 := nodup_le ((List.range L.length).flatMap fun i => (List.range 3).map fun j => (L.getD i []).drop (j + 1)) h1 (fun y hy => by
    obtain ⟨i, j, h4, h5, h6, rfl⟩ := h2 y hy
    have := (hv.2.1 i h4).1.2
    refine List.mem_flatMap.2 ⟨i, List.mem_range.2 h4, List.mem_map.2 ⟨j - 1, List.mem_range.2 (by omega), ?_⟩⟩
    rw [show j - 1 + 1 = j from by omega])
  have h4 : ((List.range L.length).flatMap fun i => (List.range 3).map fun j => (L.getD i []).drop (j + 1)).length = L.length * 3 := by
    rw [List.length_flatMap]
    simp only [List.length_map, List.length_range]
    have hs : ∀ n : Nat, ((List.range n).map fun _ => 3).sum = n * 3 := by
      intro n
      induction n with
      | zero => rfl
      | succ n ih => rw [List.range_succ, List.map_append, List.sum_append, ih]; simp; omega
    exact hs _
  have := hv.1
  omega
theorem restN_le {L : List (List Int)} (hv : ValidCd L) {n : Nat} (h : ∀ i, i < n → i < (restN L i).length) : (restN L n).length ≤ 24 := by
  obtain ⟨h1, h2⟩ := restN_ok hv n h
  exact suf_le hv h1 h2
/-- the code is unique: none of its rests is a code word -/
def Uniq (L : List (List Int)) : Prop := ∃ N, Fin L N ∧ ∀ i, i < N → (restN L N).getD i [] ∉ L
theorem Uniq.b (L : List (List Int)) : ∃ b : Bool, b = true ↔ Uniq L := by
  by_cases h : Uniq L
  · exact ⟨true, by simp [h]⟩
  · exact ⟨false, by simp [h]⟩
theorem fin_len {L : List (List Int)} {N : Nat} (h : Fin L N) : (restN L N).length = N := by
  have h2 := h.2
  cases N with
  | zero => omega
  | succ n =>
    have h3 := h.1 n (by omega)
    have := (restN_pre L n).length_le
    omega
end Go.Proofs.Ytdjgodemeaneeaa
