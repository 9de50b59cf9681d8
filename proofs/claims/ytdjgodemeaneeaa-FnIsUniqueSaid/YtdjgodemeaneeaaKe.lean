
/- Ways of reading cells by a code: how many there are; unique codes. -/
import Derived.Test.YtdjgodemeaneeaaCh
import Derived.Test.YtdjgodemeaneeaaCu
namespace Go.Proofs.Ytdjgodemeaneeaa
open Go.RowKit

/-- over the first k words, the ways for cells that begin with them; f has the ways behind so many cells -/
def cTo (L : List (List Int)) (ys : List Int) (f : Nat → Nat) : Nat → Nat
  | 0 => 0
  | k + 1 => if ys.take (L.getD k []).length = L.getD k [] then cTo L ys f k + f (L.getD k []).length else cTo L ys f k
def cw (L : List (List Int)) : List Int → List Nat
  | [] => [1]
  | z :: ys => cTo L (z :: ys) (fun l => (cw L ys).getD (l - 1) 0) L.length :: cw L ys
/-- the number of ways -/
def cnt (L : List (List Int)) (zs : List Int) : Nat := (cw L zs).getD 0 0
theorem cw_len (L : List (List Int)) (zs : List Int) : (cw L zs).length = zs.length + 1 := by
  induction zs with
  | nil => rfl
  | cons z ys ih => simp [cw, ih]
theorem cw_at (L : List (List Int)) : ∀ (zs : List Int) (i : Nat), i ≤ zs.length → (cw L zs).getD i 0 = cnt L (zs.drop i) := by
  intro zs
  induction zs with
  | nil => intro i hi; obtain rfl : i = 0 := by simpa using hi
           rfl
  | cons z ys ih =>
    intro i hi
    cases i with
    | zero => rfl
    | succ i => exact ih i (by simpa using hi)
theorem cTo_congr {L : List (List Int)} {ys : List Int} {f g : Nat → Nat} : ∀ k, (∀ j, j < k → ys.take (L.getD j []).length = L.getD j [] → f (L.getD j []).length = g (L.getD j []).length) → cTo L ys f k = cTo L ys g k := by
  intro k
  induction k with
  | zero => intro _; rfl
  | succ k ih =>
    intro h
    show (if _ then cTo L ys f k + _ else cTo L ys f k) = (if _ then cTo L ys g k + _ else cTo L ys g k)
    rw [ih fun j hj => h j (by omega)]
    split
    · rename_i hp
      rw [h k (by omega) hp]
    · rfl
theorem cnt_nil (L : List (List Int)) : cnt L [] = 1 := rfl
theorem cnt_cons {L : List (List Int)} (hv : ValidCd L) {zs : List Int} (h : zs ≠ []) : cnt L zs = cTo L zs (fun l => cnt L (zs.drop l)) L.length := by
  cases zs with
  | nil => exact absurd rfl h
  | cons z ys =>
    show cTo L (z :: ys) _ _ = _
    refine cTo_congr _ fun j hj hp => ?_
    have h1 := (hv.2.1 j hj).1.1
    have h2 := begins_len hp
    simp only [List.length_cons] at h2
    obtain ⟨m, hm⟩ : ∃ m, (L.getD j []).length = m + 1 := ⟨(L.getD j []).length - 1, by omega⟩
    rw [hm]
    show (cw L ys).getD m 0 = cnt L (ys.drop m)
    exact cw_at L ys m (by omega)
/-- code words of the same length at the same place are the same word -/
theorem hit_same {L : List (List Int)} (hv : ValidCd L) {zs : List Int} {i j : Nat} (hi : i < L.length) (hj : j < L.length) (h1 : zs.take (L.getD i []).length = L.getD i []) (h2 : zs.take (L.getD j []).length = L.getD j []) (he : (L.getD i []).length = (L.getD j []).length) : i = j := by
  have e : L.getD i [] = L.getD j [] := by rw [← h1, ← h2, he]
  rcases Nat.lt_trichotomy i j with h | h | h
  · exact absurd e (hv.2.2 j i hj h)
  · exact h
  · exact absurd e.symm (hv.2.2 i j hi h)
open Classical in
/-- the ways that begin with one of the first k words that has l cells -/
noncomputable def dTo (L : List (List Int)) (zs : List Int) (f : Nat → Nat) (k l : Nat) : Nat := if ∃ j, j < k ∧ zs.take (L.getD j []).length = L.getD j [] ∧ (L.getD j []).length = l then f l else 0
theorem dTo_step {L : List (List Int)} (hv : ValidCd L) {zs : List Int} {f : Nat → Nat} {k : Nat} (hk : k < L.length) (h : zs.take (L.getD k []).length = L.getD k []) (l : Nat) : dTo L zs f (k + 1) l = dTo L zs f k l + if l = (L.getD k []).length then f l else 0 := by
  unfold dTo
  by_cases e : l = (L.getD k []).length
  · rw [if_pos e, if_pos ⟨k, by omega, h, e.symm⟩, if_neg]
    · omega
    · rintro ⟨j, h1, h2, h3⟩
      have := hit_same hv (by omega) hk h2 h (by omega)
      omega
  · rw [if_neg e]
    by_cases e2 : ∃ j, j < k ∧ zs.take (L.getD j []).length = L.getD j [] ∧ (L.getD j []).length = l
    · obtain ⟨j, h1, h2⟩ := id e2
      rw [if_pos e2, if_pos ⟨j, by omega, h2⟩]; rfl
    · rw [if_neg e2, if_neg]
      rintro ⟨j, h1, h2, h3⟩
      by_cases hjk : j = k
      · subst hjk; exact e h3.symm
      · exact e2 ⟨j, by omega, h2, h3⟩
theorem dTo_skip {L : List (List Int)} {zs : List Int} {f : Nat → Nat} {k : Nat} (h : ¬ zs.take (L.getD k []).length = L.getD k []) (l : Nat) : dTo L zs f (k + 1) l = dTo L zs f k l := by
  unfold dTo
  by_cases e2 : ∃ j, j < k ∧ zs.take (L.getD j []).length = L.getD j [] ∧ (L.getD j []).length = l
  · obtain ⟨j, h1, h2⟩ := id e2
    rw [if_pos e2, if_pos ⟨j, by omega, h2⟩]
  · rw [if_neg e2, if_neg]
    rintro ⟨j, h1, h2, h3⟩
    by_cases hjk : j = k
    · subst hjk; exact h h2
    · exact e2 ⟨j, by omega, h2, h3⟩
theorem cTo_four {L : List (List Int)} (hv : ValidCd L) (zs : List Int) (f : Nat → Nat) : ∀ k, k ≤ L.length → cTo L zs f k = dTo L zs f k 1 + dTo L zs f k 2 + dTo L zs f k 3 + dTo L zs f k 4 := by
  intro k
  induction k with
  | zero =>
    intro _
    have : ∀ l, dTo L zs f 0 l = 0 := fun l => if_neg (by rintro ⟨j, h, _⟩; omega)
    rw [this, this, this, this]; rfl
  | succ k ih =>
    intro hk
    have h1 := (hv.2.1 k (by omega)).1
    have hi := ih (by omega)
    by_cases h : zs.take (L.getD k []).length = L.getD k []
    · have e2 : cTo L zs f (k + 1) = cTo L zs f k + f (L.getD k []).length := if_pos h
      have s1 := dTo_step (f := f) hv (by omega) h 1
      have s2 := dTo_step (f := f) hv (by omega) h 2
      have s3 := dTo_step (f := f) hv (by omega) h 3
      have s4 := dTo_step (f := f) hv (by omega) h 4
      obtain ⟨m, hm⟩ : ∃ m, (L.getD k []).length = m := ⟨_, rfl⟩
      rw [hm] at h1 e2 s1 s2 s3 s4
      rcases (by omega : m = 1 ∨ m = 2 ∨ m = 3 ∨ m = 4) with rfl | rfl | rfl | rfl
      · rw [if_pos rfl] at s1; rw [if_neg (by omega)] at s2 s3 s4; omega
      · rw [if_pos rfl] at s2; rw [if_neg (by omega)] at s1 s3 s4; omega
      · rw [if_pos rfl] at s3; rw [if_neg (by omega)] at s1 s2 s4; omega
      · rw [if_pos rfl] at s4; rw [if_neg (by omega)] at s1 s2 s3; omega
    · have e2 : cTo L zs f (k + 1) = cTo L zs f k := if_neg h
      rw [dTo_skip h, dTo_skip h, dTo_skip h, dTo_skip h]
      omega
theorem dTo_le {L : List (List Int)} {zs : List Int} {f : Nat → Nat} {k l b : Nat} (h : l ≤ zs.length → f l ≤ b) : dTo L zs f k l ≤ if l ≤ zs.length then b else 0 := by
  unfold dTo
  split
  · rename_i hx
    obtain ⟨j, _, h2, h3⟩ := hx
    have := begins_len h2
    rw [if_pos (by omega)]
    exact h (by omega)
  · exact Nat.zero_le _
theorem cnt_le {L : List (List Int)} (hv : ValidCd L) : ∀ (n : Nat) (zs : List Int), zs.length ≤ n → cnt L zs ≤ 2 ^ zs.length := by
  intro n
  induction n with
  | zero =>
    intro zs h
    obtain rfl : zs = [] := List.length_eq_zero_iff.1 (by omega)
    exact Nat.le_refl _
  | succ n ih =>
    intro zs h
    by_cases h0 : zs = []
    · subst h0; exact Nat.le_refl _
    have hl : 1 ≤ zs.length := by
      cases zs with
      | nil => exact absurd rfl h0
      | cons => simp
    rw [cnt_cons hv h0, cTo_four hv zs _ L.length (Nat.le_refl _)]
    have key : ∀ l, 1 ≤ l → dTo L zs (fun l => cnt L (zs.drop l)) L.length l ≤ if l ≤ zs.length then 2 ^ (zs.length - l) else 0 := by
      intro l h1
      refine dTo_le fun h2 => ?_
      have := ih (zs.drop l) (by rw [List.length_drop]; omega)
      rw [List.length_drop] at this
      exact this
    have k1 := key 1 (by omega)
    have k2 := key 2 (by omega)
    have k3 := key 3 (by omega)
    have k4 := key 4 (by omega)
    generalize dTo L zs (fun l => cnt L (zs.drop l)) L.length 1 = x1 at *
    generalize dTo L zs (fun l => cnt L (zs.drop l)) L.length 2 = x2 at *
    generalize dTo L zs (fun l => cnt L (zs.drop l)) L.length 3 = x3 at *
    generalize dTo L zs (fun l => cnt L (zs.drop l)) L.length 4 = x4 at *
    generalize zs.length = m at *
    rcases (by omega : m = 1 ∨ m = 2 ∨ m = 3 ∨ 4 ≤ m) with rfl | rfl | rfl | h4
    · simp at *; omega
    · simp at *; omega
    · simp at *; omega
    · obtain ⟨q, rfl⟩ : ∃ q, m = q + 4 := ⟨m - 4, by omega⟩
      rw [if_pos (by omega)] at k1 k2 k3 k4
      have e1 : 2 ^ (q + 4) = 16 * 2 ^ q := by rw [Nat.pow_add]; omega
      have e2 : 2 ^ (q + 4 - 1) = 8 * 2 ^ q := by rw [show q + 4 - 1 = q + 3 from by omega, Nat.pow_add]; omega
      have e3 : 2 ^ (q + 4 - 2) = 4 * 2 ^ q := by rw [show q + 4 - 2 = q + 2 from by omega, Nat.pow_add]; omega
      have e4 : 2 ^ (q + 4 - 3) = 2 * 2 ^ q := by rw [show q + 4 - 3 = q + 1 from by omega, Nat.pow_add]; omega
      have e5 : 2 ^ (q + 4 - 4) = 2 ^ q := by rw [show q + 4 - 4 = q from by omega]
      omega
theorem cnt_24 {L : List (List Int)} (hv : ValidCd L) {zs : List Int} (h : zs.length ≤ 24) : cnt L zs ≤ 16777216 := by
  have h1 := cnt_le hv zs.length zs (Nat.le_refl _)
  have h2 : 2 ^ zs.length ≤ 2 ^ 24 := Nat.pow_le_pow_right (by omega) h
  have h3 : (2 : Nat) ^ 24 = 16777216 := by decide
  omega
/-- the first k words count no more than all -/
theorem cTo_mono {L : List (List Int)} {zs : List Int} {f : Nat → Nat} {k n : Nat} (h : k ≤ n) : cTo L zs f k ≤ cTo L zs f n := by
  induction n with
  | zero => obtain rfl : k = 0 := by omega
            exact Nat.le_refl _
  | succ n ih =>
    by_cases e : k = n + 1
    · subst e; exact Nat.le_refl _
    · have := ih (by omega)
      by_cases h : zs.take (L.getD n []).length = L.getD n []
      · have e2 : cTo L zs f (n + 1) = cTo L zs f n + f (L.getD n []).length := if_pos h
        omega
      · have e2 : cTo L zs f (n + 1) = cTo L zs f n := if_neg h
        omega
theorem wayTo_cTo {L : List (List Int)} {ys : List Int} {A : List Int} {f : Nat → Nat} : ∀ k, (∀ j, j < k → ys.take (L.getD j []).length = L.getD j [] → A.getD ((L.getD j []).length - 1) 0 = f (L.getD j []).length) → cTo L ys f k ≤ 16777216 → wayTo L ys A k = (cTo L ys f k : Nat) := by
  intro k
  induction k with
  | zero => intro _ _; rfl
  | succ k ih =>
    intro h hb
    have hm : cTo L ys f k ≤ cTo L ys f (k + 1) := cTo_mono (by omega)
    have hi := ih (fun j hj => h j (by omega)) (by omega)
    by_cases hp : ys.take (L.getD k []).length = L.getD k []
    · have e1 : wayTo L ys A (k + 1) = IntKind.i64.wrap (wayTo L ys A k + A.getD ((L.getD k []).length - 1) 0) := if_pos hp
      have e2 : cTo L ys f (k + 1) = cTo L ys f k + f (L.getD k []).length := if_pos hp
      rw [e2] at hb
      rw [e1, e2, hi, h k (by omega) hp, IntWalk.i64_in _ (by omega)]
      omega
    · have e1 : wayTo L ys A (k + 1) = wayTo L ys A k := if_neg hp
      have e2 : cTo L ys f (k + 1) = cTo L ys f k := if_neg hp
      rw [e1, e2, hi]
theorem map_getD (A : List Nat) (i : Nat) : (A.map fun n : Nat => (n : Int)).getD i 0 = ((A.getD i 0 : Nat) : Int) := by
  rw [List.getD_eq_getElem?_getD, List.getD_eq_getElem?_getD, List.getElem?_map]
  cases h : A[i]? with
  | none => rfl
  | some x => rfl
theorem ways_cw {L : List (List Int)} (hv : ValidCd L) : ∀ zs : List Int, zs.length ≤ 24 → ways L zs = (cw L zs).map fun n : Nat => (n : Int) := by
  intro zs
  induction zs with
  | nil => intro _; rfl
  | cons z ys ih =>
    intro h
    have hy := ih (by simp at h; omega)
    show wayTo L (z :: ys) (ways L ys) L.length :: ways L ys = ((cTo L (z :: ys) (fun l => (cw L ys).getD (l - 1) 0) L.length : Nat) : Int) :: (cw L ys).map _
    have hb : cTo L (z :: ys) (fun l => (cw L ys).getD (l - 1) 0) L.length ≤ 16777216 := cnt_24 hv h
    rw [← hy, wayTo_cTo (f := fun l => (cw L ys).getD (l - 1) 0) L.length (fun j hj hp => ?_) hb]
    rw [hy]
    exact map_getD _ _
theorem fc_cnt {L : List (List Int)} (hv : ValidCd L) {zs : List Int} (h : zs.length ≤ 24) : fc L zs = (cnt L zs : Nat) := by
  unfold fc cnt
  rw [ways_cw hv zs h]
  exact map_getD _ _

/-- a word at the beginning, and a way for what follows -/
theorem cnt_pos_of {L : List (List Int)} (hv : ValidCd L) {k : Nat} (hk : k < L.length) {ys : List Int} (h : 1 ≤ cnt L ys) : 1 ≤ cnt L (L.getD k [] ++ ys) := by
  have h1 := (hv.2.1 k hk).1.1
  have hne : L.getD k [] ++ ys ≠ [] := by
    intro e
    have h2 := congrArg List.length e
    rw [List.length_append, List.length_nil] at h2
    omega
  rw [cnt_cons hv hne]
  have hp : (L.getD k [] ++ ys).take (L.getD k []).length = L.getD k [] := by simp
  have e2 : cTo L (L.getD k [] ++ ys) (fun l => cnt L ((L.getD k [] ++ ys).drop l)) (k + 1) = cTo L (L.getD k [] ++ ys) (fun l => cnt L ((L.getD k [] ++ ys).drop l)) k + cnt L ((L.getD k [] ++ ys).drop (L.getD k []).length) := if_pos hp
  have hm := cTo_mono (L := L) (zs := L.getD k [] ++ ys) (f := fun l => cnt L ((L.getD k [] ++ ys).drop l)) (show k + 1 ≤ L.length by omega)
  have e3 : (L.getD k [] ++ ys).drop (L.getD k []).length = ys := by simp
  rw [e3] at e2
  omega
/-- some word begins the cells, with a way for what follows -/
theorem cTo_pos {L : List (List Int)} {zs : List Int} {f : Nat → Nat} : ∀ k, 1 ≤ cTo L zs f k → ∃ j, j < k ∧ zs.take (L.getD j []).length = L.getD j [] ∧ 1 ≤ f (L.getD j []).length := by
  intro k
  induction k with
  | zero => intro h; exact absurd h (by simp [cTo])
  | succ k ih =>
    intro h
    by_cases hp : zs.take (L.getD k []).length = L.getD k []
    · have e2 : cTo L zs f (k + 1) = cTo L zs f k + f (L.getD k []).length := if_pos hp
      by_cases h0 : 1 ≤ f (L.getD k []).length
      · exact ⟨k, by omega, hp, h0⟩
      · obtain ⟨j, h1, h2⟩ := ih (by omega)
        exact ⟨j, by omega, h2⟩
    · have e2 : cTo L zs f (k + 1) = cTo L zs f k := if_neg hp
      obtain ⟨j, h1, h2⟩ := ih (by omega)
      exact ⟨j, by omega, h2⟩
/-- cells that are code words one after the other -/
inductive Rd (L : List (List Int)) : List Int → Prop
  | nil : Rd L []
  | word {k : Nat} {ys : List Int} (hk : k < L.length) (h : Rd L ys) : Rd L (L.getD k [] ++ ys)
theorem rd_of_cnt {L : List (List Int)} (hv : ValidCd L) : ∀ (n : Nat) (zs : List Int), zs.length ≤ n → 1 ≤ cnt L zs → Rd L zs := by
  intro n
  induction n with
  | zero =>
    intro zs h _
    obtain rfl : zs = [] := List.length_eq_zero_iff.1 (by omega)
    exact .nil
  | succ n ih =>
    intro zs h hc
    by_cases h0 : zs = []
    · subst h0; exact .nil
    rw [cnt_cons hv h0] at hc
    obtain ⟨j, h1, h2, h3⟩ := cTo_pos _ hc
    have h4 := (hv.2.1 j h1).1.1
    have h5 := begins_len h2
    have h6 := ih (zs.drop (L.getD j []).length) (by rw [List.length_drop]; omega) h3
    have e : zs = L.getD j [] ++ zs.drop (L.getD j []).length := by
      have := List.take_append_drop (L.getD j []).length zs
      rw [h2] at this
      exact this.symm
    rw [e]
    exact .word h1 h6
theorem cnt_of_rd {L : List (List Int)} (hv : ValidCd L) {zs : List Int} (h : Rd L zs) : 1 ≤ cnt L zs := by
  induction h with
  | nil => exact Nat.le_refl _
  | word hk _ ih => exact cnt_pos_of hv hk ih
end Go.Proofs.Ytdjgodemeaneeaa
