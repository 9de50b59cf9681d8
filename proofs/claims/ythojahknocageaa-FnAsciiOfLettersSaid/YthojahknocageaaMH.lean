/- Merged: Ha Hb Hc Hd He Hf. -/
import Derived.Test.YthojahknocageaaMG
import Derived.Test.YthojahknocageaaMA
import Derived.Test.YthojahknocageaaME
import Derived.Deep.RegionHeld3
import Derived.Laws.Rows
import Derived.Deep.QuietTactic
import Derived.BigQuiet

/- The fewest cells of a word: the plain lists. -/
namespace Go.Proofs.Ythojahknocageaa
open Go.RowKit

def czR (T : List PRule) (r : Int) : Nat := (T.getD r.toNat noR).c.length
/-- the cells from the place k on, if the rule r is used there, one letter for -1 -/
def costR (T : List PRule) (k : Nat) (A : Nat → Int) (r : Int) : Int := if r = -1 then 1 + A (k + 1) else (czR T r : Int) + A (k + szR T r)
def Applies (T : List PRule) (s : ByteArray) (k j : Nat) : Prop := j < T.length ∧ App (T.getD j noR) s (k : Int)
theorem mem_rulesTo {T : List PRule} {s : ByteArray} {a : Int} : ∀ (n : Nat) {z : Int}, z ∈ rulesTo T s a n ↔ ∃ j : Nat, j < n ∧ z = j ∧ App (T.getD j noR) s a := by
  intro n
  induction n with
  | zero => intro z; simp [rulesTo]
  | succ n ih =>
    intro z
    show z ∈ rulesTo T s a n ++ _ ↔ _
    rw [List.mem_append, ih]
    constructor
    · rintro (⟨j, h1, h2, h3⟩ | h)
      · exact ⟨j, by omega, h2, h3⟩
      · split at h
        · next hA => simp at h; exact ⟨n, by omega, h, hA⟩
        · simp at h
    · rintro ⟨j, h1, h2, h3⟩
      by_cases e : j = n
      · subst e
        right
        rw [if_pos h3, h2]; simp
      · exact .inl ⟨j, by omega, h2, h3⟩
theorem mem_rulesL {T : List PRule} {s : ByteArray} {k : Nat} {z : Int} : z ∈ rulesL T s k ↔ ∃ j : Nat, z = j ∧ Applies T s k j := by
  unfold rulesL
  rw [mem_rulesTo]
  exact ⟨fun ⟨j, h1, h2, h3⟩ => ⟨j, h2, h1, h3⟩, fun ⟨j, h2, h1, h3⟩ => ⟨j, h1, h2, h3⟩⟩
theorem Applies.size {T : List PRule} {s : ByteArray} {k j : Nat} (h : Applies T s k j) (hv : ValidTb T) : 1 ≤ szR T j ∧ szR T j ≤ 6 ∧ k + szR T j ≤ s.size := by
  have h3 := (hv.2.1 j h.1).1.1
  have h5 := (hv.2.1 j h.1).1.2.1
  rw [wd_size] at h3 h5
  have h4 := h.2.2.1
  have e : szR T (j : Int) = (T.getD j noR).t.size := by unfold szR; rw [Int.toNat_natCast]
  rw [e]
  omega
/-- m is the least number of cells from the place k on -/
def MinAt (T : List PRule) (s : ByteArray) (A : Nat → Int) (k : Nat) (m : Int) : Prop :=
  m ≤ 1 + A (k + 1) ∧ (∀ j, Applies T s k j → m ≤ costR T k A j) ∧ (m = 1 + A (k + 1) ∨ ∃ j : Nat, Applies T s k j ∧ m = costR T k A j)
theorem costR_congr {T : List PRule} {s : ByteArray} {A B : Nat → Int} {k j : Nat} (hv : ValidTb T) (h : Applies T s k j) (e : ∀ x, k < x → x ≤ s.size → A x = B x) : costR T k A j = costR T k B j := by
  have hs := h.size hv
  unfold costR
  rw [if_neg (by omega), if_neg (by omega), e _ (by omega) (by omega)]
theorem MinAt.congr {T : List PRule} {s : ByteArray} {A B : Nat → Int} {k : Nat} {m : Int} (hv : ValidTb T) (hk : k < s.size) (h : MinAt T s A k m) (e : ∀ x, k < x → x ≤ s.size → A x = B x) : MinAt T s B k m := by
  obtain ⟨h1, h2, h3⟩ := h
  refine ⟨by rw [← e _ (by omega) (by omega)]; exact h1, fun j hj => by rw [← costR_congr hv hj e]; exact h2 j hj, ?_⟩
  rcases h3 with h3 | ⟨j, hj, h3⟩
  · exact .inl (by rw [← e _ (by omega) (by omega)]; exact h3)
  · exact .inr ⟨j, hj, by rw [← costR_congr hv hj e]; exact h3⟩
theorem MinAt.same {T : List PRule} {s : ByteArray} {A : Nat → Int} {k : Nat} {m m' : Int} (h : MinAt T s A k m) (h' : MinAt T s A k m') : m = m' := by
  obtain ⟨h1, h2, h3⟩ := h
  obtain ⟨k1, k2, k3⟩ := h'
  have a : m ≤ m' := by
    rcases k3 with k3 | ⟨j, hj, k3⟩
    · omega
    · have := h2 j hj; omega
  have b : m' ≤ m := by
    rcases h3 with h3 | ⟨j, hj, h3⟩
    · omega
    · have := k2 j hj; omega
  omega
/-- A has the least numbers of cells from the place i on -/
def LeastUp (T : List PRule) (s : ByteArray) (A : Nat → Int) (i : Nat) : Prop := A s.size = 0 ∧ ∀ k, i ≤ k → k < s.size → MinAt T s A k (A k)
theorem LeastUp.same {T : List PRule} {s : ByteArray} {A B : Nat → Int} (hv : ValidTb T) (h : LeastUp T s A 0) (h' : LeastUp T s B 0) : ∀ d x, s.size - x = d → x ≤ s.size → A x = B x := by
  intro d
  induction d using Nat.strongRecOn with
  | _ d ih =>
    intro x hd hx
    by_cases e : x = s.size
    · subst e; rw [h.1, h'.1]
    · have h1 := (h.2 x (Nat.zero_le _) (by omega)).congr hv (by omega) (fun y y1 y2 => ih (s.size - y) (by omega) y rfl y2)
      exact h1.same (h'.2 x (Nat.zero_le _) (by omega))
/-- the rule r is used at the place k: the longest one of those that keep to the least number, the first of several; -1 for none -/
def BstA (T : List PRule) (s : ByteArray) (A : Nat → Int) (k : Nat) (r : Int) : Prop :=
  (r = -1 ∧ ∀ j : Nat, Applies T s k j → costR T k A j ≠ A k) ∨
  (∃ j : Nat, r = j ∧ Applies T s k j ∧ costR T k A j = A k ∧ ∀ i : Nat, Applies T s k i → costR T k A i = A k → szR T i < szR T j ∨ (szR T i = szR T j ∧ j ≤ i))
theorem BstA.same {T : List PRule} {s : ByteArray} {A : Nat → Int} {k : Nat} {r r' : Int} (h : BstA T s A k r) (h' : BstA T s A k r') : r = r' := by
  rcases h with ⟨rfl, h⟩ | ⟨j, rfl, hA, hc, h⟩
  · rcases h' with ⟨rfl, _⟩ | ⟨j', rfl, hA', hc', _⟩
    · rfl
    · exact absurd hc' (h j' hA')
  · rcases h' with ⟨rfl, h'⟩ | ⟨j', rfl, hA', hc', h'⟩
    · exact absurd hc (h' j hA)
    · have h1 := h j' hA' hc'
      have h2 := h' j hA hc
      have : j = j' := by omega
      rw [this]
theorem BstA.congr {T : List PRule} {s : ByteArray} {A B : Nat → Int} {k : Nat} {r : Int} (hv : ValidTb T) (hk : k < s.size) (h : BstA T s A k r) (e : ∀ x, x ≤ s.size → A x = B x) : BstA T s B k r := by
  have c : ∀ j : Nat, Applies T s k j → costR T k A j = costR T k B j := fun j hj => costR_congr hv hj fun x _ hx => e x hx
  have ek := e k (by omega)
  rcases h with ⟨rfl, h⟩ | ⟨j, rfl, hA, hc, h⟩
  · exact .inl ⟨rfl, fun j hj => by rw [← c j hj, ← ek]; exact h j hj⟩
  · exact .inr ⟨j, rfl, hA, by rw [← c j hA, ← ek]; exact hc, fun i hi h2 => h i hi (by rw [c i hi, ek]; exact h2)⟩
/-- the piece that is used goes on, and not beyond the word -/
theorem BstA.bd {T : List PRule} {s : ByteArray} {A : Nat → Int} {k : Nat} {r : Int} (hv : ValidTb T) (hk : k < s.size) (h : BstA T s A k r) : (r = -1 ∨ (0 ≤ r ∧ r < T.length)) ∧ (pcB T k r).f = k ∧ (k : Int) < (pcB T k r).t ∧ (pcB T k r).t ≤ s.size ∧ (pcB T k r).r = r := by
  unfold pcB
  rcases h with ⟨rfl, h⟩ | ⟨j, rfl, hA, hc, h⟩
  · rw [if_pos rfl]
    exact ⟨.inl rfl, rfl, by simp only; omega, by simp only; omega, rfl⟩
  · rw [if_neg (by omega)]
    have hs := hA.size hv
    have hj := hA.1
    exact ⟨.inr ⟨by omega, by omega⟩, rfl, by simp only; omega, by simp only; omega, rfl⟩
/-- the pieces from the place k on -/
inductive BestP (T : List PRule) (s : ByteArray) (A : Nat → Int) : Nat → List PPiece → Prop
  | done : BestP T s A s.size []
  | step {k : Nat} {r : Int} {R : List PPiece} : k < s.size → BstA T s A k r → BestP T s A (pcB T k r).t.toNat R → BestP T s A k (pcB T k r :: R)
theorem BestP.same {T : List PRule} {s : ByteArray} {A B : Nat → Int} (hv : ValidTb T) (e : ∀ x, x ≤ s.size → A x = B x) {k : Nat} {R : List PPiece} (h : BestP T s A k R) : ∀ {R' : List PPiece}, BestP T s B k R' → R = R' := by
  induction h with
  | done =>
    intro R' h'
    generalize hn : s.size = n at h'
    cases h' with
    | done => rfl
    | step hk _ _ => omega
  | @step k r R hk hb _ ih =>
    intro R' h'
    cases h' with
    | done => omega
    | step hk' hb' h2 =>
      obtain rfl := (hb.congr hv hk e).same hb'
      rw [ih h2]
theorem BestP.le {T : List PRule} {s : ByteArray} {A : Nat → Int} (hv : ValidTb T) {k : Nat} {R : List PPiece} (h : BestP T s A k R) : R.length + k ≤ s.size := by
  induction h with
  | done => simp
  | step hk hb _ ih =>
    have := hb.bd hv hk
    simp only [List.length_cons]
    omega
def BestPs (T : List PRule) (s : ByteArray) (P : List PPiece) : Prop := ∃ A, LeastUp T s A 0 ∧ BestP T s A 0 P
theorem BestPs.same {T : List PRule} {s : ByteArray} {P Q : List PPiece} (hv : ValidTb T) (h : BestPs T s P) (k : BestPs T s Q) : P = Q := by
  obtain ⟨A, h1, h2⟩ := h
  obtain ⟨B, k1, k2⟩ := k
  exact h2.same hv (fun x hx => h1.same hv k1 _ x rfl hx) k2
/-- pieces so far: whatever follows them -/
def PsUp (T : List PRule) (s : ByteArray) (A : Nat → Int) (P : List PPiece) (k : Nat) : Prop := ∀ R, BestP T s A k R → BestP T s A 0 (P ++ R)
theorem PsUp.zero (T : List PRule) (s : ByteArray) (A : Nat → Int) : PsUp T s A [] 0 := fun _ h => h
theorem PsUp.more {T : List PRule} {s : ByteArray} {A : Nat → Int} {P : List PPiece} {k : Nat} {r : Int} (h : PsUp T s A P k) (hk : k < s.size) (hb : BstA T s A k r) : PsUp T s A (P ++ [pcB T k r]) (pcB T k r).t.toNat := fun R hR => by
  rw [List.append_assoc]
  exact h _ (.step hk hb hR)
theorem PsUp.all {T : List PRule} {s : ByteArray} {A : Nat → Int} {P : List PPiece} (h : PsUp T s A P s.size) : BestP T s A 0 P := by
  have := h [] .done
  rwa [List.append_nil] at this
/-- the longest of some rules in ascending order, the first of several -/
theorem lgTo_max (T : List PRule) (L : List Int) (h0 : ∀ z ∈ L, 0 ≤ z) : ∀ k, k ≤ L.length → (k = 0 ∧ lgTo T L k = -1) ∨ (∃ i, i < k ∧ lgTo T L k = L.getD i 0 ∧ ∀ x, x < k → szR T (L.getD x 0) < szR T (L.getD i 0) ∨ (szR T (L.getD x 0) = szR T (L.getD i 0) ∧ i ≤ x)) := by
  intro k
  induction k with
  | zero => intro _; exact .inl ⟨rfl, rfl⟩
  | succ k ih =>
    intro hk
    right
    have hz : 0 ≤ L.getD k 0 := h0 _ (getD_mem (by omega))
    rcases ih (by omega) with ⟨rfl, h⟩ | ⟨i, hi, h, h2⟩
    · refine ⟨0, by omega, ?_, fun x hx => by rw [show x = 0 from by omega]; exact .inr ⟨rfl, Nat.le_refl _⟩⟩
      show (if _ then _ else _) = _
      rw [if_pos (.inl h)]
    · have hi0 : 0 ≤ L.getD i 0 := h0 _ (getD_mem (by omega))
      by_cases hc : szR T (L.getD i 0) < szR T (L.getD k 0)
      · refine ⟨k, by omega, ?_, fun x hx => ?_⟩
        · show (if _ then _ else _) = _
          rw [if_pos (.inr (by rw [h]; exact hc))]
        · by_cases e : x = k
          · subst e; exact .inr ⟨rfl, Nat.le_refl _⟩
          · rcases h2 x (by omega) with h3 | h3 <;> (left; omega)
      · refine ⟨i, by omega, ?_, fun x hx => ?_⟩
        · show (if _ then _ else _) = _
          rw [if_neg (by rw [h]; omega), h]
        · by_cases e : x = k
          · subst e
            by_cases e2 : szR T (L.getD x 0) = szR T (L.getD i 0)
            · exact .inr ⟨e2, by omega⟩
            · left; omega
          · exact h2 x (by omega)
theorem rulesTo_asc {T : List PRule} {s : ByteArray} {a : Int} : ∀ n, List.Pairwise (· < ·) (rulesTo T s a n) := by
  intro n
  induction n with
  | zero => exact List.Pairwise.nil
  | succ n ih =>
    show List.Pairwise _ (rulesTo T s a n ++ _)
    rw [List.pairwise_append]
    refine ⟨ih, ?_, fun x hx y hy => ?_⟩
    · split
      · exact List.pairwise_singleton _ _
      · exact List.Pairwise.nil
    · split at hy
      · simp at hy
        have := (mem_rulesTo n).1 hx
        obtain ⟨j, h1, h2, _⟩ := this
        omega
      · simp at hy
/-- the rules that keep to the least number -/
def keepL (T : List PRule) (k : Nat) (A : Nat → Int) (L : List Int) : List Int := L.filter fun r => decide (costR T k A r = A k)
theorem keepL_bst {T : List PRule} {s : ByteArray} {A : Nat → Int} {k : Nat} : BstA T s A k (lgTo T (keepL T k A (rulesL T s k)) (keepL T k A (rulesL T s k)).length) := by
  obtain ⟨L, hL⟩ : ∃ L, keepL T k A (rulesL T s k) = L := ⟨_, rfl⟩
  have hm : ∀ z, z ∈ L ↔ ∃ j : Nat, z = j ∧ Applies T s k j ∧ costR T k A j = A k := fun z => by
    rw [← hL]
    unfold keepL
    rw [List.mem_filter, mem_rulesL]
    constructor
    · rintro ⟨⟨j, h1, h2⟩, h3⟩
      subst h1
      exact ⟨j, rfl, h2, of_decide_eq_true h3⟩
    · rintro ⟨j, h1, h2, h3⟩
      subst h1
      exact ⟨⟨j, rfl, h2⟩, decide_eq_true h3⟩
  have hp : List.Pairwise (· < ·) L := by rw [← hL]; exact (rulesTo_asc T.length).filter _
  have h0 : ∀ z ∈ L, 0 ≤ z := fun z hz => by obtain ⟨j, h1, _⟩ := (hm z).1 hz; omega
  rw [hL]
  rcases lgTo_max T L h0 L.length (Nat.le_refl _) with ⟨h1, h2⟩ | ⟨i, hi, h1, h2⟩
  · refine .inl ⟨h2, fun j hj hc => ?_⟩
    have : L = [] := List.length_eq_zero_iff.1 h1
    have h3 := (hm j).2 ⟨j, rfl, hj, hc⟩
    rw [this] at h3
    simp at h3
  · obtain ⟨j, e, hA, hc⟩ := (hm _).1 (getD_mem hi : L.getD i 0 ∈ L)
    refine .inr ⟨j, by rw [h1, e], hA, hc, fun x hx hxc => ?_⟩
    obtain ⟨y, hy, ey⟩ := List.getElem_of_mem ((hm x).2 ⟨x, rfl, hx, hxc⟩)
    have e3 : L.getD y 0 = (x : Int) := by rw [List.getD_eq_getElem?_getD, List.getElem?_eq_getElem hy]; exact ey
    have h4 := h2 y hy
    rw [e3, e] at h4
    rcases h4 with h4 | ⟨h4, h5⟩
    · exact .inl h4
    · refine .inr ⟨h4, ?_⟩
      by_cases e4 : i = y
      · subst e4
        rw [e] at e3
        omega
      · have h6 := List.pairwise_iff_getElem.1 hp i y hi hy (by omega)
        have e5 : L[i] = (j : Int) := by
          have := e
          rw [List.getD_eq_getElem?_getD, List.getElem?_eq_getElem hi] at this
          exact this
        rw [e5, ey] at h6
        omega
end Go.Proofs.Ythojahknocageaa


/- The choices at a place: all of them. -/
namespace Go.Proofs.Ythojahknocageaa
open Go.RowKit

/-- the pieces of the first j rules that have m letters -/
def chM (T : List PRule) (s : ByteArray) (k m : Nat) : Nat → List PPiece
  | 0 => []
  | j + 1 => chM T s k m j ++ (if (T.getD j noR).t.size = m ∧ App (T.getD j noR) s (k : Int) then [⟨(j : Int), (k : Int), (k : Int) + (m : Int)⟩] else [])
/-- the pieces of rules of more than 6 - d letters -/
def chHi (T : List PRule) (s : ByteArray) (k : Nat) : Nat → List PPiece
  | 0 => []
  | d + 1 => chHi T s k d ++ chM T s k (6 - d) T.length
def chL (T : List PRule) (s : ByteArray) (k : Nat) : List PPiece := chHi T s k 6 ++ [⟨-1, (k : Int), (k : Int) + 1⟩]
theorem chM_yes {T : List PRule} {s : ByteArray} {k m j : Nat} (h : (T.getD j noR).t.size = m) (hA : App (T.getD j noR) s (k : Int)) : chM T s k m (j + 1) = chM T s k m j ++ [⟨(j : Int), (k : Int), (k : Int) + (m : Int)⟩] := by
  show _ ++ _ = _
  rw [if_pos ⟨h, hA⟩]
theorem chM_no {T : List PRule} {s : ByteArray} {k m j : Nat} (h : ¬ ((T.getD j noR).t.size = m ∧ App (T.getD j noR) s (k : Int))) : chM T s k m (j + 1) = chM T s k m j := by
  show _ ++ _ = _
  rw [if_neg h, List.append_nil]
theorem chM_len (T : List PRule) (s : ByteArray) (k m : Nat) : ∀ j, (chM T s k m j).length ≤ j := by
  intro j
  induction j with
  | zero => exact Nat.le_refl _
  | succ j ih =>
    show (chM T s k m j ++ (if _ then _ else _)).length ≤ _
    rw [List.length_append]
    split
    · simp; omega
    · simp; omega
theorem pc_rule {T : List PRule} {k m j : Nat} (h : (T.getD j noR).t.size = m) : (⟨(j : Int), (k : Int), (k : Int) + (m : Int)⟩ : PPiece) = pcB T k (j : Int) := by
  rw [pcB, if_neg (by omega), szR, Int.toNat_natCast, h]
theorem pc_letter (T : List PRule) (k : Nat) : (⟨-1, (k : Int), (k : Int) + 1⟩ : PPiece) = pcB T k (-1) := by rw [pcB, if_pos rfl]
theorem mem_chM {T : List PRule} {s : ByteArray} {k m : Nat} {p : PPiece} : ∀ j, p ∈ chM T s k m j ↔ ∃ i : Nat, i < j ∧ (T.getD i noR).t.size = m ∧ App (T.getD i noR) s (k : Int) ∧ p = pcB T k (i : Int) := by
  intro j
  induction j with
  | zero => simp [chM]
  | succ j ih =>
    show p ∈ _ ++ _ ↔ _
    rw [List.mem_append, ih]
    constructor
    · rintro (⟨i, h1, h2⟩ | h)
      · exact ⟨i, by omega, h2⟩
      · split at h
        · next hA =>
          simp at h
          exact ⟨j, by omega, hA.1, hA.2, by rw [h, pc_rule hA.1]⟩
        · simp at h
    · rintro ⟨i, h1, h2, h3, h4⟩
      by_cases e : i = j
      · subst e
        right
        rw [if_pos ⟨h2, h3⟩, h4, pc_rule h2]; simp
      · exact .inl ⟨i, by omega, h2, h3, h4⟩
theorem mem_chHi {T : List PRule} {s : ByteArray} {k : Nat} {p : PPiece} : ∀ d, d ≤ 6 → (p ∈ chHi T s k d ↔ ∃ i : Nat, Applies T s k i ∧ 6 - d < (T.getD i noR).t.size ∧ (T.getD i noR).t.size ≤ 6 ∧ p = pcB T k (i : Int)) := by
  intro d
  induction d with
  | zero => intro _; simp [chHi]; intro i _ h1 h2; omega
  | succ d ih =>
    intro hd
    show p ∈ _ ++ _ ↔ _
    rw [List.mem_append, ih (by omega), mem_chM]
    constructor
    · rintro (⟨i, h1, h2, h3, h4⟩ | ⟨i, h1, h2, h3, h4⟩)
      · exact ⟨i, h1, by omega, h3, h4⟩
      · exact ⟨i, ⟨h1, h3⟩, by omega, by omega, h4⟩
    · rintro ⟨i, h1, h2, h3, h4⟩
      by_cases e : (T.getD i noR).t.size = 6 - d
      · exact .inr ⟨i, h1.1, e, h1.2, h4⟩
      · exact .inl ⟨i, h1, by omega, h3, h4⟩
theorem mem_chL {T : List PRule} {s : ByteArray} {k : Nat} (hv : ValidTb T) {p : PPiece} : p ∈ chL T s k ↔ p = pcB T k (-1) ∨ ∃ i : Nat, Applies T s k i ∧ p = pcB T k (i : Int) := by
  unfold chL
  rw [List.mem_append, mem_chHi 6 (Nat.le_refl _), List.mem_singleton, pc_letter T k]
  constructor
  · rintro (⟨i, h1, _, _, h2⟩ | h)
    · exact .inr ⟨i, h1, h2⟩
    · exact .inl h
  · rintro (h | ⟨i, h1, h2⟩)
    · exact .inr h
    · have h3 := h1.size hv
      have e : szR T (i : Int) = (T.getD i noR).t.size := by unfold szR; rw [Int.toNat_natCast]
      rw [e] at h3
      exact .inl ⟨i, h1, by omega, by omega, h2⟩
/-- what a piece at the place k costs with what follows it -/
def pcost (T : List PRule) (s : ByteArray) (A : Nat → Int) (p : PPiece) : Int := ((pcC T s p).length : Int) + A p.t.toNat
theorem pcost_rule {T : List PRule} {s : ByteArray} {A : Nat → Int} {k j : Nat} : pcost T s A (pcB T k (j : Int)) = costR T k A j := by
  unfold pcost costR pcB pcC czR
  have hj : ¬ ((j : Int) = -1) := by omega
  rw [if_neg hj, if_neg hj]
  simp only
  rw [if_neg hj, show ((k : Int) + (szR T (j : Int) : Int)).toNat = k + szR T (j : Int) from by omega]
theorem pcost_letter {T : List PRule} {s : ByteArray} {A : Nat → Int} {k : Nat} : pcost T s A (pcB T k (-1)) = 1 + A (k + 1) := by
  unfold pcost pcB pcC
  rw [if_pos rfl]
  simp only [if_true]
  rw [show ((k : Int) + 1).toNat = k + 1 from by omega]
  simp
/-- the piece that is found first among some choices -/
def FQ (T : List PRule) (s : ByteArray) (A : Nat → Int) (k m j : Nat) (P : List PPiece) : Prop :=
  (P.find? (fun p => decide (pcost T s A p = A k)) = none ∧ ∀ i : Nat, Applies T s k i → costR T k A i = A k → szR T i < m ∨ (szR T i = m ∧ j ≤ i)) ∨
  (∃ r, P.find? (fun p => decide (pcost T s A p = A k)) = some (pcB T k r) ∧ BstA T s A k r)
theorem szR_nat (T : List PRule) (j : Nat) : szR T (j : Int) = (T.getD j noR).t.size := by unfold szR; rw [Int.toNat_natCast]
theorem FQ.stepM {T : List PRule} {s : ByteArray} {A : Nat → Int} {k m : Nat} {Q : List PPiece} (h : FQ T s A k m 0 Q) : ∀ j, j ≤ T.length → FQ T s A k m j (Q ++ chM T s k m j) := by
  intro j
  induction j with
  | zero => intro _; show FQ T s A k m 0 (Q ++ []); rw [List.append_nil]; exact h
  | succ j ih =>
    intro hj
    have h1 := ih (by omega)
    by_cases hA : (T.getD j noR).t.size = m ∧ App (T.getD j noR) s (k : Int)
    · have hap : Applies T s k j := ⟨by omega, hA.2⟩
      rw [chM_yes hA.1 hA.2, ← List.append_assoc, pc_rule hA.1]
      rcases h1 with ⟨h1, h2⟩ | ⟨r, h1, h2⟩
      · by_cases hc : costR T k A j = A k
        · right
          refine ⟨(j : Int), ?_, .inr ⟨j, rfl, hap, hc, fun i hi hic => ?_⟩⟩
          · rw [List.find?_append, h1, Option.none_or, List.find?_cons_of_pos (by rw [pcost_rule]; exact decide_eq_true hc)]
          · have := h2 i hi hic
            rw [szR_nat T j, hA.1]
            exact this
        · left
          refine ⟨?_, fun i hi hic => ?_⟩
          · rw [List.find?_append, h1, Option.none_or, List.find?_cons_of_neg (by rw [pcost_rule]; simpa using hc)]; rfl
          · rcases h2 i hi hic with h3 | ⟨h3, h4⟩
            · exact .inl h3
            · refine .inr ⟨h3, ?_⟩
              by_cases e : i = j
              · subst e; exact absurd hic hc
              · omega
      · exact .inr ⟨r, by rw [List.find?_append, h1]; rfl, h2⟩
    · rw [chM_no hA]
      rcases h1 with ⟨h1, h2⟩ | h1
      · refine .inl ⟨h1, fun i hi hic => ?_⟩
        rcases h2 i hi hic with h3 | ⟨h3, h4⟩
        · exact .inl h3
        · refine .inr ⟨h3, ?_⟩
          by_cases e : i = j
          · subst e
            rw [szR_nat] at h3
            exact absurd ⟨h3, hi.2⟩ hA
          · omega
      · exact .inr h1
theorem FQ.down {T : List PRule} {s : ByteArray} {A : Nat → Int} {k m : Nat} {Q : List PPiece} (h : FQ T s A k m T.length Q) (hm : 0 < m) : FQ T s A k (m - 1) 0 Q := by
  rcases h with ⟨h1, h2⟩ | h1
  · refine .inl ⟨h1, fun i hi hic => ?_⟩
    have hl := hi.1
    rcases h2 i hi hic with h3 | ⟨h3, h4⟩ <;> omega
  · exact .inr h1
theorem FQ.stepHi {T : List PRule} {s : ByteArray} {A : Nat → Int} {k : Nat} (hv : ValidTb T) : ∀ d, d ≤ 6 → FQ T s A k (6 - d) 0 (chHi T s k d) := by
  intro d
  induction d with
  | zero =>
    intro _
    refine .inl ⟨rfl, fun i hi _ => ?_⟩
    have := hi.size hv
    omega
  | succ d ih =>
    intro hd
    have h1 := (ih (by omega)).stepM T.length (Nat.le_refl _)
    have h2 := h1.down (by omega)
    rw [show 6 - d - 1 = 6 - (d + 1) from by omega] at h2
    exact h2
/-- the first choice that keeps to the least number is the one that is used -/
theorem chL_find {T : List PRule} {s : ByteArray} {A : Nat → Int} {k : Nat} (hv : ValidTb T) (hm : MinAt T s A k (A k)) : ∃ r, (chL T s k).find? (fun p => decide (pcost T s A p = A k)) = some (pcB T k r) ∧ BstA T s A k r := by
  unfold chL
  rcases FQ.stepHi (s := s) (A := A) (k := k) hv 6 (Nat.le_refl _) with ⟨h1, h2⟩ | ⟨r, h1, h2⟩
  · have hno : ∀ j : Nat, Applies T s k j → costR T k A j ≠ A k := fun j hj hc => by
      have h3 := h2 j hj hc
      have h4 := hj.size hv
      omega
    have hc : 1 + A (k + 1) = A k := by
      rcases hm.2.2 with h3 | ⟨j, hj, h3⟩
      · omega
      · exact absurd h3.symm (hno j hj)
    refine ⟨-1, ?_, .inl ⟨rfl, hno⟩⟩
    rw [List.find?_append, h1, Option.none_or, pc_letter T k, List.find?_cons_of_pos (by rw [pcost_letter]; exact decide_eq_true hc)]
  · exact ⟨r, by rw [List.find?_append, h1]; rfl, h2⟩
/-- the least cost of the first i choices -/
def LowTo (T : List PRule) (s : ByteArray) (A : Nat → Int) (P : List PPiece) (i : Nat) (m : Int) : Prop := (∃ x, x < i ∧ pcost T s A (P.getD x noP) = m) ∧ ∀ x, x < i → m ≤ pcost T s A (P.getD x noP)
theorem LowTo.all {T : List PRule} {s : ByteArray} {A : Nat → Int} {k : Nat} {m : Int} (hv : ValidTb T) (h : LowTo T s A (chL T s k) (chL T s k).length m) : MinAt T s A k m := by
  obtain ⟨⟨x, h1, h2⟩, h3⟩ := h
  have mem : ∀ x, x < (chL T s k).length → (chL T s k).getD x noP ∈ chL T s k := fun x hx => by
    rw [List.getD_eq_getElem?_getD, List.getElem?_eq_getElem hx, Option.getD_some]; exact List.getElem_mem _
  have at' : ∀ p, p ∈ chL T s k → m ≤ pcost T s A p := fun p hp => by
    obtain ⟨y, hy, e⟩ := List.getElem_of_mem hp
    have h4 := h3 y hy
    rw [List.getD_eq_getElem?_getD, List.getElem?_eq_getElem hy, Option.getD_some, e] at h4
    exact h4
  refine ⟨?_, fun j hj => ?_, ?_⟩
  · have := at' _ ((mem_chL hv).2 (.inl rfl))
    rwa [pcost_letter] at this
  · have := at' _ ((mem_chL hv).2 (.inr ⟨j, hj, rfl⟩))
    rwa [pcost_rule] at this
  · rcases (mem_chL hv).1 (mem x h1) with h4 | ⟨j, hj, h4⟩
    · rw [h4, pcost_letter] at h2
      exact .inl h2.symm
    · rw [h4, pcost_rule] at h2
      exact .inr ⟨j, hj, h2.symm⟩
end Go.Proofs.Ythojahknocageaa


/- The choices at a place: the model makes all of them. -/
namespace Go.Proofs.Ythojahknocageaa
open Go.RowKit

theorem chHi_len {T : List PRule} (hv : ValidTb T) (s : ByteArray) (k : Nat) : ∀ d, (chHi T s k d).length ≤ 16 * d := by
  intro d
  induction d with
  | zero => simp [chHi]
  | succ d ih =>
    show (chHi T s k d ++ chM T s k (6 - d) T.length).length ≤ _
    rw [List.length_append]
    have h1 := chM_len T s k (6 - d) T.length
    have h2 : T.length ≤ 16 := hv.1
    omega
theorem chL_len {T : List PRule} (hv : ValidTb T) (s : ByteArray) (k : Nat) : 1 ≤ (chL T s k).length ∧ (chL T s k).length ≤ 97 := by
  unfold chL
  rw [List.length_append, List.length_singleton]
  have := chHi_len hv s k 6
  omega
theorem chHi_down {T : List PRule} {s : ByteArray} {k m : Nat} (h0 : 0 < m) (h6 : m ≤ 6) : chHi T s k (6 - m) ++ chM T s k m T.length = chHi T s k (6 - (m - 1)) := by
  rw [show 6 - (m - 1) = (6 - m) + 1 from by omega]
  show _ = chHi T s k (6 - m) ++ chM T s k (6 - (6 - m)) T.length
  rw [show 6 - (6 - m) = m from by omega]
theorem chL_ok {T : List PRule} {s : ByteArray} {k : Nat} (hv : ValidTb T) (hk : k < s.size) {p : PPiece} (h : p ∈ chL T s k) : PcOk T s p ∧ p.f = k ∧ (k : Int) < p.t ∧ p.t ≤ s.size := by
  rcases (mem_chL hv).1 h with rfl | ⟨i, hi, rfl⟩
  · unfold pcB PcOk
    rw [if_pos rfl]
    simp only
    exact ⟨⟨by omega, by omega, .inl ⟨trivial, trivial⟩⟩, trivial, by omega, by omega⟩
  · have hs := hi.size hv
    have h1 := hi.1
    unfold pcB PcOk
    rw [if_neg (by omega)]
    simp only
    refine ⟨⟨by omega, by omega, .inr ⟨by omega, by omega, ?_, ?_⟩⟩, trivial, by omega, by omega⟩
    · rw [Int.toNat_natCast]; exact hi.2
    · rw [Int.toNat_natCast, szR_nat]
set_option maxHeartbeats 4000000 in
theorem s_choices (w : World) (g n c : Nat) (T : List PRule) (s : ByteArray) (k : Nat) (hx : TableAt w (.slice (some ⟨g, 0, none⟩) n c) T) (hn : T.length = n) (hv : Hid (ValidTb T)) (hk : k ≤ 100) :
    Calls Try.prog 71 #[.slice (some ⟨g, 0, none⟩) n c, .string s, .int .i64 k] w fun e w' => ∃ v, e = .returned v ∧ OwnPc w' w.heap.size v (chL T s k) ∧ Below w.heap.size w w' := by
  have hn16 : n ≤ 16 := by have := hv.out.1; omega
  have HN := Lib.hid hn
  have HX := keptH hx
  have hO0 := OwnPc.made w w.heap.size (Nat.le_refl _)
  have hB0 : Below w.heap.size w (w.alloc (.cells #[] 67)) := (Below.refl _ _).alloc (Nat.le_refl _) _
  have HO0 := keptH hO0
  have HB0 := keptH hB0
  have HP00 : Hid (([] : List PPiece) = chHi T s k (6 - 6)) := rfl
  clear hx hn hO0 hB0
  go_enter Try.func71, Try.ntmps71
  go_wp2
  go_loopw [7, 8] (fun o m wr => ∃ (m' : Nat) (P : List PPiece), m' ≤ 6 ∧ m = .int .i64 m' ∧ OwnPc wr w.heap.size o P ∧ P.length + m' * 16 ≤ 96 ∧ Hid (P = chHi T s k (6 - m')) ∧ Below w.heap.size w wr) (fun _ m _ => (intOf m).toNat)
  case atStart => exact ⟨6, [], by omega, rfl, HO0.out, by simp, HP00, HB0.out⟩
  case round =>
    clear HP00
    obtain ⟨m, P, hm, rfl, hO, hPl, hPc, hb⟩ := hrel
    have hsz := hb.size
    by_cases hm0 : 0 < m
    · have HP0 := keptH hPc
      have bm : (0 : Int) < (m : Int) := by omega
      have um : IntKind.i64.wrap ((m : Int) - 1) = (m : Int) - 1 := IntWalk.i64_in _ (by omega)
      have HPI : Hid (P = chHi T s k (6 - m) ++ chM T s k m 0) := by show _ = _; rw [chM, List.append_nil]; exact hPc.out
      go_wp2_with fail
      go_loopw [7, 9] (fun o i w2 => ∃ (j : Nat) (P' : List PPiece), j ≤ n ∧ i = .int .i64 j ∧ OwnPc w2 w.heap.size o P' ∧ P'.length ≤ P.length + j ∧ Hid (P' = chHi T s k (6 - m) ++ chM T s k m j) ∧ Below w.heap.size w w2) (fun _ i _ => n - (intOf i).toNat)
      case atStart => exact ⟨0, P, by omega, rfl, hO, by omega, HPI, hb⟩
      case round =>
        clear hO hb hPc HP0 HPI
        obtain ⟨j, P', hj, rfl, hO, hPl', hPc, hb⟩ := hrel
        have hsz2 := hb.size
        by_cases hlt : j < n
        · have hru := (HX.out.below hb).ruleAt HN.out hlt
          have hvr := hv.out.2.1 j (by rw [HN.out]; exact hlt)
          obtain ⟨r, hr⟩ : ∃ r, T.getD j noR = r := ⟨_, rfl⟩
          rw [hr] at hru hvr
          have HRE := Lib.hid hr
          clear hr
          obtain ⟨t, ys, q⟩ := r
          obtain ⟨c0, ⟨u, c1, hu⟩, c2⟩ := hru
          have HU : Hid (IntsAt _ u ys) := hu
          obtain ⟨au, cu, rfl, _⟩ := hu
          simp only at c0 c1 c2
          have HVR := Lib.hid hvr
          clear hvr
          have HPc := keptH hPc
          have HB := keptH hb
          have HO := keptH hO
          clear hPc hb hO
          have b1 : (0 : Int) ≤ (j : Int) := by omega
          have b2 : (j : Int) < (n : Int) := by omega
          by_cases hts : t.size = m
          · have d1 : ((t.size : Int) == (m : Int)) = true := by simp; omega
            obtain ⟨b, hb⟩ : ∃ b, decide (App ⟨t, ys, q⟩ s (k : Int)) = b := ⟨_, rfl⟩
            have HBB := Lib.hid hb
            clear hb
            go_wp2_with fail
            refine (s_applies_v _ _ t ys q s k b HU.out HVR (by omega) HBB).mono ?_
            rintro e w2 ⟨rfl, hb2⟩
            have hO2 := HO.out.below hb2
            have hB2 := HB.out.trans (hb2.mono hsz2)
            have hs2 := hB2.size
            clear hb2 c0 c1 c2
            cases b with
            | true =>
              have u2 : IntKind.i64.wrap ((k : Int) + (m : Int)) = (k : Int) + (m : Int) := IntWalk.i64_in _ (by omega)
              have hA2 := pieceAt_alloc w2 ⟨(j : Int), (k : Int), (k : Int) + (m : Int)⟩
              have hO2a := hO2.below (Below.alloc (Below.refl _ _) (Nat.le_refl _) (.cells #[.int .i64 (j : Int), .int .i64 (k : Int), .int .i64 ((k : Int) + (m : Int))] 67))
              go_wp2_with (at_builtin; go_loud (refine wpList_append_piece rfl _ _ rfl w.heap.size w2.heap.size ⟨(j : Int), (k : Int), (k : Int) + (m : Int)⟩ rfl rfl hO2a hA2 (by omega) (by simp; omega) ?_))
              intro v3 w3 hO3 hg3
              have hB3 := grown_pc hB2 hs2 hO2 hg3
              have HB3 := keptH hB3
              have HO3 := keptH hO3
              have HP3 : Hid (P' ++ [⟨(j : Int), (k : Int), (k : Int) + (m : Int)⟩] = chHi T s k (6 - m) ++ chM T s k m (j + 1)) := by
                show _ = _
                rw [HPc.out.out, chM_yes (by rw [HRE.out]; exact hts) (by rw [HRE.out]; exact of_decide_eq_true HBB.out), List.append_assoc]
              have hl3 : (P' ++ [(⟨(j : Int), (k : Int), (k : Int) + (m : Int)⟩ : PPiece)]).length ≤ P.length + (j + 1) := by simp; omega
              clear hO2 hB2 hA2 hO2a hO3 hB3 hg3
              go_wp2
              go_roundw
              case rel => exact ⟨j + 1, _, by omega, by go_num, HO3.out, hl3, HP3, HB3.out⟩
              case measure => simp [intOf]; omega
            | false =>
              have HB3 := keptH hB2
              have HO3 := keptH hO2
              have HP3 : Hid (P' = chHi T s k (6 - m) ++ chM T s k m (j + 1)) := by
                show _ = _
                rw [HPc.out.out, chM_no (fun h => by rw [HRE.out] at h; exact absurd h.2 (of_decide_eq_false HBB.out))]
              clear hO2 hB2
              go_wp2
              go_roundw
              case rel => exact ⟨j + 1, P', by omega, by go_num, HO3.out, by omega, HP3, HB3.out⟩
              case measure => simp [intOf]; omega
          · have d1 : ((t.size : Int) == (m : Int)) = false := by simp; omega
            have HP3 : Hid (P' = chHi T s k (6 - m) ++ chM T s k m (j + 1)) := by
              show _ = _
              rw [HPc.out.out, chM_no (fun h => by rw [HRE.out] at h; exact hts h.1)]
            go_wp2
            go_roundw
            case rel => exact ⟨j + 1, P', by omega, by go_num, HO.out, by omega, HP3, HB.out⟩
            case measure => simp [intOf]; omega
        · have HB3 := keptH hb
          have HO3 := keptH hO
          have HP3 : Hid (P' = chHi T s k (6 - (m - 1))) := by
            show _ = _
            rw [← chHi_down hm0 hm, HN.out, show n = j from by omega]; exact hPc.out
          clear hb hO
          go_wp2
          go_roundw
          case rel => exact ⟨m - 1, P', by omega, by go_num, HO3.out, by omega, HP3, HB3.out⟩
          case measure => simp [intOf]; omega
    · obtain rfl : m = 0 := by omega
      have hl : P.length ≤ 96 := by omega
      have HB2 := keptH hb
      have HA2 := keptH (pieceAt_alloc wr ⟨-1, (k : Int), (k : Int) + 1⟩)
      have hO2a := hO.below (Below.alloc (Below.refl _ _) (Nat.le_refl _) (.cells #[.int .i64 (-1), .int .i64 (k : Int), .int .i64 ((k : Int) + 1)] 67))
      have HO2 := keptH hO
      have HPL : Hid (P ++ [⟨-1, (k : Int), (k : Int) + 1⟩] = chL T s k) := by show _ = _; rw [hPc.out]; rfl
      clear hb hO hPc hPl hm hm0
      go_wp2_with (at_builtin; go_loud (refine wpList_append_piece rfl _ _ rfl w.heap.size wr.heap.size ⟨-1, (k : Int), (k : Int) + 1⟩ rfl rfl hO2a HA2.out (by omega) (by simp; omega) ?_))
      intro v3 w3 hO3 hg3
      have hB3 := grown_pc HB2.out hsz HO2.out hg3
      have HB3 := keptH hB3
      rw [HPL.out] at hO3
      have HO3 := keptH hO3
      clear hO3 hB3 hg3 hO2a
      go_wp2
      go_ret
      exact ⟨_, rfl, HO3.out, HB3.out⟩
end Go.Proofs.Ythojahknocageaa


/- The fewest cells from each place on, in the model. -/
namespace Go.Proofs.Ythojahknocageaa
open Go.RowKit

def arrF (zs : List Int) : Nat → Int := fun x => zs.getD x 0
def SmF (zs : List Int) (N : Nat) : Prop := ∀ j, 0 ≤ zs.getD j 0 ∧ zs.getD j 0 ≤ (N - j : Nat)
theorem replD (q j : Nat) : (List.replicate q (0 : Int)).getD j 0 = 0 := by
  rw [List.getD_eq_getElem?_getD]
  by_cases h : j < q
  · rw [List.getElem?_replicate, if_pos h]; rfl
  · rw [List.getElem?_eq_none (by simp; omega)]; rfl
theorem setD_ne {zs : List Int} {k j : Nat} {m : Int} (h : k ≠ j) : (zs.set k m).getD j 0 = zs.getD j 0 := by
  rw [List.getD_eq_getElem?_getD, List.getElem?_set_ne h, ← List.getD_eq_getElem?_getD]
theorem setD_eq {zs : List Int} {k : Nat} {m : Int} (h : k < zs.length) : (zs.set k m).getD k 0 = m := by
  rw [List.getD_eq_getElem?_getD, List.getElem?_set_self h]; rfl
theorem SmF.zero (N q : Nat) : SmF (List.replicate q 0) N := fun j => by rw [replD]; omega
theorem LeastUp.zero (T : List PRule) (s : ByteArray) (q : Nat) : LeastUp T s (arrF (List.replicate q 0)) s.size := ⟨replD q _, fun k h1 h2 => by omega⟩
theorem LowTo.one (T : List PRule) (s : ByteArray) (A : Nat → Int) (P : List PPiece) : LowTo T s A P 1 (pcost T s A (P.getD 0 noP)) :=
  ⟨⟨0, by omega, rfl⟩, fun x hx => by rw [show x = 0 from by omega]; exact Int.le_refl _⟩
theorem LowTo.less {T : List PRule} {s : ByteArray} {A : Nat → Int} {P : List PPiece} {i : Nat} {m : Int} (h : LowTo T s A P i m) (k : pcost T s A (P.getD i noP) < m) : LowTo T s A P (i + 1) (pcost T s A (P.getD i noP)) :=
  ⟨⟨i, by omega, rfl⟩, fun x hx => by
    by_cases e : x = i
    · subst e; exact Int.le_refl _
    · have := h.2 x (by omega); omega⟩
theorem LowTo.more {T : List PRule} {s : ByteArray} {A : Nat → Int} {P : List PPiece} {i : Nat} {m : Int} (h : LowTo T s A P i m) (k : ¬ pcost T s A (P.getD i noP) < m) : LowTo T s A P (i + 1) m := by
  obtain ⟨⟨d, d1, d2⟩, h2⟩ := h
  refine ⟨⟨d, by omega, d2⟩, fun x hx => ?_⟩
  by_cases e : x = i
  · subst e; omega
  · exact h2 x (by omega)
/-- what the array holds while the place k is worked on, before the choice i -/
def RowF (T : List PRule) (s : ByteArray) (zs arr : List Int) (k i : Nat) : Prop :=
  (i = 0 ∧ arr = zs) ∨ (1 ≤ i ∧ ∃ m, arr = zs.set k m ∧ LowTo T s (arrF zs) (chL T s k) i m ∧ 0 ≤ m ∧ m ≤ 40)
theorem RowF.behind {T : List PRule} {s : ByteArray} {zs arr : List Int} {k i j : Nat} (h : RowF T s zs arr k i) (hj : k < j) : arr.getD j 0 = zs.getD j 0 := by
  rcases h with ⟨_, rfl⟩ | ⟨_, m, rfl, _⟩
  · rfl
  · exact setD_ne (by omega)
theorem RowF.length {T : List PRule} {s : ByteArray} {zs arr : List Int} {k i : Nat} (h : RowF T s zs arr k i) : arr.length = zs.length := by
  rcases h with ⟨_, rfl⟩ | ⟨_, m, rfl, _⟩
  · rfl
  · rw [List.length_set]
theorem rowF_done {T : List PRule} {s : ByteArray} {zs arr : List Int} {k : Nat} (hv : ValidTb T) (hk : k < s.size) (hz : s.size < zs.length) (hL : LeastUp T s (arrF zs) (k + 1)) (hS : SmF zs s.size) (h : RowF T s zs arr k (chL T s k).length) :
    LeastUp T s (arrF arr) k ∧ SmF arr s.size := by
  rcases h with ⟨h1, _⟩ | ⟨_, m, rfl, hM, h3, h4⟩
  · have := (chL_len hv s k).1; omega
  · have hm := hM.all hv
    have hb := hm.1
    have hs1 := (hS (k + 1)).2
    have hs1' : arrF zs (k + 1) ≤ (s.size - (k + 1) : Nat) := hs1
    refine ⟨⟨?_, fun x h1 h2 => ?_⟩, fun j => ?_⟩
    · show (zs.set k m).getD s.size 0 = 0
      rw [setD_ne (by omega)]; exact hL.1
    · by_cases e : x = k
      · subst e
        have e2 : arrF (zs.set x m) x = m := setD_eq (by omega)
        rw [e2]
        exact hm.congr hv hk fun y h5 h6 => (setD_ne (by omega)).symm
      · have h5 := hL.2 x (by omega) h2
        have e2 : arrF (zs.set k m) x = arrF zs x := setD_ne (by omega)
        rw [e2]
        exact h5.congr hv h2 fun y h6 h7 => (setD_ne (by omega)).symm
    · by_cases e : k = j
      · subst e
        rw [setD_eq (by omega)]
        omega
      · rw [setD_ne e]; exact hS j
def FewMade (T : List PRule) (s : ByteArray) (n1 : Nat) (w : World) (e : Ending) (w' : World) : Prop :=
  ∃ zs : List Int, e = .returned (.slice (some ⟨w.heap.size, 0, none⟩) n1 n1) ∧ OwnInts w' w.heap.size (.slice (some ⟨w.heap.size, 0, none⟩) n1 n1) zs ∧ zs.length = n1 ∧ SmF zs s.size ∧ LeastUp T s (arrF zs) 0 ∧ Below w.heap.size w w'
set_option maxHeartbeats 4000000 in
theorem s_fewest (w : World) (g n c n1 : Nat) (T : List PRule) (s : ByteArray) (hx : TableAt w (.slice (some ⟨g, 0, none⟩) n c) T) (hn : T.length = n) (hv : Hid (ValidTb T)) (hw : Hid (WordB 16 s.data.toList)) (h1 : Hid (s.size + 1 = n1)) :
    Calls Try.prog 70 #[.slice (some ⟨g, 0, none⟩) n c, .string s] w fun e w' => FewMade T s n1 w e w' := by
  obtain ⟨i0, hi, hz0, hz1, hz2⟩ := info_parts infoInt
  have hsl : s.size ≤ 16 := by have h2 := hw.out.2.1; rw [wd_size] at h2; exact h2
  have HX := keptH hx
  have HN := Lib.hid hn
  have h1n := h1.out
  have u0 : IntKind.i64.wrap ((s.size : Int) + 1) = (n1 : Int) := by rw [← h1n]; exact IntWalk.i64_in _ (by omega)
  have hn31 : n1 ≤ 17 := by omega
  clear hn h1n hx
  go_enter Try.func70, Try.ntmps70
  go_wp2_with (at_make; refine wpList_make_full _ rfl _ _ 23 rfl w.heap.size 3 i0 (.int .i64 0) 1 Try.underlying23 hi hz0 hz1 .i64 .i64 n1 n1 n1 rfl rfl rfl rfl (by rw [hz2]; omega) (by unfold maxLen; omega) (Nat.le_refl _) ?_)
  intro w1 hown hgr
  have hB1 : Below w.heap.size w w1 := ⟨hgr.os, hgr.tape, hgr.output, hgr.size, fun k hk => hgr.block k hk (by simp)⟩
  have hO1 : OwnInts w1 w.heap.size (.slice (some ⟨w.heap.size, 0, none⟩) n1 n1) (List.replicate n1 0) := by
    unfold OwnInts
    rw [List.length_replicate, ← made_ints]
    exact hown
  have HO1 := keptH hO1
  have HB1 := keptH hB1
  have HS1 : Hid (SmF (List.replicate n1 0) s.size) := SmF.zero _ _
  have HL1 : Hid (LeastUp T s (arrF (List.replicate n1 0)) s.size) := LeastUp.zero _ _ _
  have u1 : IntKind.i64.wrap ((s.size : Int) - 1) = (s.size : Int) - 1 := IntWalk.i64_in _ (by omega)
  clear hown hgr hB1 hO1 hi hz0 hz1 hz2 u0
  go_wp2
  go_loopw [6] (fun y wr => ∃ (k : Nat) (q : Int) (zs : List Int), k ≤ s.size ∧ y = .int .i64 q ∧ q = (k : Int) - 1 ∧ Hid (OwnInts wr w.heap.size (.slice (some ⟨w.heap.size, 0, none⟩) n1 n1) zs) ∧ Hid (Below w.heap.size w wr) ∧ Hid (zs.length = n1) ∧ Hid (SmF zs s.size) ∧ Hid (LeastUp T s (arrF zs) k)) (fun y _ => (intOf y + 1).toNat)
  case atStart => exact ⟨s.size, _, List.replicate n1 0, Nat.le_refl _, by go_num, rfl, HO1, HB1, List.length_replicate, HS1, HL1⟩
  case round =>
    clear HO1 HB1 HS1 HL1 u1
    obtain ⟨wo, rfl⟩ : ∃ wo, wo = wr := ⟨wr, rfl⟩
    obtain ⟨k, q, zs, hk, rfl, hq, HO, HB, HZL, HSM, HLU⟩ := hrel
    by_cases hlt : 0 < k
    · obtain ⟨i, rfl⟩ : ∃ i, k = i + 1 := ⟨k - 1, by omega⟩
      obtain rfl : q = (i : Int) := by omega
      clear hq
      have d0 : decide ((0 : Int) ≤ (i : Int)) = true := decide_eq_true (by omega)
      have hin : i < s.size := by omega
      have hszo := HB.out.size
      have hlt0 := (HO.out.lt w.heap.size rfl).2
      go_wp2_with fail
      refine (s_choices wo g n c T s i (HX.out.below HB.out) HN.out hv (by omega)).mono ?_
      rintro e w2 ⟨v2, rfl, hO2, hb2⟩
      obtain ⟨g3, c3, hv3⟩ := hO2.2
      subst hv3
      have hcl := chL_len hv.out s i
      obtain ⟨m, hm⟩ : ∃ m, (chL T s i).length = m := ⟨_, rfl⟩
      have HM := Lib.hid hm
      rw [hm] at hO2 hcl ⊢
      have HOP := keptH hO2
      have HO2 := keptH (HO.out.below hb2)
      have HB2 := keptH (HB.out.trans (hb2.mono hszo))
      have HR0 : Hid (RowF T s zs zs i 0) := .inl ⟨rfl, rfl⟩
      have hlto := hb2.size
      have hgo : wo.heap.size ≤ g3 := (hO2.1.lt g3 rfl).1
      have hg3 : g3 < w2.heap.size := (hO2.1.lt g3 rfl).2
      clear hO2 hb2 hm HO HB
      go_wp2
      go_loopw [8] (fun y wr => ∃ (j : Nat) (arr : List Int), j ≤ m ∧ y = .int .i64 j ∧ Hid (RowF T s zs arr i j) ∧ Hid (OwnInts wr w.heap.size (.slice (some ⟨w.heap.size, 0, none⟩) n1 n1) arr) ∧ Hid (Below w.heap.size w wr) ∧ Hid (OwnPc wr wo.heap.size (.slice (some ⟨g3, 0, none⟩) m c3) (chL T s i))) (fun y _ => m - (intOf y).toNat)
      case atStart => exact ⟨0, zs, Nat.zero_le _, rfl, HR0, HO2, HB2, HOP⟩
      case round =>
        clear HR0 HO2 HB2 HOP
        obtain ⟨wi, rfl⟩ : ∃ wi, wi = wr := ⟨wr, rfl⟩
        obtain ⟨j, arr, hj, rfl, HRS, HO, HB, HOP⟩ := hrel
        have hszi := HB.out.size
        have h1n := h1.out
        have hal : arr.length = n1 := by rw [HRS.out.length]; exact HZL.out
        have HAL := Lib.hid hal
        clear hal
        by_cases hjm : j < m
        · have hjl : j < (chL T s i).length := by rw [HM.out]; exact hjm
          obtain ⟨q0, q1, q2, _⟩ := HOP.out.cell3 hjl
          have hmem : (chL T s i).getD j noP ∈ chL T s i := by rw [List.getD_eq_getElem?_getD, List.getElem?_eq_getElem hjl, Option.getD_some]; exact List.getElem_mem _
          have hok := chL_ok hv.out hin hmem
          obtain ⟨p, hp⟩ : ∃ p, (chL T s i).getD j noP = p := ⟨_, rfl⟩
          rw [hp] at q0 q1 q2 hok
          have HP := Lib.hid hp
          clear hp hmem
          obtain ⟨r, f, t⟩ := p
          simp only at q0 q1 q2
          obtain ⟨k1, k2, k3, k4⟩ := hok
          simp only at k2 k3 k4
          subst k2
          obtain ⟨t', rfl⟩ : ∃ t' : Nat, t = t' := ⟨t.toNat, by omega⟩
          have HPK := Lib.hid k1
          have hcl2 := pcC_len k1 hv.out.2.1
          have cz := HO.out.cell HAL.out (k := t') (by omega)
          rw [HRS.out.behind (by omega)] at cz
          obtain ⟨y, hy⟩ : ∃ y, zs.getD t' 0 = y := ⟨_, rfl⟩
          rw [hy] at cz
          have hyb := HSM.out t'
          rw [hy] at hyb
          obtain ⟨C, hC⟩ : ∃ C, pcC T s ⟨r, (i : Int), (t' : Int)⟩ = C := ⟨_, rfl⟩
          rw [hC] at hcl2
          have hcost : pcost T s (arrF zs) ⟨r, (i : Int), (t' : Int)⟩ = (C.length : Int) + y := by
            unfold pcost arrF
            simp only
            rw [hC, Int.toNat_natCast, hy]
          have HCO := Lib.hid hcost
          have HC := Lib.hid hC
          have HK : Hid (∀ wx, Below wi.heap.size wi wx → wx.cell? ⟨g3, j * 3, none⟩ = some (.int .i64 r) ∧ wx.cell? ⟨g3, j * 3 + 1, none⟩ = some (.int .i64 (i : Int)) ∧ wx.cell? ⟨g3, j * 3 + 2, none⟩ = some (.int .i64 (t' : Int)) ∧ wx.cell? ⟨w.heap.size, t', none⟩ = some (.int .i64 y)) := fun wx h =>
            ⟨(h.cell (World.block_lt_of_cell? wi _ q0)).trans q0, (h.cell (World.block_lt_of_cell? wi _ q1)).trans q1, (h.cell (World.block_lt_of_cell? wi _ q2)).trans q2, (h.cell (World.block_lt_of_cell? wi _ cz)).trans cz⟩
          have HPX : Hid (Calls Try.prog 69 #[.slice (some ⟨g, 0, none⟩) n c, .string s, .agg #[.int .i64 r, .int .i64 (i : Int), .int .i64 (t' : Int)]] wi.drew fun e w' => CellsOut C wi.drew e w') := by
            have := s_pieceCells wi.drew (.slice (some ⟨g, 0, none⟩) n c) T s r (i : Int) (t' : Int) ((HX.out.below HB.out).below ((Below.refl _ _).drew)) hv hw HPK
            rw [hC] at this
            exact this
          have b1 : (0 : Int) ≤ (j : Int) := by omega
          have b2 : (j : Int) < (m : Int) := by omega
          have b3 : (0 : Int) ≤ (t' : Int) := by omega
          have b4 : (t' : Int) < (n1 : Int) := by omega
          have b5 : (0 : Int) ≤ (i : Int) := by omega
          have b6 : (i : Int) < (n1 : Int) := by omega
          have u2 : IntKind.i64.wrap ((C.length : Int) + y) = (C.length : Int) + y := IntWalk.i64_in _ (by omega)
          clear hC hy hcost k1 h1n
          go_wp2_with fail
          go_region_held3 (fun wx => wx.cell? ⟨g3, j * 3, none⟩ = some (.int .i64 r) ∧ wx.cell? ⟨g3, j * 3 + 1, none⟩ = some (.int .i64 (i : Int)) ∧ wx.cell? ⟨g3, j * 3 + 2, none⟩ = some (.int .i64 (t' : Int)) ∧ wx.cell? ⟨w.heap.size, t', none⟩ = some (.int .i64 y)) (first | assumption | exact HK.out _ (Below.refl _ _).drew | exact HK.out _ ((Below.refl _ _).drew.trans hb5)) (first | (go_at_call 69; (with_reducible refine HPX.out.mono ?_); rintro e w5 ⟨g5, o5, c5, rfl, h5, hb5⟩))
          all_goals
            have hB5 : Below wi.heap.size wi w5 := (Below.refl _ _).drew.trans hb5
            have HO5 := keptH (HO.out.below hB5)
            have HB5 := keptH (HB.out.trans (hB5.mono hszi))
            have HOP5 := keptH (HOP.out.below hB5)
            obtain ⟨x, hx⟩ : ∃ x, (C.length : Int) + y = x := ⟨_, rfl⟩
            have hxb : 0 ≤ x ∧ x ≤ 40 := by omega
            have HCX : Hid (pcost T s (arrF zs) ((chL T s i).getD j noP) = x) := by show _ = _; rw [HP.out, HCO.out, hx]
            have ci := HO5.out.cell HAL.out (k := i) (by omega)
            have fi := HO5.out.free HAL.out i
            rw [hx]
            clear hx u2 HK HPX hb5 h5 hB5 q0 q1 q2 cz HO HB HOP HCO HC hcl2 hyb HP HPK
            by_cases hj0 : j = 0
            · have e1 : ((j : Int) == 0) = true := by simp; omega
              have HR' : Hid (RowF T s zs (arr.set i x) i (j + 1)) := by
                rcases HRS.out with ⟨_, rfl⟩ | ⟨h2, _⟩
                · refine .inr ⟨by omega, x, rfl, ?_, hxb⟩
                  have h9 := LowTo.one T s (arrF arr) (chL T s i)
                  rw [show (chL T s i).getD 0 noP = (chL T s i).getD j noP from by rw [hj0], HCX.out] at h9
                  rw [hj0]
                  exact h9
                · omega
              have HO' := keptH (HO5.out.store HAL.out i x)
              have HB' := keptH (HB5.out.setCell (p := ⟨w.heap.size, i, none⟩) (Nat.le_refl _) (.int .i64 x))
              have HOP' : Hid (OwnPc (w5.setCell ⟨w.heap.size, i, none⟩ (.int .i64 x)) wo.heap.size (.slice (some ⟨g3, 0, none⟩) m c3) (chL T s i)) := HOP5.out.overR (HO5.out.stored' HAL.out i (.int .i64 x)) (by omega)
              clear HRS HO5 HB5 HOP5 HCX
              go_wp2
              go_roundw
              case rel => exact ⟨j + 1, arr.set i x, by omega, by go_num, HR', HO', HB', HOP'⟩
              case measure => simp [intOf] <;> omega
            · have e1 : ((j : Int) == 0) = false := by simp; omega
              obtain ⟨m', HAR, HMM, hm0⟩ : ∃ m', Hid (arr = zs.set i m') ∧ Hid (LowTo T s (arrF zs) (chL T s i) j m') ∧ (0 ≤ m' ∧ m' ≤ 40) := by
                rcases HRS.out with ⟨h2, _⟩ | ⟨_, m', h3, h4, h5⟩
                · exact absurd h2 hj0
                · exact ⟨m', h3, h4, h5⟩
              have harr : arr.getD i 0 = m' := by
                rw [HAR.out, setD_eq (by rw [HZL.out]; omega)]
              rw [harr] at ci
              clear harr
              by_cases hrm : x < m'
              · have d2 : decide (x < m') = true := decide_eq_true hrm
                have HR' : Hid (RowF T s zs (arr.set i x) i (j + 1)) := by
                  refine .inr ⟨by omega, x, by rw [HAR.out, List.set_set], ?_, hxb⟩
                  have h9 := HMM.out.less (by rw [HCX.out]; exact hrm)
                  rw [HCX.out] at h9
                  exact h9
                have HO' := keptH (HO5.out.store HAL.out i x)
                have HB' := keptH (HB5.out.setCell (p := ⟨w.heap.size, i, none⟩) (Nat.le_refl _) (.int .i64 x))
                have HOP' : Hid (OwnPc (w5.setCell ⟨w.heap.size, i, none⟩ (.int .i64 x)) wo.heap.size (.slice (some ⟨g3, 0, none⟩) m c3) (chL T s i)) := HOP5.out.overR (HO5.out.stored' HAL.out i (.int .i64 x)) (by omega)
                clear HRS HO5 HB5 HOP5 HCX HMM HAR
                go_wp2
                go_roundw
                case rel => exact ⟨j + 1, arr.set i x, by omega, by go_num, HR', HO', HB', HOP'⟩
                case measure => simp [intOf] <;> omega
              · have d2 : decide (x < m') = false := decide_eq_false hrm
                have HR' : Hid (RowF T s zs arr i (j + 1)) := .inr ⟨by omega, m', HAR.out, HMM.out.more (by rw [HCX.out]; exact hrm), hm0⟩
                clear HRS HCX HMM HAR
                go_wp2
                go_roundw
                case rel => exact ⟨j + 1, arr, by omega, by go_num, HR', HO5, HB5, HOP5⟩
                case measure => simp [intOf] <;> omega
        · obtain rfl : j = m := by omega
          have hdone := rowF_done (T := T) (s := s) (zs := zs) (arr := arr) (k := i) hv.out hin (by rw [HZL.out]; omega) HLU.out HSM.out (by rw [HM.out]; exact HRS.out)
          have HD1 := keptH hdone.1
          have HD2 := keptH hdone.2
          clear hdone HRS HLU HSM h1n
          go_wp2
          go_roundw
          case rel => exact ⟨i, (i : Int) - 1, arr, by omega, by go_num, rfl, HO, HB, HAL, HD2, HD1⟩
          case measure => simp [intOf] <;> omega
    · obtain rfl : k = 0 := by omega
      obtain rfl : q = -1 := by omega
      clear hq
      go_wp2
      go_ret
      exact ⟨zs, rfl, HO.out, HZL.out, HSM.out, HLU.out, HB.out⟩
end Go.Proofs.Ythojahknocageaa


/- The best pieces, in the model. -/
namespace Go.Proofs.Ythojahknocageaa
open Go.RowKit

theorem find_at {α : Type} {p : α → Bool} {d : α} : ∀ (P : List α) (k : Nat), k < P.length → (∀ x, x < k → p (P.getD x d) = false) → p (P.getD k d) = true → P.find? p = some (P.getD k d) := by
  intro P
  induction P with
  | nil => intro k h; simp at h
  | cons q P ih =>
    intro k hk h1 h2
    cases k with
    | zero =>
      show List.find? p (q :: P) = some q
      exact List.find?_cons_of_pos h2
    | succ k =>
      have h3 := h1 0 (by omega)
      rw [List.find?_cons_of_neg (by intro e; rw [show (q :: P).getD 0 d = q from rfl] at h3; rw [h3] at e; cases e)]
      exact ih k (by simpa using hk) (fun x hx => h1 (x + 1) (by omega)) h2
theorem find_room {α : Type} {p : α → Bool} {d y : α} {P : List α} (hf : P.find? p = some y) {k : Nat} (hk : k ≤ P.length) (h : ∀ x, x < k → p (P.getD x d) = false) : k < P.length := by
  by_cases e : k = P.length
  · subst e
    obtain ⟨i, hi, ei⟩ := List.getElem_of_mem (List.mem_of_find?_eq_some hf)
    have h1 := h i hi
    rw [List.getD_eq_getElem?_getD, List.getElem?_eq_getElem hi, Option.getD_some, ei] at h1
    have h2 := List.find?_some hf
    rw [h1] at h2
    cases h2
  · omega
def BestMade (T : List PRule) (s : ByteArray) (w : World) (e : Ending) (w' : World) : Prop :=
  ∃ v P, e = .returned v ∧ OwnPn w' w.heap.size v P ∧ BestPs T s P ∧ Below w.heap.size w w' ∧ ∃ a n c, v = .slice a n c
theorem OwnPc.lt3 {w : World} {S g n c : Nat} {P : List PPiece} (h : OwnPc w S (.slice (some ⟨g, 0, none⟩) n c) P) : S ≤ g ∧ g < w.heap.size ∧ n = P.length := by
  obtain ⟨h1, g', c', e⟩ := h
  injection e with e1 e2 e3
  exact ⟨(h1.lt g rfl).1, (h1.lt g rfl).2, e2⟩
def NoneTo (T : List PRule) (s : ByteArray) (A : Nat → Int) (k j : Nat) : Prop := ∀ x, x < j → decide (pcost T s A ((chL T s k).getD x noP) = A k) = false
theorem NoneTo.zero (T : List PRule) (s : ByteArray) (A : Nat → Int) (k : Nat) : NoneTo T s A k 0 := fun x h => absurd h (by omega)
theorem NoneTo.succ {T : List PRule} {s : ByteArray} {A : Nat → Int} {k j : Nat} (h : NoneTo T s A k j) (e : pcost T s A ((chL T s k).getD j noP) ≠ A k) : NoneTo T s A k (j + 1) := fun x hx => by
  by_cases ex : x = j
  · subst ex; exact decide_eq_false e
  · exact h x (by omega)
theorem chL_min {T : List PRule} {s : ByteArray} {A : Nat → Int} {k : Nat} (hv : ValidTb T) (hm : MinAt T s A k (A k)) {p : PPiece} (hp : p ∈ chL T s k) : A k ≤ pcost T s A p := by
  rcases (mem_chL hv).1 hp with rfl | ⟨i, hi, rfl⟩
  · rw [pcost_letter]; exact hm.1
  · rw [pcost_rule]; exact hm.2.1 i hi
set_option maxHeartbeats 4000000 in
theorem s_best (w : World) (g n c : Nat) (T : List PRule) (s : ByteArray) (hx : TableAt w (.slice (some ⟨g, 0, none⟩) n c) T) (hn : T.length = n) (hv : Hid (ValidTb T)) (hw : Hid (WordB 16 s.data.toList)) :
    Calls Try.prog 55 #[.slice (some ⟨g, 0, none⟩) n c, .string s] w fun e w' => BestMade T s w e w' := by
  have hsl : s.size ≤ 16 := by have h2 := hw.out.2.1; rw [wd_size] at h2; exact h2
  have HX := keptH hx
  have HN := Lib.hid hn
  obtain ⟨n1, hn1⟩ : ∃ n1, s.size + 1 = n1 := ⟨_, rfl⟩
  have HN1 := Lib.hid hn1
  clear hn hx hn1
  go_enter Try.func55, Try.ntmps55
  go_wp2_with fail
  refine (s_fewest w g n c n1 T s HX.out HN.out hv hw HN1).mono ?_
  rintro e w1 ⟨zs, rfl, hO1, hzl, hSM, hLU, hb1⟩
  have HO1 := keptH hO1
  have HZL := Lib.hid hzl
  have HSM := keptH hSM
  have HLU := keptH hLU
  have HB1 := keptH hb1
  have hs1 := hb1.size
  have hg1 := (hO1.lt w.heap.size rfl).2
  have HO0 : Hid (OwnPn (w1.alloc (.cells #[] 67)) w1.heap.size (.slice (some ⟨w1.heap.size, 0, none⟩) 0 0) []) := (OwnPc.made w1 w1.heap.size (Nat.le_refl _)).1
  have HB0 : Hid (Below w1.heap.size w1 (w1.alloc (.cells #[] 67))) := (Below.refl _ _).alloc (Nat.le_refl _) _
  have HU0 := keptH (PsUp.zero T s (arrF zs))
  clear hO1 hzl hSM hLU hb1
  go_wp2
  go_loopw [6, 7] (fun o i wr => ∃ (k : Nat) (P : List PPiece), k ≤ s.size ∧ i = .int .i64 k ∧ Hid (OwnPn wr w1.heap.size o P) ∧ Hid (PsUp T s (arrF zs) P k) ∧ P.length ≤ k ∧ Hid (Below w1.heap.size w1 wr)) (fun _ i _ => s.size - (intOf i).toNat)
  case atStart => exact ⟨0, [], Nat.zero_le _, rfl, HO0, HU0, Nat.le_refl _, HB0⟩
  case round =>
    clear HO0 HU0 HB0
    obtain ⟨wo, rfl⟩ : ∃ wo, wo = wr := ⟨wr, rfl⟩
    obtain ⟨k, P, hk, rfl, HO, HU, hPk, HB⟩ := hrel
    obtain ⟨ao, no, co, hoo⟩ := HO.out.isSlice
    subst hoo
    have hszo := HB.out.size
    by_cases hks : k < s.size
    · obtain ⟨r0, hfind, hbst⟩ := chL_find (s := s) (A := arrF zs) (k := k) hv.out (HLU.out.2 k (Nat.zero_le _) hks)
      have hbd := hbst.bd hv.out hks
      have HFI := Lib.hid hfind
      have HBS := keptH hbst
      have HBD := keptH hbd
      clear hfind hbst hbd
      go_wp2_with fail
      refine (s_choices wo g n c T s k (HX.out.below ((HB1.out.trans (HB.out.mono hs1)))) HN.out hv (by omega)).mono ?_
      rintro e w2 ⟨v2, rfl, hO2, hb2⟩
      obtain ⟨g3, c3, hv3⟩ := hO2.2
      subst hv3
      have hcl := chL_len hv.out s k
      obtain ⟨m, hm⟩ : ∃ m, (chL T s k).length = m := ⟨_, rfl⟩
      have HM := Lib.hid hm
      rw [hm] at hO2 hcl ⊢
      have hgo : wo.heap.size ≤ g3 := (hO2.1.lt g3 rfl).1
      have hg3 : g3 < w2.heap.size := (hO2.1.lt g3 rfl).2
      have HOP := keptH hO2
      have HO2 := keptH (HO.out.below hb2)
      have HB2 := keptH (HB.out.trans (hb2.mono hszo))
      have hs2 := hb2.size
      have HNT0 := keptH (NoneTo.zero T s (arrF zs) k)
      have HBI0 := keptH (Below.refl w2.heap.size w2)
      have HLTo : Hid (∀ q, (Value.slice ao no co).ownBlock = some q → q < wo.heap.size) := fun q hq => (World.ownsRow.lt HO.out q hq).2
      clear hO2 hm hb2 HO HB
      go_wp2
      go_loopw [9] (fun y wr => ∃ j : Nat, j < m ∧ y = .int .i64 j ∧ Hid (NoneTo T s (arrF zs) k j) ∧ Hid (Below w2.heap.size w2 wr)) (fun y _ => m - (intOf y).toNat)
      case atStart => exact ⟨0, by omega, rfl, HNT0, HBI0⟩
      case round =>
        clear HNT0 HBI0
        obtain ⟨wi, rfl⟩ : ∃ wi, wi = wr := ⟨wr, rfl⟩
        obtain ⟨j, hj, rfl, HNT, HBI⟩ := hrel
        have hszi := HBI.out.size
        have h1n := HN1.out
        have HOPi := keptH (HOP.out.below HBI.out)
        have HBWi : Hid (Below w1.heap.size w1 wi) := HB2.out.trans (HBI.out.mono (by omega))
        have HO1i := keptH (HO1.out.below HBWi.out)
        have HOi := keptH (HO2.out.below HBI.out)
        have hjl : j < (chL T s k).length := by rw [HM.out]; exact hj
        obtain ⟨q0, q1, q2, _⟩ := HOPi.out.cell3 hjl
        have hmem : (chL T s k).getD j noP ∈ chL T s k := by rw [List.getD_eq_getElem?_getD, List.getElem?_eq_getElem hjl, Option.getD_some]; exact List.getElem_mem _
        have hok := chL_ok hv.out hks hmem
        have hmin := chL_min hv.out (HLU.out.2 k (Nat.zero_le _) hks) hmem
        obtain ⟨p, hp⟩ : ∃ p, (chL T s k).getD j noP = p := ⟨_, rfl⟩
        rw [hp] at q0 q1 q2 hok hmin
        have HP := Lib.hid hp
        clear hp hmem
        obtain ⟨r, f, t⟩ := p
        simp only at q0 q1 q2
        obtain ⟨k1, k2, k3, k4⟩ := hok
        simp only at k2 k3 k4
        subst k2
        obtain ⟨t', rfl⟩ : ∃ t' : Nat, t = t' := ⟨t.toNat, by omega⟩
        have HPK := Lib.hid k1
        have hcl2 := pcC_len k1 hv.out.2.1
        have cz := HO1i.out.cell HZL.out (k := t') (by omega)
        have ck := HO1i.out.cell HZL.out (k := k) (by omega)
        obtain ⟨y, hy⟩ : ∃ y, zs.getD t' 0 = y := ⟨_, rfl⟩
        obtain ⟨z, hz⟩ : ∃ z, zs.getD k 0 = z := ⟨_, rfl⟩
        rw [hy] at cz
        rw [hz] at ck
        have hyb := HSM.out t'
        rw [hy] at hyb
        obtain ⟨C, hC⟩ : ∃ C, pcC T s ⟨r, (k : Int), (t' : Int)⟩ = C := ⟨_, rfl⟩
        rw [hC] at hcl2
        have hcost : pcost T s (arrF zs) ⟨r, (k : Int), (t' : Int)⟩ = (C.length : Int) + y := by
          unfold pcost arrF
          simp only
          rw [hC, Int.toNat_natCast, hy]
        have hAk : arrF zs k = z := hz
        rw [hcost, hAk] at hmin
        have HCO := Lib.hid hcost
        have HAK := Lib.hid hAk
        have HK : Hid (∀ wx, Below wi.heap.size wi wx → wx.cell? ⟨g3, j * 3, none⟩ = some (.int .i64 r) ∧ wx.cell? ⟨g3, j * 3 + 1, none⟩ = some (.int .i64 (k : Int)) ∧ wx.cell? ⟨g3, j * 3 + 2, none⟩ = some (.int .i64 (t' : Int)) ∧ wx.cell? ⟨w.heap.size, t', none⟩ = some (.int .i64 y) ∧ wx.cell? ⟨w.heap.size, k, none⟩ = some (.int .i64 z)) := fun wx h =>
          ⟨(h.cell (World.block_lt_of_cell? wi _ q0)).trans q0, (h.cell (World.block_lt_of_cell? wi _ q1)).trans q1, (h.cell (World.block_lt_of_cell? wi _ q2)).trans q2, (h.cell (World.block_lt_of_cell? wi _ cz)).trans cz, (h.cell (World.block_lt_of_cell? wi _ ck)).trans ck⟩
        have HPX : Hid (Calls Try.prog 69 #[.slice (some ⟨g, 0, none⟩) n c, .string s, .agg #[.int .i64 r, .int .i64 (k : Int), .int .i64 (t' : Int)]] wi.drew fun e w' => CellsOut C wi.drew e w') := by
          have := s_pieceCells wi.drew (.slice (some ⟨g, 0, none⟩) n c) T s r (k : Int) (t' : Int) (((HX.out.below HB1.out).below (HBWi.out)).below ((Below.refl _ _).drew)) hv hw HPK
          rw [hC] at this
          exact this
        have b1 : (0 : Int) ≤ (j : Int) := by omega
        have b2 : (j : Int) < (m : Int) := by omega
        have b3 : (0 : Int) ≤ (t' : Int) := by omega
        have b4 : (t' : Int) < (n1 : Int) := by omega
        have b5 : (0 : Int) ≤ (k : Int) := by omega
        have b6 : (k : Int) < (n1 : Int) := by omega
        have u2 : IntKind.i64.wrap ((C.length : Int) + y) = (C.length : Int) + y := IntWalk.i64_in _ (by omega)
        clear hC hy hz hcost hAk k1 h1n
        by_cases hlow : (C.length : Int) + y = z
        · have d7 : decide (z < (C.length : Int) + y) = false := decide_eq_false (by omega)
          have HLO := Lib.hid hlow
          clear hlow
          go_wp2_with fail
          go_region_held3 (fun wx => wx.cell? ⟨g3, j * 3, none⟩ = some (.int .i64 r) ∧ wx.cell? ⟨g3, j * 3 + 1, none⟩ = some (.int .i64 (k : Int)) ∧ wx.cell? ⟨g3, j * 3 + 2, none⟩ = some (.int .i64 (t' : Int)) ∧ wx.cell? ⟨w.heap.size, t', none⟩ = some (.int .i64 y) ∧ wx.cell? ⟨w.heap.size, k, none⟩ = some (.int .i64 z)) (first | assumption | exact HK.out _ (Below.refl _ _).drew | exact HK.out _ ((Below.refl _ _).drew.trans hb5)) (first | (go_at_call 69; (with_reducible refine HPX.out.mono ?_); rintro e w5 ⟨g5, o5, c5, rfl, h5, hb5⟩))
          all_goals
            have hB5 : Below wi.heap.size wi w5 := (Below.refl _ _).drew.trans hb5
            have hs5 := hB5.size
            have HO5 := keptH (HOi.out.below hB5)
            have HB5 : Hid (Below w1.heap.size w1 w5) := HBWi.out.trans (hB5.mono (by omega))
            have hOP5 := HOPi.out.below hB5
            have HEQ : Hid (pcB T k r0 = ⟨r, (k : Int), (t' : Int)⟩) := by
              have h9 := find_at (p := fun p => decide (pcost T s (arrF zs) p = arrF zs k)) (d := noP) (chL T s k) j hjl HNT.out (by rw [HP.out]; exact decide_eq_true (by rw [HCO.out, HAK.out, HLO.out]))
              rw [HFI.out, HP.out] at h9
              injection h9
            have HUN : Hid (PsUp T s (arrF zs) (P ++ [⟨r, (k : Int), (t' : Int)⟩]) t') := by
              have h9 := HU.out.more hks HBS.out
              rw [HEQ.out, Int.toNat_natCast] at h9
              exact h9
            have hal : Below w5.heap.size w5 (w5.alloc (.cells #[.int .i64 r, .int .i64 (k : Int), .int .i64 (t' : Int)] 67)) := (Below.refl _ _).alloc (Nat.le_refl _) _
            have HO5a := keptH (HO5.out.below hal)
            have HA5 := keptH (pieceAt_alloc w5 ⟨r, (k : Int), (t' : Int)⟩)
            have HOP5 := keptH (hOP5.below hal)
            have hl5 : P.length ≤ 100000 := by omega
            have hbase5 : w1.heap.size ≤ (w5.alloc (.cells #[.int .i64 r, .int .i64 (k : Int), .int .i64 (t' : Int)] 67)).heap.size := by rw [World.size_alloc]; omega
            have HL5 := keptH (And.intro hl5 hbase5)
            obtain ⟨q0, q1, q2, _⟩ := hOP5.cell3 hjl
            rw [HP.out] at q0 q1 q2
            simp only at q0 q1 q2
            clear u2 HK HPX hb5 h5 hB5 cz ck hOP5 hal hl5 hbase5 d7
            go_wp2_with (at_builtin; go_loud (refine wpList_append_pn rfl _ _ rfl w1.heap.size w5.heap.size ⟨r, (k : Int), (t' : Int)⟩ rfl rfl HO5a.out HA5.out HL5.out.1 HL5.out.2 ?_))
            intro v6 w6 hO6 hg6
            have hOP6 : OwnPc w6 wo.heap.size (.slice (some ⟨g3, 0, none⟩) m c3) (chL T s k) := ⟨HOP5.out.1.kept hg6 (.inr fun e => by have := HLTo.out g3 e.symm; omega), HOP5.out.2⟩
            obtain ⟨_, _, e2, _⟩ := hOP6.cell3 hjl
            rw [HP.out] at e2
            simp only at e2
            have HO6 := keptH hO6
            have HB6 : Hid (Below w1.heap.size w1 w6) := (HB5.out.alloc (by omega) _).grown hg6 HL5.out.2 (fun q hq => (World.ownsRow.lt HO5a.out q hq).1)
            clear hO6 hg6 hOP6 q0 q1 q2 HO5a HA5 HOP5
            go_wp2
            go_roundw
            case rel => exact ⟨t', P ++ [⟨r, (k : Int), (t' : Int)⟩], by omega, rfl, HO6, HUN, by simp; omega, HB6⟩
            case measure => simp [intOf] <;> omega
        · have d7 : decide (z < (C.length : Int) + y) = true := decide_eq_true (by omega)
          have HNE : Hid (NoneTo T s (arrF zs) k (j + 1)) := HNT.out.succ (by rw [HP.out, HCO.out, HAK.out]; exact hlow)
          have hj1 : j + 1 < m := by
            have := find_room HFI.out (k := j + 1) (by rw [HM.out]; omega) HNE.out
            rw [HM.out] at this
            exact this
          clear hlow
          go_wp2_with fail
          go_region_held3 (fun wx => wx.cell? ⟨g3, j * 3, none⟩ = some (.int .i64 r) ∧ wx.cell? ⟨g3, j * 3 + 1, none⟩ = some (.int .i64 (k : Int)) ∧ wx.cell? ⟨g3, j * 3 + 2, none⟩ = some (.int .i64 (t' : Int)) ∧ wx.cell? ⟨w.heap.size, t', none⟩ = some (.int .i64 y) ∧ wx.cell? ⟨w.heap.size, k, none⟩ = some (.int .i64 z)) (first | assumption | exact HK.out _ (Below.refl _ _).drew | exact HK.out _ ((Below.refl _ _).drew.trans hb5)) (first | (go_at_call 69; (with_reducible refine HPX.out.mono ?_); rintro e w5 ⟨g5, o5, c5, rfl, h5, hb5⟩))
          all_goals
            have HB5 : Hid (Below w2.heap.size w2 w5) := HBI.out.trans (((Below.refl _ _).drew.trans hb5).mono hszi)
            clear u2 HK HPX hb5 h5 q0 q1 q2 cz ck
            go_wp2
            go_roundw
            case rel => exact ⟨j + 1, hj1, by go_num, HNE, HB5⟩
            case measure => simp [intOf] <;> omega
    · obtain rfl : k = s.size := by omega
      have HF : Hid (BestP T s (arrF zs) 0 P) := HU.out.all
      have HOF := keptH (World.ownsRow.mono HO.out hs1)
      have HBF := keptH (HB1.out.trans (HB.out.mono hs1))
      clear HU HO HB
      go_wp2
      go_ret
      exact ⟨_, P, rfl, HOF.out, ⟨_, HLU.out, HF.out⟩, HBF.out, _, _, _, rfl⟩
end Go.Proofs.Ythojahknocageaa


/- The fewest cells from each place on, in the program: an array, and one rule's cost. -/
namespace Go.Proofs.Ythojahknocageaa
open Go.RowKit

/-- the block g holds the numbers zs -/
def ArrH (w : World) (g : Nat) (t : TypeId) (zs : List Int) : Prop := w.heap[g]? = some (.cells (ints zs).toArray t (0, 0))
theorem ArrH.cell {w : World} {g : Nat} {t : TypeId} {zs : List Int} (h : ArrH w g t zs) {k : Nat} (hk : k < zs.length) : w.cell? ⟨g, k, none⟩ = some (.int .i64 (zs.getD k 0)) := by
  rw [cell_of_row _ g k _ _ _ h]
  simp [ints, List.getD_eq_getElem?_getD, hk]
theorem ArrH.free {w : World} {g : Nat} {t : TypeId} {zs : List Int} (h : ArrH w g t zs) (k : Nat) : w.frozen? ⟨g, k, none⟩ = false := by
  unfold ArrH at h
  simp [World.frozen?, h]
theorem ArrH.below {w w' : World} {g B : Nat} {t : TypeId} {zs : List Int} (h : ArrH w g t zs) (hb : Below B w w') (hg : g < B) : ArrH w' g t zs := (hb.block g hg).trans h
theorem ArrH.set {w : World} {g k : Nat} {t : TypeId} {zs : List Int} (h : ArrH w g t zs) (z : Int) : ArrH (w.setCell ⟨g, k, none⟩ (.int .i64 z)) g t (zs.set k z) := by
  unfold ArrH at h ⊢
  rw [setCell_eq_setRow w g k _ t (0, 0) _ h, setRow_heap w g _ _ t _ h]
  congr 2
  apply Array.ext'
  simp [ints, List.map_set]
theorem ArrH.other {w : World} {g g' k : Nat} {t : TypeId} {zs : List Int} (h : ArrH w g t zs) (u : Value) (hne : g ≠ g') : ArrH (w.setCell ⟨g', k, none⟩ u) g t zs := by
  unfold ArrH at h ⊢
  rw [heap_setCell_other w ⟨g', k, none⟩ g u (by simp; exact hne)]
  exact h
theorem ArrH.lt {w : World} {g : Nat} {t : TypeId} {zs : List Int} (h : ArrH w g t zs) : g < w.heap.size := (Array.getElem?_eq_some_iff.1 h).1
theorem below_setRowH {B g : Nat} {w a : World} (h : Below B w a) (hg : B ≤ g) (cs : Array Value) : Below B w (a.setRow g cs) :=
  ⟨h.os, h.tape, h.output, by have := h.size; unfold World.setRow; simp; exact this, fun k hk => (setRow_other a g k cs (by omega)).trans (h.block k hk)⟩
theorem size17 : (Try.prog.info? 69).map (·.size) = some 17 := by kernel_rfl
set_option maxHeartbeats 2000000 in
theorem i_cellsWith (w : World) (t : ByteArray) (a2 : Option Addr) (n2 cp2 : Nat) (q : Int) (k : Nat) (zs : List Int) (r : Int) (hz : zs.length = 17) (hk : k + t.size ≤ 16) (hn2 : n2 ≤ 2) (hb : 0 ≤ zs.getD (k + t.size) 0 ∧ zs.getD (k + t.size) 0 ≤ 100) (hr : Hid ((n2 : Int) + zs.getD (k + t.size) 0 = r)) :
    Calls Try.prog 79 #[.agg #[.string t, .slice a2 n2 cp2, .int .i64 q], .int .i64 k, .agg (ints zs).toArray] w fun e w' => e = .returned (.int .i64 r) ∧ Below w.heap.size w w' := by
  obtain ⟨y, hy⟩ : ∃ y, zs.getD (k + t.size) 0 = y := ⟨_, rfl⟩
  rw [hy] at hb hr
  obtain ⟨wb, hwb⟩ : ∃ wb, w.alloc (.cells #[.string t, .slice a2 n2 cp2, .int .i64 q] 56) = wb := ⟨_, rfl⟩
  have hsb : wb.heap.size = w.heap.size + 1 := by rw [← hwb]; exact World.size_alloc _ _
  obtain ⟨wa, hwa⟩ : ∃ wa, wb.alloc (Obj.cells (ints zs).toArray 69) = wa := ⟨_, rfl⟩
  have hB1 : Below w.heap.size w wb := by rw [← hwb]; exact (Below.refl _ _).alloc (Nat.le_refl _) _
  have hB2 : Below wb.heap.size wb wa := by rw [← hwa]; exact (Below.refl _ _).alloc (Nat.le_refl _) _
  have hA : ArrH wa (w.heap.size + 1) 69 zs := by rw [← hwa, ← hsb]; exact heap_alloc_new wb _
  have c0 : wa.cell? ⟨w.heap.size, 0, none⟩ = some (.string t) := by
    rw [hB2.cell (p := ⟨w.heap.size, 0, none⟩) (by show w.heap.size < _; omega), ← hwb, cell_of_row _ w.heap.size 0 _ _ _ (heap_alloc_new w _)]; rfl
  have c1 : wa.cell? ⟨w.heap.size, 1, none⟩ = some (.slice a2 n2 cp2) := by
    rw [hB2.cell (p := ⟨w.heap.size, 1, none⟩) (by show w.heap.size < _; omega), ← hwb, cell_of_row _ w.heap.size 1 _ _ _ (heap_alloc_new w _)]; rfl
  have cz := hA.cell (k := k + t.size) (by omega)
  rw [hy] at cz
  have HB : Hid (Below w.heap.size w wa) := below_next hB1 hB2
  have u1 : IntKind.i64.wrap ((k : Int) + (t.size : Int)) = (k : Int) + (t.size : Int) := IntWalk.i64_in _ (by omega)
  have u2 : IntKind.i64.wrap ((n2 : Int) + y) = r := by rw [← hr.out]; exact IntWalk.i64_in _ (by omega)
  have b1 : (0 : Int) ≤ (k : Int) + (t.size : Int) := by omega
  have b2 : (k : Int) + (t.size : Int) < 17 := by omega
  have b3 : ((k : Int) + (t.size : Int)).toNat = k + t.size := by omega
  have hwab : (w.alloc (.cells #[.string t, .slice a2 n2 cp2, .int .i64 q] 56)).alloc (Obj.cells (ints zs).toArray 69) = wa := by rw [hwb, hwa]
  have HWA := Lib.hid hwab
  clear hy hr hB1 hB2 hA hwab hwa hwb hsb
  go_enter Try.func79, Try.ntmps79
  go_wp2_with fail
  rw [HWA.out]
  go_quiet (fail)
  go_wp2
  go_ret
  exact ⟨by first | rfl | simp [u2], below_drewN HB.out _⟩
end Go.Proofs.Ythojahknocageaa

