
/- Lines of cells: the plain lists. -/
import Derived.Test.YtfgnckafpnobhaaCj
import Derived.Test.YtfgnckafpnobhaaVal
namespace Go.Proofs.Ytfgnckafpnobhaa
open Go.RowKit

theorem keptL {p : Prop} (h : p) : Hid p := h
/-- a word of 1..m cells, none of them a space -/
def ItemW (m : Int) (zs : List Int) : Prop := 1 ≤ zs.length ∧ (zs.length : Int) ≤ m ∧ ValidL zs ∧ (0 : Int) ∉ zs
instance (m : Int) (zs : List Int) : Decidable (ItemW m zs) := inferInstanceAs (Decidable (_ ∧ _))
/-- a line of at most m cells -/
def LineW (m : Int) (zs : List Int) : Prop := (zs.length : Int) ≤ m ∧ ValidL zs
instance (m : Int) (zs : List Int) : Decidable (LineW m zs) := inferInstanceAs (Decidable (_ ∧ _))
def UpL (P : List Int → Prop) (L : List (List Int)) (k : Nat) : Prop := ∀ i, i < k → P (L.getD i [])
theorem UpL.zero (P : List Int → Prop) (L : List (List Int)) : UpL P L 0 := fun i h => absurd h (by omega)
theorem UpL.succ {P : List Int → Prop} {L : List (List Int)} {k : Nat} (h : UpL P L k) (e : P (L.getD k [])) : UpL P L (k + 1) := fun i hi => by
  by_cases hik : i = k
  · subst hik; exact e
  · exact h i (by omega)
theorem getD_memL {L : List (List Int)} {k : Nat} (h : k < L.length) : L.getD k [] ∈ L := by
  rw [List.getD_eq_getElem?_getD, List.getElem?_eq_getElem h, Option.getD_some]; exact List.getElem_mem _
theorem UpL.all {P : List Int → Prop} {L : List (List Int)} (h : UpL P L L.length) : ∀ x ∈ L, P x := fun x hx => by
  obtain ⟨i, hi, rfl⟩ := List.getElem_of_mem hx
  have := h i hi
  rwa [List.getD_eq_getElem?_getD, List.getElem?_eq_getElem hi, Option.getD_some] at this
theorem UpL.of {P : List Int → Prop} {L : List (List Int)} (h : ∀ x ∈ L, P x) : UpL P L L.length := fun _ hi => h _ (getD_memL hi)
def FillOk (L : List (List Int)) (W : Int) : Prop := L.length ≤ 30 ∧ (1 ≤ W ∧ W ≤ 40) ∧ UpL (ItemW W) L L.length
def LinesOk (L : List (List Int)) (W : Int) : Prop := L.length ≤ 30 ∧ (1 ≤ W ∧ W ≤ 40) ∧ UpL (LineW W) L L.length
theorem boolOf (p : Prop) : ∃ b : Bool, b = true ↔ p := ⟨@decide p (Classical.propDecidable p), by simp⟩

/-- the line of some words -/
def pack : List (List Int) → List Int
  | [] => []
  | x :: r => x ++ r.flatMap fun y => 0 :: y
theorem pack_snoc {M : List (List Int)} (h : M ≠ []) (y : List Int) : pack (M ++ [y]) = pack M ++ 0 :: y := by
  cases M with
  | nil => exact absurd rfl h
  | cons x r => simp [pack, List.flatMap_append]
theorem take_succL {α : Type} (d : α) (L : List α) {k : Nat} (h : k < L.length) : L.take (k + 1) = L.take k ++ [L.getD k d] := by
  rw [List.take_add_one, List.getElem?_eq_getElem h, List.getD_eq_getElem?_getD, List.getElem?_eq_getElem h]; rfl
theorem pack_one {M : List (List Int)} (h : 0 < M.length) : pack (M.take 1) = M.getD 0 [] := by
  cases M with
  | nil => simp at h
  | cons x r => simp [pack]
theorem pack_more {M : List (List Int)} {k : Nat} (h : k < M.length) (hk : 0 < k) : pack (M.take (k + 1)) = pack (M.take k) ++ 0 :: M.getD k [] := by
  rw [take_succL [] M h, pack_snoc]
  intro e
  have := congrArg List.length e
  rw [List.length_take, List.length_nil] at this
  omega
/-- c words fit on the first line, and no more -/
def Full (W : Int) (S : List (List Int)) (c : Nat) : Prop :=
  1 ≤ c ∧ c ≤ S.length ∧ (∀ j, 2 ≤ j → j ≤ c → ((pack (S.take j)).length : Int) ≤ W) ∧ (c = S.length ∨ W < ((pack (S.take (c + 1))).length : Int))
theorem Full.same {W : Int} {S : List (List Int)} {c d : Nat} (h : Full W S c) (k : Full W S d) : c = d := by
  have key : ∀ c d, Full W S c → Full W S d → ¬ c < d := by
    intro c d h k hlt
    rcases h.2.2.2 with h4 | h4
    · have := k.2.1; omega
    · have := k.2.2.1 (c + 1) (by have := h.1; omega) (by omega); omega
  have h1 := key c d h k
  have h2 := key d c k h
  omega
/-- the lines of words, each as full as can be -/
inductive FillFrom (W : Int) : List (List Int) → List (List Int) → Prop
  | done : FillFrom W [] []
  | step {S : List (List Int)} {c : Nat} {R : List (List Int)} : Full W S c → FillFrom W (S.drop c) R → FillFrom W S (pack (S.take c) :: R)
theorem FillFrom.same {W : Int} {S R : List (List Int)} (h : FillFrom W S R) : ∀ {R' : List (List Int)}, FillFrom W S R' → R = R' := by
  induction h with
  | done =>
    intro R' k
    cases k with
    | done => rfl
    | step hf _ => have h1 := hf.1; have h2 := hf.2.1; simp at h2; omega
  | step hf _ ih =>
    intro R' k
    cases k with
    | done => have h1 := hf.1; have h2 := hf.2.1; simp at h2; omega
    | step hf' k' =>
      obtain rfl := hf.same hf'
      rw [ih k']

/-- the words of a line, cell by cell: the words that are done, and the word that goes on -/
def wStep (s : List (List Int) × List Int) (c : Int) : List (List Int) × List Int :=
  if c ≠ 0 then (s.1, s.2 ++ [c]) else if s.2 = [] then s else (s.1 ++ [s.2], [])
def wEnd (s : List (List Int) × List Int) : List (List Int) := if s.2 = [] then s.1 else s.1 ++ [s.2]
def wol (line : List Int) : List (List Int) := wEnd (line.foldl wStep ([], []))
def wolAll (L : List (List Int)) : List (List Int) := L.flatMap wol
theorem wolAll_succ (L : List (List Int)) {k : Nat} (h : k < L.length) : wolAll (L.take (k + 1)) = wolAll (L.take k) ++ wol (L.getD k []) := by
  unfold wolAll
  rw [take_succL [] L h, List.flatMap_append]
  simp
theorem fold_succ (line : List Int) {k : Nat} (h : k < line.length) (s : List (List Int) × List Int) : (line.take (k + 1)).foldl wStep s = wStep ((line.take k).foldl wStep s) (line.getD k 0) := by
  rw [take_succL 0 line h, List.foldl_append]; rfl
theorem wStep_shift (A : List (List Int)) (s : List (List Int) × List Int) (c : Int) : wStep (A ++ s.1, s.2) c = (A ++ (wStep s c).1, (wStep s c).2) := by
  unfold wStep
  by_cases h : c ≠ 0
  · simp [h]
  · by_cases h2 : s.2 = []
    · simp [h, h2]
    · simp [h, h2]
theorem fold_shift (A : List (List Int)) (line : List Int) : ∀ s : List (List Int) × List Int, line.foldl wStep (A ++ s.1, s.2) = (A ++ (line.foldl wStep s).1, (line.foldl wStep s).2) := by
  induction line with
  | nil => intro s; rfl
  | cons c r ih => intro s; rw [List.foldl_cons, List.foldl_cons, wStep_shift, ← ih]
theorem wol_from (A : List (List Int)) (line : List Int) : wEnd (line.foldl wStep (A, [])) = A ++ wol line := by
  have h := fold_shift A line ([], [])
  simp only [List.append_nil] at h
  rw [h]
  unfold wol wEnd
  split <;> simp
/-- what is left free, squared -/
def sqFree (W : Int) (zs : List Int) : Int := (W - zs.length) * (W - zs.length)
def costL (W : Int) : List (List Int) → Int
  | [] => 0
  | [_] => 0
  | x :: y :: r => sqFree W x + costL W (y :: r)
theorem costL_drop (W : Int) (L : List (List Int)) {k : Nat} (h : k + 1 < L.length) : costL W (L.drop k) = sqFree W (L.getD k []) + costL W (L.drop (k + 1)) := by
  rw [List.drop_eq_getElem_cons (by omega : k < L.length), List.drop_eq_getElem_cons h, List.getD_eq_getElem?_getD, List.getElem?_eq_getElem (by omega)]
  rfl
theorem costL_last (W : Int) (L : List (List Int)) {k : Nat} (h : L.length ≤ k + 1) : costL W (L.drop k) = 0 := by
  by_cases e : k < L.length
  · rw [List.drop_eq_getElem_cons e, List.drop_eq_nil_of_le h]; rfl
  · rw [List.drop_eq_nil_of_le (by omega)]; rfl
theorem sqFree_le {W : Int} {zs : List Int} (h : (zs.length : Int) ≤ W) (hW : W ≤ 40) : 0 ≤ sqFree W zs ∧ sqFree W zs ≤ 1600 := by
  unfold sqFree
  obtain ⟨d, hd⟩ : ∃ d : Nat, W - zs.length = d := ⟨(W - zs.length).toNat, by omega⟩
  rw [hd]
  have h1 : d ≤ 40 := by omega
  have h2 : d * d ≤ 40 * 40 := Nat.mul_le_mul h1 h1
  constructor
  · omega
  · have : (d : Int) * d = ((d * d : Nat) : Int) := by simp
    omega
end Go.Proofs.Ytfgnckafpnobhaa
