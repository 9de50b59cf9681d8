
/- Lists of notes: what it means that a slice reads as a list of notes; a copy; whether two are the same. -/
import Derived.Test.YtekchmbbafjmmaaExS
import Derived.Deep.Slices
import Derived.Deep.Fields
import Derived.ChangeSame
import Derived.Deep.RegionHeld3
import Derived.Deep.QuietTactic
import Derived.BigQuiet
import Derived.Deep.Onto
import Derived.Handy
namespace Go.Proofs.Ytekchmbbafjmmaa
open Go.RowKit Go.ChangeShapes Go.WideShapes

theorem keptN {p : Prop} (h : p) : Hid p := h
/-- a note: its pitch, its value -/
structure PNote where
  p : Int
  v : Int
def noN : PNote := ⟨0, 0⟩
instance : Inhabited PNote := ⟨noN⟩
def NoteAt (w : World) (g o : Nat) (x : PNote) : Prop :=
  w.cell? ⟨g, o, none⟩ = some (.int .i64 x.p) ∧ w.cell? ⟨g, o + 1, none⟩ = some (.int .i64 x.v)
/-- the slice value v reads as the notes P -/
def NotesAt (w : World) (v : Value) (P : List PNote) : Prop :=
  ∃ a cap, v = .slice a P.length cap ∧ P.length ≤ cap ∧ cap ≤ 9223372036854775807 ∧
    (P = [] ∨ ∃ g off, a = some ⟨g, off, none⟩ ∧ ∀ i, i < P.length → NoteAt w g (off + i * 2) (P.getD i noN))
theorem NoteAt.below {w w' : World} {g o : Nat} {p : PNote} (h : NoteAt w g o p) (hb : Below w.heap.size w w') : NoteAt w' g o p := by
  obtain ⟨h1, h2⟩ := h
  exact ⟨(hb.cell (World.block_lt_of_cell? w _ h1)).trans h1, (hb.cell (World.block_lt_of_cell? w _ h2)).trans h2⟩
theorem NotesAt.below {w w' : World} {v : Value} {P : List PNote} (h : NotesAt w v P) (hb : Below w.heap.size w w') : NotesAt w' v P := by
  obtain ⟨a, cap, h1, h2, h3, h4⟩ := h
  refine ⟨a, cap, h1, h2, h3, ?_⟩
  rcases h4 with h4 | ⟨g, off, h4, h5⟩
  · exact .inl h4
  · exact .inr ⟨g, off, h4, fun i hi => (h5 i hi).below hb⟩
def NoteFits (p : PNote) : Prop := (-9223372036854775808 ≤ p.p ∧ p.p ≤ 9223372036854775807) ∧ -9223372036854775808 ≤ p.v ∧ p.v ≤ 9223372036854775807
def NotesFit (P : List PNote) : Prop := ∀ p ∈ P, NoteFits p
theorem NotesFit.at {P : List PNote} (h : NotesFit P) (k : Nat) : NoteFits (P.getD k noN) := by
  rw [List.getD_eq_getElem?_getD]
  by_cases hk : k < P.length
  · rw [List.getElem?_eq_getElem hk, Option.getD_some]; exact h _ (List.getElem_mem _)
  · rw [List.getElem?_eq_none (by omega), Option.getD_none]
    simp [NoteFits, noN]
theorem NotesAt.nth {w : World} {v : Value} {P : List PNote} (h : NotesAt w v P) {k : Nat} (hk : k < P.length) : ∃ g off c, v = .slice (some ⟨g, off, none⟩) P.length c ∧ w.cell? ⟨g, off + k * 2, none⟩ = some (.int .i64 (P.getD k noN).p) ∧ w.cell? ⟨g, off + k * 2 + 1, none⟩ = some (.int .i64 (P.getD k noN).v) := by
  obtain ⟨a, c, rfl, _, _, h4⟩ := h
  rcases h4 with rfl | ⟨g, off, rfl, h5⟩
  · exact absurd hk (by simp)
  · exact ⟨g, off, c, rfl, (h5 k hk).1, (h5 k hk).2⟩
theorem NotesAt.len {w : World} {a : Option Addr} {n c : Nat} {P : List PNote} (h : NotesAt w (.slice a n c) P) : P.length = n := by
  obtain ⟨a', c', e, _⟩ := h
  injection e with _ e2 _
  exact e2.symm
section SXNta
variable {H : Type} {enc : TypeId × Value → H} {W : World} {base : Nat} {spare : Nat → Bool} {held : Bool}
theorem cellsN_of {w : World} {b off : Nat} {n : Nat} {base : Nat} {cs : List Value} {i : Nat} (h : w.cells? base ((⟨b, off, none⟩ : Addr).add i) n = some cs) : cs.length = n ∧ ∀ j, j < n → w.cell? ⟨b, off + i + j, none⟩ = cs[j]? := by
  obtain ⟨_, h1, h2⟩ := World.cells?_some h
  refine ⟨h1, fun j hj => ?_⟩
  have := h2 j hj
  rw [add_plain, add_plain] at this
  exact this
end SXNta

/-- the slice v owns the row of the notes, behind S -/
def ncell (p : PNote) : List Value := [.int .i64 p.p, .int .i64 p.v]
def ncells (P : List PNote) : List Value := P.flatMap ncell
theorem ncells_len (P : List PNote) : (ncells P).length = P.length * 2 := by
  induction P with
  | nil => rfl
  | cons q P ih => simp [ncells, ncell] at ih ⊢; omega
theorem ncells_at : ∀ (P : List PNote) (i : Nat) (_ : i < P.length), (ncells P)[i * 2]? = some (.int .i64 (P.getD i noN).p) ∧ (ncells P)[i * 2 + 1]? = some (.int .i64 (P.getD i noN).v) := by
  intro P
  induction P with
  | nil => intro i h; simp at h
  | cons q P ih =>
    intro i h
    have hc : ncells (q :: P) = ncell q ++ ncells P := rfl
    have hl : (ncell q).length = 2 := rfl
    cases i with
    | zero => rw [hc]; exact ⟨rfl, rfl⟩
    | succ i =>
      have h' : i < P.length := by simpa using h
      obtain ⟨e0, e1⟩ := ih i h'
      have hg : (q :: P).getD (i + 1) noN = P.getD i noN := by simp [List.getD_eq_getElem?_getD]
      rw [hc, hg]
      refine ⟨?_, ?_⟩
      · rw [List.getElem?_append_right (by rw [hl]; omega), hl, show (i + 1) * 2 - 2 = i * 2 from by omega, e0]
      · rw [List.getElem?_append_right (by rw [hl]; omega), hl, show (i + 1) * 2 + 1 - 2 = i * 2 + 1 from by omega, e1]
theorem ncells_snoc (P : List PNote) (p : PNote) : ncells P ++ ncell p = ncells (P ++ [p]) := by simp [ncells]
theorem ncells_set2 : ∀ (P : List PNote) (i : Nat) (_ : i < P.length) (x y : Int), ((ncells P).set (i * 2) (.int .i64 x)).set (i * 2 + 1) (.int .i64 y) = ncells (P.set i ⟨x, y⟩) := by
  intro P
  induction P with
  | nil => intro i h; simp at h
  | cons q P ih =>
    intro i h x y
    have hl : (ncell q).length = 2 := rfl
    cases i with
    | zero => rfl
    | succ i =>
      have h' : i < P.length := by simpa using h
      show ((ncell q ++ ncells P).set ((i + 1) * 2) _).set ((i + 1) * 2 + 1) _ = _
      rw [List.set_append_right _ _ (by rw [hl]; omega), List.set_append_right _ _ (by rw [hl]; omega), hl, show (i + 1) * 2 - 2 = i * 2 from by omega, show (i + 1) * 2 + 1 - 2 = i * 2 + 1 from by omega, ih i h' x y]
      rfl
/-- the first k notes of P, and none behind them -/
def cpN (P : List PNote) (n : Nat) : Nat → List PNote
  | 0 => List.replicate n noN
  | k + 1 => (cpN P n k).set k (P.getD k noN)
theorem cpN_len (P : List PNote) (n k : Nat) : (cpN P n k).length = n := by
  induction k with
  | zero => simp [cpN]
  | succ k ih => simp [cpN, ih]
theorem cpN_at (P : List PNote) (n : Nat) : ∀ k, k ≤ n → ∀ i, i < k → (cpN P n k).getD i noN = P.getD i noN := by
  intro k
  induction k with
  | zero => intro _ i hi; omega
  | succ k ih =>
    intro hk i hi
    show ((cpN P n k).set k _).getD i noN = _
    rw [List.getD_eq_getElem?_getD, List.getElem?_set]
    by_cases hik : k = i
    · subst hik
      rw [if_pos rfl, if_pos (by rw [cpN_len]; omega), Option.getD_some]
    · rw [if_neg hik, ← List.getD_eq_getElem?_getD]
      exact ih (by omega) i (by omega)
theorem cpN_all {P : List PNote} {n : Nat} (h : P.length = n) : cpN P n n = P := by
  apply List.ext_getElem (by rw [cpN_len, h])
  intro i h1 h2
  have := cpN_at P n n (Nat.le_refl _) i (by omega)
  simpa [List.getD_eq_getElem?_getD, h1, h2] using this
theorem zeros_note (n : Nat) : (madeCells #[Value.int .i64 0, Value.int .i64 0] (n * 2)).toList = ncells (List.replicate n noN) := by
  have h1 : (madeCells #[Value.int .i64 0, Value.int .i64 0] (n * 2)).toList = List.replicate (n * 2) (.int .i64 0) := by
    rw [List.eq_replicate_iff]
    refine ⟨by rw [Array.length_toList, size_madeCells], fun b hb => ?_⟩
    simp only [madeCells, Array.toList_map, List.mem_map] at hb
    obtain ⟨k, _, rfl⟩ := hb
    have : k % 2 = 0 ∨ k % 2 = 1 := by omega
    rcases this with h | h <;> simp [h]
  have h2 : ncells (List.replicate n noN) = List.replicate (n * 2) (.int .i64 0) := by
    induction n with
    | zero => rfl
    | succ n ih =>
      rw [List.replicate_succ, show (n + 1) * 2 = n * 2 + 1 + 1 from by omega, List.replicate_succ, List.replicate_succ, ← ih (by
        rw [List.eq_replicate_iff]
        refine ⟨by rw [Array.length_toList, size_madeCells], fun b hb => ?_⟩
        simp only [madeCells, Array.toList_map, List.mem_map] at hb
        obtain ⟨k, _, rfl⟩ := hb
        have : k % 2 = 0 ∨ k % 2 = 1 := by omega
        rcases this with h | h <;> simp [h])]
      rfl
  rw [h1, h2]
end Go.Proofs.Ytekchmbbafjmmaa
