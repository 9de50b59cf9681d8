
/- Signals: what it means that a slice reads as a list of signals, and what owns one. -/
import Derived.Test.YtlkhpfknmdimbaaExS
import Derived.Deep.Slices
import Derived.Deep.Fields
import Derived.ChangeSame
import Derived.Deep.RegionHeld3
import Derived.Deep.QuietTactic
import Derived.BigQuiet
import Derived.Deep.Onto
import Derived.Handy
namespace Go.Proofs.Ytlkhpfknmdimbaa
open Go.RowKit Go.ChangeShapes Go.WideShapes

theorem keptF {p : Prop} (h : p) : Hid p := h
/-- a signal: its pitch, its value -/
structure PSig where
  at_ : Int
  st : Bool
def noS : PSig := ⟨0, false⟩
instance : Inhabited PSig := ⟨noS⟩
def SigAt (w : World) (g o : Nat) (x : PSig) : Prop :=
  w.cell? ⟨g, o, none⟩ = some (.int .i64 x.at_) ∧ w.cell? ⟨g, o + 1, none⟩ = some (.bool x.st)
/-- the slice value v reads as the signals P -/
def SigsAt (w : World) (v : Value) (P : List PSig) : Prop :=
  ∃ a cap, v = .slice a P.length cap ∧ P.length ≤ cap ∧ cap ≤ 9223372036854775807 ∧
    (P = [] ∨ ∃ g off, a = some ⟨g, off, none⟩ ∧ ∀ i, i < P.length → SigAt w g (off + i * 2) (P.getD i noS))
theorem SigAt.below {w w' : World} {g o : Nat} {p : PSig} (h : SigAt w g o p) (hb : Below w.heap.size w w') : SigAt w' g o p := by
  obtain ⟨h1, h2⟩ := h
  exact ⟨(hb.cell (World.block_lt_of_cell? w _ h1)).trans h1, (hb.cell (World.block_lt_of_cell? w _ h2)).trans h2⟩
theorem SigsAt.below {w w' : World} {v : Value} {P : List PSig} (h : SigsAt w v P) (hb : Below w.heap.size w w') : SigsAt w' v P := by
  obtain ⟨a, cap, h1, h2, h3, h4⟩ := h
  refine ⟨a, cap, h1, h2, h3, ?_⟩
  rcases h4 with h4 | ⟨g, off, h4, h5⟩
  · exact .inl h4
  · exact .inr ⟨g, off, h4, fun i hi => (h5 i hi).below hb⟩
def SigFits (p : PSig) : Prop := -9223372036854775808 ≤ p.at_ ∧ p.at_ ≤ 9223372036854775807
def SigsFit (P : List PSig) : Prop := ∀ p ∈ P, SigFits p
theorem SigsFit.at {P : List PSig} (h : SigsFit P) (k : Nat) : SigFits (P.getD k noS) := by
  rw [List.getD_eq_getElem?_getD]
  by_cases hk : k < P.length
  · rw [List.getElem?_eq_getElem hk, Option.getD_some]; exact h _ (List.getElem_mem _)
  · rw [List.getElem?_eq_none (by omega), Option.getD_none]
    simp [SigFits, noS]
theorem SigsAt.nth {w : World} {v : Value} {P : List PSig} (h : SigsAt w v P) {k : Nat} (hk : k < P.length) : ∃ g off c, v = .slice (some ⟨g, off, none⟩) P.length c ∧ w.cell? ⟨g, off + k * 2, none⟩ = some (.int .i64 (P.getD k noS).at_) ∧ w.cell? ⟨g, off + k * 2 + 1, none⟩ = some (.bool (P.getD k noS).st) := by
  obtain ⟨a, c, rfl, _, _, h4⟩ := h
  rcases h4 with rfl | ⟨g, off, rfl, h5⟩
  · exact absurd hk (by simp)
  · exact ⟨g, off, c, rfl, (h5 k hk).1, (h5 k hk).2⟩
theorem SigsAt.len {w : World} {a : Option Addr} {n c : Nat} {P : List PSig} (h : SigsAt w (.slice a n c) P) : P.length = n := by
  obtain ⟨a', c', e, _⟩ := h
  injection e with _ e2 _
  exact e2.symm

theorem infoSig : (Try.prog.info? 53).map (fun i => (i.zero, i.size, i.bytes)) = some (some (.agg #[.int .i64 0, .bool false]), 2, 16) := by kernel_rfl
/-- the slice v owns the row of the signals, behind S -/
def scell (p : PSig) : List Value := [.int .i64 p.at_, .bool p.st]
def scells (P : List PSig) : List Value := P.flatMap scell
theorem scells_len (P : List PSig) : (scells P).length = P.length * 2 := by
  induction P with
  | nil => rfl
  | cons q P ih => simp [scells, scell] at ih ⊢; omega
theorem scells_at : ∀ (P : List PSig) (i : Nat) (_ : i < P.length), (scells P)[i * 2]? = some (.int .i64 (P.getD i noS).at_) ∧ (scells P)[i * 2 + 1]? = some (.bool (P.getD i noS).st) := by
  intro P
  induction P with
  | nil => intro i h; simp at h
  | cons q P ih =>
    intro i h
    have hc : scells (q :: P) = scell q ++ scells P := rfl
    have hl : (scell q).length = 2 := rfl
    cases i with
    | zero => rw [hc]; exact ⟨rfl, rfl⟩
    | succ i =>
      have h' : i < P.length := by simpa using h
      obtain ⟨e0, e1⟩ := ih i h'
      have hg : (q :: P).getD (i + 1) noS = P.getD i noS := by simp [List.getD_eq_getElem?_getD]
      rw [hc, hg]
      refine ⟨?_, ?_⟩
      · rw [List.getElem?_append_right (by rw [hl]; omega), hl, show (i + 1) * 2 - 2 = i * 2 from by omega, e0]
      · rw [List.getElem?_append_right (by rw [hl]; omega), hl, show (i + 1) * 2 + 1 - 2 = i * 2 + 1 from by omega, e1]
theorem scells_snoc (P : List PSig) (p : PSig) : scells P ++ scell p = scells (P ++ [p]) := by simp [scells]
def OwnSg (w : World) (S : Nat) (v : Value) (P : List PSig) : Prop := w.ownsRow S 53 2 v P.length (scells P)
theorem OwnSg.nil (w : World) (S : Nat) : OwnSg w S (.slice none 0 0) [] := World.ownsRow_nil _ _ _ _
theorem OwnSg.made (w : World) (S : Nat) (hS : S ≤ w.heap.size) : OwnSg (w.alloc (.cells #[] 53)) S (.slice (some ⟨w.heap.size, 0, none⟩) 0 0) [] :=
  World.ownsRow_made w #[] 0 hS (by unfold maxLen; omega) rfl
theorem OwnSg.below {w w' : World} {S : Nat} {v : Value} {P : List PSig} (h : OwnSg w S v P) (hb : Below w.heap.size w w') : OwnSg w' S v P :=
  World.ownsRow.kept (row := none) h ⟨hb.os, hb.tape, hb.output, hb.size, fun k hk _ => hb.block k hk⟩ (by cases hv : v.ownBlock <;> simp)
theorem OwnSg.at {w : World} {S : Nat} {v : Value} {P : List PSig} (h : OwnSg w S v P) : SigsAt w v P := by
  have hh := h
  rcases h.2 with ⟨rfl, hn⟩ | ⟨g, cap, cur, rfl, _, _, h4, h5, _⟩
  · have : P = [] := List.length_eq_zero_iff.1 hn
    subst this
    exact ⟨none, 0, rfl, Nat.le_refl _, by omega, .inl rfl⟩
  · refine ⟨_, cap, rfl, h4, by unfold maxLen at h5; exact h5, .inr ⟨g, 0, rfl, fun i hi => ?_⟩⟩
    rw [Nat.zero_add]
    obtain ⟨e0, e1⟩ := scells_at P i hi
    exact ⟨(World.ownsRow.cellAt hh (i * 2) (by omega)).trans e0, (World.ownsRow.cellAt hh (i * 2 + 1) (by omega)).trans e1⟩
theorem OwnSg.isSlice {w : World} {S : Nat} {v : Value} {P : List PSig} (h : OwnSg w S v P) : ∃ a n c, v = .slice a n c := by
  rcases h.2 with ⟨rfl, _⟩ | ⟨g, cap, cur, rfl, _⟩ <;> exact ⟨_, _, _, rfl⟩
theorem sigAt_alloc (w : World) (p : PSig) : SigAt (w.alloc (.cells #[.int .i64 p.at_, .bool p.st] 53)) w.heap.size 0 p :=
  ⟨by rw [cell_of_row _ w.heap.size _ _ _ _ (heap_alloc_new w _)]; rfl, by rw [cell_of_row _ w.heap.size _ _ _ _ (heap_alloc_new w _)]; rfl⟩
theorem wpList_append_sig {ops : Array Oper} {rest : List Oper} {o : Oper} {a : Act} {w : World} {Q : Exit → Act → World → Prop} (hgd : o.guard = none) (s x : Operand)
    (ho : o.op = .call { callee := .builtin .append, args := #[s, x], argTypes := #[23, 23] }) (base g : Nat) {v : Value} {P : List PSig} (p : PSig) (hs : a.eval s = v) (hx : a.eval x = .slice (some ⟨g, 0, none⟩) 1 1)
    (h1 : OwnSg w base v P) (h2 : SigAt w g 0 p) (hl : P.length ≤ 100000000) (hbase : base ≤ w.heap.size)
    (h : ∀ v' w', OwnSg w' base v' (P ++ [p]) → w.grownBy w' v.ownBlock → wpList Try.prog ops Q rest (a.put o.dst v') w') : wpList Try.prog ops Q (o :: rest) a w := by
  obtain ⟨i0, hi, hz0, hz1, hz2⟩ := info_parts infoSig
  refine wpList_append_own w hgd s x 23 ho base 53 i0 (.agg #[.int .i64 0, .bool false]) 2 16 Try.underlying23 hi hz0 hz1 hz2 rfl (by decide) v P.length (scells P) hs h1 ⟨g, 0, none⟩ 1 1 (scell p) hx rfl ?_ ?_ (by unfold maxLen; omega) (by omega) hbase ?_
  · intro j u hj
    obtain ⟨c0, c1⟩ := h2
    rw [Addr.add_lit]
    match j, hj with
    | 0, hj => rw [c0]; exact hj
    | 1, hj => rw [c1]; exact hj
  · intro u hu
    simp [scell] at hu
    rcases hu with rfl | rfl <;> rfl
  · intro v' w' hown hgrow hnil
    refine h v' w' ?_ hgrow
    unfold OwnSg
    rw [List.length_append, ← scells_snoc]
    exact hown
theorem grown_sg {B : Nat} {w wr w' : World} {v : Value} {P : List PSig} {o : Obj} (hb : Below B w wr) (hs : B ≤ wr.heap.size) (ho : OwnSg wr B v P) (hg : (wr.alloc o).grownBy w' v.ownBlock) : Below B w w' :=
  (hb.alloc hs o).grown hg (by have h := (World.grownBy_alloc wr o none).size; omega) (fun k hk => (World.ownsRow.lt ho k hk).1)
theorem scells_set2 : ∀ (P : List PSig) (i : Nat) (_ : i < P.length) (x : Int) (y : Bool), ((scells P).set (i * 2) (.int .i64 x)).set (i * 2 + 1) (.bool y) = scells (P.set i ⟨x, y⟩) := by
  intro P
  induction P with
  | nil => intro i h; simp at h
  | cons q P ih =>
    intro i h x y
    have hl : (scell q).length = 2 := rfl
    cases i with
    | zero => rfl
    | succ i =>
      have h' : i < P.length := by simpa using h
      show ((scell q ++ scells P).set ((i + 1) * 2) _).set ((i + 1) * 2 + 1) _ = _
      rw [List.set_append_right _ _ (by rw [hl]; omega), List.set_append_right _ _ (by rw [hl]; omega), hl, show (i + 1) * 2 - 2 = i * 2 from by omega, show (i + 1) * 2 + 1 - 2 = i * 2 + 1 from by omega, ih i h' x y]
      rfl
theorem OwnSg.len {w : World} {S n c : Nat} {a : Option Addr} {P : List PSig} (h : OwnSg w S (.slice a n c) P) : P.length = n := by
  rcases h.2 with ⟨e, hn⟩ | ⟨g, cap, cur, e, _⟩
  · injection e with _ e2 _; rw [hn, e2]
  · injection e with _ e2 _; exact e2.symm
theorem OwnSg.addr {w : World} {S n c : Nat} {a : Option Addr} {P : List PSig} (h : OwnSg w S (.slice a n c) P) (hn : 0 < n) : ∃ g, a = some ⟨g, 0, none⟩ ∧ S ≤ g ∧ g < w.heap.size := by
  have hl := h.len
  rcases h.2 with ⟨e, h0⟩ | ⟨g, cap, cur, e, h1, h2, _⟩
  · omega
  · have e' := e
    injection e with e1 _ _
    subst e1
    exact ⟨g, rfl, World.ownsRow.lt h g rfl⟩
theorem OwnSg.set2 {w : World} {S g n c : Nat} {P : List PSig} (h : OwnSg w S (.slice (some ⟨g, 0, none⟩) n c) P) {i : Nat} (hi : i < n) (x : Int) (y : Bool) :
    OwnSg ((w.setCell ⟨g, i * 2, none⟩ (.int .i64 x)).setCell ⟨g, i * 2 + 1, none⟩ (.bool y)) S (.slice (some ⟨g, 0, none⟩) n c) (P.set i ⟨x, y⟩) := by
  have hl := h.len
  subst hl
  have := (World.ownsRow.stored (World.ownsRow.stored h (i * 2) (.int .i64 x)).1 (i * 2 + 1) (.bool y)).1
  rw [scells_set2 P i hi x y] at this
  unfold OwnSg
  rw [List.length_set]
  exact this
theorem OwnSg.cell2 {w : World} {S g n c : Nat} {P : List PSig} (h : OwnSg w S (.slice (some ⟨g, 0, none⟩) n c) P) {i : Nat} (hi : i < n) :
    w.cell? ⟨g, i * 2, none⟩ = some (.int .i64 (P.getD i noS).at_) ∧ w.cell? ⟨g, i * 2 + 1, none⟩ = some (.bool (P.getD i noS).st) ∧ ∀ j, w.frozen? ⟨g, j, none⟩ = false := by
  have hl := h.len
  subst hl
  obtain ⟨f0, f1⟩ := scells_at P i hi
  exact ⟨(World.ownsRow.cellAt h _ (by omega)).trans f0, (World.ownsRow.cellAt h _ (by omega)).trans f1, fun j => World.ownsRow.frozenAt h j⟩
theorem OwnSg.of_block {w w' : World} {base : Nat} {v : Value} {P : List PSig} (h : OwnSg w base v P) (hk : ∀ k, v.ownBlock = some k → w'.heap[k]? = w.heap[k]?) : OwnSg w' base v P := by
  rcases h with ⟨h0, ⟨hv, hn⟩ | ⟨g, cap, cur, hv, hb, hg, h1, h2, h3, h4⟩⟩
  · exact ⟨h0, .inl ⟨hv, hn⟩⟩
  · exact ⟨h0, .inr ⟨g, cap, cur, hv, hb, (hk g (by rw [hv]; rfl)).trans hg, h1, h2, h3, h4⟩⟩

/-- the first k signals of P, and none behind them -/
def cpS (P : List PSig) (n : Nat) : Nat → List PSig
  | 0 => List.replicate n noS
  | k + 1 => (cpS P n k).set k (P.getD k noS)
theorem cpS_len (P : List PSig) (n k : Nat) : (cpS P n k).length = n := by
  induction k with
  | zero => simp [cpS]
  | succ k ih => simp [cpS, ih]
theorem cpS_at (P : List PSig) (n : Nat) : ∀ k, k ≤ n → ∀ i, i < k → (cpS P n k).getD i noS = P.getD i noS := by
  intro k
  induction k with
  | zero => intro _ i hi; omega
  | succ k ih =>
    intro hk i hi
    show ((cpS P n k).set k _).getD i noS = _
    rw [List.getD_eq_getElem?_getD, List.getElem?_set]
    by_cases hik : k = i
    · subst hik
      rw [if_pos rfl, if_pos (by rw [cpS_len]; omega), Option.getD_some]
    · rw [if_neg hik, ← List.getD_eq_getElem?_getD]
      exact ih (by omega) i (by omega)
theorem cpS_all {P : List PSig} {n : Nat} (h : P.length = n) : cpS P n n = P := by
  apply List.ext_getElem (by rw [cpS_len, h])
  intro i h1 h2
  have := cpS_at P n n (Nat.le_refl _) i (by omega)
  simpa [List.getD_eq_getElem?_getD, h1, h2] using this
end Go.Proofs.Ytlkhpfknmdimbaa
