
/- Lists of notes: what it means that a slice reads as a list of notes; a copy; whether two are the same. -/
import Derived.Test.YtfofjjfnejigaaaExS
import Derived.Deep.Slices
import Derived.Deep.Fields
import Derived.ChangeSame
import Derived.Deep.RegionHeld3
import Derived.Deep.QuietTactic
import Derived.BigQuiet
import Derived.Deep.Onto
import Derived.Handy
namespace Go.Proofs.Ytfofjjfnejigaaa
open Go.RowKit Go.ChangeShapes Go.WideShapes

theorem keptN {p : Prop} (h : p) : Hid p := h
/-- a note: its pitch, its value -/
structure PNote where
  p : Int
  v : Int
def noN : PNote := ⟨0, 0⟩
instance : Inhabited PNote := ⟨noN⟩
def NoteAt (w : World) (g o : Nat) (x : PNote) : Prop :=
  w.cell? ⟨g, o, none⟩ = some (.int .i64 x.p) ∧ w.cell? ⟨g, o + 1, none⟩ = some (.int .i64 x.v)
/-- the slice value v reads as the notes P -/
def NotesAt (w : World) (v : Value) (P : List PNote) : Prop :=
  ∃ a cap, v = .slice a P.length cap ∧ P.length ≤ cap ∧ cap ≤ 9223372036854775807 ∧
    (P = [] ∨ ∃ g off, a = some ⟨g, off, none⟩ ∧ ∀ i, i < P.length → NoteAt w g (off + i * 2) (P.getD i noN))
theorem NoteAt.below {w w' : World} {g o : Nat} {p : PNote} (h : NoteAt w g o p) (hb : Below w.heap.size w w') : NoteAt w' g o p := by
  obtain ⟨h1, h2⟩ := h
  exact ⟨(hb.cell (World.block_lt_of_cell? w _ h1)).trans h1, (hb.cell (World.block_lt_of_cell? w _ h2)).trans h2⟩
theorem NotesAt.below {w w' : World} {v : Value} {P : List PNote} (h : NotesAt w v P) (hb : Below w.heap.size w w') : NotesAt w' v P := by
  obtain ⟨a, cap, h1, h2, h3, h4⟩ := h
  refine ⟨a, cap, h1, h2, h3, ?_⟩
  rcases h4 with h4 | ⟨g, off, h4, h5⟩
  · exact .inl h4
  · exact .inr ⟨g, off, h4, fun i hi => (h5 i hi).below hb⟩
def NoteFits (p : PNote) : Prop := (-9223372036854775808 ≤ p.p ∧ p.p ≤ 9223372036854775807) ∧ -9223372036854775808 ≤ p.v ∧ p.v ≤ 9223372036854775807
def NotesFit (P : List PNote) : Prop := ∀ p ∈ P, NoteFits p
theorem NotesFit.at {P : List PNote} (h : NotesFit P) (k : Nat) : NoteFits (P.getD k noN) := by
  rw [List.getD_eq_getElem?_getD]
  by_cases hk : k < P.length
  · rw [List.getElem?_eq_getElem hk, Option.getD_some]; exact h _ (List.getElem_mem _)
  · rw [List.getElem?_eq_none (by omega), Option.getD_none]
    simp [NoteFits, noN]
theorem NotesAt.nth {w : World} {v : Value} {P : List PNote} (h : NotesAt w v P) {k : Nat} (hk : k < P.length) : ∃ g off c, v = .slice (some ⟨g, off, none⟩) P.length c ∧ w.cell? ⟨g, off + k * 2, none⟩ = some (.int .i64 (P.getD k noN).p) ∧ w.cell? ⟨g, off + k * 2 + 1, none⟩ = some (.int .i64 (P.getD k noN).v) := by
  obtain ⟨a, c, rfl, _, _, h4⟩ := h
  rcases h4 with rfl | ⟨g, off, rfl, h5⟩
  · exact absurd hk (by simp)
  · exact ⟨g, off, c, rfl, (h5 k hk).1, (h5 k hk).2⟩
theorem NotesAt.len {w : World} {a : Option Addr} {n c : Nat} {P : List PNote} (h : NotesAt w (.slice a n c) P) : P.length = n := by
  obtain ⟨a', c', e, _⟩ := h
  injection e with _ e2 _
  exact e2.symm
section SXNta
variable {H : Type} {enc : TypeId × Value → H} {W : World} {base : Nat} {spare : Nat → Bool} {held : Bool}
theorem cellsN_of {w : World} {b off : Nat} {n : Nat} {base : Nat} {cs : List Value} {i : Nat} (h : w.cells? base ((⟨b, off, none⟩ : Addr).add i) n = some cs) : cs.length = n ∧ ∀ j, j < n → w.cell? ⟨b, off + i + j, none⟩ = cs[j]? := by
  obtain ⟨_, h1, h2⟩ := World.cells?_some h
  refine ⟨h1, fun j hj => ?_⟩
  have := h2 j hj
  rw [add_plain, add_plain] at this
  exact this
set_option maxRecDepth 100000 in
theorem open_note_at {fuel b o : Nat} {cs : List Value} {x : DataW H × List MemPlace} (hc : cs.length = 2) (hcell : ∀ j, j < 2 → W.cell? ⟨b, o + j, none⟩ = cs[j]?)
    (h : DataW.trod enc Try.prog W base spare held fuel 56 cs = some x) : ∃ p, NoteAt W b o p ∧ NoteFits p := by
  obtain ⟨xs, n, _, _, _, hxl, hf⟩ := DataW.trod_struct Try.underlying56 h
  match xs, hxl, cs, hc with
  | [y0, y1], _, [v0, v1], _ =>
    have k2 : Try.prog.cellsOf 3 = 1 := by kernel_rfl
    have g0 : DataW.trod enc Try.prog W base spare held n 3 (([v0, v1].drop 0).take (Try.prog.cellsOf 3)) = [y0, y1][0]? := hf 0 _ rfl
    have g1 : DataW.trod enc Try.prog W base spare held n 3 (([v0, v1].drop 1).take (Try.prog.cellsOf 3)) = [y0, y1][1]? := hf 1 _ rfl
    rw [k2] at g0 g1
    simp only [List.drop_zero, List.drop_succ_cons, List.take_succ_cons, List.take_zero, List.getElem?_cons_zero, List.getElem?_cons_succ] at g0 g1
    obtain ⟨p0, hp0, _, hw0⟩ := DataW.trod_int Try.underlying3 g0
    obtain ⟨p1, hp1, _, hw1⟩ := DataW.trod_int Try.underlying3 g1
    simp at hp0 hp1
    subst hp0 hp1
    have c0 := hcell 0 (by omega)
    have c1 := hcell 1 (by omega)
    have b0 := bounds_i64 hw0
    have b1 := bounds_i64 hw1
    refine ⟨⟨p0, p1⟩, ⟨by simpa using c0, by simpa using c1⟩, ⟨?_, ?_⟩, ?_, ?_⟩ <;> simp only <;> omega
set_option maxRecDepth 100000 in
theorem open_notes {fuel : Nat} {a : Option Addr} {len cap : Nat} {x : DataW H × List MemPlace} (h : DataW.trod enc Try.prog W base spare held fuel 37 [.slice a len cap] = some x) :
    ∃ P, NotesAt W (.slice a len cap) P ∧ P.length = len ∧ NotesFit P := by
  have hC : Try.prog.cellsOf 56 = 2 := by kernel_rfl
  rcases Go.Deep.open_slice Try.underlying37 h with ⟨hcs, _⟩ | ⟨a', len', cap', m, n, D, Pl, hcs, hb, hl, hm, hmm, _, hi⟩
  · simp at hcs
    obtain ⟨rfl, rfl, rfl⟩ := hcs
    exact ⟨[], ⟨none, 0, rfl, Nat.le_refl _, by omega, .inl rfl⟩, rfl, fun z hz => absurd hz (by simp)⟩
  · simp at hcs
    obtain ⟨rfl, rfl, rfl⟩ := hcs
    have hlm : len ≤ m := by rw [hmm]; split <;> omega
    have hcm : cap ≤ 9223372036854775807 := by unfold maxLen at hm; exact hm
    rw [hC] at hi
    by_cases h0 : len = 0
    · subst h0
      exact ⟨[], ⟨some a', cap, rfl, by simp, hcm, .inl rfl⟩, rfl, fun z hz => absurd hz (by simp)⟩
    · obtain ⟨cs0, hc0, _⟩ := hi 0 (by omega)
      rw [Nat.zero_mul] at hc0
      have hsp : ∃ b off, a' = ⟨b, off, none⟩ := by
        obtain ⟨_, h1, h2⟩ := World.cells?_some hc0
        have h3 := h2 0 (by omega)
        obtain ⟨u, hu⟩ : ∃ u, cs0[0]? = some u := ⟨cs0[0]'(by omega), List.getElem?_eq_getElem (by omega)⟩
        rw [hu] at h3
        obtain ⟨b, off, spot⟩ := a'
        have hspot : spot = none := by simpa [Addr.add] using World.cell?_spot h3
        exact ⟨b, off, by rw [hspot]⟩
      obtain ⟨b, off, rfl⟩ := hsp
      have each : ∀ i, i < len → ∃ r, NoteAt W b (off + i * 2) r ∧ NoteFits r := by
        intro i hil
        obtain ⟨cs, hc, ht⟩ := hi i (by omega)
        obtain ⟨hc1, hc2⟩ := cellsN_of hc
        exact open_note_at hc1 hc2 ht
      obtain ⟨R, hR⟩ := Go.Deep.choose_lt each
      have hlen : ((List.range len).map R).length = len := by simp
      refine ⟨(List.range len).map R, ⟨_, cap, by rw [hlen], by omega, hcm, .inr ⟨b, off, rfl, fun i hi => ?_⟩⟩, hlen, fun r hr => ?_⟩
      · have hi' : i < len := by omega
        have : ((List.range len).map R).getD i noN = R i := by simp [List.getD_eq_getElem?_getD, hi']
        rw [this]; exact (hR i hi').1
      · obtain ⟨i, hi, rfl⟩ := List.mem_map.1 hr
        exact (hR i (List.mem_range.1 hi)).2
end SXNta

theorem infoNote : (Try.prog.info? 35).map (fun i => (i.zero, i.size, i.bytes)) = some (some (.agg #[.int .i64 0, .int .i64 0]), 2, 16) := by kernel_rfl
/-- the slice v owns the row of the notes, behind S -/
def ncell (p : PNote) : List Value := [.int .i64 p.p, .int .i64 p.v]
def ncells (P : List PNote) : List Value := P.flatMap ncell
theorem ncells_len (P : List PNote) : (ncells P).length = P.length * 2 := by
  induction P with
  | nil => rfl
  | cons q P ih => simp [ncells, ncell] at ih ⊢; omega
theorem ncells_at : ∀ (P : List PNote) (i : Nat) (_ : i < P.length), (ncells P)[i * 2]? = some (.int .i64 (P.getD i noN).p) ∧ (ncells P)[i * 2 + 1]? = some (.int .i64 (P.getD i noN).v) := by
  intro P
  induction P with
  | nil => intro i h; simp at h
  | cons q P ih =>
    intro i h
    have hc : ncells (q :: P) = ncell q ++ ncells P := rfl
    have hl : (ncell q).length = 2 := rfl
    cases i with
    | zero => rw [hc]; exact ⟨rfl, rfl⟩
    | succ i =>
      have h' : i < P.length := by simpa using h
      obtain ⟨e0, e1⟩ := ih i h'
      have hg : (q :: P).getD (i + 1) noN = P.getD i noN := by simp [List.getD_eq_getElem?_getD]
      rw [hc, hg]
      refine ⟨?_, ?_⟩
      · rw [List.getElem?_append_right (by rw [hl]; omega), hl, show (i + 1) * 2 - 2 = i * 2 from by omega, e0]
      · rw [List.getElem?_append_right (by rw [hl]; omega), hl, show (i + 1) * 2 + 1 - 2 = i * 2 + 1 from by omega, e1]
theorem ncells_snoc (P : List PNote) (p : PNote) : ncells P ++ ncell p = ncells (P ++ [p]) := by simp [ncells]
def OwnNt (w : World) (S : Nat) (v : Value) (P : List PNote) : Prop := w.ownsRow S 35 2 v P.length (ncells P)
theorem OwnNt.nil (w : World) (S : Nat) : OwnNt w S (.slice none 0 0) [] := World.ownsRow_nil _ _ _ _
theorem OwnNt.made (w : World) (S : Nat) (hS : S ≤ w.heap.size) : OwnNt (w.alloc (.cells #[] 35)) S (.slice (some ⟨w.heap.size, 0, none⟩) 0 0) [] :=
  World.ownsRow_made w #[] 0 hS (by unfold maxLen; omega) rfl
theorem OwnNt.below {w w' : World} {S : Nat} {v : Value} {P : List PNote} (h : OwnNt w S v P) (hb : Below w.heap.size w w') : OwnNt w' S v P :=
  World.ownsRow.kept (row := none) h ⟨hb.os, hb.tape, hb.output, hb.size, fun k hk _ => hb.block k hk⟩ (by cases hv : v.ownBlock <;> simp)
theorem OwnNt.at {w : World} {S : Nat} {v : Value} {P : List PNote} (h : OwnNt w S v P) : NotesAt w v P := by
  have hh := h
  rcases h.2 with ⟨rfl, hn⟩ | ⟨g, cap, cur, rfl, _, _, h4, h5, _⟩
  · have : P = [] := List.length_eq_zero_iff.1 hn
    subst this
    exact ⟨none, 0, rfl, Nat.le_refl _, by omega, .inl rfl⟩
  · refine ⟨_, cap, rfl, h4, by unfold maxLen at h5; exact h5, .inr ⟨g, 0, rfl, fun i hi => ?_⟩⟩
    rw [Nat.zero_add]
    obtain ⟨e0, e1⟩ := ncells_at P i hi
    exact ⟨(World.ownsRow.cellAt hh (i * 2) (by omega)).trans e0, (World.ownsRow.cellAt hh (i * 2 + 1) (by omega)).trans e1⟩
theorem OwnNt.isSlice {w : World} {S : Nat} {v : Value} {P : List PNote} (h : OwnNt w S v P) : ∃ a n c, v = .slice a n c := by
  rcases h.2 with ⟨rfl, _⟩ | ⟨g, cap, cur, rfl, _⟩ <;> exact ⟨_, _, _, rfl⟩
theorem noteAt_alloc (w : World) (p : PNote) : NoteAt (w.alloc (.cells #[.int .i64 p.p, .int .i64 p.v] 35)) w.heap.size 0 p :=
  ⟨by rw [cell_of_row _ w.heap.size _ _ _ _ (heap_alloc_new w _)]; rfl, by rw [cell_of_row _ w.heap.size _ _ _ _ (heap_alloc_new w _)]; rfl⟩
theorem wpList_append_note {ops : Array Oper} {rest : List Oper} {o : Oper} {a : Act} {w : World} {Q : Exit → Act → World → Prop} (hgd : o.guard = none) (s x : Operand)
    (ho : o.op = .call { callee := .builtin .append, args := #[s, x], argTypes := #[23, 23] }) (base g : Nat) {v : Value} {P : List PNote} (p : PNote) (hs : a.eval s = v) (hx : a.eval x = .slice (some ⟨g, 0, none⟩) 1 1)
    (h1 : OwnNt w base v P) (h2 : NoteAt w g 0 p) (hl : P.length ≤ 100000000) (hbase : base ≤ w.heap.size)
    (h : ∀ v' w', OwnNt w' base v' (P ++ [p]) → w.grownBy w' v.ownBlock → wpList Try.prog ops Q rest (a.put o.dst v') w') : wpList Try.prog ops Q (o :: rest) a w := by
  obtain ⟨i0, hi, hz0, hz1, hz2⟩ := info_parts infoNote
  refine wpList_append_own w hgd s x 23 ho base 35 i0 (.agg #[.int .i64 0, .int .i64 0]) 2 16 Try.underlying23 hi hz0 hz1 hz2 rfl (by decide) v P.length (ncells P) hs h1 ⟨g, 0, none⟩ 1 1 (ncell p) hx rfl ?_ ?_ (by unfold maxLen; omega) (by omega) hbase ?_
  · intro j u hj
    obtain ⟨c0, c1⟩ := h2
    rw [Addr.add_lit]
    match j, hj with
    | 0, hj => rw [c0]; exact hj
    | 1, hj => rw [c1]; exact hj
  · intro u hu
    simp [ncell] at hu
    rcases hu with rfl | rfl <;> rfl
  · intro v' w' hown hgrow hnil
    refine h v' w' ?_ hgrow
    unfold OwnNt
    rw [List.length_append, ← ncells_snoc]
    exact hown
theorem grown_nt {B : Nat} {w wr w' : World} {v : Value} {P : List PNote} {o : Obj} (hb : Below B w wr) (hs : B ≤ wr.heap.size) (ho : OwnNt wr B v P) (hg : (wr.alloc o).grownBy w' v.ownBlock) : Below B w w' :=
  (hb.alloc hs o).grown hg (by have h := (World.grownBy_alloc wr o none).size; omega) (fun k hk => (World.ownsRow.lt ho k hk).1)
theorem ncells_set2 : ∀ (P : List PNote) (i : Nat) (_ : i < P.length) (x y : Int), ((ncells P).set (i * 2) (.int .i64 x)).set (i * 2 + 1) (.int .i64 y) = ncells (P.set i ⟨x, y⟩) := by
  intro P
  induction P with
  | nil => intro i h; simp at h
  | cons q P ih =>
    intro i h x y
    have hl : (ncell q).length = 2 := rfl
    cases i with
    | zero => rfl
    | succ i =>
      have h' : i < P.length := by simpa using h
      show ((ncell q ++ ncells P).set ((i + 1) * 2) _).set ((i + 1) * 2 + 1) _ = _
      rw [List.set_append_right _ _ (by rw [hl]; omega), List.set_append_right _ _ (by rw [hl]; omega), hl, show (i + 1) * 2 - 2 = i * 2 from by omega, show (i + 1) * 2 + 1 - 2 = i * 2 + 1 from by omega, ih i h' x y]
      rfl
theorem OwnNt.len {w : World} {S n c : Nat} {a : Option Addr} {P : List PNote} (h : OwnNt w S (.slice a n c) P) : P.length = n := by
  rcases h.2 with ⟨e, hn⟩ | ⟨g, cap, cur, e, _⟩
  · injection e with _ e2 _; rw [hn, e2]
  · injection e with _ e2 _; exact e2.symm
theorem OwnNt.addr {w : World} {S n c : Nat} {a : Option Addr} {P : List PNote} (h : OwnNt w S (.slice a n c) P) (hn : 0 < n) : ∃ g, a = some ⟨g, 0, none⟩ ∧ S ≤ g ∧ g < w.heap.size := by
  have hl := h.len
  rcases h.2 with ⟨e, h0⟩ | ⟨g, cap, cur, e, h1, h2, _⟩
  · omega
  · have e' := e
    injection e with e1 _ _
    subst e1
    exact ⟨g, rfl, World.ownsRow.lt h g rfl⟩
theorem OwnNt.set2 {w : World} {S g n c : Nat} {P : List PNote} (h : OwnNt w S (.slice (some ⟨g, 0, none⟩) n c) P) {i : Nat} (hi : i < n) (x y : Int) :
    OwnNt ((w.setCell ⟨g, i * 2, none⟩ (.int .i64 x)).setCell ⟨g, i * 2 + 1, none⟩ (.int .i64 y)) S (.slice (some ⟨g, 0, none⟩) n c) (P.set i ⟨x, y⟩) := by
  have hl := h.len
  subst hl
  have := (World.ownsRow.stored (World.ownsRow.stored h (i * 2) (.int .i64 x)).1 (i * 2 + 1) (.int .i64 y)).1
  rw [ncells_set2 P i hi x y] at this
  unfold OwnNt
  rw [List.length_set]
  exact this
theorem OwnNt.cell2 {w : World} {S g n c : Nat} {P : List PNote} (h : OwnNt w S (.slice (some ⟨g, 0, none⟩) n c) P) {i : Nat} (hi : i < n) :
    w.cell? ⟨g, i * 2, none⟩ = some (.int .i64 (P.getD i noN).p) ∧ w.cell? ⟨g, i * 2 + 1, none⟩ = some (.int .i64 (P.getD i noN).v) ∧ ∀ j, w.frozen? ⟨g, j, none⟩ = false := by
  have hl := h.len
  subst hl
  obtain ⟨f0, f1⟩ := ncells_at P i hi
  exact ⟨(World.ownsRow.cellAt h _ (by omega)).trans f0, (World.ownsRow.cellAt h _ (by omega)).trans f1, fun j => World.ownsRow.frozenAt h j⟩
theorem OwnNt.of_block {w w' : World} {base : Nat} {v : Value} {P : List PNote} (h : OwnNt w base v P) (hk : ∀ k, v.ownBlock = some k → w'.heap[k]? = w.heap[k]?) : OwnNt w' base v P := by
  rcases h with ⟨h0, ⟨hv, hn⟩ | ⟨g, cap, cur, hv, hb, hg, h1, h2, h3, h4⟩⟩
  · exact ⟨h0, .inl ⟨hv, hn⟩⟩
  · exact ⟨h0, .inr ⟨g, cap, cur, hv, hb, (hk g (by rw [hv]; rfl)).trans hg, h1, h2, h3, h4⟩⟩

set_option maxHeartbeats 1000000 in
theorem toNote_any (w : World) (r f : Int) :
    Calls Try.prog 49 #[.agg #[.int .i64 r, .int .i64 f]] w fun e w' => e = .returned (.agg #[.int .i64 r, .int .i64 f]) ∧ Below w.heap.size w w' := by
  go_enter Try.func49, Try.ntmps49
  go_wp2
  have hk : (((w.alloc (.cells #[.int .i64 r, .int .i64 f] 56)).alloc (.cells #[.int .i64 r, .int .i64 f] 35)).alloc (.cells #[.int .i64 r, .int .i64 f] 35)).heap[w.heap.size + 1]? = some (.cells #[.int .i64 r, .int .i64 f] 35 (0, 0)) := by
    rw [Below.heap_alloc _ _ _ (by simp)]
    have := heap_alloc_new (w.alloc (.cells #[.int .i64 r, .int .i64 f] 56)) (.cells #[.int .i64 r, .int .i64 f] 35)
    simpa using this
  refine bodyPost_ret (results_cell_row rfl _ _ (w.heap.size + 1) _ #[.int .i64 r, .int .i64 f] _ _ rfl hk Try.underlying35 rfl (by kernel_rfl)) rfl ?_
  exact ⟨rfl, (((Below.refl _ _).alloc (Nat.le_refl _) _).alloc (by simp) _).alloc (by simp; omega) _⟩
/-- the first k notes of P, and none behind them -/
def cpN (P : List PNote) (n : Nat) : Nat → List PNote
  | 0 => List.replicate n noN
  | k + 1 => (cpN P n k).set k (P.getD k noN)
theorem cpN_len (P : List PNote) (n k : Nat) : (cpN P n k).length = n := by
  induction k with
  | zero => simp [cpN]
  | succ k ih => simp [cpN, ih]
theorem cpN_at (P : List PNote) (n : Nat) : ∀ k, k ≤ n → ∀ i, i < k → (cpN P n k).getD i noN = P.getD i noN := by
  intro k
  induction k with
  | zero => intro _ i hi; omega
  | succ k ih =>
    intro hk i hi
    show ((cpN P n k).set k _).getD i noN = _
    rw [List.getD_eq_getElem?_getD, List.getElem?_set]
    by_cases hik : k = i
    · subst hik
      rw [if_pos rfl, if_pos (by rw [cpN_len]; omega), Option.getD_some]
    · rw [if_neg hik, ← List.getD_eq_getElem?_getD]
      exact ih (by omega) i (by omega)
theorem cpN_all {P : List PNote} {n : Nat} (h : P.length = n) : cpN P n n = P := by
  apply List.ext_getElem (by rw [cpN_len, h])
  intro i h1 h2
  have := cpN_at P n n (Nat.le_refl _) i (by omega)
  simpa [List.getD_eq_getElem?_getD, h1, h2] using this
theorem zeros_note (n : Nat) : (madeCells #[Value.int .i64 0, Value.int .i64 0] (n * 2)).toList = ncells (List.replicate n noN) := by
  have h1 : (madeCells #[Value.int .i64 0, Value.int .i64 0] (n * 2)).toList = List.replicate (n * 2) (.int .i64 0) := by
    rw [List.eq_replicate_iff]
    refine ⟨by rw [Array.length_toList, size_madeCells], fun b hb => ?_⟩
    simp only [madeCells, Array.toList_map, List.mem_map] at hb
    obtain ⟨k, _, rfl⟩ := hb
    have : k % 2 = 0 ∨ k % 2 = 1 := by omega
    rcases this with h | h <;> simp [h]
  have h2 : ncells (List.replicate n noN) = List.replicate (n * 2) (.int .i64 0) := by
    induction n with
    | zero => rfl
    | succ n ih =>
      rw [List.replicate_succ, show (n + 1) * 2 = n * 2 + 1 + 1 from by omega, List.replicate_succ, List.replicate_succ, ← ih (by
        rw [List.eq_replicate_iff]
        refine ⟨by rw [Array.length_toList, size_madeCells], fun b hb => ?_⟩
        simp only [madeCells, Array.toList_map, List.mem_map] at hb
        obtain ⟨k, _, rfl⟩ := hb
        have : k % 2 = 0 ∨ k % 2 = 1 := by omega
        rcases this with h | h <;> simp [h])]
      rfl
  rw [h1, h2]
end Go.Proofs.Ytfofjjfnejigaaa
