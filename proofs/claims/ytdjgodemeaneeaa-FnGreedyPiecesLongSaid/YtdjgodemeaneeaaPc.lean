
/- Pieces: what it means that a slice reads as a list of pieces; a copy; whether two are the same. -/
import Derived.Test.YtdjgodemeaneeaaTbF
import Derived.Test.YtdjgodemeaneeaaTbG
import Derived.Handy
namespace Go.Proofs.Ytdjgodemeaneeaa
open Go.RowKit Go.ChangeShapes Go.WideShapes

/-- a piece: its rule, where it begins, where it ends -/
structure PPiece where
  r : Int
  f : Int
  t : Int
def noP : PPiece := ⟨0, 0, 0⟩
instance : Inhabited PPiece := ⟨noP⟩
def PieceAt (w : World) (g o : Nat) (p : PPiece) : Prop :=
  w.cell? ⟨g, o, none⟩ = some (.int .i64 p.r) ∧ w.cell? ⟨g, o + 1, none⟩ = some (.int .i64 p.f) ∧ w.cell? ⟨g, o + 2, none⟩ = some (.int .i64 p.t)
/-- the slice value v reads as the pieces P -/
def PiecesAt (w : World) (v : Value) (P : List PPiece) : Prop :=
  ∃ a cap, v = .slice a P.length cap ∧ P.length ≤ cap ∧ cap ≤ 9223372036854775807 ∧
    (P = [] ∨ ∃ g off, a = some ⟨g, off, none⟩ ∧ ∀ i, i < P.length → PieceAt w g (off + i * 3) (P.getD i noP))
theorem PieceAt.below {w w' : World} {g o : Nat} {p : PPiece} (h : PieceAt w g o p) (hb : Below w.heap.size w w') : PieceAt w' g o p := by
  obtain ⟨h1, h2, h3⟩ := h
  exact ⟨(hb.cell (World.block_lt_of_cell? w _ h1)).trans h1, (hb.cell (World.block_lt_of_cell? w _ h2)).trans h2, (hb.cell (World.block_lt_of_cell? w _ h3)).trans h3⟩
theorem PiecesAt.below {w w' : World} {v : Value} {P : List PPiece} (h : PiecesAt w v P) (hb : Below w.heap.size w w') : PiecesAt w' v P := by
  obtain ⟨a, cap, h1, h2, h3, h4⟩ := h
  refine ⟨a, cap, h1, h2, h3, ?_⟩
  rcases h4 with h4 | ⟨g, off, h4, h5⟩
  · exact .inl h4
  · exact .inr ⟨g, off, h4, fun i hi => (h5 i hi).below hb⟩
def PieceFits (p : PPiece) : Prop := (-9223372036854775808 ≤ p.r ∧ p.r ≤ 9223372036854775807) ∧ (-9223372036854775808 ≤ p.f ∧ p.f ≤ 9223372036854775807) ∧ -9223372036854775808 ≤ p.t ∧ p.t ≤ 9223372036854775807
def PiecesFit (P : List PPiece) : Prop := ∀ p ∈ P, PieceFits p
theorem PiecesFit.at {P : List PPiece} (h : PiecesFit P) (k : Nat) : PieceFits (P.getD k noP) := by
  rw [List.getD_eq_getElem?_getD]
  by_cases hk : k < P.length
  · rw [List.getElem?_eq_getElem hk, Option.getD_some]; exact h _ (List.getElem_mem _)
  · rw [List.getElem?_eq_none (by omega), Option.getD_none]
    simp [PieceFits, noP]
section SXPc
variable {H : Type} {enc : TypeId × Value → H} {W : World} {base : Nat} {spare : Nat → Bool} {held : Bool}
end SXPc

theorem infoPiece : (Try.prog.info? 30).map (fun i => (i.zero, i.size, i.bytes)) = some (some (.agg #[.int .i64 0, .int .i64 0, .int .i64 0]), 3, 24) := by kernel_rfl
theorem PieceAt.set {w : World} {g o : Nat} {p : PPiece} (h : PieceAt w g o p) {o' : Nat} (ho : o' < o ∨ o + 2 < o') (v : Value) : PieceAt (w.setCell ⟨g, o', none⟩ v) g o p := by
  obtain ⟨h1, h2, h3⟩ := h
  refine ⟨?_, ?_, ?_⟩
  · rw [World.cell?_setCell_other _ _ _ _ (fun e => by injection e; omega)]; exact h1
  · rw [World.cell?_setCell_other _ _ _ _ (fun e => by injection e; omega)]; exact h2
  · rw [World.cell?_setCell_other _ _ _ _ (fun e => by injection e; omega)]; exact h3
theorem piece_put {w : World} {g n o : Nat} {r f t : Int} (h : Room w g n) (ho : o + 2 < n * 3) :
    PieceAt (((w.setCell ⟨g, o, none⟩ (.int .i64 r)).setCell ⟨g, o + 1, none⟩ (.int .i64 f)).setCell ⟨g, o + 2, none⟩ (.int .i64 t)) g o ⟨r, f, t⟩ := by
  have r1 := h.set o (.int .i64 r)
  have r2 := r1.set (o + 1) (.int .i64 f)
  obtain ⟨u0, h0⟩ := h.1 o (by omega)
  obtain ⟨u1, h1⟩ := r1.1 (o + 1) (by omega)
  obtain ⟨u2, h2⟩ := r2.1 (o + 2) (by omega)
  refine ⟨?_, ?_, World.cell?_setCell_same _ _ _ h2⟩
  · rw [World.cell?_setCell_other _ _ _ _ (by simp), World.cell?_setCell_other _ _ _ _ (by simp)]
    exact World.cell?_setCell_same _ _ _ h0
  · rw [World.cell?_setCell_other _ _ _ _ (by simp)]
    exact World.cell?_setCell_same _ _ _ h1
/-- the first k pieces of P lie in block g -/
def PcTo (w : World) (g : Nat) (P : List PPiece) (k : Nat) : Prop := ∀ j, j < k → PieceAt w g (j * 3) (P.getD j noP)
theorem PcTo.zero (w : World) (g : Nat) (P : List PPiece) : PcTo w g P 0 := fun i h => absurd h (by omega)
theorem PcTo.below {w w' : World} {g k : Nat} {P : List PPiece} (h : PcTo w g P k) (hb : Below w.heap.size w w') : PcTo w' g P k := fun j hj => (h j hj).below hb
theorem PcTo.put {w : World} {g n k : Nat} {P : List PPiece} {r f t : Int} (h : PcTo w g P k) (hr : Room w g n) (hk : k < n) (hT : P.getD k noP = ⟨r, f, t⟩) :
    PcTo (((w.setCell ⟨g, k * 3, none⟩ (.int .i64 r)).setCell ⟨g, k * 3 + 1, none⟩ (.int .i64 f)).setCell ⟨g, k * 3 + 2, none⟩ (.int .i64 t)) g P (k + 1) := fun j hj => by
  by_cases hjk : j = k
  · subst hjk
    rw [hT]
    exact piece_put hr (by omega)
  · have h0 := h j (by omega)
    exact ((h0.set (by omega) _).set (by omega) _).set (by omega) _
theorem PiecesAt.of_new {w : World} {g n : Nat} {P : List PPiece} (h : PcTo w g P n) (hn : P.length = n) (hm : n ≤ 9223372036854775807) : PiecesAt w (.slice (some ⟨g, 0, none⟩) n n) P := by
  refine ⟨_, n, by rw [hn], by omega, hm, .inr ⟨g, 0, rfl, fun i hi => ?_⟩⟩
  rw [Nat.zero_add]
  exact h i (by omega)

/-- a copied list of pieces -/
def PcMade (P : List PPiece) (n : Nat) (w : World) (e : Ending) (w' : World) : Prop :=
  e = .returned (.slice (some ⟨w.heap.size, 0, none⟩) n n) ∧ PcTo w' w.heap.size P n ∧ Room w' w.heap.size n ∧ Below w.heap.size w w'
end Go.Proofs.Ytdjgodemeaneeaa
