
/- ParseCells in the model. -/
import Derived.Test.YthlamidlcbnchaaParJ
namespace Go.Proofs.Ythlamidlcbnchaa
open Go.RowKit

theorem infoStr : (Try.prog.info? 9).map (fun i => (i.zero, i.size, i.bytes)) = some (some (.string ByteArray.empty), 1, 16) := by kernel_rfl
def OwnStrs (w : World) (base : Nat) (v : Value) (ps : List ByteArray) : Prop := w.ownsRow base 9 1 v ps.length (ps.map Value.string)
theorem OwnStrs.made (w : World) (base : Nat) (h : base ≤ w.heap.size) : OwnStrs (w.alloc (.cells #[] 9)) base (.slice (some ⟨w.heap.size, 0, none⟩) 0 0) [] :=
  World.ownsRow_made w #[] 0 h (by unfold maxLen; omega) rfl
theorem OwnStrs.snoc {w : World} {base : Nat} {v : Value} {ps : List ByteArray} {p : ByteArray} (h : w.ownsRow base 9 1 v (ps.length + 1) (ps.map Value.string ++ [.string p])) : OwnStrs w base v (ps ++ [p]) := by
  unfold OwnStrs
  rw [List.map_append, List.length_append]
  exact h
theorem OwnStrs.isSlice {w : World} {base : Nat} {v : Value} {l : List ByteArray} (h : OwnStrs w base v l) : ∃ a c, v = .slice a l.length c := by
  rcases h.2 with ⟨h, hn⟩ | ⟨g, cap, _, h, _⟩
  · exact ⟨none, 0, by rw [hn]; exact h⟩
  · exact ⟨_, _, h⟩
theorem new_str {w : World} {t : TypeId} {p : ByteArray} : ∀ j u, [Value.string p][j]? = some u → (w.alloc (.cells #[.string p] t)).cell? ((⟨w.heap.size, 0, none⟩ : Addr).add j) = some u := by
  intro j u hj
  match j, hj with
  | 0, hj => simp at hj; subst hj; simp [Addr.add]
theorem str_cell {p : ByteArray} : ∀ u ∈ [Value.string p], u.oneCell' = true := by intro u hu; simp at hu; subst hu; rfl
theorem below_append_s {B : Nat} {w wr w' : World} {v : Value} {ps : List ByteArray} {o : Obj} (hb : Below B w wr) (hs : B ≤ wr.heap.size) (ho : OwnStrs wr B v ps) (hg : (wr.alloc o).grownBy w' v.ownBlock) : Below B w w' :=
  (hb.alloc hs o).grown hg (by have h := (World.grownBy_alloc wr o none).size; omega) (fun k hk => (ho.lt k hk).1)
/-- the bytes of each text -/
def lists (ps : List ByteArray) : List (List UInt8) := ps.map fun p => p.data.toList
theorem lists_snoc (ps : List ByteArray) (p : ByteArray) : lists (ps ++ [p]) = lists ps ++ [p.data.toList] := by simp [lists]
def WordsOut (l : List UInt8) (w : World) (e : Ending) (w' : World) : Prop :=
  ∃ a n c ps, e = .returned (.slice a n c) ∧ OwnStrs w' w.heap.size (.slice a n c) ps ∧ Hid (ps.length = n) ∧ Hid (lists ps = parts l) ∧ Below w.heap.size w w'

def NoCell (p : List UInt8) (k : Nat) : Prop := ∀ j, j < k → cellT j ≠ p
end Go.Proofs.Ythlamidlcbnchaa
