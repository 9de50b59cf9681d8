
/- A drawn list of numbers. -/
import Derived.Test.YthojahknocageaaDrL
import Derived.Test.YthojahknocageaaEqInts
import Derived.Test.YthojahknocageaaEb
namespace Go.Proofs.Ythojahknocageaa
open Go.RowKit

theorem OwnInts.lowE {w : World} {S S' : Nat} {v : Value} {zs : List Int} (h : OwnInts w S v zs) (hs : S' ≤ S) : OwnInts w S' v zs := by
  rcases h with ⟨h0, h | ⟨g, cap, cur, hv, hb, hg⟩⟩
  · exact ⟨h0, .inl h⟩
  · exact ⟨h0, .inr ⟨g, cap, cur, hv, Nat.le_trans hs hb, hg⟩⟩
/-- a drawn list of numbers -/
def DrawnL (lo hi : Int) (most : Nat) (w : World) (e : Ending) (w' : World) : Prop :=
  ∃ a n c zs, e = .returned (.slice a n c) ∧ OwnInts w' w.heap.size (.slice a n c) zs ∧ zs.length = n ∧ n ≤ most ∧ Between lo hi zs ∧ Below w.heap.size w w'
theorem OwnInts.lenE {w : World} {base n c : Nat} {a : Option Addr} {zs : List Int} (h : OwnInts w base (.slice a n c) zs) : zs.length = n := by
  obtain ⟨_, _, e, _⟩ := h.at
  injection e with _ e2 _
  exact e2.symm
theorem drawnL_of {lo hi : Int} {most more : Nat} {w w1 w2 : World} {B L : Nat} {e : Ending} (hgr : w.grownBy w1 none) (h : CellsDrawn lo hi most more w1 B w.heap.size L 0 e w2) : DrawnL lo hi most w e w2 := by
  obtain ⟨v, zs, p', rfl, hO, hb, hl, _, _, hg, a, n, c, rfl⟩ := h
  have hn := hO.lenE
  exact ⟨a, n, c, zs, rfl, hO.lowE hgr.size, hn, by omega, hb, below_of_grown (grown_new hgr hg (Nat.le_refl _))⟩
theorem equalInts_sameE (w : World) (u v : Value) (zs : List Int) (hx : IntsAt w u zs) (hy : IntsAt w v zs) :
    Calls Try.prog 14 #[u, v] w fun e w' => e = .returned (.bool true) ∧ Below w.heap.size w w' := by
  have := equalInts_any w u v zs zs hx hy
  rwa [decide_eq_true (rfl : zs = zs)] at this
end Go.Proofs.Ythojahknocageaa
