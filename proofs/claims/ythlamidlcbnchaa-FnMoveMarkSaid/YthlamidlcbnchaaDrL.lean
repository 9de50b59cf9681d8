
/- The draws of lists of cells. -/
import Derived.Test.YthlamidlcbnchaaDrC
import Derived.Test.YthlamidlcbnchaaOwnS
namespace Go.Proofs.Ythlamidlcbnchaa
open Go.RowKit

theorem RD.over {w w' : World} {B R L p S : Nat} {row : Option Nat} (h : RD w B R L p) (hg : w.grownBy w' row) (hr : ∀ k, row = some k → S ≤ k) (hRS : R < S) : RD w' B R L p :=
  h.of_same (fun k hk => hg.block k (by have := h.lt; obtain ⟨_, _, _, h3, _⟩ := h; omega) (fun e => by have := hr k e.symm; obtain ⟨_, _, _, h3, _⟩ := h; omega))
    (hg.block R h.lt (fun e => by have := hr R e.symm; omega))
theorem OwnInts.overR {w w' : World} {S R : Nat} {v : Value} {zs : List Int} (h : OwnInts w S v zs) (hg : w.grownBy w' (some R)) (hRS : R < S) : OwnInts w' S v zs :=
  h.kept hg (by
    cases hv : v.ownBlock with
    | none => exact .inl rfl
    | some k => refine .inr fun e => ?_; injection e with e; have := (h.lt k hv).1; omega)
theorem grown_own {a b c : World} {row row' : Option Nat} (h : a.grownBy b row) (k : b.grownBy c row') (hr : ∀ q, row' = some q → a.heap.size ≤ q) : a.grownBy c row :=
  ⟨k.os.trans h.os, k.tape.trans h.tape, k.output.trans h.output, Nat.le_trans h.size k.size, fun i hi hne => (k.block i (Nat.lt_of_lt_of_le hi h.size) (fun e => by have := hr i e.symm; omega)).trans (h.block i hi hne)⟩
def Between (lo hi : Int) (zs : List Int) : Prop := ∀ z ∈ zs, lo ≤ z ∧ z ≤ hi
theorem Between.nil (lo hi : Int) : Between lo hi [] := fun z h => absurd h (by simp)
theorem Between.snoc {lo hi : Int} {zs : List Int} {z : Int} (h : Between lo hi zs) (h0 : lo ≤ z) (h1 : z ≤ hi) : Between lo hi (zs ++ [z]) := fun y hy => by
  rcases List.mem_append.1 hy with hy | hy
  · exact h y hy
  · obtain rfl : y = z := by simpa using hy
    exact ⟨h0, h1⟩
theorem Between.wide {lo hi lo' hi' : Int} {zs : List Int} (h : Between lo hi zs) (h0 : lo' ≤ lo) (h1 : hi ≤ hi') : Between lo' hi' zs := fun z hz => by have := h z hz; omega
theorem Between.fits {lo hi : Int} {zs : List Int} (h : Between lo hi zs) (h0 : -9223372036854775808 ≤ lo) (h1 : hi ≤ 9223372036854775807) : Fits zs := fun z hz => by have := h z hz; omega
theorem Between.set {lo hi : Int} {zs : List Int} {z : Int} (h : Between lo hi zs) (h0 : lo ≤ z) (h1 : z ≤ hi) (k : Nat) : Between lo hi (zs.set k z) := fun y hy => by
  rcases List.mem_or_eq_of_mem_set hy with hy | rfl
  · exact h y hy
  · exact ⟨h0, h1⟩
/-- behind the append of one number: what is owned, the reader, and what has turned -/
theorem snoc_step {w wr w' : World} {B R L p : Nat} {v v' : Value} {zs : List Int} {z : Int} {o : Obj}
    (hRS : R < w.heap.size) (ho : OwnInts wr w.heap.size v zs) (hrd : RD wr B R L p) (hg : w.grownBy wr (some R))
    (ho' : w'.ownsRow w.heap.size 3 1 v' (zs.length + 1) (ints zs ++ [.int .i64 z])) (hgr : (wr.alloc o).grownBy w' v.ownBlock) :
    OwnInts w' w.heap.size v' (zs ++ [z]) ∧ RD w' B R L p ∧ w.grownBy w' (some R) :=
  ⟨OwnInts.snoc ho', (hrd.alloc o).over hgr (fun k hk => (ho.lt k hk).1) hRS, grown_own (grown_own hg (World.grownBy_alloc wr o none) (by simp)) hgr (fun k hk => (ho.lt k hk).1)⟩

theorem grown_store (w : World) (g k : Nat) (u : Value) : w.grownBy (w.setCell ⟨g, k, none⟩ u) (some g) :=
  ⟨rfl, rfl, rfl, by simp [World.setCell], fun i _ hne => heap_setCell_other w ⟨g, k, none⟩ i u (by simp at hne ⊢; exact hne)⟩
def CellsDrawn (lo hi : Int) (most more : Nat) (w : World) (B R L p : Nat) (e : Ending) (w' : World) : Prop :=
  ∃ v zs p', e = .returned v ∧ OwnInts w' w.heap.size v zs ∧ Between lo hi zs ∧ zs.length ≤ most ∧ RD w' B R L p' ∧ p' ≤ p + more ∧ w.grownBy w' (some R) ∧ ∃ a n c, v = .slice a n c
theorem OwnInts.isSlice {w : World} {base : Nat} {v : Value} {zs : List Int} (h : OwnInts w base v zs) : ∃ a n c, v = .slice a n c := by
  rcases h.2 with ⟨h, _⟩ | ⟨g, cap, _, h, _⟩ <;> exact ⟨_, _, _, h⟩

end Go.Proofs.Ythlamidlcbnchaa
