
/- The draws of one number: a cell, a letter, a digit. -/
import Derived.Test.YthlamidlcbnchaaRdB
namespace Go.Proofs.Ythlamidlcbnchaa
open Go.RowKit

theorem grown_new {a b c : World} {R : Nat} (h : a.grownBy b none) (k : b.grownBy c (some R)) (hR : a.heap.size ≤ R) : a.grownBy c none :=
  ⟨k.os.trans h.os, k.tape.trans h.tape, k.output.trans h.output, Nat.le_trans h.size k.size, fun i hi _ => (k.block i (Nat.lt_of_lt_of_le hi h.size) (by simp; omega)).trans (h.block i hi (by simp))⟩
theorem below_of_grown {a b : World} (h : a.grownBy b none) : Below a.heap.size a b := ⟨h.os, h.tape, h.output, h.size, fun k hk => h.block k hk (by simp)⟩
theorem RD.grown {w w' : World} {B R L p : Nat} (h : RD w B R L p) (hg : w.grownBy w' none) : RD w' B R L p :=
  h.of_same (fun k hk => hg.block k (by have := h.lt; obtain ⟨_, _, _, h3, _⟩ := h; omega) (by simp)) (hg.block R h.lt (by simp))

def AnyCell (w : World) (B R L p : Nat) (e : Ending) (w' : World) : Prop :=
  ∃ v : Int, e = .returned (.int .i64 v) ∧ -1 ≤ v ∧ v ≤ 64 ∧ RD w' B R L p ∧ w.grownBy w' (some R)

/-- a draw that hands back one number between lo and hi, and writes new memory alone -/
def IntDrawn (lo hi : Int) (w : World) (e : Ending) (w' : World) : Prop :=
  ∃ v : Int, e = .returned (.int .i64 v) ∧ lo ≤ v ∧ v ≤ hi ∧ Below w.heap.size w w'

end Go.Proofs.Ythlamidlcbnchaa
