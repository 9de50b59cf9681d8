
/- Cells and dots: the contracts of DotsOf, in the program and in its model. -/
import Derived.Test.YthlamidlcbnchaaOwn
import Derived.Test.YthlamidlcbnchaaIsCell
namespace Go.Proofs.Ythlamidlcbnchaa
open Go.RowKit

def dotsUp (c : Nat) : Nat → List Int
  | 0 => []
  | k + 1 => if c / 2 ^ k % 2 = 1 then dotsUp c k ++ [(k : Int) + 1] else dotsUp c k
def dotsL (c : Nat) : List Int := dotsUp c 6
theorem dotsUp_le (c k : Nat) : (dotsUp c k).length ≤ k := by
  induction k with
  | zero => simp [dotsUp]
  | succ k ih => simp only [dotsUp]; split <;> (try rw [List.length_append, List.length_singleton]) <;> omega
def pwL : List Int := [1, 2, 4, 8, 16, 32]
theorem cases6 {k : Nat} (h : k < 6) : k = 0 ∨ k = 1 ∨ k = 2 ∨ k = 3 ∨ k = 4 ∨ k = 5 := by omega
theorem and_pw : ∀ c : Nat, c < 64 → ∀ k : Nat, k < 6 → (bits .and .i64 (c : Int) (pwL.getD k 0) != 0) = decide (c / 2 ^ k % 2 = 1) := by decide +kernel

set_option maxHeartbeats 1000000 in
theorem dotBit_at (k : Nat) (n v : Int) (w : World) (hk : k < 6) (hn : Hid (n = (k : Int) + 1)) (hv : Hid (pwL.getD k 0 = v)) :
    Calls Try.prog 64 #[.int .i64 n] w fun e w' => e = .returned (.int .i64 v) ∧ w = w' := by
  rw [hn.out, ← hv.out]
  clear hn hv
  rcases cases6 hk with rfl | rfl | rfl | rfl | rfl | rfl
  all_goals
    clear hk
    go_enter Try.func64, Try.ntmps64
    go_wp2
    go_ret
    exact ⟨rfl, rfl⟩

def DotsPost (c : Nat) (w : World) (e : Ending) (w' : World) : Prop :=
  ∃ v, e = .returned v ∧ OwnInts w' w.heap.size v (dotsL c) ∧ Below w.heap.size w w' ∧ ∃ a n cap, v = .slice a n cap

/-! CellOf -/
/-- the cell of a list of dots, by the text's own steps -/
def cellFrom : List Int → Int → Int → Int
  | [], out, _ => out
  | d :: r, out, last => if last < d ∧ d ≤ 6 then cellFrom r (out + pwL.getD (d.toNat - 1) 0) d else -1
def cellL (zs : List Int) : Int := cellFrom zs 0 0
end Go.Proofs.Ythlamidlcbnchaa
