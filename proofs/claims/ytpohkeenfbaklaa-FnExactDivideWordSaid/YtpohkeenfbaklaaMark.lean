
/- MarkCell, in the program and in its model. -/
import Derived.Test.YtpohkeenfbaklaaOwn
import Derived.Test.YtpohkeenfbaklaaIdx
import Derived.Deep.RegionHeld3
namespace Go.Proofs.Ytpohkeenfbaklaa
open Go.RowKit

def markL : List Int := [46, 44, 59, 58, 33, 63, 39, 45]
def markC : List Int := [50, 2, 6, 18, 22, 38, 4, 36]
def markS (k : Nat) : ByteArray := ⟨#[UInt8.ofNat (markL.getD k 0).toNat]⟩
/-- the text is no punctuation mark -/
def NoMark (s : ByteArray) : Prop := ∀ k, k < 8 → s ≠ markS k

theorem toList_ne {s : ByteArray} (l : List UInt8) (h : s ≠ ⟨l.toArray⟩) : (s.toList == l) = false := by
  simp only [beq_eq_false_iff_ne]
  intro e
  apply h
  rw [ByteArray.toList_eq] at e
  cases s
  simp at e
  rw [← e]
/-! the model -/
theorem mark_at (k : Nat) (hk : k < 8) : ((((⟨#[46, 44, 59, 58, 33, 63, 39, 45]⟩ : ByteArray)[k]'hk).toNat : Nat) : Int) = markL.getD k 0 := by
  rcases (show k = 0 ∨ k = 1 ∨ k = 2 ∨ k = 3 ∨ k = 4 ∨ k = 5 ∨ k = 6 ∨ k = 7 from by omega) with rfl | rfl | rfl | rfl | rfl | rfl | rfl | rfl <;> rfl
def MarksOut (k : Nat) (v : Int) (w : World) (e : Ending) (w' : World) : Prop := ∃ g, e = .returned (.slice (some ⟨g, 0, none⟩) 8 8) ∧ w'.cell? ⟨g, k, none⟩ = some (.int .i64 v) ∧ Below w.heap.size w w'
end Go.Proofs.Ytpohkeenfbaklaa
