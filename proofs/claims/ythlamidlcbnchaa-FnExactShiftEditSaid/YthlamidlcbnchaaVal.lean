
/- ValidCells, in the program and in its model. -/
import Derived.Test.YthlamidlcbnchaaOwn
import Derived.Test.YthlamidlcbnchaaRange
import Derived.Test.YthlamidlcbnchaaIsCell
namespace Go.Proofs.Ythlamidlcbnchaa
open Go.RowKit

def ValidL (zs : List Int) : Prop := zs.length ≤ 200 ∧ ∀ z ∈ zs, 0 ≤ z ∧ z < 64
instance (zs : List Int) : Decidable (ValidL zs) := inferInstanceAs (Decidable (_ ∧ _))
def CellsUp (zs : List Int) (k : Nat) : Prop := ∀ i, i < k → 0 ≤ zs.getD i 0 ∧ zs.getD i 0 < 64
theorem CellsUp.zero (zs : List Int) : CellsUp zs 0 := fun i h => absurd h (by omega)
theorem CellsUp.succ {zs : List Int} {k : Nat} (h : CellsUp zs k) (e : 0 ≤ zs.getD k 0 ∧ zs.getD k 0 < 64) : CellsUp zs (k + 1) := fun i hi => by
  by_cases hik : i = k
  · subst hik; exact e
  · exact h i (by omega)
theorem CellsUp.all {zs : List Int} {n : Nat} (h : CellsUp zs n) (hn : zs.length = n) : ∀ z ∈ zs, 0 ≤ z ∧ z < 64 := by
  intro z hz
  obtain ⟨i, hi, rfl⟩ := List.getElem_of_mem hz
  have := h i (by omega)
  simpa [List.getD_eq_getElem?_getD, hi] using this
theorem not_valid {zs : List Int} {k n : Nat} {y : Int} (hn : zs.length = n) (hk : k < n) (hy : zs.getD k 0 = y) (e : y < 0 ∨ 64 ≤ y) : ¬ ValidL zs := by
  rintro ⟨_, h⟩
  have hm : y ∈ zs := by
    subst hy
    rw [List.getD_eq_getElem?_getD, List.getElem?_eq_getElem (by omega), Option.getD_some]; exact List.getElem_mem _
  have := h y hm
  omega

end Go.Proofs.Ythlamidlcbnchaa
