
/- Lists in lists: impl.sameCells, impl.hasList, spec.hasList. -/
import Derived.Test.YtfgnckafpnobhaaCa
import Derived.Test.YtfgnckafpnobhaaSameInts
import Derived.Deep.RegionHeld3
namespace Go.Proofs.Ytfgnckafpnobhaa
open Go.RowKit

/-- the first k lists are not xs -/
def LNone (L : List (List Int)) (xs : List Int) (k : Nat) : Prop := ∀ i, i < k → L.getD i [] ≠ xs
theorem LNone.zero (L : List (List Int)) (xs : List Int) : LNone L xs 0 := fun i h => absurd h (by omega)
theorem LNone.succ {L : List (List Int)} {xs : List Int} {k : Nat} (h : LNone L xs k) (e : L.getD k [] ≠ xs) : LNone L xs (k + 1) := fun i hi => by
  by_cases hik : i = k
  · subst hik; exact e
  · exact h i (by omega)
theorem LNone.all {L : List (List Int)} {xs : List Int} {n : Nat} (h : LNone L xs n) (hn : L.length = n) : xs ∉ L := by
  intro hm
  obtain ⟨i, hi, rfl⟩ := List.getElem_of_mem hm
  exact h i (by omega) (by simp [List.getD_eq_getElem?_getD, hi])
theorem lmem_of_getD {L : List (List Int)} {xs : List Int} {k n : Nat} (hn : L.length = n) (hk : k < n) (e : L.getD k [] = xs) : xs ∈ L := by
  subst e
  rw [List.getD_eq_getElem?_getD, List.getElem?_eq_getElem (by omega), Option.getD_some]; exact List.getElem_mem _

end Go.Proofs.Ytfgnckafpnobhaa
