
/- The exact laws' own functions on lists of notes. -/
import Derived.Test.YtekchmbbafjmmaaNta
namespace Go.Proofs.Ytekchmbbafjmmaa
open Go.RowKit Go.ChangeShapes Go.WideShapes

def mkN (k : Nat) : PNote := ⟨1 + 2 * (k : Int), 2 + 2 * (k : Int)⟩
def mkNL (P : List PNote) : Nat → List PNote
  | 0 => P
  | k + 1 => (mkNL P k).set k (mkN k)
theorem mkNL_len (P : List PNote) (k : Nat) : (mkNL P k).length = P.length := by
  induction k with
  | zero => rfl
  | succ k ih => show ((mkNL P k).set k _).length = _; rw [List.length_set, ih]
theorem mkNL_at (P : List PNote) : ∀ k, k ≤ P.length → ∀ i, i < k → (mkNL P k).getD i noN = mkN i := by
  intro k
  induction k with
  | zero => intro _ i hi; omega
  | succ k ih =>
    intro hk i hi
    show ((mkNL P k).set k (mkN k)).getD i noN = _
    rw [List.getD_eq_getElem?_getD, List.getElem?_set]
    by_cases hik : k = i
    · subst hik
      rw [if_pos rfl, if_pos (by rw [mkNL_len]; omega), Option.getD_some]
    · rw [if_neg hik, ← List.getD_eq_getElem?_getD]
      exact ih (by omega) i (by omega)
theorem ret_n {a b : Int} (h : a = b) : Ending.returned (.int .i64 a) = .returned (.int .i64 b) := by rw [h]
theorem grown_storeN (w : World) (g k : Nat) (u : Value) : w.grownBy (w.setCell ⟨g, k, none⟩ u) (some g) :=
  ⟨rfl, rfl, rfl, by simp [World.setCell], fun i _ hi => heap_setCell_other w ⟨g, k, none⟩ i u (by simpa using hi)⟩
theorem grownN_trans {a b c : World} {row : Option Nat} (h : a.grownBy b row) (k : b.grownBy c row) : a.grownBy c row :=
  ⟨k.os.trans h.os, k.tape.trans h.tape, k.output.trans h.output, Nat.le_trans h.size k.size, fun i hi hne => (k.block i (Nat.lt_of_lt_of_le hi h.size) hne).trans (h.block i hi hne)⟩
end Go.Proofs.Ytekchmbbafjmmaa
