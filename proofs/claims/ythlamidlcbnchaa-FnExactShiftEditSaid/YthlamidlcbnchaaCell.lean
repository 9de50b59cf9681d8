
/- CellOf, in the program and in its model: both give the cell of a list of dots. -/
import Derived.Test.YthlamidlcbnchaaLst
import Derived.Test.YthlamidlcbnchaaDots
import Derived.Test.YthlamidlcbnchaaRange
namespace Go.Proofs.Ythlamidlcbnchaa
open Go.RowKit

theorem drop_cons {zs : List Int} {k : Nat} (h : k < zs.length) : zs.drop k = zs.getD k 0 :: zs.drop (k + 1) := by
  rw [List.drop_eq_getElem_cons h, List.getD_eq_getElem?_getD, List.getElem?_eq_getElem h, Option.getD_some]
def CellUp (zs : List Int) (k : Nat) (out last : Int) : Prop := cellFrom (zs.drop k) out last = cellL zs
theorem CellUp.zero (zs : List Int) : CellUp zs 0 0 0 := rfl
theorem CellUp.step {zs : List Int} {k j n : Nat} {out last d v : Int} (h : CellUp zs k out last) (hn : zs.length = n) (hk : k < n) (hd : zs.getD k 0 = d) (h1 : last < d) (h2 : d ≤ 6) (hj : d = j + 1) (hv : pwL.getD j 0 = v) : CellUp zs (k + 1) (out + v) d := by
  unfold CellUp at h ⊢
  rw [drop_cons (by omega), hd, cellFrom, if_pos ⟨h1, h2⟩] at h
  have : d.toNat - 1 = j := by omega
  rw [this, hv] at h
  exact h
theorem CellUp.fail {zs : List Int} {k n : Nat} {out last d : Int} (h : CellUp zs k out last) (hn : zs.length = n) (hk : k < n) (hd : zs.getD k 0 = d) (h1 : d ≤ last ∨ 6 < d) : cellL zs = -1 := by
  unfold CellUp at h
  rw [drop_cons (by omega), hd, cellFrom, if_neg (by omega)] at h
  exact h.symm
theorem CellUp.done {zs : List Int} {n : Nat} {out last : Int} (h : CellUp zs n out last) (hn : zs.length = n) : cellL zs = out := by
  unfold CellUp at h
  rw [List.drop_of_length_le (by omega)] at h
  exact h.symm
theorem ret_i64' {a b : Int} (h : a = b) : Ending.returned (.int .i64 a) = .returned (.int .i64 b) := by rw [h]
theorem pwL_bd : ∀ j, j < 6 → 0 ≤ pwL.getD j 0 ∧ pwL.getD j 0 ≤ 32 := by decide
theorem pwL_succ : ∀ j, j < 5 → pwL.getD (j + 1) 0 = 2 * pwL.getD j 0 := by decide

end Go.Proofs.Ythlamidlcbnchaa
