
/- The text of one cell in the model, and the text of a list of cells. -/
import Derived.Test.YthlamidlcbnchaaTxt
import Derived.Test.YthlamidlcbnchaaVal
namespace Go.Proofs.Ythlamidlcbnchaa
open Go.RowKit

theorem digit_at (y : Nat) (h0 : 1 ≤ y) (h1 : y ≤ 6) : (⟨#[48, 49, 50, 51, 52, 53, 54]⟩ : ByteArray).extract y (y + 1) = bs [digB y] := by
  rcases (show y = 1 ∨ y = 2 ∨ y = 3 ∨ y = 4 ∨ y = 5 ∨ y = 6 from by omega) with rfl | rfl | rfl | rfl | rfl | rfl <;> rfl

/-- the text of the first k cells -/
def fmtUp (zs : List Int) : Nat → List UInt8
  | 0 => []
  | k + 1 => fmtUp zs k ++ (if k = 0 then [] else [45]) ++ cellT (zs.getD k 0).toNat
def fmtL (zs : List Int) : List UInt8 := if ValidL zs then fmtUp zs zs.length else []
theorem cellT_len : ∀ c : Nat, c < 64 → 1 ≤ (cellT c).length ∧ (cellT c).length ≤ 6 := by decide +kernel
theorem fmtUp_len (zs : List Int) (h : ∀ z ∈ zs, 0 ≤ z ∧ z < 64) : ∀ k, k ≤ zs.length → (fmtUp zs k).length ≤ 7 * k := by
  intro k
  induction k with
  | zero => intro _; simp [fmtUp]
  | succ k ih =>
    intro hk
    have h1 := ih (by omega)
    have hm : zs.getD k 0 ∈ zs := by
      rw [List.getD_eq_getElem?_getD, List.getElem?_eq_getElem (by omega), Option.getD_some]; exact List.getElem_mem _
    have h2 := h _ hm
    have h3 := cellT_len (zs.getD k 0).toNat (by omega)
    rw [fmtUp, List.length_append, List.length_append]
    split
    · rw [List.length_nil]; omega
    · rw [List.length_singleton]; omega

end Go.Proofs.Ythlamidlcbnchaa
