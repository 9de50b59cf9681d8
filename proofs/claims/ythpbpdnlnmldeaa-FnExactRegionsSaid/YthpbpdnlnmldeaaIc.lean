
/- The exact law of ValidPicture. -/
import Derived.Test.YthpbpdnlnmldeaaCb
import Derived.Test.YthpbpdnlnmldeaaIb
namespace Go.Proofs.Ythpbpdnlnmldeaa
open Go.RowKit

theorem boolOfI (P : Prop) : ∃ b : Bool, b = true ↔ P := by
  by_cases h : P
  · exact ⟨true, fun _ => h, fun _ => rfl⟩
  · exact ⟨false, fun e => by simp at e, fun k => absurd k h⟩
theorem bool_same {P : Prop} {a b : Bool} (h : a = true ↔ P) (k : b = true ↔ P) : a = b := by
  rw [Bool.eq_iff_iff]; exact h.trans k.symm
end Go.Proofs.Ythpbpdnlnmldeaa
