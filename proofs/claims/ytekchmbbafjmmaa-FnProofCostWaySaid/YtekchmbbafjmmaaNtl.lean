
/- Drawn notes that may be invalid; the draws of LengthOf and Transpose; whether lists of notes are equal. -/
import Derived.Test.YtekchmbbafjmmaaNtk
import Derived.Test.YtekchmbbafjmmaaNti
namespace Go.Proofs.Ytekchmbbafjmmaa
open Go.RowKit

theorem ncells_setP {P : List PNote} (h : 0 < P.length) (x : Int) : (ncells P).set 0 (.int .i64 x) = ncells (P.set 0 ⟨x, (P.getD 0 noN).v⟩) := by
  match P, h with
  | q :: P, _ => rfl
theorem ncells_setV {P : List PNote} (h : 0 < P.length) (x : Int) : (ncells P).set 1 (.int .i64 x) = ncells (P.set 0 ⟨(P.getD 0 noN).p, x⟩) := by
  match P, h with
  | q :: P, _ => rfl
/-- a drawn list of notes -/
def NotesOut (w : World) (e : Ending) (w' : World) : Prop :=
  ∃ a n c P, e = .returned (.slice a n c) ∧ NotesAt w' (.slice a n c) P ∧ P.length ≤ 60 ∧ Below w.heap.size w w'
theorem below_of_grownR {a b c : World} {R : Nat} (h : a.grownBy b none) (k : b.grownBy c (some R)) (hR : a.heap.size ≤ R) : Below a.heap.size a c :=
  below_of_grown (grown_new h k hR)
def NotesIntOut (w : World) (e : Ending) (w' : World) : Prop :=
  ∃ a n c P s, e = .returned (.tuple #[.slice a n c, .int .i64 s]) ∧ NotesAt w' (.slice a n c) P ∧ P.length ≤ 60 ∧ (-100 ≤ s ∧ s ≤ 100) ∧ Below w.heap.size w w'
end Go.Proofs.Ytekchmbbafjmmaa
