
/- ParseCells in the program: the whole. -/
import Derived.Test.YthlamidlcbnchaaParI
namespace Go.Proofs.Ythlamidlcbnchaa
open Go.RowKit

def ParseOut (l : List UInt8) (w : World) (e : Ending) (w' : World) : Prop :=
  ∃ v ok, e = .returned (.tuple #[v, .bool ok]) ∧ Below w.heap.size w w' ∧ (∃ a n c, v = .slice a n c) ∧
    ((∃ zs, parseL l = some zs ∧ ok = true ∧ OwnInts w' w.heap.size v zs ∧ zs.length ≤ 200) ∨ (parseL l = none ∧ ok = false ∧ v = .slice none 0 0))
theorem pc_bd (p : List UInt8) : -1 ≤ pc p ∧ pc p ≤ 63 := by
  rcases pc_cases p with ⟨c, hc, h, _⟩ | ⟨h, _⟩ <;> omega
theorem extract_size {s : ByteArray} {a b : Nat} (h : b ≤ s.size) : (s.extract a b).size ≤ s.size := by
  rw [← size_data, extract_list, sub, List.length_take, List.length_drop, size_data]
  omega

end Go.Proofs.Ythlamidlcbnchaa
