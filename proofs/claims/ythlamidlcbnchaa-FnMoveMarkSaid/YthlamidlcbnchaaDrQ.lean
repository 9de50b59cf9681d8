
/- The draw of a text of cells: its change, and the whole. -/
import Derived.Test.YthlamidlcbnchaaDrP
namespace Go.Proofs.Ythlamidlcbnchaa
open Go.RowKit

def mutA : List ByteArray := [⟨#[48]⟩, ⟨#[49]⟩, ⟨#[32]⟩, ⟨#[45]⟩, ⟨#[98]⟩, ⟨#[54]⟩, ⟨#[57]⟩, ⟨#[50]⟩]
def mutB : List ByteArray := [⟨#[48]⟩, ⟨#[32]⟩, ⟨#[10]⟩, ⟨#[120]⟩, ⟨#[45, 49]⟩]
theorem ext_size {s : ByteArray} {a b : Nat} (_h : a ≤ b) (h2 : b ≤ s.size) : (s.extract a b).size = b - a := by
  rw [← size_data, extract_list, sub, List.length_take, List.length_drop, size_data]
  omega
theorem app_size (a b : ByteArray) : (a ++ b).size = a.size + b.size := by
  show (a ++ b).data.size = a.data.size + b.data.size
  rw [ByteArray.data_append, Array.size_append]

def StrDrawn (n : Nat) (w : World) (e : Ending) (w' : World) : Prop := ∃ s : ByteArray, e = .returned (.string s) ∧ s.size ≤ n ∧ Below w.heap.size w w'
end Go.Proofs.Ythlamidlcbnchaa
