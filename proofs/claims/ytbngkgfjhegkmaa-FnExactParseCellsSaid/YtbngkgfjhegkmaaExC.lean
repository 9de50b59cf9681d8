
/- FnExactFormatCells: its walk. -/
import Derived.Test.YtbngkgfjhegkmaaExS
import Derived.Test.YtbngkgfjhegkmaaEqIntS
import Derived.Test.YtbngkgfjhegkmaaTxtB
namespace Go.Proofs.Ytbngkgfjhegkmaa
open Go.RowKit

theorem eqIntS_same2 (w : World) (u v : Value) (xs : List Int) (hx : IntsAt w u xs) (hy : IntsAt w v xs) :
    Calls Try.prog 15 #[u, v] w fun e w' => e = .returned (.bool true) ∧ Below w.heap.size w w' := by
  have := eqIntS_any w u v xs xs hx hy
  rw [decide_eq_true rfl] at this
  exact this
def CopyOut2 (zs : List Int) (n : Nat) (w : World) (e : Ending) (w' : World) : Prop := ∃ g, e = .returned (.slice (some ⟨g, 0, none⟩) n n) ∧ IntsAt w' (.slice (some ⟨g, 0, none⟩) n n) zs ∧ Below w.heap.size w w'
theorem i_FormatCells_t (w : World) (u : Value) (zs : List Int) (t : ByteArray) (hx : IntsAt w u zs) (ht : Hid (bs (fmtL zs) = t)) :
    Calls Try.prog 8 #[u] w fun e w' => e = .returned (.string t) ∧ Below w.heap.size w w' := by
  have := i_FormatCells w u zs hx
  unfold TextOut at this
  rw [ht.out] at this
  exact this
theorem s_FormatCells_t (w : World) (u : Value) (zs : List Int) (t : ByteArray) (hx : IntsAt w u zs) (ht : Hid (bs (fmtL zs) = t)) :
    Calls Try.prog 9 #[u] w fun e w' => e = .returned (.string t) ∧ Below w.heap.size w w' := by
  have := s_FormatCells w u zs hx
  unfold TextOut at this
  rw [ht.out] at this
  exact this

end Go.Proofs.Ytbngkgfjhegkmaa
