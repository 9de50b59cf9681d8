
/- FnDotsOf, FnLetterCell, FnLetterCellDecades, FnMirror: their walks. -/
import Derived.Test.YtekchmbbafjmmaaPrA
import Derived.Test.YtekchmbbafjmmaaCellS
import Derived.Test.YtekchmbbafjmmaaDotsO
import Derived.Test.YtekchmbbafjmmaaIsIn
import Derived.Test.YtekchmbbafjmmaaEqInts
namespace Go.Proofs.Ytekchmbbafjmmaa
open Go.RowKit

theorem equalInts_same (w : World) (u v : Value) (xs : List Int) (hx : IntsAt w u xs) (hy : IntsAt w v xs) :
    Calls Try.prog 26 #[u, v] w fun e w' => e = .returned (.bool true) ∧ Below w.heap.size w w' := by
  have := equalInts_any w u v xs xs hx hy
  rw [decide_eq_true rfl] at this
  exact this
theorem isIn_b (w : World) (u : Value) (zs : List Int) (z : Int) (b : Bool) (hx : IntsAt w u zs) (hb : Hid (decide (z ∈ zs) = b)) :
    Calls Try.prog 33 #[u, .int .i64 z] w fun e w' => e = .returned (.bool b) ∧ w = w' := by
  have := isIn_any w u zs z hx
  rw [hb.out] at this
  exact this
theorem dots_facts : ∀ c : Nat, c < 64 → cellL (dotsL c) = c ∧ (dotsL c).length ≤ 6 ∧ decide ((0 : Int) ∈ dotsL c) = false ∧ decide ((7 : Int) ∈ dotsL c) = false ∧ (∀ i, i < 6 → 1 ≤ i → i < (dotsL c).length → (dotsL c).getD (i - 1) 0 < (dotsL c).getD i 0) := by decide +kernel

end Go.Proofs.Ytekchmbbafjmmaa
