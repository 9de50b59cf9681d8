
/- Whether a note wants the mark of its octave: both sides; MusicCells of the program. -/
import Derived.Test.YtekchmbbafjmmaaNua
namespace Go.Proofs.Ytekchmbbafjmmaa
open Go.RowKit

theorem ret_bN {a b : Bool} (h : a = b) : Ending.returned (.bool a) = .returned (.bool b) := by rw [h]
theorem needM_eq {b : Bool} {l p : Int} (hb : BIs b (NeedM l p)) (c : Bool) (hc : c = true ↔ NeedM l p) : c = b := by
  cases b with
  | true => exact hc.2 (hb.1 rfl)
  | false => cases c with
    | false => rfl
    | true => have := hb.2 (hc.1 rfl); simp at this
end Go.Proofs.Ytekchmbbafjmmaa
