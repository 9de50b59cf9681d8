
/- DotsOf, in the program and in its model: both hand back the dots. -/
import Derived.Test.YtekchmbbafjmmaaDots
import Derived.Test.YtekchmbbafjmmaaRange
namespace Go.Proofs.Ytekchmbbafjmmaa
open Go.RowKit

def DotsOut (c : Nat) (w : World) (e : Ending) (w' : World) : Prop := ∃ v, e = .returned v ∧ IntsAt w' v (dotsL c) ∧ Below w.heap.size w w' ∧ ∃ a n cap, v = .slice a n cap
theorem i_DotsOf_out (c : Nat) (w : World) (hc : c < 64) :
    Calls Try.prog 22 #[.int .i64 c] w fun e w' => DotsOut c w e w' :=
  (i_dotsOf c w hc).mono fun _ _ ⟨v, h1, h2, h3, h4⟩ => ⟨v, h1, h2.at, h3, h4⟩
end Go.Proofs.Ytekchmbbafjmmaa
