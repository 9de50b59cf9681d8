/- DotsOf, in the program and in its model: both hand back the dots. -/
import Derived.Test.YtjffppabpdimkaaDots
import Derived.Test.YtjffppabpdimkaaRange
namespace Go.Proofs.Ytjffppabpdimkaa
open Go.RowKit

def DotsOut (c : Nat) (w : World) (e : Ending) (w' : World) : Prop := ∃ v, e = .returned v ∧ IntsAt w' v (dotsL c) ∧ Below w.heap.size w w' ∧ ∃ a n cap, v = .slice a n cap
theorem i_DotsOf_out (c : Nat) (w : World) (hc : c < 64) :
    Calls Try.prog 19 #[.int .i64 c] w fun e w' => DotsOut c w e w' :=
  (i_dotsOf c w hc).mono fun _ _ ⟨v, h1, h2, h3, h4⟩ => ⟨v, h1, h2.at, h3, h4⟩
theorem s_DotsOf_out (c : Nat) (w : World) (hc : c < 64) :
    Calls Try.prog 22 #[.int .i64 c] w fun e w' => DotsOut c w e w' := by
  go_enter Try.func22, Try.ntmps22
  go_wp2_with fail
  refine (s_isCell_yes _ _ (by omega) (by omega)).mono ?_
  rintro e w' ⟨rfl, rfl⟩
  go_wp2_with fail
  refine (s_dotsOf c _ hc).mono ?_
  rintro e w2 ⟨v, rfl, hv, hb, a, n, cap, rfl⟩
  go_wp2
  go_ret
  exact ⟨_, rfl, hv.at, hb, _, _, _, rfl⟩
theorem s_DotsOf_no (n : Int) (w : World) (h : n < 0 ∨ 64 ≤ n) :
    Calls Try.prog 22 #[.int .i64 n] w fun e w' => e = .returned (.slice none 0 0) ∧ w = w' := by
  go_enter Try.func22, Try.ntmps22
  go_wp2_with fail
  refine (s_isCell_no _ _ h).mono ?_
  rintro e w' ⟨rfl, rfl⟩
  go_wp2
  go_ret
  exact ⟨rfl, rfl⟩
end Go.Proofs.Ytjffppabpdimkaa
