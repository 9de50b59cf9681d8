
/- Words that can be put on lines, lines of a width: both sides. -/
import Derived.Test.YtfgnckafpnobhaaLb
import Derived.Test.YtfgnckafpnobhaaRange
namespace Go.Proofs.Ytfgnckafpnobhaa
open Go.RowKit

theorem i_isWidth_b (w : World) (W : Int) (b : Bool) (hb : Hid (b = true ↔ (1 ≤ W ∧ W ≤ 40))) :
    Calls Try.prog 48 #[.int .i64 W] w fun e w' => e = .returned (.bool b) ∧ w = w' := by
  by_cases h1 : 1 ≤ W
  · by_cases h2 : W ≤ 40
    · have d1 : decide (1 ≤ W) = true := decide_eq_true h1
      have d2 : decide (W ≤ 40) = true := decide_eq_true h2
      have HF : Hid (b = true) := hb.out.2 ⟨h1, h2⟩
      clear h1 h2
      go_enter Try.func48, Try.ntmps48
      go_wp2
      go_ret
      exact ⟨by rw [HF.out]; rfl, rfl⟩
    · have d1 : decide (1 ≤ W) = true := decide_eq_true h1
      have d2 : decide (W ≤ 40) = false := decide_eq_false h2
      have HF : Hid (b = false) := inB hb.out fun h => h2 h.2
      clear h1 h2
      go_enter Try.func48, Try.ntmps48
      go_wp2
      go_ret
      exact ⟨by rw [HF.out]; rfl, rfl⟩
  · have d1 : decide (1 ≤ W) = false := decide_eq_false h1
    have HF : Hid (b = false) := inB hb.out fun h => h1 h.1
    clear h1
    go_enter Try.func48, Try.ntmps48
    go_wp2
    go_ret
    exact ⟨by rw [HF.out]; rfl, rfl⟩
theorem inRange_b (w : World) (n lo hi : Int) (b : Bool) (hb : Hid (b = true ↔ (lo ≤ n ∧ n ≤ hi))) :
    Calls Try.prog 57 #[.int .i64 n, .int .i64 lo, .int .i64 hi] w fun e w' => e = .returned (.bool b) ∧ w = w' := by
  cases b with
  | true => have h := hb.out.1 rfl; exact inRange_yes n lo hi w h.1 h.2
  | false => exact inRange_no n lo hi w (by
      have h : ¬ (lo ≤ n ∧ n ≤ hi) := fun k => by have := hb.out.2 k; simp at this
      omega)
end Go.Proofs.Ytfgnckafpnobhaa
