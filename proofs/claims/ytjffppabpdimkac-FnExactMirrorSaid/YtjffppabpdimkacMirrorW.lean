/- FnExactMirror: its walk. -/
import Derived.Test.YtjffppabpdimkacRows
import Derived.WalkKit
import Derived.WalkSpells
import Derived.WalkLawsBesides
import Derived.RowKit3
namespace Go.Proofs.Ytjffppabpdimkac
open Go.RowKit

set_option maxHeartbeats 400000 in
theorem exmirror_walk (a0 : Int) (w : World) :
    Calls Try.prog 3 #[.int .i64 a0] w fun e w' => e = .returned (.bool true) ∧ Grown w w' := by
  by_cases h0 : 0 ≤ a0
  · by_cases h1 : a0 ≤ 63
    · have d1 : decide (a0 < 64) = true := decide_eq_true (by omega)
      go_enter Try.func3, Try.ntmps3
      go_wp2
      all_goals first | (exfalso; have h := ‹(a0 % 8 * 8 + a0 / 8 != a0 / 8 + a0 % 8 * 8) = true›; simp at h; omega) | (go_ret; exact ⟨rfl, Grown.refl _⟩)
    · have d1 : decide (a0 < 64) = false := decide_eq_false (by omega)
      go_enter Try.func3, Try.ntmps3
      go_wp2
      go_ret; exact ⟨rfl, Grown.refl _⟩
  · go_enter Try.func3, Try.ntmps3
    go_wp2
    go_ret; exact ⟨rfl, Grown.refl _⟩
end Go.Proofs.Ytjffppabpdimkac
