
/- Marks on a slice that the call itself made. -/
import Derived.Test.YtfgnckafpnobhaaExS
namespace Go.Proofs.Ytfgnckafpnobhaa
open Go.RowKit

theorem heldIntS_own (w : World) (base : Nat) (v : Value) (n : Nat) (hx : OwnInts w base v (countUp 1 n)) (hl : n ≤ 4000000000000000000) :
    Calls Try.prog 43 #[v, .int .i64 1] w fun e w' => e = .returned (.int .i64 (1 + n)) ∧ w = w' :=
  heldIntS_any w v n 1 hx.at (by omega) (by omega) hl
theorem markIntS_own (w : World) (base : Nat) (a : Option Addr) (n m cap : Nat) (zs : List Int) (hx : OwnInts w base (.slice a m cap) zs) (hn : Hid (zs.length = n)) (hl : n ≤ 4000000000000000000) :
    Calls Try.prog 42 #[.slice a m cap, .int .i64 1] w fun e w' => e = .returned (.int .i64 (1 + n)) ∧ OwnInts w' base (.slice a m cap) (countUp 1 n) ∧ Below base w w' := by
  have := markIntS_any w base _ zs 1 hx ⟨_, _, _, rfl⟩ (by omega) (by omega) (by have := hn.out; omega)
  rw [hn.out] at this
  exact this

end Go.Proofs.Ytfgnckafpnobhaa
