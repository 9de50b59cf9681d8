
/- The exact laws' own functions on tables: their size, a copy, whether two are the same. -/
import Derived.Test.YtdjgodemeaneeaaTb
import Derived.Test.YtdjgodemeaneeaaExS
import Derived.Test.YtdjgodemeaneeaaEqIntS
import Derived.Deep.RegionHeld3
import Derived.Deep.Onto
import Derived.Handy
namespace Go.Proofs.Ytdjgodemeaneeaa
open Go.RowKit

/-- a rule whose letters and cells are not too many -/
def RuleSmall (r : PRule) : Prop := r.t.size ≤ 1048576 ∧ r.c.length ≤ 1048576
def SmallTo (T : List PRule) (k : Nat) : Prop := ∀ i, i < k → RuleSmall (T.getD i noR)
theorem SmallTo.zero (T : List PRule) : SmallTo T 0 := fun i h => absurd h (by omega)
theorem SmallTo.succ {T : List PRule} {k : Nat} (h : SmallTo T k) (e : RuleSmall (T.getD k noR)) : SmallTo T (k + 1) := fun i hi => by
  by_cases hik : i = k
  · subst hik; exact e
  · exact h i (by omega)
def TableSmall (T : List PRule) : Prop := T.length ≤ 1048576 ∧ SmallTo T T.length

/-- a copied rule -/
def RuleMade (s : ByteArray) (zs : List Int) (p : Int) (w : World) (e : Ending) (w' : World) : Prop :=
  ∃ g, e = .returned (.agg #[.string s, .slice (some ⟨g, 0, none⟩) zs.length zs.length, .int .i64 p]) ∧ OwnInts w' w.heap.size (.slice (some ⟨g, 0, none⟩) zs.length zs.length) zs ∧ Below w.heap.size w w'
end Go.Proofs.Ytdjgodemeaneeaa
