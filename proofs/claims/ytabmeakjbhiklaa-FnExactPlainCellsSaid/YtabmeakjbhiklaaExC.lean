
/- FnExactFormatCells: its walk. -/
import Derived.Test.YtabmeakjbhiklaaExS
import Derived.Test.YtabmeakjbhiklaaEqIntS
import Derived.Test.YtabmeakjbhiklaaTxtB
namespace Go.Proofs.Ytabmeakjbhiklaa
open Go.RowKit

theorem eqIntS_same2 (w : World) (u v : Value) (xs : List Int) (hx : IntsAt w u xs) (hy : IntsAt w v xs) :
    Calls Try.prog 13 #[u, v] w fun e w' => e = .returned (.bool true) ∧ Below w.heap.size w w' := by
  have := eqIntS_any w u v xs xs hx hy
  rw [decide_eq_true rfl] at this
  exact this
def CopyOut2 (zs : List Int) (n : Nat) (w : World) (e : Ending) (w' : World) : Prop := ∃ g, e = .returned (.slice (some ⟨g, 0, none⟩) n n) ∧ IntsAt w' (.slice (some ⟨g, 0, none⟩) n n) zs ∧ Below w.heap.size w w'
theorem toIntS_out2 (w : World) (a : Option Addr) (n cap : Nat) (zs : List Int) (hx : IntsAt w (.slice a n cap) zs) (hl : n ≤ 1048576) (hn : Hid (zs.length = n)) :
    Calls Try.prog 25 #[.slice a n cap] w fun e w' => CopyOut2 zs n w e w' :=
  (toIntS_any w _ zs hx (by have := hn.out; omega)).mono fun _ _ ⟨v, h1, h2, h3, g, h4⟩ => by
    rw [hn.out] at h4
    subst h4
    exact ⟨g, h1, h2.at, h3⟩
end Go.Proofs.Ytabmeakjbhiklaa
