
/- Slices of integers that the call itself made: their cells, and a store into them. -/
import Derived.Test.YtfgnckafpnobhaaOwn
namespace Go.Proofs.Ytfgnckafpnobhaa
open Go.RowKit

theorem set_ints (zs : List Int) (k : Nat) (z : Int) : (ints zs).set k (.int .i64 z) = ints (zs.set k z) := by
  simp [ints, List.map_set]
theorem OwnInts.shape {w : World} {base : Nat} {v : Value} {zs : List Int} (h : OwnInts w base v zs) (hne : 0 < zs.length) : ∃ g cap, v = .slice (some ⟨g, 0, none⟩) zs.length cap ∧ base ≤ g := by
  rcases h.2 with ⟨_, hn⟩ | ⟨g, cap, cur, hv, hb, _⟩
  · omega
  · exact ⟨g, cap, hv, hb⟩
theorem OwnInts.cell {w : World} {base g cap n : Nat} {zs : List Int} (h : OwnInts w base (.slice (some ⟨g, 0, none⟩) n cap) zs) (hn : zs.length = n) {k : Nat} (hk : k < n) : w.cell? ⟨g, k, none⟩ = some (.int .i64 (zs.getD k 0)) := by
  subst hn
  have := h.cellAt k (by omega)
  rw [this]
  simp [ints, hk]
theorem OwnInts.free {w : World} {base g cap n : Nat} {zs : List Int} (h : OwnInts w base (.slice (some ⟨g, 0, none⟩) n cap) zs) (hn : zs.length = n) (k : Nat) : w.frozen? ⟨g, k, none⟩ = false := by
  subst hn
  exact h.frozenAt k
theorem OwnInts.store {w : World} {base g cap n : Nat} {zs : List Int} (h : OwnInts w base (.slice (some ⟨g, 0, none⟩) n cap) zs) (hn : zs.length = n) (k : Nat) (z : Int) : OwnInts (w.setCell ⟨g, k, none⟩ (.int .i64 z)) base (.slice (some ⟨g, 0, none⟩) n cap) (zs.set k z) := by
  subst hn
  have := (h.stored k (.int .i64 z)).1
  rw [set_ints] at this
  unfold OwnInts
  rw [List.length_set]
  exact this
theorem OwnInts.stored' {w : World} {base g cap n : Nat} {zs : List Int} (h : OwnInts w base (.slice (some ⟨g, 0, none⟩) n cap) zs) (hn : zs.length = n) (k : Nat) (u : Value) : w.grownBy (w.setCell ⟨g, k, none⟩ u) (some g) := by
  subst hn
  exact (h.stored k u).2
end Go.Proofs.Ytfgnckafpnobhaa
