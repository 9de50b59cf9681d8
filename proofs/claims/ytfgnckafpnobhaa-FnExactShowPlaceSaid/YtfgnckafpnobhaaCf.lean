
/- impl.beginsWith, spec.startsWith: does a list begin with another one. -/
import Derived.Test.YtfgnckafpnobhaaCc
namespace Go.Proofs.Ytfgnckafpnobhaa
open Go.RowKit

/-- the first k numbers -/
theorem IntsAt.takeC {w : World} {a : Option Addr} {n cap : Nat} {zs : List Int} (h : IntsAt w (.slice a n cap) zs) (k : Nat) (hk : k ≤ n) : IntsAt w (.slice a k cap) (zs.take k) := by
  obtain ⟨a', cap', h1, h2, h3, h4⟩ := h
  injection h1 with e1 e2 e3
  subst e1 e3
  have hl : (zs.take k).length = k := by rw [List.length_take]; omega
  refine ⟨a, cap, by rw [hl], by omega, h3, ?_⟩
  rcases h4 with h4 | ⟨g, off, h4, h5⟩
  · subst h4; exact .inl (by simp)
  · refine .inr ⟨g, off, h4, fun i hi => ?_⟩
    rw [hl] at hi
    rw [getD_take _ _ _ _ hi]
    exact h5 i (by omega)
/-- the numbers from k on -/
theorem IntsAt.dropC {w : World} {g off n cap : Nat} {zs : List Int} (h : IntsAt w (.slice (some ⟨g, off, none⟩) n cap) zs) (k : Nat) (hk : k ≤ n) : IntsAt w (.slice (some ⟨g, off + k, none⟩) (n - k) (cap - k)) (zs.drop k) := by
  obtain ⟨a', cap', h1, h2, h3, h4⟩ := h
  injection h1 with e1 e2 e3
  subst e1 e2 e3
  refine ⟨_, _, by rw [List.length_drop], by rw [List.length_drop]; omega, by omega, ?_⟩
  rcases h4 with h4 | ⟨g', off', h4, h5⟩
  · subst h4; exact .inl (by simp)
  · injection h4 with h4
    injection h4 with e1 e2 _
    subst e1 e2
    refine .inr ⟨g, off + k, rfl, fun i hi => ?_⟩
    rw [List.length_drop] at hi
    rw [Nat.add_assoc, h5 (k + i) (by omega), List.getD_eq_getElem?_getD, List.getD_eq_getElem?_getD, List.getElem?_drop]
theorem IntsAt.addrC {w : World} {a : Option Addr} {n c : Nat} {zs : List Int} (h : IntsAt w (.slice a n c) zs) (hn : 0 < n) : ∃ g off, a = some ⟨g, off, none⟩ := by
  obtain ⟨a', cap, e, _, _, hc⟩ := h
  injection e with e1 e2 _
  subst e1
  rcases hc with rfl | ⟨g, off, e, _⟩
  · simp at e2; omega
  · exact ⟨g, off, e⟩
theorem ListsAt.someNth {w : World} {a : Option Addr} {n c : Nat} {L : List (List Int)} (h : ListsAt w (.slice a n c) L) {i : Nat} (hi : i < n) :
    ∃ g off u, a = some ⟨g, off, none⟩ ∧ w.cell? ⟨g, off + i, none⟩ = some u ∧ IntsAt w u (L.getD i []) := by
  obtain ⟨a', cap, e, _, _, hc⟩ := h
  injection e with e1 e2 _
  subst e1
  rcases hc with rfl | ⟨g, off, e, hc⟩
  · simp at e2; omega
  · obtain ⟨u, h1, h2⟩ := hc i (by omega)
    exact ⟨g, off, u, e, h1, h2⟩
theorem begins_len {xs ys : List Int} (h : xs.take ys.length = ys) : ys.length ≤ xs.length := by
  have := congrArg List.length h
  rw [List.length_take] at this
  omega

end Go.Proofs.Ytfgnckafpnobhaa
