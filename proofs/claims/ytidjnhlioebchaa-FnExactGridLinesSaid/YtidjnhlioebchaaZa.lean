
/- Grids, lists of lists of lists of integers: what it means that a slice reads as them. -/
import Derived.Test.YtidjnhlioebchaaCb
namespace Go.Proofs.Ytidjnhlioebchaa
open Go.RowKit Go.ChangeShapes Go.WideShapes

/-- the slice value v reads as the grid G -/
def GridAt (w : World) (v : Value) (G : List (List (List Int))) : Prop :=
  ∃ a cap, v = .slice a G.length cap ∧ G.length ≤ cap ∧ cap ≤ 9223372036854775807 ∧
    (G = [] ∨ ∃ g off, a = some ⟨g, off, none⟩ ∧ ∀ i, i < G.length → ∃ u, w.cell? ⟨g, off + i, none⟩ = some u ∧ ListsAt w u (G.getD i []))
theorem GridAt.below {w w' : World} {v : Value} {G : List (List (List Int))} (h : GridAt w v G) (hb : Below w.heap.size w w') : GridAt w' v G := by
  obtain ⟨a, cap, h1, h2, h3, h4⟩ := h
  refine ⟨a, cap, h1, h2, h3, ?_⟩
  rcases h4 with h4 | ⟨g, off, h4, h5⟩
  · exact .inl h4
  · refine .inr ⟨g, off, h4, fun i hi => ?_⟩
    obtain ⟨u, h6, h7⟩ := h5 i hi
    exact ⟨u, (hb.cell (World.block_lt_of_cell? w _ h6)).trans h6, h7.below hb⟩
def FitsG (G : List (List (List Int))) : Prop := ∀ L ∈ G, FitsL L
section SXZa
variable {H : Type} {enc : TypeId × Value → H} {W : World} {base : Nat} {spare : Nat → Bool} {held : Bool}
set_option maxRecDepth 100000 in
theorem openG_lists_at {fuel : Nat} {u : Value} {x : DataW H × List MemPlace} (h : DataW.trod enc Try.prog W base spare held fuel 30 [u] = some x) : ∃ L, ListsAt W u L ∧ FitsL L := by
  rcases Go.Deep.open_slice Try.underlying30 h with ⟨hcs, _⟩ | ⟨a', len', cap', m, n, D, Pl, hcs, _⟩
  · simp at hcs
    subst hcs
    exact ⟨[], ⟨none, 0, rfl, Nat.le_refl _, by omega, .inl rfl⟩, fun z hz => absurd hz (by simp)⟩
  · simp at hcs
    subst hcs
    obtain ⟨L, h1, _, h2⟩ := open_lists h
    exact ⟨L, h1, h2⟩
set_option maxRecDepth 100000 in
theorem open_grid {fuel : Nat} {a : Option Addr} {len cap : Nat} {x : DataW H × List MemPlace} (h : DataW.trod enc Try.prog W base spare held fuel 23 [.slice a len cap] = some x) :
    ∃ G, GridAt W (.slice a len cap) G ∧ G.length = len ∧ FitsG G := by
  have hC : Try.prog.cellsOf 30 = 1 := by kernel_rfl
  rcases Go.Deep.open_slice Try.underlying23 h with ⟨hcs, _⟩ | ⟨a', len', cap', m, n, D, Pl, hcs, hb, hl, hm, hmm, _, hi⟩
  · simp at hcs
    obtain ⟨rfl, rfl, rfl⟩ := hcs
    exact ⟨[], ⟨none, 0, rfl, Nat.le_refl _, by omega, .inl rfl⟩, rfl, fun z hz => absurd hz (by simp)⟩
  · simp at hcs
    obtain ⟨rfl, rfl, rfl⟩ := hcs
    have hlm : len ≤ m := by rw [hmm]; split <;> omega
    have hcm : cap ≤ 9223372036854775807 := by unfold maxLen at hm; exact hm
    rw [hC] at hi
    by_cases h0 : len = 0
    · subst h0
      exact ⟨[], ⟨some a', cap, rfl, by simp, hcm, .inl rfl⟩, rfl, fun z hz => absurd hz (by simp)⟩
    · obtain ⟨cs0, hc0, _⟩ := hi 0 (by omega)
      rw [Nat.zero_mul] at hc0
      have hsp : ∃ b off, a' = ⟨b, off, none⟩ := by
        obtain ⟨_, h1, h2⟩ := World.cells?_some hc0
        have h3 := h2 0 (by omega)
        obtain ⟨u, hu⟩ : ∃ u, cs0[0]? = some u := ⟨cs0[0]'(by omega), List.getElem?_eq_getElem (by omega)⟩
        rw [hu] at h3
        obtain ⟨b, off, spot⟩ := a'
        have hspot : spot = none := by simpa [Addr.add] using World.cell?_spot h3
        exact ⟨b, off, by rw [hspot]⟩
      obtain ⟨b, off, rfl⟩ := hsp
      have each : ∀ i, i < len → ∃ L, (∃ u, W.cell? ⟨b, off + i, none⟩ = some u ∧ ListsAt W u L) ∧ FitsL L := by
        intro i hil
        obtain ⟨cs, hc, ht⟩ := hi i (by omega)
        obtain ⟨hc1, hc2⟩ := cellsL_of hc
        match cs, hc1 with
        | [u], _ =>
          obtain ⟨L, h1, h2⟩ := openG_lists_at ht
          have h3 := hc2 0 (by omega)
          exact ⟨L, ⟨u, by simpa using h3, h1⟩, h2⟩
      obtain ⟨R, hR⟩ := Go.Deep.choose_lt each
      have hlen : ((List.range len).map R).length = len := by simp
      refine ⟨(List.range len).map R, ⟨_, cap, by rw [hlen], by omega, hcm, .inr ⟨b, off, rfl, fun i hi => ?_⟩⟩, hlen, fun r hr => ?_⟩
      · have hi' : i < len := by omega
        have : ((List.range len).map R).getD i [] = R i := by simp [List.getD_eq_getElem?_getD, hi']
        rw [this]; exact (hR i hi').1
      · obtain ⟨i, hi, rfl⟩ := List.mem_map.1 hr
        exact (hR i (List.mem_range.1 hi)).2
end SXZa
end Go.Proofs.Ytidjnhlioebchaa
