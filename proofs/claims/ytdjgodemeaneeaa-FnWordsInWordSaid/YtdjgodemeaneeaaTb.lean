
/- Tables of rules: what it means that a slice reads as a list of rules. -/
import Derived.Test.YtdjgodemeaneeaaOwn
import Derived.Deep.Slices
import Derived.Deep.Fields
import Derived.ChangeSame
namespace Go.Proofs.Ytdjgodemeaneeaa
open Go.RowKit Go.ChangeShapes Go.WideShapes

/-- a rule: its letters, its cells, its place -/
structure PRule where
  t : ByteArray
  c : List Int
  p : Int
def noR : PRule := ⟨⟨#[]⟩, [], 0⟩
/-- the three cells from offset o of block g on read as the rule r -/
def RuleAt (w : World) (g o : Nat) (r : PRule) : Prop :=
  w.cell? ⟨g, o, none⟩ = some (.string r.t) ∧ (∃ u, w.cell? ⟨g, o + 1, none⟩ = some u ∧ IntsAt w u r.c) ∧ w.cell? ⟨g, o + 2, none⟩ = some (.int .i64 r.p)
/-- the slice value v reads as the table T -/
def TableAt (w : World) (v : Value) (T : List PRule) : Prop :=
  ∃ a cap, v = .slice a T.length cap ∧ T.length ≤ cap ∧ cap ≤ 9223372036854775807 ∧
    (T = [] ∨ ∃ g off, a = some ⟨g, off, none⟩ ∧ ∀ i, i < T.length → RuleAt w g (off + i * 3) (T.getD i noR))
theorem RuleAt.below {w w' : World} {g o : Nat} {r : PRule} (h : RuleAt w g o r) (hb : Below w.heap.size w w') : RuleAt w' g o r := by
  obtain ⟨h1, ⟨u, h2, h3⟩, h4⟩ := h
  exact ⟨(hb.cell (World.block_lt_of_cell? w _ h1)).trans h1, ⟨u, (hb.cell (World.block_lt_of_cell? w _ h2)).trans h2, h3.below hb⟩, (hb.cell (World.block_lt_of_cell? w _ h4)).trans h4⟩
theorem TableAt.below {w w' : World} {v : Value} {T : List PRule} (h : TableAt w v T) (hb : Below w.heap.size w w') : TableAt w' v T := by
  obtain ⟨a, cap, h1, h2, h3, h4⟩ := h
  refine ⟨a, cap, h1, h2, h3, ?_⟩
  rcases h4 with h4 | ⟨g, off, h4, h5⟩
  · exact .inl h4
  · exact .inr ⟨g, off, h4, fun i hi => (h5 i hi).below hb⟩
/-- what its letters, cells and place are bound to fit -/
def RuleFits (r : PRule) : Prop := r.t.size ≤ 9223372036854775807 ∧ Fits r.c ∧ -9223372036854775808 ≤ r.p ∧ r.p ≤ 9223372036854775807
def TableFits (T : List PRule) : Prop := ∀ r ∈ T, RuleFits r
theorem TableFits.at {T : List PRule} (h : TableFits T) (k : Nat) : RuleFits (T.getD k noR) := by
  rw [List.getD_eq_getElem?_getD]
  by_cases hk : k < T.length
  · rw [List.getElem?_eq_getElem hk, Option.getD_some]; exact h _ (List.getElem_mem _)
  · rw [List.getElem?_eq_none (by omega), Option.getD_none]
    exact ⟨Nat.zero_le _, fun z hz => absurd hz (by simp [noR]), by simp [noR], by simp [noR]⟩

instance : Inhabited PRule := ⟨noR⟩
theorem cells_of {w : World} {b off : Nat} {n : Nat} {base : Nat} {cs : List Value} {i : Nat} (h : w.cells? base ((⟨b, off, none⟩ : Addr).add i) n = some cs) : cs.length = n ∧ ∀ j, j < n → w.cell? ⟨b, off + i + j, none⟩ = cs[j]? := by
  obtain ⟨_, h1, h2⟩ := World.cells?_some h
  refine ⟨h1, fun j hj => ?_⟩
  have := h2 j hj
  rw [add_plain, add_plain] at this
  exact this
section SXTb
variable {H : Type} {enc : TypeId × Value → H} {W : World} {base : Nat} {spare : Nat → Bool} {held : Bool}
set_option maxRecDepth 100000 in
theorem open_ints_at {fuel : Nat} {u : Value} {x : DataW H × List MemPlace} (h : DataW.trod enc Try.prog W base spare held fuel 31 [u] = some x) : ∃ zs, IntsAt W u zs ∧ Fits zs := by
  rcases open_ints Try.underlying31 Try.underlying3 (by kernel_rfl) h with ⟨hcs, _⟩ | ⟨a, l, c, zs, hcs, _, hl, hm, hz, _, hcell, hwz⟩
  · simp at hcs
    subst hcs
    exact ⟨[], ⟨none, 0, rfl, Nat.le_refl _, by omega, .inl rfl⟩, fun z hz => absurd hz (by simp)⟩
  · simp at hcs
    subst hcs
    have hlz : l ≤ zs.length := by rw [hz]; split <;> omega
    have hl2 : (zs.take l).length = l := by rw [List.length_take]; omega
    refine ⟨zs.take l, ⟨some a, c, by rw [hl2], by omega, by unfold maxLen at hm; exact hm, ?_⟩, fun z hz => ?_⟩
    · by_cases h0 : l = 0
      · subst h0; exact .inl (by simp)
      · obtain ⟨b, off, rfl, hc⟩ := ints_at hcell (by omega)
        refine .inr ⟨b, off, rfl, fun i hi => ?_⟩
        rw [hc i (by omega), List.getD_eq_getElem?_getD, List.getD_eq_getElem?_getD, List.getElem?_take, if_pos (by omega)]
    · have := bounds_i64 (hwz z (List.mem_of_mem_take hz)); omega
end SXTb
end Go.Proofs.Ytdjgodemeaneeaa
