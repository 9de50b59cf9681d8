
/- Tables of rules: what it means that a slice reads as a list of rules. -/
import Derived.Test.YtohgglhjcklbaaaOwn
import Derived.Deep.Slices
import Derived.Deep.Fields
import Derived.ChangeSame
namespace Go.Proofs.Ytohgglhjcklbaaa
open Go.RowKit Go.ChangeShapes Go.WideShapes

/-- a rule: its letters, its cells, its place -/
structure PRule where
  t : ByteArray
  c : List Int
  p : Int
def noR : PRule := ⟨⟨#[]⟩, [], 0⟩
/-- the three cells from offset o of block g on read as the rule r -/
def RuleAt (w : World) (g o : Nat) (r : PRule) : Prop :=
  w.cell? ⟨g, o, none⟩ = some (.string r.t) ∧ (∃ u, w.cell? ⟨g, o + 1, none⟩ = some u ∧ IntsAt w u r.c) ∧ w.cell? ⟨g, o + 2, none⟩ = some (.int .i64 r.p)
/-- the slice value v reads as the table T -/
def TableAt (w : World) (v : Value) (T : List PRule) : Prop :=
  ∃ a cap, v = .slice a T.length cap ∧ T.length ≤ cap ∧ cap ≤ 9223372036854775807 ∧
    (T = [] ∨ ∃ g off, a = some ⟨g, off, none⟩ ∧ ∀ i, i < T.length → RuleAt w g (off + i * 3) (T.getD i noR))
theorem RuleAt.below {w w' : World} {g o : Nat} {r : PRule} (h : RuleAt w g o r) (hb : Below w.heap.size w w') : RuleAt w' g o r := by
  obtain ⟨h1, ⟨u, h2, h3⟩, h4⟩ := h
  exact ⟨(hb.cell (World.block_lt_of_cell? w _ h1)).trans h1, ⟨u, (hb.cell (World.block_lt_of_cell? w _ h2)).trans h2, h3.below hb⟩, (hb.cell (World.block_lt_of_cell? w _ h4)).trans h4⟩
theorem TableAt.below {w w' : World} {v : Value} {T : List PRule} (h : TableAt w v T) (hb : Below w.heap.size w w') : TableAt w' v T := by
  obtain ⟨a, cap, h1, h2, h3, h4⟩ := h
  refine ⟨a, cap, h1, h2, h3, ?_⟩
  rcases h4 with h4 | ⟨g, off, h4, h5⟩
  · exact .inl h4
  · exact .inr ⟨g, off, h4, fun i hi => (h5 i hi).below hb⟩
/-- what its letters, cells and place are bound to fit -/
def RuleFits (r : PRule) : Prop := r.t.size ≤ 9223372036854775807 ∧ Fits r.c ∧ -9223372036854775808 ≤ r.p ∧ r.p ≤ 9223372036854775807
def TableFits (T : List PRule) : Prop := ∀ r ∈ T, RuleFits r
theorem TableFits.at {T : List PRule} (h : TableFits T) (k : Nat) : RuleFits (T.getD k noR) := by
  rw [List.getD_eq_getElem?_getD]
  by_cases hk : k < T.length
  · rw [List.getElem?_eq_getElem hk, Option.getD_some]; exact h _ (List.getElem_mem _)
  · rw [List.getElem?_eq_none (by omega), Option.getD_none]
    exact ⟨Nat.zero_le _, fun z hz => absurd hz (by simp [noR]), by simp [noR], by simp [noR]⟩

instance : Inhabited PRule := ⟨noR⟩
theorem cells_of {w : World} {b off : Nat} {n : Nat} {base : Nat} {cs : List Value} {i : Nat} (h : w.cells? base ((⟨b, off, none⟩ : Addr).add i) n = some cs) : cs.length = n ∧ ∀ j, j < n → w.cell? ⟨b, off + i + j, none⟩ = cs[j]? := by
  obtain ⟨_, h1, h2⟩ := World.cells?_some h
  refine ⟨h1, fun j hj => ?_⟩
  have := h2 j hj
  rw [add_plain, add_plain] at this
  exact this
section SXTb
variable {H : Type} {enc : TypeId × Value → H} {W : World} {base : Nat} {spare : Nat → Bool} {held : Bool}
set_option maxRecDepth 100000 in
theorem open_ints_at {fuel : Nat} {u : Value} {x : DataW H × List MemPlace} (h : DataW.trod enc Try.prog W base spare held fuel 36 [u] = some x) : ∃ zs, IntsAt W u zs ∧ Fits zs := by
  rcases open_ints Try.underlying36 Try.underlying3 (by kernel_rfl) h with ⟨hcs, _⟩ | ⟨a, l, c, zs, hcs, _, hl, hm, hz, _, hcell, hwz⟩
  · simp at hcs
    subst hcs
    exact ⟨[], ⟨none, 0, rfl, Nat.le_refl _, by omega, .inl rfl⟩, fun z hz => absurd hz (by simp)⟩
  · simp at hcs
    subst hcs
    have hlz : l ≤ zs.length := by rw [hz]; split <;> omega
    have hl2 : (zs.take l).length = l := by rw [List.length_take]; omega
    refine ⟨zs.take l, ⟨some a, c, by rw [hl2], by omega, by unfold maxLen at hm; exact hm, ?_⟩, fun z hz => ?_⟩
    · by_cases h0 : l = 0
      · subst h0; exact .inl (by simp)
      · obtain ⟨b, off, rfl, hc⟩ := ints_at hcell (by omega)
        refine .inr ⟨b, off, rfl, fun i hi => ?_⟩
        rw [hc i (by omega), List.getD_eq_getElem?_getD, List.getD_eq_getElem?_getD, List.getElem?_take, if_pos (by omega)]
    · have := bounds_i64 (hwz z (List.mem_of_mem_take hz)); omega
set_option maxRecDepth 100000 in
/-- one rule, from its three cells -/
theorem open_rule_at {fuel b o : Nat} {cs : List Value} {x : DataW H × List MemPlace} (hc : cs.length = 3) (hcell : ∀ j, j < 3 → W.cell? ⟨b, o + j, none⟩ = cs[j]?)
    (h : DataW.trod enc Try.prog W base spare held fuel 71 cs = some x) : ∃ r, RuleAt W b o r ∧ RuleFits r := by
  obtain ⟨xs, n, _, _, _, hxl, hf⟩ := DataW.trod_struct Try.underlying71 h
  match xs, hxl, cs, hc with
  | [y0, y1, y2], _, [v0, v1, v2], _ =>
    have k0 : Try.prog.cellsOf 9 = 1 := by kernel_rfl
    have k1 : Try.prog.cellsOf 36 = 1 := by kernel_rfl
    have k2 : Try.prog.cellsOf 3 = 1 := by kernel_rfl
    have g0 : DataW.trod enc Try.prog W base spare held n 9 (([v0, v1, v2].drop 0).take (Try.prog.cellsOf 9)) = [y0, y1, y2][0]? := hf 0 _ rfl
    have g1 : DataW.trod enc Try.prog W base spare held n 36 (([v0, v1, v2].drop 1).take (Try.prog.cellsOf 36)) = [y0, y1, y2][1]? := hf 1 _ rfl
    have g2 : DataW.trod enc Try.prog W base spare held n 3 (([v0, v1, v2].drop 2).take (Try.prog.cellsOf 3)) = [y0, y1, y2][2]? := hf 2 _ rfl
    rw [k0] at g0
    rw [k1] at g1
    rw [k2] at g2
    simp only [List.drop_zero, List.drop_succ_cons, List.take_succ_cons, List.take_zero, List.getElem?_cons_zero, List.getElem?_cons_succ] at g0 g1 g2
    obtain ⟨s, hs, _, hsz⟩ := DataW.trod_string Try.underlying9 g0
    obtain ⟨zs, hz, hfz⟩ := open_ints_at g1
    obtain ⟨p, hp, _, hwp⟩ := DataW.trod_int Try.underlying3 g2
    simp at hs hp
    subst hs hp
    have c0 := hcell 0 (by omega)
    have c1 := hcell 1 (by omega)
    have c2 := hcell 2 (by omega)
    have hb := bounds_i64 hwp
    exact ⟨⟨s, zs, p⟩, ⟨by simpa using c0, ⟨v1, by simpa using c1, hz⟩, by simpa using c2⟩, ⟨by unfold maxLen at hsz; exact hsz, hfz, by simpa using hb.1, by simpa using hb.2⟩⟩
set_option maxRecDepth 100000 in
theorem open_rules {fuel : Nat} {a : Option Addr} {len cap : Nat} {x : DataW H × List MemPlace} (h : DataW.trod enc Try.prog W base spare held fuel 27 [.slice a len cap] = some x) :
    ∃ T, TableAt W (.slice a len cap) T ∧ T.length = len ∧ TableFits T := by
  have hC : Try.prog.cellsOf 71 = 3 := by kernel_rfl
  rcases Go.Deep.open_slice Try.underlying27 h with ⟨hcs, _⟩ | ⟨a', len', cap', m, n, D, Pl, hcs, hb, hl, hm, hmm, _, hi⟩
  · simp at hcs
    obtain ⟨rfl, rfl, rfl⟩ := hcs
    exact ⟨[], ⟨none, 0, rfl, Nat.le_refl _, by omega, .inl rfl⟩, rfl, fun z hz => absurd hz (by simp)⟩
  · simp at hcs
    obtain ⟨rfl, rfl, rfl⟩ := hcs
    have hlm : len ≤ m := by rw [hmm]; split <;> omega
    have hcm : cap ≤ 9223372036854775807 := by unfold maxLen at hm; exact hm
    rw [hC] at hi
    by_cases h0 : len = 0
    · subst h0
      exact ⟨[], ⟨some a', cap, rfl, by simp, hcm, .inl rfl⟩, rfl, fun z hz => absurd hz (by simp)⟩
    · obtain ⟨cs0, hc0, _⟩ := hi 0 (by omega)
      rw [Nat.zero_mul] at hc0
      have hsp : ∃ b off, a' = ⟨b, off, none⟩ := by
        obtain ⟨_, h1, h2⟩ := World.cells?_some hc0
        have h3 := h2 0 (by omega)
        obtain ⟨u, hu⟩ : ∃ u, cs0[0]? = some u := ⟨cs0[0]'(by omega), List.getElem?_eq_getElem (by omega)⟩
        rw [hu] at h3
        obtain ⟨b, off, spot⟩ := a'
        have hspot : spot = none := by simpa [Addr.add] using World.cell?_spot h3
        exact ⟨b, off, by rw [hspot]⟩
      obtain ⟨b, off, rfl⟩ := hsp
      have each : ∀ i, i < len → ∃ r, RuleAt W b (off + i * 3) r ∧ RuleFits r := by
        intro i hil
        obtain ⟨cs, hc, ht⟩ := hi i (by omega)
        obtain ⟨hc1, hc2⟩ := cells_of hc
        exact open_rule_at hc1 hc2 ht
      obtain ⟨R, hR⟩ := Go.Deep.choose_lt each
      have hlen : ((List.range len).map R).length = len := by simp
      refine ⟨(List.range len).map R, ⟨_, cap, by rw [hlen], by omega, hcm, .inr ⟨b, off, rfl, fun i hi => ?_⟩⟩, hlen, fun r hr => ?_⟩
      · have hi' : i < len := by omega
        have : ((List.range len).map R).getD i noR = R i := by simp [List.getD_eq_getElem?_getD, hi']
        rw [this]; exact (hR i hi').1
      · obtain ⟨i, hi, rfl⟩ := List.mem_map.1 hr
        exact (hR i (List.mem_range.1 hi)).2
end SXTb
end Go.Proofs.Ytohgglhjcklbaaa
