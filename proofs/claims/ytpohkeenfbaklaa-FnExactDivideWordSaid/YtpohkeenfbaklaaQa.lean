
/- Lists of patterns: what it means that a slice reads as a list of patterns. -/
import Derived.Test.YtpohkeenfbaklaaOwn
import Derived.Deep.Slices
import Derived.Deep.Fields
import Derived.ChangeSame
namespace Go.Proofs.Ytpohkeenfbaklaa
open Go.RowKit Go.ChangeShapes Go.WideShapes

/-- a pattern: its letters, whether it stands at the beginning, at the end, its levels -/
structure PPat where
  t : ByteArray
  b : Bool
  e : Bool
  c : List Int
def noQ : PPat := ⟨⟨#[]⟩, false, false, []⟩
instance : Inhabited PPat := ⟨noQ⟩
/-- the four cells from offset o of block g on read as the pattern r -/
def PatAt (w : World) (g o : Nat) (r : PPat) : Prop :=
  w.cell? ⟨g, o, none⟩ = some (.string r.t) ∧ w.cell? ⟨g, o + 1, none⟩ = some (.bool r.b) ∧ w.cell? ⟨g, o + 2, none⟩ = some (.bool r.e) ∧ ∃ u, w.cell? ⟨g, o + 3, none⟩ = some u ∧ IntsAt w u r.c
/-- the slice value v reads as the patterns T -/
def PatsAt (w : World) (v : Value) (T : List PPat) : Prop :=
  ∃ a cap, v = .slice a T.length cap ∧ T.length ≤ cap ∧ cap ≤ 9223372036854775807 ∧
    (T = [] ∨ ∃ g off, a = some ⟨g, off, none⟩ ∧ ∀ i, i < T.length → PatAt w g (off + i * 4) (T.getD i noQ))
theorem PatAt.below {w w' : World} {g o : Nat} {r : PPat} (h : PatAt w g o r) (hb : Below w.heap.size w w') : PatAt w' g o r := by
  obtain ⟨h1, h4, h5, ⟨u, h2, h3⟩⟩ := h
  exact ⟨(hb.cell (World.block_lt_of_cell? w _ h1)).trans h1, (hb.cell (World.block_lt_of_cell? w _ h4)).trans h4, (hb.cell (World.block_lt_of_cell? w _ h5)).trans h5, ⟨u, (hb.cell (World.block_lt_of_cell? w _ h2)).trans h2, h3.below hb⟩⟩
theorem PatsAt.below {w w' : World} {v : Value} {T : List PPat} (h : PatsAt w v T) (hb : Below w.heap.size w w') : PatsAt w' v T := by
  obtain ⟨a, cap, h1, h2, h3, h4⟩ := h
  refine ⟨a, cap, h1, h2, h3, ?_⟩
  rcases h4 with h4 | ⟨g, off, h4, h5⟩
  · exact .inl h4
  · exact .inr ⟨g, off, h4, fun i hi => (h5 i hi).below hb⟩
def PatFits (r : PPat) : Prop := r.t.size ≤ 9223372036854775807 ∧ Fits r.c
def PatsFit (T : List PPat) : Prop := ∀ r ∈ T, PatFits r
theorem PatsFit.at {T : List PPat} (h : PatsFit T) (k : Nat) : PatFits (T.getD k noQ) := by
  rw [List.getD_eq_getElem?_getD]
  by_cases hk : k < T.length
  · rw [List.getElem?_eq_getElem hk, Option.getD_some]; exact h _ (List.getElem_mem _)
  · rw [List.getElem?_eq_none (by omega), Option.getD_none]
    exact ⟨Nat.zero_le _, fun z hz => absurd hz (by simp [noQ])⟩
theorem keptQ {p : Prop} (h : p) : Hid p := h
theorem cells_of {w : World} {b off : Nat} {n : Nat} {base : Nat} {cs : List Value} {i : Nat} (h : w.cells? base ((⟨b, off, none⟩ : Addr).add i) n = some cs) : cs.length = n ∧ ∀ j, j < n → w.cell? ⟨b, off + i + j, none⟩ = cs[j]? := by
  obtain ⟨_, h1, h2⟩ := World.cells?_some h
  refine ⟨h1, fun j hj => ?_⟩
  have := h2 j hj
  rw [add_plain, add_plain] at this
  exact this
section SXQa
variable {H : Type} {enc : TypeId × Value → H} {W : World} {base : Nat} {spare : Nat → Bool} {held : Bool}
set_option maxRecDepth 100000 in
theorem open_ints_at {fuel : Nat} {u : Value} {x : DataW H × List MemPlace} (h : DataW.trod enc Try.prog W base spare held fuel 26 [u] = some x) : ∃ zs, IntsAt W u zs ∧ Fits zs := by
  rcases open_ints Try.underlying26 Try.underlying3 (by kernel_rfl) h with ⟨hcs, _⟩ | ⟨a, l, c, zs, hcs, _, hl, hm, hz, _, hcell, hwz⟩
  · simp at hcs
    subst hcs
    exact ⟨[], ⟨none, 0, rfl, Nat.le_refl _, by omega, .inl rfl⟩, fun z hz => absurd hz (by simp)⟩
  · simp at hcs
    subst hcs
    have hlz : l ≤ zs.length := by rw [hz]; split <;> omega
    have hl2 : (zs.take l).length = l := by rw [List.length_take]; omega
    refine ⟨zs.take l, ⟨some a, c, by rw [hl2], by omega, by unfold maxLen at hm; exact hm, ?_⟩, fun z hz => ?_⟩
    · by_cases h0 : l = 0
      · subst h0; exact .inl (by simp)
      · obtain ⟨b, off, rfl, hc⟩ := ints_at hcell (by omega)
        refine .inr ⟨b, off, rfl, fun i hi => ?_⟩
        rw [hc i (by omega), List.getD_eq_getElem?_getD, List.getD_eq_getElem?_getD, List.getElem?_take, if_pos (by omega)]
    · have := bounds_i64 (hwz z (List.mem_of_mem_take hz)); omega
set_option maxRecDepth 100000 in
/-- one pattern, from its four cells -/
theorem open_pat_at {fuel b o : Nat} {cs : List Value} {x : DataW H × List MemPlace} (hc : cs.length = 4) (hcell : ∀ j, j < 4 → W.cell? ⟨b, o + j, none⟩ = cs[j]?)
    (h : DataW.trod enc Try.prog W base spare held fuel 56 cs = some x) : ∃ r, PatAt W b o r ∧ PatFits r := by
  obtain ⟨xs, n, _, _, _, hxl, hf⟩ := DataW.trod_struct Try.underlying56 h
  match xs, hxl, cs, hc with
  | [y0, y1, y2, y3], _, [v0, v1, v2, v3], _ =>
    have k0 : Try.prog.cellsOf 9 = 1 := by kernel_rfl
    have k1 : Try.prog.cellsOf 26 = 1 := by kernel_rfl
    have k2 : Try.prog.cellsOf 4 = 1 := by kernel_rfl
    have g0 : DataW.trod enc Try.prog W base spare held n 9 (([v0, v1, v2, v3].drop 0).take (Try.prog.cellsOf 9)) = [y0, y1, y2, y3][0]? := hf 0 _ rfl
    have g1 : DataW.trod enc Try.prog W base spare held n 4 (([v0, v1, v2, v3].drop 1).take (Try.prog.cellsOf 4)) = [y0, y1, y2, y3][1]? := hf 1 _ rfl
    have g2 : DataW.trod enc Try.prog W base spare held n 4 (([v0, v1, v2, v3].drop 2).take (Try.prog.cellsOf 4)) = [y0, y1, y2, y3][2]? := hf 2 _ rfl
    have g3 : DataW.trod enc Try.prog W base spare held n 26 (([v0, v1, v2, v3].drop 3).take (Try.prog.cellsOf 26)) = [y0, y1, y2, y3][3]? := hf 3 _ rfl
    rw [k0] at g0
    rw [k2] at g1 g2
    rw [k1] at g3
    simp only [List.drop_zero, List.drop_succ_cons, List.take_succ_cons, List.take_zero, List.getElem?_cons_zero, List.getElem?_cons_succ] at g0 g1 g2 g3
    obtain ⟨s, hs, _, hsz⟩ := DataW.trod_string Try.underlying9 g0
    obtain ⟨p1, hp1, _⟩ := DataW.trod_bool Try.underlying4 g1
    obtain ⟨p2, hp2, _⟩ := DataW.trod_bool Try.underlying4 g2
    obtain ⟨zs, hz, hfz⟩ := open_ints_at g3
    simp at hs hp1 hp2
    subst hs hp1 hp2
    have c0 := hcell 0 (by omega)
    have c1 := hcell 1 (by omega)
    have c2 := hcell 2 (by omega)
    have c3 := hcell 3 (by omega)
    exact ⟨⟨s, p1, p2, zs⟩, ⟨by simpa using c0, by simpa using c1, by simpa using c2, ⟨v3, by simpa using c3, hz⟩⟩, ⟨by unfold maxLen at hsz; exact hsz, hfz⟩⟩
set_option maxRecDepth 100000 in
theorem open_pats {fuel : Nat} {a : Option Addr} {len cap : Nat} {x : DataW H × List MemPlace} (h : DataW.trod enc Try.prog W base spare held fuel 40 [.slice a len cap] = some x) :
    ∃ T, PatsAt W (.slice a len cap) T ∧ T.length = len ∧ PatsFit T := by
  have hC : Try.prog.cellsOf 56 = 4 := by kernel_rfl
  rcases Go.Deep.open_slice Try.underlying40 h with ⟨hcs, _⟩ | ⟨a', len', cap', m, n, D, Pl, hcs, hb, hl, hm, hmm, _, hi⟩
  · simp at hcs
    obtain ⟨rfl, rfl, rfl⟩ := hcs
    exact ⟨[], ⟨none, 0, rfl, Nat.le_refl _, by omega, .inl rfl⟩, rfl, fun z hz => absurd hz (by simp)⟩
  · simp at hcs
    obtain ⟨rfl, rfl, rfl⟩ := hcs
    have hlm : len ≤ m := by rw [hmm]; split <;> omega
    have hcm : cap ≤ 9223372036854775807 := by unfold maxLen at hm; exact hm
    rw [hC] at hi
    by_cases h0 : len = 0
    · subst h0
      exact ⟨[], ⟨some a', cap, rfl, by simp, hcm, .inl rfl⟩, rfl, fun z hz => absurd hz (by simp)⟩
    · obtain ⟨cs0, hc0, _⟩ := hi 0 (by omega)
      rw [Nat.zero_mul] at hc0
      have hsp : ∃ b off, a' = ⟨b, off, none⟩ := by
        obtain ⟨_, h1, h2⟩ := World.cells?_some hc0
        have h3 := h2 0 (by omega)
        obtain ⟨u, hu⟩ : ∃ u, cs0[0]? = some u := ⟨cs0[0]'(by omega), List.getElem?_eq_getElem (by omega)⟩
        rw [hu] at h3
        obtain ⟨b, off, spot⟩ := a'
        have hspot : spot = none := by simpa [Addr.add] using World.cell?_spot h3
        exact ⟨b, off, by rw [hspot]⟩
      obtain ⟨b, off, rfl⟩ := hsp
      have each : ∀ i, i < len → ∃ r, PatAt W b (off + i * 4) r ∧ PatFits r := by
        intro i hil
        obtain ⟨cs, hc, ht⟩ := hi i (by omega)
        obtain ⟨hc1, hc2⟩ := cells_of hc
        exact open_pat_at hc1 hc2 ht
      obtain ⟨R, hR⟩ := Go.Deep.choose_lt each
      have hlen : ((List.range len).map R).length = len := by simp
      refine ⟨(List.range len).map R, ⟨_, cap, by rw [hlen], by omega, hcm, .inr ⟨b, off, rfl, fun i hi => ?_⟩⟩, hlen, fun r hr => ?_⟩
      · have hi' : i < len := by omega
        have : ((List.range len).map R).getD i noQ = R i := by simp [List.getD_eq_getElem?_getD, hi']
        rw [this]; exact (hR i hi').1
      · obtain ⟨i, hi, rfl⟩ := List.mem_map.1 hr
        exact (hR i (List.mem_range.1 hi)).2
end SXQa
end Go.Proofs.Ytpohkeenfbaklaa
