
/- Pictures: rows of the same length, how they lie in memory, and a change of one dot. -/
import Derived.Test.YtfgnckafpnobhaaMe
import Derived.Test.YtfgnckafpnobhaaIp
namespace Go.Proofs.Ytfgnckafpnobhaa
open Go.RowKit

theorem keptI {p : Prop} (h : p) : Hid p := h
theorem grid_small {h w : Nat} {f : Nat → Nat → Int} (h1 : h ≤ 1048576) (h2 : w ≤ 1048576) : ListsSmall (gridOf h w f) := by
  refine ⟨by rw [gridOf_len]; exact h1, fun i hi => ?_⟩
  rw [gridOf_len] at hi
  rw [gridOf_row f hi, rowOf_len]; exact h2

/-- n rows of m numbers lie at the address a -/
def PicAt (w : World) (a : Option Addr) (n c m : Nat) (f : Nat → Nat → Int) : Prop :=
  n ≤ c ∧ c ≤ 9223372036854775807 ∧ ∃ g off, a = some ⟨g, off, none⟩ ∧ ∀ y, y < n → ∃ b o d, w.cell? ⟨g, off + y, none⟩ = some (.slice (some ⟨b, o, none⟩) m d) ∧ m ≤ d ∧ d ≤ 9223372036854775807 ∧ ∀ x, x < m → w.cell? ⟨b, o + x, none⟩ = some (.int .i64 (f y x))
theorem PicAt.below {w w' : World} {a : Option Addr} {n c m : Nat} {f : Nat → Nat → Int} (h : PicAt w a n c m f) (hb : Below w.heap.size w w') : PicAt w' a n c m f := by
  obtain ⟨h1, h2, g, off, h3, h4⟩ := h
  refine ⟨h1, h2, g, off, h3, fun y hy => ?_⟩
  obtain ⟨b, o, d, h5, h6, h7, h8⟩ := h4 y hy
  exact ⟨b, o, d, (hb.cell (World.block_lt_of_cell? w _ h5)).trans h5, h6, h7, fun x hx => (hb.cell (World.block_lt_of_cell? w _ (h8 x hx))).trans (h8 x hx)⟩
/-- how a row lies -/
theorem PicAt.row {w : World} {a : Option Addr} {n c m : Nat} {f : Nat → Nat → Int} (h : PicAt w a n c m f) {y : Nat} (hy : y < n) :
    ∃ g off b o d, a = some ⟨g, off, none⟩ ∧ w.cell? ⟨g, off + y, none⟩ = some (.slice (some ⟨b, o, none⟩) m d) ∧ m ≤ d ∧ d ≤ 9223372036854775807 ∧ ∀ x, x < m → w.cell? ⟨b, o + x, none⟩ = some (.int .i64 (f y x)) := by
  obtain ⟨_, _, g, off, h3, h4⟩ := h
  obtain ⟨b, o, d, h5, h6, h7, h8⟩ := h4 y hy
  exact ⟨g, off, b, o, d, h3, h5, h6, h7, h8⟩
theorem ListsAt.pic {w : World} {a : Option Addr} {n c m : Nat} {M : Int} {L : List (List Int)} (h : ListsAt w (.slice a n c) L) (hr : RowsTo L m M L.length) (h1 : 1 ≤ L.length) (hm : 1 ≤ m) : n = L.length ∧ PicAt w a n c m (px L) := by
  obtain ⟨a', c', e, x1, x2, x3⟩ := h
  injection e with e1 e2 e3
  subst e1 e2 e3
  refine ⟨rfl, x1, x2, ?_⟩
  rcases x3 with rfl | ⟨g, off, rfl, x3⟩
  · simp at h1
  refine ⟨g, off, rfl, fun y hy => ?_⟩
  obtain ⟨u, c1, a2, cp2, rfl, y1, y2, y3⟩ := x3 y hy
  have hl := (hr y hy).1
  rw [hl] at c1 y1 y3
  rcases y3 with y3 | ⟨b, o, rfl, y3⟩
  · rw [y3] at hl; simp at hl; omega
  exact ⟨b, o, cp2, c1, y1, y2, fun x hx => y3 x hx⟩

/-- one dot of a picture of one's own, and what a change of it leaves -/
theorem OwnLL.dot {w : World} {base top n c h m : Nat} {a : Option Addr} {f : Nat → Nat → Int} (hO : OwnLL w base top (.slice a n c) (gridOf h m f)) {y x : Nat} (hy : y < h) (hx : x < m) :
    n = h ∧ ∃ g b d, a = some ⟨g, 0, none⟩ ∧ base ≤ b ∧ b < top ∧ w.cell? ⟨g, y, none⟩ = some (.slice (some ⟨b, 0, none⟩) m d) ∧ w.cell? ⟨b, x, none⟩ = some (.int .i64 (f y x)) ∧ w.frozen? ⟨b, x, none⟩ = false ∧ m ≤ d ∧ d ≤ 9223372036854775807 ∧
      ∀ z, OwnLL (w.setCell ⟨b, x, none⟩ (.int .i64 z)) base top (.slice a n c) (gridOf h m (upd f y x z)) ∧ w.grownBy (w.setCell ⟨b, x, none⟩ (.int .i64 z)) (some b) := by
  have hn : n = h := by
    obtain ⟨_, _, e, _⟩ := hO.ls.at
    injection e with _ e2 _
    rw [e2, gridOf_len]
  obtain ⟨g, b, d, ha, _, hc, hI, hb1, hb2, hset⟩ := hO.nth (i := y) (by omega)
  have hl : ((gridOf h m f).getD y []).length = m := by rw [gridOf_row f hy, rowOf_len]
  rw [hl] at hc hI hset
  have hcell := hI.cell hl hx
  rw [gridOf_row f hy, rowOf_get _ hx] at hcell
  obtain ⟨a3, c3, e3, y1, y2, _⟩ := hI.at
  injection e3 with _ e4 e5
  rw [hl] at y1
  subst e5
  refine ⟨hn, g, b, d, ha, hb1, hb2, hc, hcell, hI.free hl x, y1, y2, fun z => ⟨?_, hI.stored' hl x _⟩⟩
  have h9 := hset (w.setCell ⟨b, x, none⟩ (.int .i64 z)) (((gridOf h m f).getD y []).set x z) (by rw [List.length_set, hl]) (hI.store hl x z) (hI.stored' hl x _)
  rw [gridOf_set f z hy] at h9
  exact h9
theorem OwnLL.pic {w : World} {base top n c h m : Nat} {a : Option Addr} {f : Nat → Nat → Int} (hO : OwnLL w base top (.slice a n c) (gridOf h m f)) (h1 : 1 ≤ h) (hm : 1 ≤ m) : n = h ∧ PicAt w a n c m f := by
  have hn : n = h := by
    obtain ⟨_, _, e, _⟩ := hO.ls.at
    injection e with _ e2 _
    rw [e2, gridOf_len]
  obtain ⟨a0, c0, e0, x1, x2, _⟩ := hO.ls.at
  injection e0 with e1 e2 e3
  subst e1 e3
  rw [gridOf_len] at x1
  obtain ⟨_, g, b, d, ha, _⟩ := hO.dot (y := 0) (x := 0) h1 hm
  refine ⟨hn, by omega, x2, g, 0, ha, fun y hy => ?_⟩
  have hy' : y < h := by omega
  obtain ⟨_, g2, b2, d2, ha2, _, _, hc2, _, _, hd2, hd3, _⟩ := hO.dot (y := y) (x := 0) hy' hm
  rw [ha] at ha2
  injection ha2 with ha2
  injection ha2 with ha2 _ _
  subst ha2
  refine ⟨b2, 0, d2, by rw [Nat.zero_add]; exact hc2, hd2, hd3, fun x hx => ?_⟩
  obtain ⟨_, g3, b3, d3, ha3, _, _, hc3, hx3, _⟩ := hO.dot (y := y) (x := x) hy' hx
  rw [ha] at ha3
  injection ha3 with ha3
  injection ha3 with ha3 _ _
  subst ha3
  rw [hc2] at hc3
  injection hc3 with hc3
  injection hc3 with hc3 _ _
  injection hc3 with hc3
  injection hc3 with hc3 _ _
  subst hc3
  rw [Nat.zero_add]; exact hx3
end Go.Proofs.Ytfgnckafpnobhaa
