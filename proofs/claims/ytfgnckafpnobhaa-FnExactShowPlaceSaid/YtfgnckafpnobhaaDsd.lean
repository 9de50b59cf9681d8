
/- toDisplay: a copy of a display. -/
import Derived.Test.YtfgnckafpnobhaaDsc
import Derived.Test.YtfgnckafpnobhaaExS
import Derived.ChangeSame
import Derived.Deep.RegionHeld3
import Derived.Deep.Fields
import Derived.Deep.Onto
namespace Go.Proofs.Ytfgnckafpnobhaa
open Go.RowKit

theorem toIntS_d (w : World) (a : Option Addr) (n cap : Nat) (zs : List Int) (hx : IntsAt w (.slice a n cap) zs) (hn : Hid (zs.length = n)) (hl : n ≤ 1048576) :
    Calls Try.prog 62 #[.slice a n cap] w fun e w' => ∃ g, e = .returned (.slice (some ⟨g, 0, none⟩) n n) ∧ OwnInts w' w.heap.size (.slice (some ⟨g, 0, none⟩) n n) zs ∧ Below w.heap.size w w' :=
  (toIntS_any w _ zs hx (by have := hn.out; omega)).mono fun _ _ ⟨v, h1, h2, h3, g, h4⟩ => by
    rw [hn.out] at h4
    subst h4
    exact ⟨g, h1, h2, h3⟩
theorem BoxD.set0 {w : World} {g : Nat} {c p : Value} {s t : Int} (h : BoxD w g c p s t) (c' : Value) : BoxD (w.setCell ⟨g, 0, none⟩ c') g c' p s t := heap_setCell_same w g 0 _ _ c' h
theorem BoxD.set1 {w : World} {g : Nat} {c p : Value} {s t : Int} (h : BoxD w g c p s t) (p' : Value) : BoxD (w.setCell ⟨g, 1, none⟩ p') g c p' s t := heap_setCell_same w g 1 _ _ p' h
theorem BoxD.set2 {w : World} {g : Nat} {c p : Value} {s t : Int} (h : BoxD w g c p s t) (s' : Int) : BoxD (w.setCell ⟨g, 2, none⟩ (.int .i64 s')) g c p s' t := heap_setCell_same w g 2 _ _ _ h
theorem BoxD.set3 {w : World} {g : Nat} {c p : Value} {s t : Int} (h : BoxD w g c p s t) (t' : Int) : BoxD (w.setCell ⟨g, 3, none⟩ (.int .i64 t')) g c p s t' := heap_setCell_same w g 3 _ _ _ h
theorem BoxD.other {w : World} {g : Nat} {c p : Value} {s t : Int} (h : BoxD w g c p s t) (g' i : Nat) (v : Value) (hne : g ≠ g') : BoxD (w.setCell ⟨g', i, none⟩ v) g c p s t := (heap_setCell_other w ⟨g', i, none⟩ g v hne).trans h
theorem BoxL.other {w : World} {g : Nat} {c p : Value} {s t : Int} (h : BoxL w g c p s t) (g' i : Nat) (v : Value) (hne : g ≠ g') : BoxL (w.setCell ⟨g', i, none⟩ v) g c p s t := (heap_setCell_other w ⟨g', i, none⟩ g v hne).trans h
theorem grown_storeD (w : World) (g k : Nat) (u : Value) : w.grownBy (w.setCell ⟨g, k, none⟩ u) (some g) :=
  ⟨rfl, rfl, rfl, by simp [World.setCell], fun i _ hne => heap_setCell_other w ⟨g, k, none⟩ i u (by simp at hne ⊢; exact hne)⟩
theorem OwnInts.otherD {w : World} {S : Nat} {v : Value} {zs : List Int} (h : OwnInts w S v zs) (g' i : Nat) (u : Value) (hg : g' < S) : OwnInts (w.setCell ⟨g', i, none⟩ u) S v zs :=
  h.kept (row := some g') (grown_storeD w g' i u) (by cases hv : v.ownBlock with
    | none => exact .inl rfl
    | some k => refine .inr fun e => ?_; injection e with e; have := (h.lt k hv).1; omega)
/-- a copied display -/
def DspMade (C P : List Int) (s t : Int) (w : World) (e : Ending) (w' : World) : Prop :=
  ∃ g1 n g2 m, e = .returned (dspV (.slice (some ⟨g1, 0, none⟩) n n) (.slice (some ⟨g2, 0, none⟩) m m) s t) ∧ OwnInts w' w.heap.size (.slice (some ⟨g1, 0, none⟩) n n) C ∧ OwnInts w' w.heap.size (.slice (some ⟨g2, 0, none⟩) m m) P ∧ C.length = n ∧ P.length = m ∧ g1 ≠ g2 ∧ Below w.heap.size w w'
set_option maxHeartbeats 2000000 in
theorem toDisplay_any (w : World) (c p : Value) (s t : Int) (C P : List Int) (hC : IntsAt w c C) (hP : IntsAt w p P) (h1 : C.length ≤ 1048576) (h2 : P.length ≤ 1048576) :
    Calls Try.prog 38 #[dspV c p s t] w fun e w' => DspMade C P s t w e w' := by
  obtain ⟨ac, n, cc, rfl, hn, xc1, xc2, _⟩ := hC.partsI
  obtain ⟨ap, m, cp, rfl, hm, xp1, xp2, _⟩ := hP.partsI
  have HN := Lib.hid hn
  have HM := Lib.hid hm
  rw [hn] at h1
  rw [hm] at h2
  obtain ⟨hB, hbx⟩ := lboxD w (.slice ac n cc) (.slice ap m cp) s t
  obtain ⟨hD1, hbx1⟩ := dbox (w.alloc (dspL (.slice ac n cc) (.slice ap m cp) s t)) (.slice none 0 0) (.slice none 0 0) 0 0
  obtain ⟨hD2, hbx2⟩ := dbox ((w.alloc (dspL (.slice ac n cc) (.slice ap m cp) s t)).alloc (dspO (.slice none 0 0) (.slice none 0 0) 0 0)) (.slice none 0 0) (.slice none 0 0) 0 0
  have hL := (hB.alloc (dspO (.slice none 0 0) (.slice none 0 0) 0 0)).alloc (dspO (.slice none 0 0) (.slice none 0 0) 0 0)
  have hD1 := hD1.alloc (dspO (.slice none 0 0) (.slice none 0 0) 0 0)
  have hbb := below_next hbx (below_next hbx1 hbx2)
  simp only [World.size_alloc] at hD1 hD2
  have HC := keptI (hC.below hbb)
  have HP0 := keptI hP
  have HB := keptI hbb
  clear hC hP hbx hbx1 hbx2 hbb hB hn hm
  go_enter Try.func38, Try.ntmps38
  go_wp2_with fail
  generalize ((w.alloc (.cells #[.slice ac n cc, .slice ap m cp, .int .i64 s, .int .i64 t] 38)).alloc (.cells #[.slice none 0 0, .slice none 0 0, .int .i64 0, .int .i64 0] 25)).alloc (.cells #[.slice none 0 0, .slice none 0 0, .int .i64 0, .int .i64 0] 25) = wA at hL hD1 hD2 HC HB ⊢
  have hsz3 := hD2.lt
  refine (toIntS_d wA ac n cc C HC.out HN h1).mono ?_
  rintro e w1 ⟨ga, rfl, hOa, hb1⟩
  have hga := hOa.lt ga rfl
  have HBW := keptI HB.out.size
  replace hL := hL.below hb1 hL.lt
  replace hD1 := hD1.below hb1 hD1.lt
  replace hD2 := hD2.below hb1 hD2.lt
  have HB := keptI (HB.out.trans (hb1.mono HB.out.size))
  clear HC hb1
  obtain ⟨l0, l1, l2, l3⟩ := hL.cells
  obtain ⟨d0, d1, d2, d3⟩ := hD2.cells
  have f0 := hD2.free 0
  go_wp2_with fail
  replace hL := hL.other (w.heap.size + 1 + 1) 0 (.slice (some ⟨ga, 0, none⟩) n n) (by omega)
  replace hD1 := hD1.other (w.heap.size + 1 + 1) 0 (.slice (some ⟨ga, 0, none⟩) n n) (by omega)
  replace hD2 := hD2.set0 (.slice (some ⟨ga, 0, none⟩) n n)
  replace hOa := hOa.otherD (w.heap.size + 1 + 1) 0 (.slice (some ⟨ga, 0, none⟩) n n) hsz3
  have HB := keptI (HB.out.setCell (p := ⟨w.heap.size + 1 + 1, 0, none⟩) (by show w.heap.size ≤ w.heap.size + 1 + 1; omega) (.slice (some ⟨ga, 0, none⟩) n n))
  clear l0 l1 l2 l3 d0 d1 d2 d3 f0
  have hszW : w1.heap.size ≤ (w1.setCell ⟨w.heap.size + 1 + 1, 0, none⟩ (.slice (some ⟨ga, 0, none⟩) n n)).heap.size := by simp [World.setCell]
  generalize w1.setCell ⟨w.heap.size + 1 + 1, 0, none⟩ (.slice (some ⟨ga, 0, none⟩) n n) = w2 at hL hD1 hD2 hOa HB hszW ⊢
  refine (toIntS_d w2 ap m cp P (HP0.out.below HB.out) HM h2).mono ?_
  rintro e w3 ⟨gb, rfl, hOb, hb1⟩
  have hgb := hOb.lt gb rfl
  have HBV := keptI HB.out.size
  have hga2 := (hOa.lt ga rfl).2
  replace hL := hL.below hb1 hL.lt
  replace hD1 := hD1.below hb1 hD1.lt
  replace hD2 := hD2.below hb1 hD2.lt
  replace hOa := hOa.below hb1
  have HB := keptI (HB.out.trans (hb1.mono HB.out.size))
  clear hb1
  obtain ⟨l0, l1, l2, l3⟩ := hL.cells
  obtain ⟨d0, d1, d2, d3⟩ := hD2.cells
  obtain ⟨e0, e1, e2, e3⟩ := hD1.cells
  have f1 := hD2.free 1
  have f2 := hD2.free 2
  have f3 := hD2.free 3
  have k0 := hD1.free 0
  have k1 := hD1.free 1
  have k2 := hD1.free 2
  have k3 := hD1.free 3
  have hk := ((((((hD1.other (w.heap.size + 1 + 1) 1 (.slice (some ⟨gb, 0, none⟩) m m) (by omega)).other (w.heap.size + 1 + 1) 2 (.int .i64 s) (by omega)).other (w.heap.size + 1 + 1) 3 (.int .i64 t) (by omega)).set0 (.slice (some ⟨ga, 0, none⟩) n n)).set1 (.slice (some ⟨gb, 0, none⟩) m m)).set2 s).set3 t
  have hA9 := ((((((hOa.otherD (w.heap.size + 1 + 1) 1 (.slice (some ⟨gb, 0, none⟩) m m) hsz3).otherD (w.heap.size + 1 + 1) 2 (.int .i64 s) hsz3).otherD (w.heap.size + 1 + 1) 3 (.int .i64 t) hsz3).otherD (w.heap.size + 1) 0 (.slice (some ⟨ga, 0, none⟩) n n) (by omega)).otherD (w.heap.size + 1) 1 (.slice (some ⟨gb, 0, none⟩) m m) (by omega)).otherD (w.heap.size + 1) 2 (.int .i64 s) (by omega)).otherD (w.heap.size + 1) 3 (.int .i64 t) (by omega)
  have hB9 := ((((((hOb.otherD (w.heap.size + 1 + 1) 1 (.slice (some ⟨gb, 0, none⟩) m m) (by omega)).otherD (w.heap.size + 1 + 1) 2 (.int .i64 s) (by omega)).otherD (w.heap.size + 1 + 1) 3 (.int .i64 t) (by omega)).otherD (w.heap.size + 1) 0 (.slice (some ⟨ga, 0, none⟩) n n) (by omega)).otherD (w.heap.size + 1) 1 (.slice (some ⟨gb, 0, none⟩) m m) (by omega)).otherD (w.heap.size + 1) 2 (.int .i64 s) (by omega)).otherD (w.heap.size + 1) 3 (.int .i64 t) (by omega)
  have q1 : w.heap.size ≤ w.heap.size + 1 := by omega
  have q2 : w.heap.size ≤ w.heap.size + 1 + 1 := by omega
  have h9 := ((((((HB.out.setCell (p := ⟨w.heap.size + 1 + 1, 1, none⟩) q2 (.slice (some ⟨gb, 0, none⟩) m m)).setCell (p := ⟨w.heap.size + 1 + 1, 2, none⟩) q2 (.int .i64 s)).setCell (p := ⟨w.heap.size + 1 + 1, 3, none⟩) q2 (.int .i64 t)).setCell (p := ⟨w.heap.size + 1, 0, none⟩) q1 (.slice (some ⟨ga, 0, none⟩) n n)).setCell (p := ⟨w.heap.size + 1, 1, none⟩) q1 (.slice (some ⟨gb, 0, none⟩) m m)).setCell (p := ⟨w.heap.size + 1, 2, none⟩) q1 (.int .i64 s)).setCell (p := ⟨w.heap.size + 1, 3, none⟩) q1 (.int .i64 t)
  have FIN := keptI (And.intro hk (And.intro hA9 (And.intro hB9 h9)))
  have hne : ga ≠ gb := by omega
  clear hk hA9 hB9 h9 hL hD1 hD2 hOa hOb
  go_wp2
  refine bodyPost_ret (results_cell_row rfl _ _ (w.heap.size + 1) _ _ _ _ rfl FIN.out.1 Try.underlying25 rfl (by kernel_rfl)) rfl ?_
  exact ⟨ga, n, gb, m, rfl, World.ownsRow.mono FIN.out.2.1 HBW.out, World.ownsRow.mono FIN.out.2.2.1 HBV.out, HN.out, HM.out, hne, FIN.out.2.2.2⟩
end Go.Proofs.Ytfgnckafpnobhaa
