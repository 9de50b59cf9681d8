
/- The draw of one rule: its walk. -/
import Derived.Test.YtohgglhjcklbaaaDt
namespace Go.Proofs.Ytohgglhjcklbaaa
open Go.RowKit

theorem keptH {p : Prop} (h : p) : Hid p := h
set_option maxRecDepth 20000 in
set_option maxHeartbeats 16000000 in
theorem poolRule_any (w : World) (B R L p : Nat) (h : RD w B R L p) (hp : p ≤ 100000000000) :
    Calls Try.prog 99 #[.pointer (some ⟨R, 0, none⟩)] w fun e w' => RuleDrawn w B R L p e w' := by
  have hR := h.lt
  have HP := pool_pick w B R L p h hp
  simp only [poolO, List.foldl_cons, List.foldl_nil] at HP
  have HPK := keptH HP
  clear HP h
  go_enter Try.func99, Try.ntmps99
  go_wp2_with fail
  refine HPK.out.mono ?_
  clear HPK
  rintro e w2 ⟨k, t, c, q, gk, l, rfl, hk22, HL, hl2, HF, HC, HCI, HA0, hrd2, hgw2, hsz2⟩
  have b1 : (0 : Int) ≤ (k : Int) := by omega
  have b2 : (k : Int) < 22 := by omega
  have HK : Hid (∀ wx, Below w2.heap.size w2 wx → wx.cell? ⟨w.heap.size + 1, k, none⟩ = some (.string t) ∧ wx.cell? ⟨w.heap.size + 1 + 1 + 1 + 1 + 1 + 1 + 1 + 1 + 1 + 1 + 1 + 1 + 1 + 1 + 1 + 1 + 1 + 1 + 1 + 1 + 1 + 1 + 1 + 1, k, none⟩ = some (.slice (some ⟨gk, 0, none⟩) l l) ∧ wx.cell? ⟨w.heap.size + 1 + 1 + 1 + 1 + 1 + 1 + 1 + 1 + 1 + 1 + 1 + 1 + 1 + 1 + 1 + 1 + 1 + 1 + 1 + 1 + 1 + 1 + 1 + 1 + 1, k, none⟩ = some (.int .i64 q)) := fun wx h => ⟨(h.cell (World.block_lt_of_cell? w2 _ HC.out.1)).trans HC.out.1, (h.cell (World.block_lt_of_cell? w2 _ HC.out.2.1)).trans HC.out.2.1, (h.cell (World.block_lt_of_cell? w2 _ HC.out.2.2)).trans HC.out.2.2⟩
  have HSZ : Hid (w2.drew.cell? ⟨w.heap.size + 1, k, none⟩ = some (.string t) ∧ w2.drew.cell? ⟨w.heap.size + 1 + 1 + 1 + 1 + 1 + 1 + 1 + 1 + 1 + 1 + 1 + 1 + 1 + 1 + 1 + 1 + 1 + 1 + 1 + 1 + 1 + 1 + 1 + 1, k, none⟩ = some (.slice (some ⟨gk, 0, none⟩) l l) ∧ w2.drew.cell? ⟨w.heap.size + 1 + 1 + 1 + 1 + 1 + 1 + 1 + 1 + 1 + 1 + 1 + 1 + 1 + 1 + 1 + 1 + 1 + 1 + 1 + 1 + 1 + 1 + 1 + 1 + 1, k, none⟩ = some (.int .i64 q)) := HK.out w2.drew (Below.refl _ _).drew
  go_wp2_with fail
  go_region_held3 (fun wx => wx.cell? ⟨w.heap.size + 1, k, none⟩ = some (.string t) ∧ wx.cell? ⟨w.heap.size + 1 + 1 + 1 + 1 + 1 + 1 + 1 + 1 + 1 + 1 + 1 + 1 + 1 + 1 + 1 + 1 + 1 + 1 + 1 + 1 + 1 + 1 + 1 + 1, k, none⟩ = some (.slice (some ⟨gk, 0, none⟩) l l) ∧ wx.cell? ⟨w.heap.size + 1 + 1 + 1 + 1 + 1 + 1 + 1 + 1 + 1 + 1 + 1 + 1 + 1 + 1 + 1 + 1 + 1 + 1 + 1 + 1 + 1 + 1 + 1 + 1 + 1, k, none⟩ = some (.int .i64 q)) (first | assumption | with_reducible exact HSZ.out | with_reducible exact HSY.out | with_reducible exact HSX.out) (first | (go_at_call 106; refine (s_copyInts w2.drew gk 0 l l c (show IntsAt w2 _ c from HCI.out) HL (by omega)).mono ?_; rintro e w3 ⟨⟨v3, rfl, hO3, g3, c3, rfl⟩, hb3⟩; have r0 : w3.heap[w.heap.size]? = some (.cells #[.string ⟨#[]⟩, .slice none 0 0, .int .i64 0] 46 (0, 0)) := (hb3.block _ (show w.heap.size < w2.heap.size by omega)).trans HA0.out; have r1 : w3.cell? ⟨w.heap.size, 0, none⟩ = some (.string ⟨#[]⟩) := (cell_of_row w3 _ 0 _ _ _ r0).trans rfl; have r2 : w3.cell? ⟨w.heap.size, 1, none⟩ = some (.slice none 0 0) := (cell_of_row w3 _ 1 _ _ _ r0).trans rfl; have r3 : w3.cell? ⟨w.heap.size, 2, none⟩ = some (.int .i64 0) := (cell_of_row w3 _ 2 _ _ _ r0).trans rfl; have r4 : w3.frozen? ⟨w.heap.size, 0, none⟩ = false := frozen_of_row w3 _ 0 _ _ r0; have r5 : w3.frozen? ⟨w.heap.size, 1, none⟩ = false := frozen_of_row w3 _ 1 _ _ r0; have r6 : w3.frozen? ⟨w.heap.size, 2, none⟩ = false := frozen_of_row w3 _ 2 _ _ r0; have HR0 := Lib.hid r0; have HSY : Hid (w3.cell? ⟨w.heap.size + 1, k, none⟩ = some (.string t) ∧ w3.cell? ⟨w.heap.size + 1 + 1 + 1 + 1 + 1 + 1 + 1 + 1 + 1 + 1 + 1 + 1 + 1 + 1 + 1 + 1 + 1 + 1 + 1 + 1 + 1 + 1 + 1 + 1, k, none⟩ = some (.slice (some ⟨gk, 0, none⟩) l l) ∧ w3.cell? ⟨w.heap.size + 1 + 1 + 1 + 1 + 1 + 1 + 1 + 1 + 1 + 1 + 1 + 1 + 1 + 1 + 1 + 1 + 1 + 1 + 1 + 1 + 1 + 1 + 1 + 1 + 1, k, none⟩ = some (.int .i64 q)) := HK.out w3 ((Below.refl _ _).drew.trans hb3); have HSX : Hid ((((w3.setCell ⟨w.heap.size, 0, none⟩ (.string t)).setCell ⟨w.heap.size, 1, none⟩ (.slice (some ⟨g3, 0, none⟩) l c3)).setCell ⟨w.heap.size, 2, none⟩ (.int .i64 q)).cell? ⟨w.heap.size + 1, k, none⟩ = some (.string t) ∧ (((w3.setCell ⟨w.heap.size, 0, none⟩ (.string t)).setCell ⟨w.heap.size, 1, none⟩ (.slice (some ⟨g3, 0, none⟩) l c3)).setCell ⟨w.heap.size, 2, none⟩ (.int .i64 q)).cell? ⟨w.heap.size + 1 + 1 + 1 + 1 + 1 + 1 + 1 + 1 + 1 + 1 + 1 + 1 + 1 + 1 + 1 + 1 + 1 + 1 + 1 + 1 + 1 + 1 + 1 + 1, k, none⟩ = some (.slice (some ⟨gk, 0, none⟩) l l) ∧ (((w3.setCell ⟨w.heap.size, 0, none⟩ (.string t)).setCell ⟨w.heap.size, 1, none⟩ (.slice (some ⟨g3, 0, none⟩) l c3)).setCell ⟨w.heap.size, 2, none⟩ (.int .i64 q)).cell? ⟨w.heap.size + 1 + 1 + 1 + 1 + 1 + 1 + 1 + 1 + 1 + 1 + 1 + 1 + 1 + 1 + 1 + 1 + 1 + 1 + 1 + 1 + 1 + 1 + 1 + 1 + 1, k, none⟩ = some (.int .i64 q)) := (by obtain ⟨s0, s1, s2⟩ := HSY.out; refine ⟨?_, ?_, ?_⟩ <;> (rw [World.cell?_setCell_far _ _ _ _ (by simp <;> omega), World.cell?_setCell_far _ _ _ _ (by simp <;> omega), World.cell?_setCell_far _ _ _ _ (by simp <;> omega)]; assumption)); clear r0))
  have hb3' : Below w2.heap.size w2 w3 := (Below.refl _ _).drew.trans hb3
  have HO3 := keptH hO3
  have HB3 := keptH hb3'
  clear hO3 hb3 hb3' HK HC HCI HSX HSY HSZ HA0
  go_wp2
  have k1 := heap_setCell_same w3 w.heap.size 0 _ _ (.string t) HR0.out
  have k2 := heap_setCell_same _ w.heap.size 1 _ _ (.slice (some ⟨g3, 0, none⟩) l c3) k1
  have k3 := heap_setCell_same _ w.heap.size 2 _ _ (.int .i64 q) k2
  refine bodyPost_ret (results_cell_row rfl _ _ w.heap.size _ #[.string t, .slice (some ⟨g3, 0, none⟩) l c3, .int .i64 q] _ _ rfl k3 Try.underlying46 rfl (by kernel_rfl)) rfl ?_
  have hO3 := HO3.out
  have hb3 := HB3.out
  have hS : (w2.drew).heap.size = w2.heap.size := rfl
  rw [hS] at hO3
  have o1 : OwnInts _ w2.heap.size _ c := ownsRow_setCell_below (a := ⟨w.heap.size, 0, none⟩) hO3 (by simp; omega) (.string t)
  have o2 : OwnInts _ w2.heap.size _ c := ownsRow_setCell_below (a := ⟨w.heap.size, 1, none⟩) o1 (by simp; omega) (.slice (some ⟨g3, 0, none⟩) l c3)
  have o3 : OwnInts _ w2.heap.size _ c := ownsRow_setCell_below (a := ⟨w.heap.size, 2, none⟩) o2 (by simp; omega) (.int .i64 q)
  have d3 := hrd2.below hb3 (by omega)
  have d4 := ((d3.over (S := w.heap.size) (grown_store w3 w.heap.size 0 (.string t)) (by intro x hx; injection hx with hx; omega) hR).over (S := w.heap.size) (grown_store _ w.heap.size 1 (.slice (some ⟨g3, 0, none⟩) l c3)) (by intro x hx; injection hx with hx; omega) hR).over (S := w.heap.size) (grown_store _ w.heap.size 2 (.int .i64 q)) (by intro x hx; injection hx with hx; omega) hR
  have e3 := grown_trans hgw2 (grown_none ⟨hb3.os, hb3.tape, hb3.output, hb3.size, fun k hk _ => hb3.block k hk⟩ (some R))
  have e4 := grown_own (grown_own (grown_own e3 (grown_store w3 w.heap.size 0 (.string t)) (by intro x hx; injection hx with hx; omega)) (grown_store _ w.heap.size 1 (.slice (some ⟨g3, 0, none⟩) l c3)) (by intro x hx; injection hx with hx; omega)) (grown_store _ w.heap.size 2 (.int .i64 q)) (by intro x hx; injection hx with hx; omega)
  have hl := HL.out
  subst hl
  exact ⟨⟨t, c, q⟩, g3, c3, rfl, World.ownsRow.mono o3 (by omega), HF.out, d4, e4⟩
end Go.Proofs.Ytohgglhjcklbaaa
