
/- Faults of proofs in memory: what it means that a slice reads as a list of faults; a copy; whether two are the same; rows that a call has made. -/
import Derived.Test.YtekchmbbafjmmaaPdb
import Derived.Test.YtekchmbbafjmmaaExS
import Derived.Test.YtekchmbbafjmmaaRd
import Derived.Test.YtekchmbbafjmmaaDrL
import Derived.Deep.Slices
import Derived.Deep.Fields
import Derived.ChangeSame
import Derived.Deep.RegionHeld3
import Derived.Deep.QuietTactic
import Derived.BigQuiet
import Derived.Deep.Onto
import Derived.Handy
namespace Go.Proofs.Ytekchmbbafjmmaa
open Go.RowKit Go.ChangeShapes Go.WideShapes

/-- block g has room for n faults, and may be written -/
def Room (w : World) (g n : Nat) : Prop := (∀ o, o < n * 3 → ∃ u, w.cell? ⟨g, o, none⟩ = some u) ∧ (∀ o, w.frozen? ⟨g, o, none⟩ = false) ∧ g < w.heap.size
theorem Room.below {w w' : World} {g n : Nat} (h : Room w g n) (hb : Below w.heap.size w w') : Room w' g n := by
  refine ⟨fun o ho => ?_, fun o => (hb.frozen h.2.2).trans (h.2.1 o), Nat.lt_of_lt_of_le h.2.2 hb.size⟩
  obtain ⟨u, hu⟩ := h.1 o ho
  exact ⟨u, (hb.cell (p := ⟨g, o, none⟩) h.2.2).trans hu⟩
theorem Room.set {w : World} {g n : Nat} (h : Room w g n) (o' : Nat) (v : Value) : Room (w.setCell ⟨g, o', none⟩ v) g n := by
  refine ⟨fun o ho => ?_, fun o => by rw [World.frozen?_setCell]; exact h.2.1 o, by simp [World.setCell]; exact h.2.2⟩
  obtain ⟨u, hu⟩ := h.1 o ho
  by_cases e : o' = o
  · subst e; exact ⟨v, World.cell?_setCell_same w _ v hu⟩
  · exact ⟨u, by rw [World.cell?_setCell_other _ _ _ _ (fun h => by injection h; omega)]; exact hu⟩
theorem Room.grown {w w' : World} {g n : Nat} (h : Room w g n) {k : Nat} (hg : w.grownBy w' (some k)) (hk : k ≠ g) : Room w' g n := by
  have hblk := hg.block g h.2.2 (by simp; omega)
  refine ⟨fun o ho => ?_, fun o => (World.frozen?_of_block (a := ⟨g, o, none⟩) hblk).trans (h.2.1 o), Nat.lt_of_lt_of_le h.2.2 hg.size⟩
  obtain ⟨u, hu⟩ := h.1 o ho
  exact ⟨u, (World.cell?_of_block (a := ⟨g, o, none⟩) hblk).trans hu⟩
theorem cells_of {w : World} {b off : Nat} {n : Nat} {base : Nat} {cs : List Value} {i : Nat} (h : w.cells? base ((⟨b, off, none⟩ : Addr).add i) n = some cs) : cs.length = n ∧ ∀ j, j < n → w.cell? ⟨b, off + i + j, none⟩ = cs[j]? := by
  obtain ⟨_, h1, h2⟩ := World.cells?_some h
  refine ⟨h1, fun j hj => ?_⟩
  have := h2 j hj
  rw [add_plain, add_plain] at this
  exact this
def noF : PF := ⟨0, 0, 0⟩
instance : Inhabited PF := ⟨noF⟩
def FaultAt (w : World) (g o : Nat) (p : PF) : Prop :=
  w.cell? ⟨g, o, none⟩ = some (.int .i64 p.k) ∧ w.cell? ⟨g, o + 1, none⟩ = some (.int .i64 p.i) ∧ w.cell? ⟨g, o + 2, none⟩ = some (.int .i64 p.c)
/-- the slice value v reads as the pieces P -/
def FaultsAt (w : World) (v : Value) (P : List PF) : Prop :=
  ∃ a cap, v = .slice a P.length cap ∧ P.length ≤ cap ∧ cap ≤ 9223372036854775807 ∧
    (P = [] ∨ ∃ g off, a = some ⟨g, off, none⟩ ∧ ∀ i, i < P.length → FaultAt w g (off + i * 3) (P.getD i noF))
theorem FaultAt.below {w w' : World} {g o : Nat} {p : PF} (h : FaultAt w g o p) (hb : Below w.heap.size w w') : FaultAt w' g o p := by
  obtain ⟨h1, h2, h3⟩ := h
  exact ⟨(hb.cell (World.block_lt_of_cell? w _ h1)).trans h1, (hb.cell (World.block_lt_of_cell? w _ h2)).trans h2, (hb.cell (World.block_lt_of_cell? w _ h3)).trans h3⟩
theorem FaultsAt.below {w w' : World} {v : Value} {P : List PF} (h : FaultsAt w v P) (hb : Below w.heap.size w w') : FaultsAt w' v P := by
  obtain ⟨a, cap, h1, h2, h3, h4⟩ := h
  refine ⟨a, cap, h1, h2, h3, ?_⟩
  rcases h4 with h4 | ⟨g, off, h4, h5⟩
  · exact .inl h4
  · exact .inr ⟨g, off, h4, fun i hi => (h5 i hi).below hb⟩
def FaultFits (p : PF) : Prop := (-9223372036854775808 ≤ p.k ∧ p.k ≤ 9223372036854775807) ∧ (-9223372036854775808 ≤ p.i ∧ p.i ≤ 9223372036854775807) ∧ -9223372036854775808 ≤ p.c ∧ p.c ≤ 9223372036854775807
def FaultsFit (P : List PF) : Prop := ∀ p ∈ P, FaultFits p
theorem FaultsFit.at {P : List PF} (h : FaultsFit P) (k : Nat) : FaultFits (P.getD k noF) := by
  rw [List.getD_eq_getElem?_getD]
  by_cases hk : k < P.length
  · rw [List.getElem?_eq_getElem hk, Option.getD_some]; exact h _ (List.getElem_mem _)
  · rw [List.getElem?_eq_none (by omega), Option.getD_none]
    simp [FaultFits, noF]
section SXPea
variable {H : Type} {enc : TypeId × Value → H} {W : World} {base : Nat} {spare : Nat → Bool} {held : Bool}
set_option maxRecDepth 100000 in
theorem open_fault_at {fuel b o : Nat} {cs : List Value} {x : DataW H × List MemPlace} (hc : cs.length = 3) (hcell : ∀ j, j < 3 → W.cell? ⟨b, o + j, none⟩ = cs[j]?)
    (h : DataW.trod enc Try.prog W base spare held fuel 69 cs = some x) : ∃ p, FaultAt W b o p ∧ FaultFits p := by
  obtain ⟨xs, n, _, _, _, hxl, hf⟩ := DataW.trod_struct Try.underlying69 h
  match xs, hxl, cs, hc with
  | [y0, y1, y2], _, [v0, v1, v2], _ =>
    have k2 : Try.prog.cellsOf 3 = 1 := by kernel_rfl
    have g0 : DataW.trod enc Try.prog W base spare held n 3 (([v0, v1, v2].drop 0).take (Try.prog.cellsOf 3)) = [y0, y1, y2][0]? := hf 0 _ rfl
    have g1 : DataW.trod enc Try.prog W base spare held n 3 (([v0, v1, v2].drop 1).take (Try.prog.cellsOf 3)) = [y0, y1, y2][1]? := hf 1 _ rfl
    have g2 : DataW.trod enc Try.prog W base spare held n 3 (([v0, v1, v2].drop 2).take (Try.prog.cellsOf 3)) = [y0, y1, y2][2]? := hf 2 _ rfl
    rw [k2] at g0 g1 g2
    simp only [List.drop_zero, List.drop_succ_cons, List.take_succ_cons, List.take_zero, List.getElem?_cons_zero, List.getElem?_cons_succ] at g0 g1 g2
    obtain ⟨p0, hp0, _, hw0⟩ := DataW.trod_int Try.underlying3 g0
    obtain ⟨p1, hp1, _, hw1⟩ := DataW.trod_int Try.underlying3 g1
    obtain ⟨p2, hp2, _, hw2⟩ := DataW.trod_int Try.underlying3 g2
    simp at hp0 hp1 hp2
    subst hp0 hp1 hp2
    have c0 := hcell 0 (by omega)
    have c1 := hcell 1 (by omega)
    have c2 := hcell 2 (by omega)
    have b0 := bounds_i64 hw0
    have b1 := bounds_i64 hw1
    have b2 := bounds_i64 hw2
    refine ⟨⟨p0, p1, p2⟩, ⟨by simpa using c0, by simpa using c1, by simpa using c2⟩, ⟨?_, ?_⟩, ⟨?_, ?_⟩, ?_, ?_⟩ <;> simp only <;> omega
set_option maxRecDepth 100000 in
theorem open_faults {fuel : Nat} {a : Option Addr} {len cap : Nat} {x : DataW H × List MemPlace} (h : DataW.trod enc Try.prog W base spare held fuel 49 [.slice a len cap] = some x) :
    ∃ P, FaultsAt W (.slice a len cap) P ∧ P.length = len ∧ FaultsFit P := by
  have hC : Try.prog.cellsOf 69 = 3 := by kernel_rfl
  rcases Go.Deep.open_slice Try.underlying49 h with ⟨hcs, _⟩ | ⟨a', len', cap', m, n, D, Pl, hcs, hb, hl, hm, hmm, _, hi⟩
  · simp at hcs
    obtain ⟨rfl, rfl, rfl⟩ := hcs
    exact ⟨[], ⟨none, 0, rfl, Nat.le_refl _, by omega, .inl rfl⟩, rfl, fun z hz => absurd hz (by simp)⟩
  · simp at hcs
    obtain ⟨rfl, rfl, rfl⟩ := hcs
    have hlm : len ≤ m := by rw [hmm]; split <;> omega
    have hcm : cap ≤ 9223372036854775807 := by unfold maxLen at hm; exact hm
    rw [hC] at hi
    by_cases h0 : len = 0
    · subst h0
      exact ⟨[], ⟨some a', cap, rfl, by simp, hcm, .inl rfl⟩, rfl, fun z hz => absurd hz (by simp)⟩
    · obtain ⟨cs0, hc0, _⟩ := hi 0 (by omega)
      rw [Nat.zero_mul] at hc0
      have hsp : ∃ b off, a' = ⟨b, off, none⟩ := by
        obtain ⟨_, h1, h2⟩ := World.cells?_some hc0
        have h3 := h2 0 (by omega)
        obtain ⟨u, hu⟩ : ∃ u, cs0[0]? = some u := ⟨cs0[0]'(by omega), List.getElem?_eq_getElem (by omega)⟩
        rw [hu] at h3
        obtain ⟨b, off, spot⟩ := a'
        have hspot : spot = none := by simpa [Addr.add] using World.cell?_spot h3
        exact ⟨b, off, by rw [hspot]⟩
      obtain ⟨b, off, rfl⟩ := hsp
      have each : ∀ i, i < len → ∃ r, FaultAt W b (off + i * 3) r ∧ FaultFits r := by
        intro i hil
        obtain ⟨cs, hc, ht⟩ := hi i (by omega)
        obtain ⟨hc1, hc2⟩ := cells_of hc
        exact open_fault_at hc1 hc2 ht
      obtain ⟨R, hR⟩ := Go.Deep.choose_lt each
      have hlen : ((List.range len).map R).length = len := by simp
      refine ⟨(List.range len).map R, ⟨_, cap, by rw [hlen], by omega, hcm, .inr ⟨b, off, rfl, fun i hi => ?_⟩⟩, hlen, fun r hr => ?_⟩
      · have hi' : i < len := by omega
        have : ((List.range len).map R).getD i noF = R i := by simp [List.getD_eq_getElem?_getD, hi']
        rw [this]; exact (hR i hi').1
      · obtain ⟨i, hi, rfl⟩ := List.mem_map.1 hr
        exact (hR i (List.mem_range.1 hi)).2
end SXPea

theorem infoFault : (Try.prog.info? 42).map (fun i => (i.zero, i.size, i.bytes)) = some (some (.agg #[.int .i64 0, .int .i64 0, .int .i64 0]), 3, 24) := by kernel_rfl
theorem FaultAt.set {w : World} {g o : Nat} {p : PF} (h : FaultAt w g o p) {o' : Nat} (ho : o' < o ∨ o + 2 < o') (v : Value) : FaultAt (w.setCell ⟨g, o', none⟩ v) g o p := by
  obtain ⟨h1, h2, h3⟩ := h
  refine ⟨?_, ?_, ?_⟩
  · rw [World.cell?_setCell_other _ _ _ _ (fun e => by injection e; omega)]; exact h1
  · rw [World.cell?_setCell_other _ _ _ _ (fun e => by injection e; omega)]; exact h2
  · rw [World.cell?_setCell_other _ _ _ _ (fun e => by injection e; omega)]; exact h3
theorem fault_put {w : World} {g n o : Nat} {r f t : Int} (h : Room w g n) (ho : o + 2 < n * 3) :
    FaultAt (((w.setCell ⟨g, o, none⟩ (.int .i64 r)).setCell ⟨g, o + 1, none⟩ (.int .i64 f)).setCell ⟨g, o + 2, none⟩ (.int .i64 t)) g o ⟨r, f, t⟩ := by
  have r1 := h.set o (.int .i64 r)
  have r2 := r1.set (o + 1) (.int .i64 f)
  obtain ⟨u0, h0⟩ := h.1 o (by omega)
  obtain ⟨u1, h1⟩ := r1.1 (o + 1) (by omega)
  obtain ⟨u2, h2⟩ := r2.1 (o + 2) (by omega)
  refine ⟨?_, ?_, World.cell?_setCell_same _ _ _ h2⟩
  · rw [World.cell?_setCell_other _ _ _ _ (by simp), World.cell?_setCell_other _ _ _ _ (by simp)]
    exact World.cell?_setCell_same _ _ _ h0
  · rw [World.cell?_setCell_other _ _ _ _ (by simp)]
    exact World.cell?_setCell_same _ _ _ h1
/-- the first k pieces of P lie in block g -/
def FaTo (w : World) (g : Nat) (P : List PF) (k : Nat) : Prop := ∀ j, j < k → FaultAt w g (j * 3) (P.getD j noF)
theorem FaTo.zero (w : World) (g : Nat) (P : List PF) : FaTo w g P 0 := fun i h => absurd h (by omega)
theorem FaTo.below {w w' : World} {g k : Nat} {P : List PF} (h : FaTo w g P k) (hb : Below w.heap.size w w') : FaTo w' g P k := fun j hj => (h j hj).below hb
theorem FaTo.put {w : World} {g n k : Nat} {P : List PF} {r f t : Int} (h : FaTo w g P k) (hr : Room w g n) (hk : k < n) (hT : P.getD k noF = ⟨r, f, t⟩) :
    FaTo (((w.setCell ⟨g, k * 3, none⟩ (.int .i64 r)).setCell ⟨g, k * 3 + 1, none⟩ (.int .i64 f)).setCell ⟨g, k * 3 + 2, none⟩ (.int .i64 t)) g P (k + 1) := fun j hj => by
  by_cases hjk : j = k
  · subst hjk
    rw [hT]
    exact fault_put hr (by omega)
  · have h0 := h j (by omega)
    exact ((h0.set (by omega) _).set (by omega) _).set (by omega) _
theorem FaultsAt.of_new {w : World} {g n : Nat} {P : List PF} (h : FaTo w g P n) (hn : P.length = n) (hm : n ≤ 9223372036854775807) : FaultsAt w (.slice (some ⟨g, 0, none⟩) n n) P := by
  refine ⟨_, n, by rw [hn], by omega, hm, .inr ⟨g, 0, rfl, fun i hi => ?_⟩⟩
  rw [Nat.zero_add]
  exact h i (by omega)

set_option maxHeartbeats 1000000 in
theorem toFault_any (w : World) (r f t : Int) :
    Calls Try.prog 70 #[.agg #[.int .i64 r, .int .i64 f, .int .i64 t]] w fun e w' => e = .returned (.agg #[.int .i64 r, .int .i64 f, .int .i64 t]) ∧ Below w.heap.size w w' := by
  go_enter Try.func70, Try.ntmps70
  go_wp2
  have hk : (((w.alloc (.cells #[.int .i64 r, .int .i64 f, .int .i64 t] 69)).alloc (.cells #[.int .i64 r, .int .i64 f, .int .i64 t] 42)).alloc (.cells #[.int .i64 r, .int .i64 f, .int .i64 t] 42)).heap[w.heap.size + 1]? = some (.cells #[.int .i64 r, .int .i64 f, .int .i64 t] 42 (0, 0)) := by
    rw [Below.heap_alloc _ _ _ (by simp)]
    have := heap_alloc_new (w.alloc (.cells #[.int .i64 r, .int .i64 f, .int .i64 t] 69)) (.cells #[.int .i64 r, .int .i64 f, .int .i64 t] 42)
    simpa using this
  refine bodyPost_ret (results_cell_row rfl _ _ (w.heap.size + 1) _ #[.int .i64 r, .int .i64 f, .int .i64 t] _ _ rfl hk Try.underlying42 rfl (by kernel_rfl)) rfl ?_
  exact ⟨rfl, (((Below.refl _ _).alloc (Nat.le_refl _) _).alloc (by simp) _).alloc (by simp; omega) _⟩
/-- a copied list of pieces -/
def FaMade (P : List PF) (n : Nat) (w : World) (e : Ending) (w' : World) : Prop :=
  e = .returned (.slice (some ⟨w.heap.size, 0, none⟩) n n) ∧ FaTo w' w.heap.size P n ∧ Room w' w.heap.size n ∧ Below w.heap.size w w'
set_option maxHeartbeats 2000000 in
theorem toFaultS_any (w : World) (v : Value) (P : List PF) (n : Nat) (hx : FaultsAt w v P) (hbig : n ≤ 1048576) (hn : Hid (P.length = n)) :
    Calls Try.prog 43 #[v] w fun e w' => FaMade P n w e w' := by
  obtain ⟨i0, hi, hz0, hz1, hz2⟩ := info_parts infoFault
  obtain ⟨a, cp, rfl, x1, x2, x3⟩ := hx
  rw [hn.out] at x1 x3 ⊢
  go_enter Try.func43, Try.ntmps43
  go_wp2_with (at_make; refine wpList_make_full _ rfl _ _ 36 rfl w.heap.size 42 i0 (.agg #[.int .i64 0, .int .i64 0, .int .i64 0]) 3 Try.underlying36 hi hz0 hz1 .i64 .i64 n n n rfl rfl rfl rfl (by rw [hz2]; omega) (by unfold maxLen; omega) (Nat.le_refl _) ?_)
  intro w1 hown hgr
  have hB1 : Below w.heap.size w w1 := ⟨hgr.os, hgr.tape, hgr.output, hgr.size, fun k hk => hgr.block k hk (by simp)⟩
  have hR1 : Room w1 w.heap.size n := by
    refine ⟨fun o ho => ?_, fun o => hown.frozenAt o, (hown.lt _ rfl).2⟩
    rw [hown.cellAt o ho]
    exact ⟨_, List.getElem?_eq_getElem (by rw [hown.1]; exact ho)⟩
  have hsz1 := hR1.2.2
  clear hown hgr hi hz0 hz1 hz2
  go_wp2
  go_loopw [4] (fun i wr => ∃ k : Nat, k ≤ n ∧ i = .int .i64 k ∧ FaTo wr w.heap.size P k ∧ Room wr w.heap.size n ∧ Below w.heap.size w wr) (fun i _ => n - (intOf i).toNat)
  case atStart => exact ⟨0, Nat.zero_le _, rfl, FaTo.zero _ _ _, hR1, hB1⟩
  case round =>
    clear hR1 hB1 hsz1
    obtain ⟨k, hk, rfl, hnew, hroom, hb1⟩ := hrel
    have hsz := hb1.size
    by_cases hlt : k < n
    · rcases x3 with rfl | ⟨g, off, rfl, x3⟩
      · exact absurd hn.out (by simp; omega)
      obtain ⟨q, hq⟩ : ∃ q, P.getD k noF = q := ⟨_, rfl⟩
      have hra := x3 k hlt
      rw [hq] at hra
      have HQ := Lib.hid hq
      clear hq x3
      obtain ⟨r, f, t⟩ := q
      obtain ⟨c0, c1, c2⟩ := hra
      simp only at c0 c1 c2
      have c0 := (hb1.cell (World.block_lt_of_cell? w _ c0)).trans c0
      have c1 := (hb1.cell (World.block_lt_of_cell? w _ c1)).trans c1
      have c2 := (hb1.cell (World.block_lt_of_cell? w _ c2)).trans c2
      go_wp2_with fail
      refine (toFault_any wr r f t).mono ?_
      rintro e w2 ⟨rfl, hb2⟩
      have hnew2 := hnew.below hb2
      have hroom2 := hroom.below hb2
      have hB2 := hb1.trans (hb2.mono hsz)
      clear hnew hroom c0 c1 c2
      obtain ⟨u0, e0⟩ := hroom2.1 (k * 3) (by omega)
      obtain ⟨u1', e1⟩ := hroom2.1 (k * 3 + 1) (by omega)
      obtain ⟨u2', e2⟩ := hroom2.1 (k * 3 + 2) (by omega)
      have f0 := hroom2.2.1 (k * 3)
      have f1 := hroom2.2.1 (k * 3 + 1)
      have f2 := hroom2.2.1 (k * 3 + 2)
      have HN3 := Lib.hid (hnew2.put hroom2 hlt HQ.out)
      have HR3 := Lib.hid (((hroom2.set (k * 3) (.int .i64 r)).set (k * 3 + 1) (.int .i64 f)).set (k * 3 + 2) (.int .i64 t))
      have HB3 := Lib.hid (((hB2.setCell (p := ⟨w.heap.size, k * 3, none⟩) (Nat.le_refl _) (.int .i64 r)).setCell (p := ⟨w.heap.size, k * 3 + 1, none⟩) (Nat.le_refl _) (.int .i64 f)).setCell (p := ⟨w.heap.size, k * 3 + 2, none⟩) (Nat.le_refl _) (.int .i64 t))
      clear hnew2 hroom2 hB2
      go_wp2
      go_roundw
      case rel => exact ⟨k + 1, by omega, by go_num, HN3.out, HR3.out, HB3.out⟩
      case measure => simp [intOf]; omega
    · go_wp2
      go_ret
      obtain rfl : k = n := by omega
      exact ⟨rfl, hnew, hroom, hb1⟩

set_option maxHeartbeats 1000000 in
theorem eqFault_same (w : World) (r f t : Int) :
    Calls Try.prog 69 #[.agg #[.int .i64 r, .int .i64 f, .int .i64 t], .agg #[.int .i64 r, .int .i64 f, .int .i64 t]] w fun e w' => e = .returned (.bool true) ∧ Below w.heap.size w w' := by
  go_enter Try.func69, Try.ntmps69
  go_wp2
  go_ret
  exact ⟨rfl, ((Below.refl _ _).alloc (Nat.le_refl _) _).alloc (by simp) _⟩

set_option maxHeartbeats 2000000 in
theorem eqFaultS_same (w : World) (u v : Value) (P : List PF) (hx : FaultsAt w u P) (hy : FaultsAt w v P) :
    Calls Try.prog 38 #[u, v] w fun e w' => e = .returned (.bool true) ∧ Below w.heap.size w w' := by
  obtain ⟨a, cp, rfl, x1, x2, x3⟩ := hx
  obtain ⟨a', cp', rfl, y1, y2, y3⟩ := hy
  obtain ⟨n, hn⟩ : ∃ n, P.length = n := ⟨_, rfl⟩
  rw [hn] at x1 x3 y1 y3 ⊢
  have HN := Lib.hid hn
  clear hn
  go_enter Try.func38, Try.ntmps38
  go_wp2
  go_loopw [5] (fun i wr => ∃ k : Nat, k ≤ n ∧ i = .int .i64 k ∧ Below w.heap.size w wr) (fun i _ => n - (intOf i).toNat)
  case atStart => exact ⟨0, Nat.zero_le _, rfl, Below.refl _ _⟩
  case round =>
    obtain ⟨k, hk, rfl, hb1⟩ := hrel
    have hsz := hb1.size
    by_cases hlt : k < n
    · rcases x3 with rfl | ⟨g, off, rfl, x3⟩
      · exact absurd HN.out (by simp; omega)
      rcases y3 with rfl | ⟨g', off', rfl, y3⟩
      · exact absurd HN.out (by simp; omega)
      have hra := x3 k hlt
      have hrb := y3 k hlt
      clear x3 y3
      obtain ⟨q, hq⟩ : ∃ q, P.getD k noF = q := ⟨_, rfl⟩
      rw [hq] at hra hrb
      clear hq
      obtain ⟨r, f, t⟩ := q
      obtain ⟨c0, c1, c2⟩ := hra
      obtain ⟨d0, d1, d2⟩ := hrb
      simp only at c0 c1 c2 d0 d1 d2
      have c0 := (hb1.cell (World.block_lt_of_cell? w _ c0)).trans c0
      have c1 := (hb1.cell (World.block_lt_of_cell? w _ c1)).trans c1
      have c2 := (hb1.cell (World.block_lt_of_cell? w _ c2)).trans c2
      have d0 := (hb1.cell (World.block_lt_of_cell? w _ d0)).trans d0
      have d1 := (hb1.cell (World.block_lt_of_cell? w _ d1)).trans d1
      have d2 := (hb1.cell (World.block_lt_of_cell? w _ d2)).trans d2
      have b1 : (0 : Int) ≤ (k : Int) := by omega
      have b2 : (k : Int) < (n : Int) := by omega
      have HC : Hid (wr.cell? ⟨g, off + k * 3, none⟩ = some (.int .i64 r) ∧ wr.cell? ⟨g, off + k * 3 + 1, none⟩ = some (.int .i64 f) ∧ wr.cell? ⟨g, off + k * 3 + 2, none⟩ = some (.int .i64 t) ∧ wr.cell? ⟨g', off' + k * 3, none⟩ = some (.int .i64 r) ∧ wr.cell? ⟨g', off' + k * 3 + 1, none⟩ = some (.int .i64 f) ∧ wr.cell? ⟨g', off' + k * 3 + 2, none⟩ = some (.int .i64 t)) := ⟨c0, c1, c2, d0, d1, d2⟩
      have HK : Hid (∀ wx, Below wr.heap.size wr wx → wx.cell? ⟨g, off + k * 3, none⟩ = some (.int .i64 r) ∧ wx.cell? ⟨g, off + k * 3 + 1, none⟩ = some (.int .i64 f) ∧ wx.cell? ⟨g, off + k * 3 + 2, none⟩ = some (.int .i64 t) ∧ wx.cell? ⟨g', off' + k * 3, none⟩ = some (.int .i64 r) ∧ wx.cell? ⟨g', off' + k * 3 + 1, none⟩ = some (.int .i64 f) ∧ wx.cell? ⟨g', off' + k * 3 + 2, none⟩ = some (.int .i64 t)) := fun wx h => by
        obtain ⟨c0, c1, c2, d0, d1, d2⟩ := HC.out
        exact ⟨(h.cell (World.block_lt_of_cell? wr _ c0)).trans c0, (h.cell (World.block_lt_of_cell? wr _ c1)).trans c1, (h.cell (World.block_lt_of_cell? wr _ c2)).trans c2, (h.cell (World.block_lt_of_cell? wr _ d0)).trans d0, (h.cell (World.block_lt_of_cell? wr _ d1)).trans d1, (h.cell (World.block_lt_of_cell? wr _ d2)).trans d2⟩
      clear c0 c1 c2 d0 d1 d2
      go_wp2_with fail
      go_region_held3 (fun wx => wx.cell? ⟨g, off + k * 3, none⟩ = some (.int .i64 r) ∧ wx.cell? ⟨g, off + k * 3 + 1, none⟩ = some (.int .i64 f) ∧ wx.cell? ⟨g, off + k * 3 + 2, none⟩ = some (.int .i64 t) ∧ wx.cell? ⟨g', off' + k * 3, none⟩ = some (.int .i64 r) ∧ wx.cell? ⟨g', off' + k * 3 + 1, none⟩ = some (.int .i64 f) ∧ wx.cell? ⟨g', off' + k * 3 + 2, none⟩ = some (.int .i64 t)) (first | assumption | exact HK.out _ (Below.refl _ _).drew | exact HK.out _ ((Below.refl _ _).drew.trans hb2)) (first | (go_at_call 69; refine (eqFault_same wr.drew r f t).mono ?_; rintro e w2 ⟨rfl, hb2⟩))
      all_goals
        go_wp2
        go_roundw
        case rel => exact ⟨k + 1, by omega, by go_num, hb1.trans (((Below.refl _ _).drew.trans hb2).mono hsz)⟩
        case measure => simp [intOf]; omega
    · go_wp2
      go_ret
      exact ⟨rfl, hb1⟩

def fcell (p : PF) : List Value := [.int .i64 p.k, .int .i64 p.i, .int .i64 p.c]
def fcells (P : List PF) : List Value := P.flatMap fcell
theorem fcells_len (P : List PF) : (fcells P).length = P.length * 3 := by
  induction P with
  | nil => rfl
  | cons q P ih => simp [fcells, fcell] at ih ⊢; omega
theorem fcells_at : ∀ (P : List PF) (i : Nat) (_ : i < P.length), (fcells P)[i * 3]? = some (.int .i64 (P.getD i noF).k) ∧ (fcells P)[i * 3 + 1]? = some (.int .i64 (P.getD i noF).i) ∧ (fcells P)[i * 3 + 2]? = some (.int .i64 (P.getD i noF).c) := by
  intro P
  induction P with
  | nil => intro i h; simp at h
  | cons q P ih =>
    intro i h
    have hc : fcells (q :: P) = fcell q ++ fcells P := rfl
    have hl : (fcell q).length = 3 := rfl
    cases i with
    | zero => rw [hc]; exact ⟨rfl, rfl, rfl⟩
    | succ i =>
      have h' : i < P.length := by simpa using h
      obtain ⟨e0, e1, e2⟩ := ih i h'
      have hg : (q :: P).getD (i + 1) noF = P.getD i noF := by simp [List.getD_eq_getElem?_getD]
      rw [hc, hg]
      refine ⟨?_, ?_, ?_⟩
      · rw [List.getElem?_append_right (by rw [hl]; omega), hl, show (i + 1) * 3 - 3 = i * 3 from by omega, e0]
      · rw [List.getElem?_append_right (by rw [hl]; omega), hl, show (i + 1) * 3 + 1 - 3 = i * 3 + 1 from by omega, e1]
      · rw [List.getElem?_append_right (by rw [hl]; omega), hl, show (i + 1) * 3 + 2 - 3 = i * 3 + 2 from by omega, e2]
theorem fcells_snoc (P : List PF) (p : PF) : fcells P ++ fcell p = fcells (P ++ [p]) := by simp [fcells]
/-- the slice v owns the row of the pieces, behind S -/
def OwnFc (w : World) (S : Nat) (v : Value) (P : List PF) : Prop :=
  w.ownsRow S 42 3 v P.length (fcells P) ∧ ∃ g cap, v = .slice (some ⟨g, 0, none⟩) P.length cap
theorem OwnFc.at {w : World} {S : Nat} {v : Value} {P : List PF} (h : OwnFc w S v P) : FaultsAt w v P := by
  obtain ⟨h1, g, cap, rfl⟩ := h
  have hc : ∃ c', (Value.slice (some ⟨g, 0, none⟩) P.length cap) = .slice (some ⟨g, 0, none⟩) P.length c' ∧ P.length ≤ c' ∧ c' ≤ maxLen := by
    rcases h1.2 with ⟨h3, _⟩ | ⟨g', c', cur, h3, _, _, h4, h5, _⟩
    · simp at h3
    · injection h3 with e1 e2 e3
      exact ⟨c', by rw [e3], h4, h5⟩
  obtain ⟨c', he, hle, hmx⟩ := hc
  injection he with _ _ hcc
  subst hcc
  refine ⟨_, cap, rfl, hle, by unfold maxLen at hmx; exact hmx, .inr ⟨g, 0, rfl, fun i hi => ?_⟩⟩
  rw [Nat.zero_add]
  obtain ⟨e0, e1, e2⟩ := fcells_at P i hi
  exact ⟨(h1.cellAt (i * 3) (by omega)).trans e0, (h1.cellAt (i * 3 + 1) (by omega)).trans e1, (h1.cellAt (i * 3 + 2) (by omega)).trans e2⟩
theorem OwnFc.below {w w' : World} {S : Nat} {v : Value} {P : List PF} (h : OwnFc w S v P) (hb : Below w.heap.size w w') : OwnFc w' S v P :=
  ⟨h.1.kept (row := none) ⟨hb.os, hb.tape, hb.output, hb.size, fun k hk _ => hb.block k hk⟩ (by cases hv : v.ownBlock <;> simp), h.2⟩
theorem OwnFc.overR {w w' : World} {S R : Nat} {v : Value} {P : List PF} (h : OwnFc w S v P) (hg : w.grownBy w' (some R)) (hRS : R < S) : OwnFc w' S v P := by
  refine ⟨h.1.kept hg ?_, h.2⟩
  cases hv : v.ownBlock with
  | none => exact .inl rfl
  | some k => refine .inr fun e => ?_; injection e with e; have := (h.1.lt k hv).1; omega
theorem OwnFc.made (w : World) (S : Nat) (hS : S ≤ w.heap.size) : OwnFc (w.alloc (.cells #[] 42)) S (.slice (some ⟨w.heap.size, 0, none⟩) 0 0) [] :=
  ⟨World.ownsRow_made w #[] 0 hS (by unfold maxLen; omega) rfl, _, 0, rfl⟩
theorem faultAt_alloc (w : World) (p : PF) : FaultAt (w.alloc (.cells #[.int .i64 p.k, .int .i64 p.i, .int .i64 p.c] 42)) w.heap.size 0 p :=
  ⟨by rw [cell_of_row _ w.heap.size _ _ _ _ (heap_alloc_new w _)]; rfl, by rw [cell_of_row _ w.heap.size _ _ _ _ (heap_alloc_new w _)]; rfl, by rw [cell_of_row _ w.heap.size _ _ _ _ (heap_alloc_new w _)]; rfl⟩
def OwnFn (w : World) (S : Nat) (v : Value) (P : List PF) : Prop := w.ownsRow S 42 3 v P.length (fcells P)
theorem OwnFn.nil (w : World) (S : Nat) : OwnFn w S (.slice none 0 0) [] := World.ownsRow_nil _ _ _ _
theorem OwnFn.below {w w' : World} {S : Nat} {v : Value} {P : List PF} (h : OwnFn w S v P) (hb : Below w.heap.size w w') : OwnFn w' S v P :=
  World.ownsRow.kept (row := none) h ⟨hb.os, hb.tape, hb.output, hb.size, fun k hk _ => hb.block k hk⟩ (by cases hv : v.ownBlock <;> simp)
theorem OwnFn.at {w : World} {S : Nat} {v : Value} {P : List PF} (h : OwnFn w S v P) : FaultsAt w v P := by
  rcases h.2 with ⟨rfl, hn⟩ | ⟨g, cap, cur, rfl, _, _, h4, h5, _⟩
  · have : P = [] := List.length_eq_zero_iff.1 hn
    subst this
    exact ⟨none, 0, rfl, Nat.le_refl _, by omega, .inl rfl⟩
  · exact OwnFc.at (S := S) ⟨h, g, cap, rfl⟩
theorem OwnFn.isSlice {w : World} {S : Nat} {v : Value} {P : List PF} (h : OwnFn w S v P) : ∃ a n c, v = .slice a n c := by
  rcases h.2 with ⟨rfl, _⟩ | ⟨g, cap, cur, rfl, _⟩ <;> exact ⟨_, _, _, rfl⟩
theorem wpList_append_fn {ops : Array Oper} {rest : List Oper} {o : Oper} {a : Act} {w : World} {Q : Exit → Act → World → Prop} (hgd : o.guard = none) (s x : Operand)
    (ho : o.op = .call { callee := .builtin .append, args := #[s, x], argTypes := #[36, 36] }) (base g : Nat) {v : Value} {P : List PF} (p : PF) (hs : a.eval s = v) (hx : a.eval x = .slice (some ⟨g, 0, none⟩) 1 1)
    (h1 : OwnFn w base v P) (h2 : FaultAt w g 0 p) (hl : P.length ≤ 100000) (hbase : base ≤ w.heap.size)
    (h : ∀ v' w', OwnFn w' base v' (P ++ [p]) → w.grownBy w' v.ownBlock → wpList Try.prog ops Q rest (a.put o.dst v') w') : wpList Try.prog ops Q (o :: rest) a w := by
  obtain ⟨i0, hi, hz0, hz1, hz2⟩ := info_parts infoFault
  refine wpList_append_own w hgd s x 36 ho base 42 i0 (.agg #[.int .i64 0, .int .i64 0, .int .i64 0]) 3 24 Try.underlying36 hi hz0 hz1 hz2 rfl (by decide) v P.length (fcells P) hs h1 ⟨g, 0, none⟩ 1 1 (fcell p) hx rfl ?_ ?_ (by unfold maxLen; omega) (by omega) hbase ?_
  · intro j u hj
    obtain ⟨c0, c1, c2⟩ := h2
    rw [Addr.add_lit]
    match j, hj with
    | 0, hj => rw [c0]; exact hj
    | 1, hj => rw [c1]; exact hj
    | 2, hj => rw [c2]; exact hj
  · intro u hu
    simp [fcell] at hu
    rcases hu with rfl | rfl | rfl <;> rfl
  · intro v' w' hown hgrow hnil
    refine h v' w' ?_ hgrow
    unfold OwnFn
    rw [List.length_append, ← fcells_snoc]
    exact hown

theorem OwnFc.cell3 {w : World} {S g n cap : Nat} {P : List PF} (h : OwnFc w S (.slice (some ⟨g, 0, none⟩) n cap) P) {i : Nat} (hi : i < P.length) :
    w.cell? ⟨g, i * 3, none⟩ = some (.int .i64 (P.getD i noF).k) ∧ w.cell? ⟨g, i * 3 + 1, none⟩ = some (.int .i64 (P.getD i noF).i) ∧ w.cell? ⟨g, i * 3 + 2, none⟩ = some (.int .i64 (P.getD i noF).c) ∧ ∀ j, w.frozen? ⟨g, j, none⟩ = false := by
  obtain ⟨h1, g', cap', e⟩ := h
  injection e with e1 e2 e3
  subst e2
  obtain ⟨f0, f1, f2⟩ := fcells_at P i hi
  exact ⟨(h1.cellAt _ (by omega)).trans f0, (h1.cellAt _ (by omega)).trans f1, (h1.cellAt _ (by omega)).trans f2, fun j => h1.frozenAt j⟩
end Go.Proofs.Ytekchmbbafjmmaa
