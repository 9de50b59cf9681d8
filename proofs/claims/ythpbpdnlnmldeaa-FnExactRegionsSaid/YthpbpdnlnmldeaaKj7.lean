
/- A part of one dot is taken away. -/
import Derived.Test.YthpbpdnlnmldeaaKi7
import Derived.StillTailTactics
import Derived.Deep.Cut
import Derived.Deep.RegionHeld3
namespace Go.Proofs.Ythpbpdnlnmldeaa
open Go.RowKit

theorem infoSpot : (Try.prog.info? 48).map (fun i => (i.zero, i.size, i.bytes)) = some (some (.agg #[.int .i64 0, .int .i64 0]), 2, 16) := by kernel_rfl
theorem wpList_append_spot {ops : Array Oper} {rest : List Oper} {o : Oper} {a : Act} {w : World} {Q : Exit → Act → World → Prop} (hgd : o.guard = none) (s x : Operand)
    (ho : o.op = .call { callee := .builtin .append, args := #[s, x], argTypes := #[58, 58] }) (base g : Nat) (u v : Int) (hs : a.eval s = .slice none 0 0) (hx : a.eval x = .slice (some ⟨g, 0, none⟩) 1 1)
    (h2 : w.cell? ⟨g, 0, none⟩ = some (.int .i64 u) ∧ w.cell? ⟨g, 1, none⟩ = some (.int .i64 v)) (hbase : base ≤ w.heap.size)
    (h : ∀ b c w', base ≤ b → 1 ≤ c → c ≤ 9223372036854775807 → w'.cell? ⟨b, 0, none⟩ = some (.int .i64 u) → w'.cell? ⟨b, 1, none⟩ = some (.int .i64 v) → w.grownBy w' none → wpList Try.prog ops Q rest (a.put o.dst (.slice (some ⟨b, 0, none⟩) 1 c)) w') : wpList Try.prog ops Q (o :: rest) a w := by
  obtain ⟨i0, hi, hz0, hz1, hz2⟩ := info_parts infoSpot
  refine wpList_append_own w hgd s x 58 ho base 48 i0 (.agg #[.int .i64 0, .int .i64 0]) 2 16 Try.underlying58 hi hz0 hz1 hz2 rfl (by decide) (.slice none 0 0) 0 [] hs (World.ownsRow_nil _ _ _ _) ⟨g, 0, none⟩ 1 1 [.int .i64 u, .int .i64 v] hx rfl ?_ ?_ (by unfold maxLen; omega) (by omega) hbase ?_
  · intro j q hj
    obtain ⟨c0, c1⟩ := h2
    rw [Addr.add_lit]
    match j, hj with
    | 0, hj => rw [c0]; exact hj
    | 1, hj => rw [c1]; exact hj
  · intro q hq
    simp at hq
    rcases hq with rfl | rfl <;> rfl
  · intro v' w' hown hgrow hnil
    have hh := hown
    rcases hown.2 with ⟨_, hn⟩ | ⟨b, cap, cur, rfl, hb, _, h4, h5, _⟩
    · omega
    · exact h b cap w' hb (by omega) (by unfold maxLen at h5; exact h5) (World.ownsRow.cellAt hh 0 (by omega)) (World.ownsRow.cellAt hh 1 (by omega)) hgrow
set_option maxHeartbeats 1000000 in
theorem i_without_lone (w : World) (a : Option Addr) (n c m : Nat) (f : Nat → Nat → Int) (y x : Nat) (hp : PicAt w a n c m f) (hn : n ≤ 1000) (hm : m ≤ 1000) (hy : y < n) (hx : x < m) (h0 : LoneAt (upd f y x 0) n m y x) :
    Calls Try.prog 48 #[.slice a n c, .agg #[.int .i64 y, .int .i64 x]] w fun e w' => PlOut (gridOf n m (upd f y x 0)) w e w' := by
  have H0 := keptI h0
  obtain ⟨fU, hfU⟩ : ∃ fU, upd f y x 0 = fU := ⟨_, rfl⟩
  have HFU := Lib.hid hfU
  obtain ⟨g, off, _, _, _, rfl, _⟩ := hp.row hy
  have hA0 : (w.alloc (.cells #[.int .i64 y, .int .i64 x] 48)).cell? ⟨w.heap.size, 0, none⟩ = some (.int .i64 y) := by
    rw [cell_of_row _ w.heap.size 0 _ _ _ (heap_alloc_new w _)]; rfl
  have hA1 : (w.alloc (.cells #[.int .i64 y, .int .i64 x] 48)).cell? ⟨w.heap.size, 1, none⟩ = some (.int .i64 x) := by
    rw [cell_of_row _ w.heap.size 1 _ _ _ (heap_alloc_new w _)]; rfl
  have hBA : Below w.heap.size w (w.alloc (.cells #[.int .i64 y, .int .i64 x] 48)) := (Below.refl _ _).alloc (Nat.le_refl _) _
  have HPA := keptI (hp.below hBA)
  have HBA := keptI hBA
  have HAH := Lib.hid (heap_alloc_new w (.cells #[.int .i64 y, .int .i64 x] 48))
  clear hp h0 hBA hfU
  go_enter Try.func48, Try.ntmps48
  go_wp2_with fail
  generalize (w.alloc (.cells #[.int .i64 y, .int .i64 x] 48)) = wA at HPA HBA HAH hA0 hA1 ⊢
  refine (i_copies wA _ n c m f HPA.out (by omega) (by omega)).mono ?_
  rintro e w1 ⟨a1, n1, c1, rfl, hO1, hb1⟩
  obtain ⟨hn1, g1, b1, d1, ha1, hk1, hk2, k1, k2, k3, k4, k5, kset⟩ := hO1.dot hy hx
  subst ha1 hn1
  obtain ⟨ks1, ks2⟩ := kset 0
  have cA0 := (hb1.cell (World.block_lt_of_cell? wA _ hA0)).trans hA0
  have cA1 := (hb1.cell (World.block_lt_of_cell? wA _ hA1)).trans hA1
  have hwA : w.heap.size < wA.heap.size := (World.block_lt_of_cell? wA _ hA0)
  obtain ⟨wS, hwS⟩ : ∃ wS, w1.drew.setCell ⟨b1, x, none⟩ (.int .i64 0) = wS := ⟨_, rfl⟩
  have hS1 : OwnLL wS wA.heap.size w1.heap.size (.slice (some ⟨g1, 0, none⟩) n1 c1) (gridOf n1 m fU) := by
    rw [← HFU.out, ← hwS]; exact ks1
  have hBS : Below wA.heap.size wA wS := by rw [← hwS]; exact hb1.drew.setCell (p := ⟨b1, x, none⟩) hk1 _
  have hS2 := hS1.top hS1.1 (Nat.le_refl _)
  have HS2 := keptI (hS2.lowerI (Nat.le_of_lt hwA))
  have HB2 := keptI (below_next HBA.out hBS)
  have cS0 := (hBS.cell (World.block_lt_of_cell? wA _ hA0)).trans hA0
  have cS1 := (hBS.cell (World.block_lt_of_cell? wA _ hA1)).trans hA1
  have cF0 : (wS.alloc (.cells #[.int .i64 y, .int .i64 x] 48)).cell? ⟨wS.heap.size, 0, none⟩ = some (.int .i64 y) := by
    rw [cell_of_row _ wS.heap.size 0 _ _ _ (heap_alloc_new wS _)]; rfl
  have cF1 : (wS.alloc (.cells #[.int .i64 y, .int .i64 x] 48)).cell? ⟨wS.heap.size, 1, none⟩ = some (.int .i64 x) := by
    rw [cell_of_row _ wS.heap.size 1 _ _ _ (heap_alloc_new wS _)]; rfl
  have hBF : Below wS.heap.size wS (wS.alloc (.cells #[.int .i64 y, .int .i64 x] 48)) := (Below.refl _ _).alloc (Nat.le_refl _) _
  have hss : w.heap.size ≤ wS.heap.size := HB2.out.size
  have CF := Lib.hid (And.intro cF0 cF1)
  have HBF := keptI hBF
  have HWS := Lib.hid hwS
  have p1 : (0 : Int) ≤ (y : Int) := by omega
  have p2 : (y : Int) < (n1 : Int) := by omega
  have p3 : (0 : Int) ≤ (x : Int) := by omega
  have p4 : (x : Int) < (m : Int) := by omega
  clear ks1 ks2 kset hO1 hb1 hA0 hA1 HAH hS1 hBS hS2 cF0 cF1 hBF hwS
  go_wp2_with fail
  go_still_tail 8, (by kernel_rfl)
  change wpList _ _ _ _ _ w1.drew
  go_upto_region 3 with (fail)
  change Code.wp _ _ _ _ (w1.drew.setCell ⟨b1, x, none⟩ (.int .i64 0))
  rw [HWS.out]
  clear cA0 cA1 k1 k2 k3 k4 k5
  go_wp2_with (at_builtin; go_loud (refine wpList_append_spot rfl _ _ rfl w.heap.size wS.heap.size y x rfl rfl CF.out (by rw [World.size_alloc]; omega) ?_))
  intro b6 c6 w6 hb6 hc6 hc7 e60 e61 hg6
  have hB6 : Below w.heap.size w w6 := (below_next HB2.out HBF.out).grown hg6 (by rw [World.size_alloc]; omega) (fun k hk => by simp at hk)
  have hBS6 : Below wS.heap.size wS w6 := HBF.out.grown hg6 (by rw [World.size_alloc]; omega) (fun k hk => by simp at hk)
  have hs6 := hBS6.size
  have HS6 := keptI (HS2.out.below hBS6 (Nat.le_refl _))
  have HB6 := keptI hB6
  have E60 := Lib.hid e60
  have E61 := Lib.hid e61
  clear hg6 hB6 hBS6 cS0 cS1 e60 e61 HWS CF HBF HB2
  go_wp2
  go_loopw [6, 7] (fun o i wr => ∃ k : Nat, k ≤ 1 ∧ i = .int .i64 k ∧ o = .slice (some ⟨b6, 0, none⟩) 1 c6 ∧ Below w6.heap.size w6 wr) (fun _ i _ => 1 - (intOf i).toNat)
  case atStart => exact ⟨0, by omega, rfl, rfl, Below.refl _ _⟩
  case round =>
    obtain ⟨k, hk, rfl, rfl, hb7⟩ := hrel
    have HB7 := keptI hb7
    have e70 := (hb7.cell (World.block_lt_of_cell? w6 _ E60.out)).trans E60.out
    have e71 := (hb7.cell (World.block_lt_of_cell? w6 _ E61.out)).trans E61.out
    have HS7 := keptI ((HS6.out.below (hb7.mono hs6) (Nat.le_refl _)))
    by_cases hk0 : k = 0
    · subst hk0
      have hpic := HS7.out.pic (by omega) (by omega)
      have HPIC := keptI hpic.2
      clear hb7 hpic
      go_wp2_with fail
      refine (i_beside_none wr _ n1 c1 m fU y x HPIC.out (by omega) (by omega) (by omega) (by omega) (by rw [← HFU.out]; exact H0.out)).mono ?_
      rintro e w8 ⟨rfl, hb8⟩
      have HB8 := keptI (below_next HB7.out hb8)
      clear hb8
      go_wp2
      go_loopw [6, 37] (fun o i wx => i = .int .i64 0 ∧ o = .slice (some ⟨b6, 0, none⟩) 1 c6 ∧ Hid (Below w6.heap.size w6 wx)) (fun _ _ _ => 0)
      case atStart => exact ⟨rfl, rfl, HB8⟩
      case round =>
        obtain ⟨rfl, rfl, HB9⟩ := hrel
        go_wp2
        go_roundw
        case rel => exact ⟨1, by omega, rfl, rfl, HB9.out⟩
        case measure => simp [intOf]
    · obtain rfl : k = 1 := by omega
      clear hb7
      go_wp2
      go_ret
      have hBE := HB6.out.trans (HB7.out.mono HB6.out.size)
      refine ⟨_, _, _, rfl, ?_, hBE⟩
      rw [HFU.out]
      exact HS7.out.top (Nat.le_trans hs6 HB7.out.size) (Nat.le_refl _)
end Go.Proofs.Ythpbpdnlnmldeaa
