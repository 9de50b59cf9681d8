
/- A part of a picture is taken away. -/
import Derived.Test.YthpbpdnlnmldeaaKt7
import Derived.StillTailTactics
import Derived.Deep.Cut
import Derived.Deep.RegionHeld3
namespace Go.Proofs.Ythpbpdnlnmldeaa
open Go.RowKit

def CutTo (f : Nat → Nat → Int) (y x n m : Nat) (w : World) (e : Ending) (w' : World) : Prop := ∃ g, CutIs f g y x ∧ PlOut (gridOf n m g) w e w'
set_option maxHeartbeats 2000000 in
theorem i_without (w : World) (a : Option Addr) (n c m : Nat) (f : Nat → Nat → Int) (y x : Nat) (hp : PicAt w a n c m f) (hn : n ≤ 24) (hm : m ≤ 24) (hy : y < n) (hx : x < m) (hb : ∀ i j, f i j = 0 ∨ f i j = 1) (ho : OutF f n m) (h1 : f y x = 1) :
    Calls Try.prog 48 #[.slice a n c, .agg #[.int .i64 y, .int .i64 x]] w fun e w' => CutTo f y x n m w e w' := by
  have HBIN := Lib.hid hb
  have HOUT := keptI ho
  have H1 := Lib.hid h1
  obtain ⟨fU, hfU⟩ : ∃ fU, upd f y x 0 = fU := ⟨_, rfl⟩
  have HFU := Lib.hid hfU
  obtain ⟨g, off, _, _, _, rfl, _⟩ := hp.row hy
  have hA0 : (w.alloc (.cells #[.int .i64 y, .int .i64 x] 48)).cell? ⟨w.heap.size, 0, none⟩ = some (.int .i64 y) := by
    rw [cell_of_row _ w.heap.size 0 _ _ _ (heap_alloc_new w _)]; rfl
  have hA1 : (w.alloc (.cells #[.int .i64 y, .int .i64 x] 48)).cell? ⟨w.heap.size, 1, none⟩ = some (.int .i64 x) := by
    rw [cell_of_row _ w.heap.size 1 _ _ _ (heap_alloc_new w _)]; rfl
  have hBA : Below w.heap.size w (w.alloc (.cells #[.int .i64 y, .int .i64 x] 48)) := (Below.refl _ _).alloc (Nat.le_refl _) _
  have HPA := keptI (hp.below hBA)
  have HBA := keptI hBA
  have HAH := Lib.hid (heap_alloc_new w (.cells #[.int .i64 y, .int .i64 x] 48))
  clear hp hBA hfU hb ho h1
  go_enter Try.func48, Try.ntmps48
  go_wp2_with fail
  generalize (w.alloc (.cells #[.int .i64 y, .int .i64 x] 48)) = wA at HPA HBA HAH hA0 hA1 ⊢
  refine (i_copies wA _ n c m f HPA.out (by omega) (by omega)).mono ?_
  rintro e w1 ⟨a1, n1, c1, rfl, hO1, hb1⟩
  obtain ⟨hn1, g1, b1, d1, ha1, hk1, hk2, k1, k2, k3, k4, k5, kset⟩ := hO1.dot hy hx
  subst ha1 hn1
  obtain ⟨ks1, ks2⟩ := kset 0
  have cA0 := (hb1.cell (World.block_lt_of_cell? wA _ hA0)).trans hA0
  have cA1 := (hb1.cell (World.block_lt_of_cell? wA _ hA1)).trans hA1
  have hwA : w.heap.size < wA.heap.size := (World.block_lt_of_cell? wA _ hA0)
  obtain ⟨wS, hwS⟩ : ∃ wS, w1.drew.setCell ⟨b1, x, none⟩ (.int .i64 0) = wS := ⟨_, rfl⟩
  have hS1 : OwnLL wS wA.heap.size w1.heap.size (.slice (some ⟨g1, 0, none⟩) n1 c1) (gridOf n1 m fU) := by
    rw [← HFU.out, ← hwS]; exact ks1
  have hBS : Below wA.heap.size wA wS := by rw [← hwS]; exact hb1.drew.setCell (p := ⟨b1, x, none⟩) hk1 _
  have hS2 := hS1.top hS1.1 (Nat.le_refl _)
  have HS2 := keptI (hS2.lowerI (Nat.le_of_lt hwA))
  have HB2 := keptI (below_next HBA.out hBS)
  have cS0 := (hBS.cell (World.block_lt_of_cell? wA _ hA0)).trans hA0
  have cS1 := (hBS.cell (World.block_lt_of_cell? wA _ hA1)).trans hA1
  have cF0 : (wS.alloc (.cells #[.int .i64 y, .int .i64 x] 48)).cell? ⟨wS.heap.size, 0, none⟩ = some (.int .i64 y) := by
    rw [cell_of_row _ wS.heap.size 0 _ _ _ (heap_alloc_new wS _)]; rfl
  have cF1 : (wS.alloc (.cells #[.int .i64 y, .int .i64 x] 48)).cell? ⟨wS.heap.size, 1, none⟩ = some (.int .i64 x) := by
    rw [cell_of_row _ wS.heap.size 1 _ _ _ (heap_alloc_new wS _)]; rfl
  have hBF : Below wS.heap.size wS (wS.alloc (.cells #[.int .i64 y, .int .i64 x] 48)) := (Below.refl _ _).alloc (Nat.le_refl _) _
  have hss : w.heap.size ≤ wS.heap.size := HB2.out.size
  have CF := Lib.hid (And.intro cF0 cF1)
  have HBF := keptI hBF
  have HWS := Lib.hid hwS
  have p1 : (0 : Int) ≤ (y : Int) := by omega
  have p2 : (y : Int) < (n1 : Int) := by omega
  have p3 : (0 : Int) ≤ (x : Int) := by omega
  have p4 : (x : Int) < (m : Int) := by omega
  clear ks1 ks2 kset hO1 hb1 hA0 hA1 HAH hS1 hBS hS2 cF0 cF1 hBF hwS
  go_wp2_with fail
  go_still_tail 8, (by kernel_rfl)
  change wpList _ _ _ _ _ w1.drew
  go_upto_region 3 with (fail)
  change Code.wp _ _ _ _ (w1.drew.setCell ⟨b1, x, none⟩ (.int .i64 0))
  rw [HWS.out]
  clear cA0 cA1 k1 k2 k3 k4 k5
  have hsF := HBF.out.size
  go_wp2_with (at_builtin; go_loud (refine wpList_append_spAt rfl _ _ rfl wS.heap.size wS.heap.size (y, x) rfl rfl (OwnSp.nil _ _) CF.out (by simp) hsF ?_))
  intro v6 w6 hO6 hg6 _
  have hB6 : Below w.heap.size w w6 := (below_next HB2.out HBF.out).grown hg6 (Nat.le_trans hss hsF) (fun k hk => by simp [Value.ownBlock] at hk)
  have hBS6 : Below wS.heap.size wS w6 := HBF.out.grown hg6 hsF (fun k hk => by simp [Value.ownBlock] at hk)
  have hs6 := hBS6.size
  have HS6 := keptI (HS2.out.below hBS6 (Nat.le_refl _))
  have HB6 := keptI hB6
  have HO6 := keptI hO6
  have HBFS : Hid (Bfs f fU y x n1 m [(y, x)] 0) := by
    show Bfs _ _ _ _ _ _ _ _
    rw [← HFU.out]; exact Bfs.first hy hx H1.out
  obtain ⟨a6, c6, hv6⟩ := hO6.isSlice
  have hv7 : v6 = .slice a6 1 c6 := hv6
  clear hv6
  subst hv7
  have HBD : Hid (bs f 0 n1 0 m ≤ 576) := by
    have := (bs_bd (f := f) (y0 := 0) (ny := n1) (x0 := 0) (nx := m) fun i j _ _ => by have := HBIN.out (0 + i) (0 + j); omega).2
    have h2 : n1 * m ≤ 24 * 24 := Nat.mul_le_mul hn hm
    have h3 : ((n1 : Int) * (m : Int)) = ((n1 * m : Nat) : Int) := (Int.natCast_mul n1 m).symm
    rw [h3] at this
    show _ ≤ _
    omega
  clear hg6 hB6 hBS6 hO6 cS0 cS1 HWS CF HBF HB2 hsF
  go_wp2
  go_loopw [6, 7] (fun o i wr => ∃ (k : Nat) (L : List (Nat × Nat)) (g : Nat → Nat → Int) (a : Option Addr) (c : Nat), o = .slice a L.length c ∧ i = .int .i64 k ∧ k ≤ L.length ∧ Hid (Bfs f g y x n1 m L k) ∧ Hid (OwnSp wr wS.heap.size (.slice a L.length c) L) ∧ Hid (OwnLL wr w.heap.size wS.heap.size (.slice (some ⟨g1, 0, none⟩) n1 c1) (gridOf n1 m g)) ∧ Hid (Below w.heap.size w wr)) (fun _ i _ => 600 - (intOf i).toNat)
  case atStart => exact ⟨0, [(y, x)], fU, a6, c6, rfl, rfl, Nat.zero_le _, HBFS, HO6, HS6, HB6⟩
  case round =>
    clear HBFS HO6 HS6 HB6
    obtain ⟨k, L, g, aL, cL, rfl, rfl, hk, HBF, HOL, HOP, HBW⟩ := hrel
    rename World => wo
    have hlen : L.length ≤ 576 := by
      have e := HBF.out.many
      have e2 := HBD.out
      have e3 := (bs_bd (f := g) (y0 := 0) (ny := n1) (x0 := 0) (nx := m) fun i j _ _ => by
        rcases HBF.out.only (0 + i) (0 + j) with c | ⟨c, _⟩
        · rw [c]; have := HBIN.out (0 + i) (0 + j); omega
        · rw [c]; omega).1
      omega
    by_cases hkl : k < L.length
    · obtain ⟨gF, rfl, hgF, cF0, cF1⟩ := HOL.out.nth hkl
      obtain ⟨p, hp⟩ : ∃ p, L.getD k (0, 0) = p := ⟨_, rfl⟩
      have HPK := Lib.hid hp
      have hmem : p ∈ L := by rw [← hp, List.getD_eq_getElem?_getD, List.getElem?_eq_getElem hkl, Option.getD_some]; exact List.getElem_mem _
      rw [hp] at cF0 cF1
      obtain ⟨p1, p2⟩ := p
      simp only at cF0 cF1
      obtain ⟨_, hfp, _⟩ := HBF.out.low _ hmem
      simp only at hfp
      have hp1 : p1 < n1 ∧ p2 < m := by
        by_cases c1' : p1 < n1
        · by_cases c2' : p2 < m
          · exact ⟨c1', c2'⟩
          · have := HOUT.out p1 p2 (.inr (by omega)); omega
        · have := HOUT.out p1 p2 (.inl (by omega)); omega
      have HOUTg : OutF g n1 m := fun i j cc => by
        rcases HBF.out.only i j with c' | ⟨c', _⟩
        · rw [c']; exact HOUT.out i j cc
        · exact c'
      have HPIC := keptI (HOP.out.pic (by omega) (by omega)).2
      have b1 : (0 : Int) ≤ (k : Int) := by omega
      have b2 : (k : Int) < (L.length : Int) := by omega
      clear hp hmem hfp
      go_wp2_with fail
      refine (i_beside wo _ n1 c1 m g p1 p2 HPIC.out (by omega) (by omega) hp1.1 hp1.2 HOUTg).mono ?_
      rintro e w8 ⟨B, a8, c8, rfl, hO8, hBA8, hb8⟩
      have hgo : gF < wo.heap.size := World.block_lt_of_cell? wo _ cF0
      obtain ⟨g8, hg8a, hg8b, hg8c, hg8d⟩ : ∃ g8, (B.length ≠ 0 → a8 = some ⟨g8, 0, none⟩) ∧ wo.heap.size ≤ g8 ∧ SpIn w8 g8 B ∧ (B.length ≠ 0 → g8 < w8.heap.size) := by
        by_cases hB : B.length = 0
        · exact ⟨wo.heap.size, fun c => absurd hB c, Nat.le_refl _, fun t ht => absurd ht (by omega), fun c => absurd hB c⟩
        · obtain ⟨g8, e8, hb8', _, _⟩ := hO8.nth (k := 0) (by omega)
          have h0 := hO8.nth (k := 0) (by omega)
          refine ⟨g8, fun _ => e8, hb8', fun t ht => ?_, fun _ => ?_⟩
          · obtain ⟨g9, e9, _, c90, c91⟩ := hO8.nth ht
            rw [e8] at e9
            injection e9 with e9
            injection e9 with e9
            subst e9
            exact ⟨c90, c91⟩
          · obtain ⟨g9, e9, _, c90, _⟩ := h0
            rw [e8] at e9
            injection e9 with e9
            injection e9 with e9
            subst e9
            exact World.block_lt_of_cell? w8 _ c90
      have hBl : B.length ≤ 9223372036854775807 := by
        rcases hO8.2 with ⟨_, e⟩ | ⟨_, cap, _, _, _, _, h4, h5, _⟩
        · omega
        · unfold maxLen at h5; omega
      have HSP : Hid (SpIn w8 g8 B) := hg8c
      have HOL8 := keptI (HOL.out.below hb8)
      have HOP8 := keptI (HOP.out.below (hb8.mono (by have := HOL.out; exact Nat.le_of_lt (Nat.lt_of_le_of_lt hgF hgo))) (Nat.le_refl _))
      have HB8 := keptI (below_next HBW.out hb8)
      have HBA8 := Lib.hid hBA8
      have HBF0 : Hid (Bfs f (outL g (B.take 0)) y x n1 m (L ++ B.take 0) k) := by
        show Bfs _ _ _ _ _ _ _ _
        rw [List.take_zero, List.append_nil, outL_nil]; exact HBF.out
      have HOL0 : Hid (OwnSp w8 wS.heap.size (.slice (some ⟨gF, 0, none⟩) (L ++ B.take 0).length cL) (L ++ B.take 0)) := by
        show OwnSp _ _ _ _
        rw [List.take_zero, List.append_nil]; exact HOL8.out
      have HOP0 : Hid (OwnLL w8 w.heap.size wS.heap.size (.slice (some ⟨g1, 0, none⟩) n1 c1) (gridOf n1 m (outL g (B.take 0)))) := by
        show OwnLL _ _ _ _ _
        rw [List.take_zero, outL_nil]; exact HOP8.out
      have hs8 : wS.heap.size ≤ w8.heap.size := Nat.le_trans (Nat.le_of_lt (Nat.lt_of_le_of_lt hgF hgo)) hb8.size
      have hgS : wS.heap.size ≤ g8 := Nat.le_trans (Nat.le_of_lt (Nat.lt_of_le_of_lt hgF hgo)) hg8b
      clear hO8 hb8 hBA8 hg8c cF0 cF1
      go_wp2
      go_loopw [6, 37] (fun o i wx => ∃ (t : Nat) (a : Option Addr) (c : Nat), o = .slice a (L ++ B.take t).length c ∧ i = .int .i64 t ∧ t ≤ B.length ∧ Hid (Bfs f (outL g (B.take t)) y x n1 m (L ++ B.take t) k) ∧ Hid (OwnSp wx wS.heap.size (.slice a (L ++ B.take t).length c) (L ++ B.take t)) ∧ Hid (OwnLL wx w.heap.size wS.heap.size (.slice (some ⟨g1, 0, none⟩) n1 c1) (gridOf n1 m (outL g (B.take t)))) ∧ Hid (SpIn wx g8 B) ∧ Hid (∀ q, (Value.slice a (L ++ B.take t).length c).ownBlock = some q → q ≠ g8) ∧ Hid (Below w.heap.size w wx) ∧ w8.heap.size ≤ wx.heap.size) (fun _ i _ => B.length - (intOf i).toNat)
      case atStart => exact ⟨0, _, _, by rw [List.take_zero, List.append_nil], rfl, Nat.zero_le _, HBF0, HOL0, HOP0, HSP, (fun q hq => by simp [Value.ownBlock] at hq; omega), HB8, Nat.le_refl _⟩
      case round =>
        clear HBF0 HOL0 HOP0 HSP HB8 HOL8 HOP8 HOL HOP
        obtain ⟨t, aT, cT, rfl, rfl, ht, HBT, HOT, HPT, HST, HNE, HBX, hx8⟩ := hrel
        by_cases htl : t < B.length
        · have e8 := hg8a (by omega)
          subst e8
          obtain ⟨cN0, cN1⟩ := HST.out t htl
          obtain ⟨p, hp⟩ : ∃ p, B.getD t (0, 0) = p := ⟨_, rfl⟩
          rw [hp] at cN0 cN1
          obtain ⟨pa, pb⟩ := p
          simp only at cN0 cN1
          have HTL := Lib.hid htl
          have b3 : (0 : Int) ≤ (t : Int) := by omega
          have b4 : (t : Int) < (B.length : Int) := by omega
          have hpm : (pa, pb) ∈ B := by rw [← hp, List.getD_eq_getElem?_getD, List.getElem?_eq_getElem htl, Option.getD_some]; exact List.getElem_mem _
          obtain ⟨hadj, hgp⟩ := HBA8.out.each _ hpm
          simp only at hadj hgp
          have hpn : pa < n1 ∧ pb < m := by
            by_cases c1' : pa < n1
            · by_cases c2' : pb < m
              · exact ⟨c1', c2'⟩
              · have := HOUTg pa pb (.inr (by omega)); omega
            · have := HOUTg pa pb (.inl (by omega)); omega
          have hnot : (pa, pb) ∉ B.take t := by
            have h := HBA8.out.once
            rw [← List.take_append_drop t B, List.nodup_append] at h
            intro c
            refine h.2.2 _ c (pa, pb) ?_ rfl
            rw [List.drop_eq_getElem_cons htl, ← hp, List.getD_eq_getElem?_getD, List.getElem?_eq_getElem htl, Option.getD_some]
            exact List.mem_cons_self
          have htk : B.take (t + 1) = B.take t ++ [(pa, pb)] := by
            rw [List.take_add_one, List.getElem?_eq_getElem htl, ← hp, List.getD_eq_getElem?_getD, List.getElem?_eq_getElem htl]; rfl
          have hgt : outL g (B.take t) pa pb = 1 := by unfold outL; rw [if_neg hnot]; exact hgp
          have HBN : Hid (Bfs f (outL g (B.take (t + 1))) y x n1 m (L ++ B.take (t + 1)) k) := by
            have h := HBT.out.more (a := pa) (b := pb) (by rw [List.length_append]; omega) (by rw [getD_left hkl, HPK.out]; exact hadj) hgt hpn.1 hpn.2
            rw [outL_snoc, List.append_assoc, ← htk] at h
            exact h
          have HST2 : Hid (L ++ B.take (t + 1) = (L ++ B.take t) ++ [(pa, pb)]) := by show _ = _; rw [htk, List.append_assoc]
          have HG2 : Hid (upd (outL g (B.take t)) pa pb 0 = outL g (B.take (t + 1))) := by show _ = _; rw [outL_snoc, ← htk]
          have hlM : (L ++ B.take t).length ≤ 100000000 := by
            have e := HBT.out.many
            have e2 := HBD.out
            have e3 := (bs_bd (f := outL g (B.take t)) (y0 := 0) (ny := n1) (x0 := 0) (nx := m) fun i j _ _ => by
              rcases HBT.out.only (0 + i) (0 + j) with c' | ⟨c', _⟩
              · rw [c']; have := HBIN.out (0 + i) (0 + j); omega
              · rw [c']; omega).1
            omega
          obtain ⟨M, hM⟩ : ∃ M, L ++ B.take t = M := ⟨_, rfl⟩
          obtain ⟨M2, hM2⟩ : ∃ M, L ++ B.take (t + 1) = M := ⟨_, rfl⟩
          obtain ⟨gt, hgtt⟩ : ∃ gt, outL g (B.take t) = gt := ⟨_, rfl⟩
          obtain ⟨gt2, hgt2⟩ : ∃ gt, outL g (B.take (t + 1)) = gt := ⟨_, rfl⟩
          rw [hM] at HOT HNE hlM HST2 ⊢
          rw [hM2] at HST2 HBN
          rw [hgtt] at hgt HG2 HPT
          rw [hgt2] at HG2 HBN
          have HM2 := Lib.hid hM2
          have HGT2 := Lib.hid hgt2
          have hal : Below wr.heap.size wr (wr.alloc (.cells #[.int .i64 pa, .int .i64 pb] 48)) := (Below.refl _ _).alloc (Nat.le_refl _) _
          obtain ⟨cw0, cw1⟩ := spot_cells wr (pa, pb)
          simp only at cw0 cw1
          have hSr : wS.heap.size ≤ wr.heap.size := Nat.le_trans hs8 hx8
          have h8r : g8 < wr.heap.size := Nat.lt_of_lt_of_le (hg8d (by omega)) hx8
          have HPN := HPT.out.below hal hSr
          have HOTN := HOT.out.below hal
          have HSTN := HST.out.kept (hal.block g8 h8r)
          have hsN : (wr.alloc (.cells #[.int .i64 pa, .int .i64 pb] 48)).heap.size = wr.heap.size + 1 := World.size_alloc _ _
          have HBN2 := below_next HBX.out hal
          have cN0' := (hal.cell (World.block_lt_of_cell? wr _ cN0)).trans cN0
          obtain ⟨wN, hwN⟩ : ∃ wN, wr.alloc (.cells #[.int .i64 pa, .int .i64 pb] 48) = wN := ⟨_, rfl⟩
          rw [hwN] at hal cw0 cw1 HPN HOTN HSTN hsN HBN2
          obtain ⟨_, g3, b3', d3, e3, hk3, hk4, k1, k2, k3, k4, k5, kset⟩ := HPN.dot hpn.1 hpn.2
          injection e3 with e3
          injection e3 with e3 _
          subst e3
          obtain ⟨ks1, ks2⟩ := kset 0
          obtain ⟨wT, hwT⟩ : ∃ wT, wN.drew.setCell ⟨b3', pb, none⟩ (.int .i64 0) = wT := ⟨_, rfl⟩
          have HP2 : OwnLL wT w.heap.size wS.heap.size (.slice (some ⟨g1, 0, none⟩) n1 c1) (gridOf n1 m gt2) := by rw [← HG2.out, ← hwT]; exact ks1
          have hsT : wT.heap.size = wN.heap.size := by rw [← hwT]; simp [World.setCell]
          have hblk : ∀ q, q ≠ b3' → wT.heap[q]? = wN.heap[q]? := fun q hq => by rw [← hwT]; exact heap_setCell_other _ _ q _ (by simpa using hq)
          have HO2 : OwnSp wT wS.heap.size (.slice aT M.length cT) M := World.ownsRow.kept (row := some b3') HOTN ⟨by rw [← hwT]; rfl, by rw [← hwT]; rfl, by rw [← hwT]; rfl, by omega, fun q _ hq => hblk q (fun c => hq (by rw [c]))⟩ (by
            rcases HOTN.2 with ⟨e, _⟩ | ⟨gg, cap, cur, e, hb2, _⟩
            · rw [e]; exact .inl rfl
            · rw [e]; exact .inr (by simp [Value.ownBlock]; omega))
          have HS2T := HSTN.kept (hblk g8 (by omega))
          have cT0 : wT.cell? ⟨wr.heap.size, 0, none⟩ = some (.int .i64 pa) := by rw [cell_block (hblk _ (by omega))]; exact cw0
          have cT1 : wT.cell? ⟨wr.heap.size, 1, none⟩ = some (.int .i64 pb) := by rw [cell_block (hblk _ (by omega))]; exact cw1
          have HBT2 : Below w.heap.size w wT := by rw [← hwT]; exact HBN2.drew.setCell (p := ⟨b3', pb, none⟩) hk3 _
          have hal2 : Below wT.heap.size wT (wT.alloc (.cells #[.int .i64 pa, .int .i64 pb] 48)) := (Below.refl _ _).alloc (Nat.le_refl _) _
          have CF2 := Lib.hid (spot_cells wT (pa, pb))
          have hsA : (wT.alloc (.cells #[.int .i64 pa, .int .i64 pb] 48)).heap.size = wT.heap.size + 1 := World.size_alloc _ _
          have HOA := keptI (HO2.below hal2)
          have HPA2 := keptI (HP2.below hal2 (by omega))
          have HSA := keptI (HS2T.kept (hal2.block g8 (by omega)))
          have HO2 := keptI HO2
          have HBT2 := keptI HBT2
          have HAL2 := keptI hal2
          have HWT := Lib.hid hwT
          have HWN := Lib.hid hwN
          have b5 : (0 : Int) ≤ (pa : Int) := by omega
          have b6 : (pa : Int) < (n1 : Int) := by omega
          have b7 : (0 : Int) ≤ (pb : Int) := by omega
          have b8 : (pb : Int) < (m : Int) := by omega
          have hbase : wS.heap.size ≤ (wT.alloc (.cells #[.int .i64 pa, .int .i64 pb] 48)).heap.size := by omega
          have hwT2 : w.heap.size ≤ wT.heap.size := by omega
          have HSZ := Lib.hid (And.intro hsT (And.intro hsN hsA))
          clear hsT hsN hsA hM hM2 hgtt hgt2 hp hpm hadj hgp hnot htk hgt ks1 ks2 kset hal hal2 hblk HPN HOTN HSTN HBN2 HS2T HP2 hwT hwN cN0'
          go_wp2_with fail
          rw [HWN.out]
          go_still_tail 8, (by kernel_rfl)
          change wpList _ _ _ _ _ wN.drew
          go_upto_region 12 with (fail)
          change Code.wp _ _ _ _ (wN.drew.setCell ⟨b3', pb, none⟩ (.int .i64 0))
          rw [HWT.out]
          clear k1 k2 k3 k4 k5 cw0 cw1
          go_wp2_with (at_builtin; go_loud (refine wpList_append_spAt rfl _ _ rfl wS.heap.size wT.heap.size (pa, pb) rfl rfl HOA.out CF2.out hlM hbase ?_))
          intro v9 w9 hown9 hgrow9 hat9
          obtain ⟨hsT, hsN, hsA⟩ := HSZ.out
          obtain ⟨a9, c9, hv9⟩ := hown9.isSlice
          have hM9 : (M ++ [(pa, pb)]).length = M2.length := by rw [HST2.out]
          rw [hM9] at hv9
          subst hv9
          have HO9 : Hid (OwnSp w9 wS.heap.size (.slice a9 M2.length c9) M2) := by have h9 := hown9; rw [← HST2.out] at h9; exact h9
          have HP9 := keptI (HPA2.out.blocks hgrow9.size fun q h1 h2 => hgrow9.block q (by omega) (by
            rcases HOA.out.2 with ⟨e, _⟩ | ⟨gg, cap, cur, e, hb2, _⟩
            · rw [e]; simp [Value.ownBlock]
            · rw [e]; simp [Value.ownBlock]; omega))
          have HS9 := keptI (HSA.out.kept (hgrow9.block g8 (by omega) (fun c => HNE.out g8 c.symm rfl)))
          have HN9 : Hid (∀ q, (Value.slice a9 M2.length c9).ownBlock = some q → q ≠ g8) := fun q hq => by
            rcases hat9 with e | e
            · rw [e] at hq; exact HNE.out q hq
            · rw [e] at hq; injection hq with hq; omega
          have HB9 := keptI (grown_sp HBT2.out HAL2.out hwT2 (by omega) HO2.out hgrow9)
          have hx9 : w8.heap.size ≤ w9.heap.size := by have := hgrow9.size; omega
          clear hown9 hgrow9 hat9 hM9 hsT hsN hsA
          set_option maxRecDepth 20000 in
          go_wp2
          go_roundw
          case rel => exact ⟨t + 1, a9, c9, by rw [HM2.out], by go_num, HTL.out, by rw [HGT2.out, HM2.out]; exact HBN, by rw [HM2.out]; exact HO9, by rw [HGT2.out]; exact HP9, HS9, by rw [HM2.out]; exact HN9, HB9, hx9⟩
          case measure => have := HTL.out; simp [intOf]; omega
        · obtain rfl : t = B.length := by omega
          obtain ⟨M, hM⟩ : ∃ M, L ++ B = M := ⟨_, rfl⟩
          have HBN : Hid (Bfs f (outL g B) y x n1 m (L ++ B) (k + 1)) := by
            have h := HBT.out
            rw [List.take_length] at h
            exact h.next hkl (by rw [HPK.out]; exact HBA8.out.full)
          have hlB : k + 1 ≤ (L ++ B).length := by rw [List.length_append]; omega
          rw [List.take_length] at HOT HPT ⊢
          rw [hM] at HBN HOT hlB ⊢
          clear hM
          have d2 : decide ((B.length : Int) < (B.length : Int)) = false := by simp
          go_wp2
          go_roundw
          case rel => exact ⟨k + 1, M, outL g B, aT, cT, rfl, by go_num, hlB, HBN, HOT, HPT, HBX⟩
          case measure => simp [intOf]; omega
    · obtain rfl : k = L.length := by omega
      have HC : Hid (CutIs f g y x) := HBF.out.fin (Nat.le_refl _)
      have d1 : decide ((L.length : Int) < (L.length : Int)) = false := by simp
      go_wp2
      go_ret
      exact ⟨g, HC.out, _, _, _, rfl, HOP.out.top HOP.out.1 (Nat.le_refl _), HBW.out⟩
end Go.Proofs.Ythpbpdnlnmldeaa
