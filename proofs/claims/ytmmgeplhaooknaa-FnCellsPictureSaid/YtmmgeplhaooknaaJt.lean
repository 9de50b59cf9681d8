
/- Drawn rows of cells. -/
import Derived.Test.YtmmgeplhaooknaaJg
namespace Go.Proofs.Ytmmgeplhaooknaa
open Go.RowKit

set_option maxHeartbeats 2000000 in
theorem drawCellsPicture_any (w : World) (a : Option Addr) (len cap : Nat) (zs : List Int) (h : RowIn .u8 w a len cap zs) :
    Calls Try.prog 31 #[.slice a len cap] w fun e w' => PicDrawn w e w' := by
  obtain ⟨i0, hi, hz0, hz1, hz2⟩ := info_parts infoInt
  obtain ⟨h1, h2, h3⟩ := bytesAt_of_row h
  clear h
  go_enter Try.func31, Try.ntmps31
  go_wp2_with fail
  refine (newReader_any w _ a len cap h1 (Nat.le_refl _) h2 h3).mono ?_
  rintro e w1 ⟨L, rfl, hrd, hgr⟩
  have hR := hrd.lt
  have HG1 := keptI hgr
  obtain ⟨R, hRq⟩ : ∃ R, w.heap.size = R := ⟨_, rfl⟩
  rw [hRq] at hrd hR ⊢
  have HRq := Lib.hid hRq
  have hRw1 : R < w1.heap.size := hR
  clear hgr hRq h1 h2 h3
  go_wp2_with fail
  refine (one_any _ R R L 0 w1.heap.size 6 6 [3, 2, 4, 1, 12, 13] (hrd.alloc _) (heap_alloc_new w1 _) (by omega) (Lib.hid rfl) (by omega) (by omega) (by omega)).mono ?_
  rintro e w2 ⟨z2, rfl, hz, hrd2, hgr2⟩
  obtain ⟨m, rfl, hm1, hm2⟩ : ∃ m : Nat, z2 = m ∧ 1 ≤ m ∧ m ≤ 13 := by refine ⟨z2.toNat, ?_, ?_⟩ <;> (simp at hz; omega)
  have HG2 := keptI (grown_trans (World.grownBy_alloc w1 _ _) hgr2)
  have hR2 := hrd2.lt
  have hs2 := HG2.out.size
  clear hz hgr2 hrd
  go_wp2_with fail
  obtain ⟨w3, hw3⟩ : ∃ w3, w2.alloc (.cells #[] 26) = w3 := ⟨_, rfl⟩
  have hrd3 := hrd2.alloc (.cells #[] 26)
  have hsz3 : (w2.alloc (.cells #[] 26)).heap.size = w2.heap.size + 1 := World.size_alloc _ _
  have HO3 : Hid (OwnLL w3 w2.heap.size w3.heap.size (.slice (some ⟨w2.heap.size, 0, none⟩) 0 0) []) := by rw [← hw3]; exact OwnLL.madeI w2 w2.heap.size (Nat.le_refl _)
  have HG3 : Hid (w1.grownBy w3 (some R)) := by rw [← hw3]; exact grown_trans HG2.out (World.grownBy_alloc w2 _ _)
  rw [hw3] at hrd3 hsz3 ⊢
  clear hw3 hrd2
  refine (one_any (w3.alloc (.cells #[.int .i64 2, .int .i64 3, .int .i64 1, .int .i64 4, .int .i64 0, .int .i64 8, .int .i64 9] 3)) R R L 1 (w2.heap.size + 1) 7 7 [2, 3, 1, 4, 0, 8, 9] (hrd3.alloc _) (by have hh := heap_alloc_new w3 (.cells #[.int .i64 2, .int .i64 3, .int .i64 1, .int .i64 4, .int .i64 0, .int .i64 8, .int .i64 9] 3); rw [hsz3] at hh; exact hh) (by omega) (Lib.hid rfl) (by omega) (by omega) (by omega)).mono ?_
  rintro e w4 ⟨z4, rfl, hz, hrd4, hgr4⟩
  obtain ⟨K, rfl, hK⟩ : ∃ K : Nat, z4 = K ∧ K ≤ 9 := by refine ⟨z4.toNat, ?_, ?_⟩ <;> (simp at hz; omega)
  have hO4 := (HO3.out.below ((Below.refl _ _).alloc (Nat.le_refl _) _) (Nat.le_refl _)).overRI hgr4 (by omega)
  have HO4 := keptI (hO4.top hO4.1 (Nat.le_refl _))
  have hg24 := grown_trans (World.grownBy_alloc w3 (.cells #[.int .i64 2, .int .i64 3, .int .i64 1, .int .i64 4, .int .i64 0, .int .i64 8, .int .i64 9] 3) (some R)) hgr4
  have hs24 : w2.heap.size ≤ w4.heap.size := by have := hg24.size; omega
  have HG4 := keptI (grown_trans HG3.out (grown_trans (World.grownBy_alloc w3 _ _) hgr4))
  have HRD4 := keptI hrd4
  clear hz hgr4 hrd3 hrd4 hO4 HO3 HG3 hsz3 hg24
  go_wp2_with fail
  go_loopw [5, 6] (fun o y wr => ∃ (k : Nat) (P : List (List Int)) (q : Nat), k + P.length ≤ 9 ∧ y = .int .i64 k ∧ OwnLL wr w2.heap.size wr.heap.size o P ∧ Hid (∀ zs ∈ P, zs.length = m) ∧ RD wr R R L q ∧ q ≤ 2 + 13 * P.length ∧ w1.grownBy wr (some R) ∧ w2.heap.size ≤ wr.heap.size) (fun _ y _ => (intOf y).toNat)
  case atStart => exact ⟨K, [], 1 + 1, by simp; omega, rfl, HO4.out, fun z h => absurd h (by simp), HRD4.out, by simp, HG4.out, hs24⟩
  case round =>
    clear HO4 HG4 HRD4
    obtain ⟨k, P, q, hkP, rfl, hO, HBits, hrd, hq, hG, hsz⟩ := hrel
    rename World => wo
    obtain ⟨ao, no, co, hoo⟩ := hO.ls.isSlice
    subst hoo
    have hno : no = P.length := by
      obtain ⟨_, _, e, _⟩ := hO.ls.at
      injection e with _ e2 _
    have HNO := Lib.hid hno
    have hszw := hG.size
    have hRw := hrd.lt
    have HO := keptI hO
    have HRD := keptI hrd
    have HG := keptI hG
    clear hO hrd hG hno
    by_cases hlt : 0 < k
    · have HI0 : Hid (OwnInts (wo.alloc (.cells #[] 3)) wo.heap.size (.slice (some ⟨wo.heap.size, 0, none⟩) 0 0) []) := OwnInts.made _ _ (Nat.le_refl _)
      have HA1 : Hid (wo.grownBy (wo.alloc (.cells #[] 3)) (some R)) := World.grownBy_alloc wo _ _
      have HRA := keptI (HRD.out.alloc (.cells #[] 3))
      go_wp2
      go_loopw [7, 8] (fun v y wx => ∃ (j : Nat) (zs : List Int) (q2 : Nat), j ≤ m ∧ y = .int .i64 j ∧ zs.length = j ∧ OwnInts wx wo.heap.size v zs ∧ RD wx R R L q2 ∧ q2 ≤ q + j ∧ wo.grownBy wx (some R)) (fun _ y _ => m - (intOf y).toNat)
      case atStart => exact ⟨0, [], q, Nat.zero_le _, rfl, rfl, HI0.out, HRA.out, by omega, HA1.out⟩
      case round =>
        clear HI0 HA1 HRA
        obtain ⟨j, zs, q2, hj, rfl, hzs, hI, hrd, hq2, hG⟩ := hrel
        have HZS := Lib.hid hzs
        have hszx := hG.size
        obtain ⟨aw, nw, cw, hww⟩ := hI.isSlice
        subst hww
        have HI := keptI hI
        have HGx := keptI hG
        have hlt3 := hrd.lt
        by_cases hjm : j < m
        · have hl9 : zs.length ≤ 1000 := by omega
          clear hI hG hzs
          go_wp2_with fail
          refine (pick_any wr R R L q2 _ hrd (by omega) (by omega) (by omega)).mono ?_
          rintro e w4 ⟨k1, rfl, hk1, hrd4, hgr4⟩
          have hI4 := HI.out.overR hgr4 hRw
          have hg4 := grown_trans HGx.out hgr4
          have hsz4 := hg4.size
          have HI4 := keptI hI4
          have HRD4 := keptI hrd4
          have HG4 := keptI hg4
          clear hgr4 hrd HI HGx hI4 hrd4 hg4
          go_wp2_with (at_builtin; refine wpList_append_own _ rfl _ _ 26 rfl wo.heap.size 3 i0 (.int .i64 0) 1 8 Try.underlying26 hi hz0 hz1 hz2 rfl (by decide) _ _ _ rfl (HI4.out.alloc _) ⟨w4.heap.size, 0, none⟩ 1 1 [.int .i64 (k1 : Int)] rfl rfl new_one one_cell (by unfold maxLen; omega) (by omega) (by simp; omega) ?_)
          intro v' w5 hown' hgrow _
          obtain ⟨R1, R2, R3⟩ := snoc_step hRw HI4.out HRD4.out HG4.out hown' hgrow
          have HR1 := keptI R1
          have HR2 := keptI R2
          have HR3 := keptI R3
          clear hown' hgrow R1 R2 R3
          go_wp2
          go_roundw
          case rel => exact ⟨j + 1, zs ++ [(k1 : Int)], q2 + 1, by omega, by go_num, by rw [List.length_append, HZS.out]; rfl, HR1.out, HR2.out, by omega, HR3.out⟩
          case measure => simp [intOf]; omega
        · obtain rfl : j = m := by omega
          have hO3 := HO.out.overRI hG (by omega)
          obtain ⟨b6, c6, hv6, hb6⟩ := hI.shape (by omega)
          injection hv6 with hv6 hv7 hv8
          subst hv6 hv7 hv8
          have HRDx := keptI hrd
          have HO3 := keptI hO3
          have hrow := hO3.ls.row
          have hal : Below wr.heap.size wr (wr.alloc (.cells #[.slice (some ⟨b6, 0, none⟩) zs.length cw] 26)) := (Below.refl _ _).alloc (Nat.le_refl _) _
          have HO8 := keptI (hO3.below hal hszx)
          have HE8 := keptI (hI.below hal)
          have HC8 : Hid ((wr.alloc (.cells #[.slice (some ⟨b6, 0, none⟩) zs.length cw] 26)).cell? ⟨wr.heap.size, 0, none⟩ = some (.slice (some ⟨b6, 0, none⟩) zs.length cw)) := by
            show _ = _
            rw [cell_of_row _ wr.heap.size 0 _ _ _ (heap_alloc_new wr _)]; rfl
          have hl8 : P.length ≤ 100000 := by omega
          have HROW := keptI hrow
          clear hal hO3 hI hG hrd hzs hrow
          go_wp2_with (at_builtin; refine wpList_append_ll rfl _ _ rfl w2.heap.size wo.heap.size wr.heap.size b6 zs.length cw zs rfl rfl HO8.out HC8.out HE8.out rfl hl8 hsz ?_)
          intro v9 w9 hown9 hgrow9
          have hs9 := hgrow9.size
          rw [World.size_alloc] at hs9
          have HO9 := keptI hown9
          have HR9 := keptI ((HRDx.out.alloc (.cells #[.slice (some ⟨b6, 0, none⟩) zs.length cw] 26)).over hgrow9 (fun x hx => (HROW.out x hx).1) (by omega))
          have HG9 := keptI (grown_own (grown_own (grown_trans HG.out HGx.out) (World.grownBy_alloc wr (.cells #[.slice (some ⟨b6, 0, none⟩) zs.length cw] 26) none) (by simp)) hgrow9 (fun x hx => Nat.le_trans hs2 (HROW.out x hx).1))
          have HB9 : Hid (∀ ys ∈ P ++ [zs], ys.length = zs.length) := fun ys hy => by
            rcases List.mem_append.1 hy with hy | hy
            · rw [HBits.out ys hy, HZS.out]
            · simp only [List.mem_singleton] at hy; subst hy; rfl
          have HB9 : Hid (∀ ys ∈ P ++ [zs], ys.length = j) := fun ys hy => by rw [HB9.out ys hy, HZS.out]
          have hs9' : w2.heap.size ≤ w9.heap.size := by omega
          clear hown9 hgrow9
          set_option maxRecDepth 20000 in
          go_wp2
          go_roundw
          case rel => exact ⟨k - 1, P ++ [zs], q2, by simp; omega, by go_num, HO9.out, HB9, HR9.out, by simp; omega, HG9.out, hs9'⟩
          case measure => simp [intOf]; omega
    · obtain rfl : k = 0 := by omega
      have HBD : Hid (PicBd P) := ⟨by omega, fun ys hy => by rw [HBits.out ys hy]; exact hm2⟩
      by_cases hn0 : no = 0
      · subst hn0
        have HL := keptI HO.out.ls.at
        have HBl := keptI (below_of_grown (grown_new HG1.out HG.out (by rw [HRq.out]; omega)))
        go_wp2
        go_ret
        exact ⟨_, _, _, P, rfl, HL.out, HBD.out, HBl.out⟩
      · have dn : decide (0 < (no : Int)) = true := decide_eq_true (by omega)
        have q0 : (0 : Int) < (no : Int) := by omega
        go_wp2_with fail
        refine (pick_any wo R R L q _ HRD.out (by omega) (by omega) (by omega)).mono ?_
        rintro e w6 ⟨c, rfl, hc, hrd6, hgr6⟩
        have hO6 := HO.out.overRI hgr6 (by omega)
        have HB6 := keptI (below_of_grown (grown_new HG1.out (grown_trans HG.out hgr6) (by rw [HRq.out]; omega)))
        have hs6 := hgr6.size
        obtain ⟨g, b, d, rfl, hpl, c0, hI, hb1, hg1, hglt, hblt, hfz, hgb, hput⟩ := hO6.first (by omega)
        have hlen : (P.getD 0 []).length = m := HBits.out _ (by rw [List.getD_eq_getElem?_getD, List.getElem?_eq_getElem (by omega), Option.getD_some]; exact List.getElem_mem _)
        obtain ⟨zs, hzs⟩ : ∃ zs, P.getD 0 [] = zs := ⟨_, rfl⟩
        rw [hzs] at hlen c0 hI
        rw [hlen] at c0 hI
        have HLEN := Lib.hid hlen
        have HI := keptI hI
        have HPUT := keptI hput
        have HO6 := keptI hO6
        have hcap : m ≤ d ∧ d ≤ 9223372036854775807 := by
          obtain ⟨_, _, e3, y1, y2, _⟩ := hI.at
          injection e3 with _ _ e5
          subst e5
          exact ⟨by omega, y2⟩
        obtain ⟨hcap1, hcap2⟩ := hcap
        have q00 : 0 < no := by omega
        have q1 : (0 : Int) < (m : Int) := by omega
        have q11 : 0 < m := by omega
        have hwb : w.heap.size ≤ g := by rw [HRq.out]; omega
        have hwb2 : w.heap.size ≤ b := by rw [HRq.out]; omega
        clear hrd6 hgr6 hlen hzs hI hput hO6 HO HG HRD hpl
        by_cases k0 : c = 0
        · subst k0
          have HFIN : Hid (∀ u ys, IntsAt (w6.setCell ⟨g, 0, none⟩ u) u ys → ys.length ≤ 13 → ListsAt (w6.setCell ⟨g, 0, none⟩ u) (.slice (some ⟨g, 0, none⟩) no co) (P.set 0 ys) ∧ PicBd (P.set 0 ys) ∧ Below w.heap.size w (w6.setCell ⟨g, 0, none⟩ u)) := fun u ys hu hy =>
            ⟨HPUT.out _ u ys (World.cell?_setCell_same w6 _ _ c0) hu (fun i hi => World.cell?_setCell_other w6 ⟨g, 0, none⟩ ⟨g, i, none⟩ _ (fun e3 => by injection e3; omega)) (fun k _ _ _ h4 => heap_setCell_other w6 ⟨g, 0, none⟩ k _ (by simp; omega)), HBD.out.set hy, HB6.out.setCell (p := ⟨g, 0, none⟩) hwb u⟩
          by_cases hd1 : d = 1
          · subst hd1
            obtain rfl : m = 1 := by omega
            obtain ⟨h1, h2, h3⟩ := HFIN.out (.slice (some ⟨b, 0, none⟩) 0 0) [] ⟨_, _, rfl, Nat.le_refl _, by omega, .inl rfl⟩ (by simp)
            have H1 := keptI h1
            have H2 := keptI h2
            have H3 := keptI h3
            clear h1 h2 h3 HFIN HPUT
            go_wp2
            go_ret
            exact ⟨_, _, _, _, rfl, H1.out, H2.out, H3.out⟩
          · have hI1 : IntsAt (w6.setCell ⟨g, 0, none⟩ (.slice (some ⟨b, 1, none⟩) (m - 1) (d - 1))) (.slice (some ⟨b, 1, none⟩) (m - 1) (d - 1)) (zs.drop 1) := by
              have hx := HI.out.at
              obtain ⟨a9, c9, e9, y1, y2, y3⟩ := hx
              injection e9 with e91 e92 e93
              subst e91 e93
              refine ⟨_, _, by rw [List.length_drop, HLEN.out], by rw [List.length_drop, HLEN.out]; omega, by omega, ?_⟩
              by_cases hz : zs.drop 1 = []
              · exact .inl hz
              · refine .inr ⟨b, 1, rfl, fun i hi => ?_⟩
                rw [List.length_drop] at hi
                rcases y3 with y3 | ⟨g9, o9, e9, y3⟩
                · rw [y3] at hi; simp at hi
                · injection e9 with e9
                  injection e9 with e9 e10 _
                  subst e9 e10
                  have h5 := y3 (1 + i) (by omega)
                  rw [Nat.zero_add] at h5
                  rw [World.cell?_setCell_other w6 ⟨g, 0, none⟩ ⟨b, 1 + i, none⟩ _ (fun e3 => by injection e3 with e3 _; exact hgb e3), h5]
                  rw [List.getD_eq_getElem?_getD, List.getD_eq_getElem?_getD, List.getElem?_drop]
            obtain ⟨h1, h2, h3⟩ := HFIN.out _ (zs.drop 1) hI1 (by rw [List.length_drop]; have := HLEN.out; omega)
            have H1 := keptI h1
            have H2 := keptI h2
            have H3 := keptI h3
            clear h1 h2 h3 hI1 HFIN HPUT
            go_wp2
            go_ret
            exact ⟨_, _, _, _, rfl, H1.out, H2.out, H3.out⟩
        · have e0 : ((c : Int) == 0) = false := by simp; omega
          by_cases k1 : c = 1
          · subst k1
            have hnth := HO6.out.nth (i := 0) q00
            obtain ⟨g5, b5, d5, e5, hp5, c5, hI5, hb5, hb5', hset5⟩ := hnth
            injection e5 with e5
            injection e5 with e5 _
            subst e5
            rw [c0] at c5
            injection c5 with c5
            injection c5 with c51 c52 c53
            injection c51 with c51
            injection c51 with c51 _
            subst c51 c53
            have hlz : (P.getD 0 []).length = m := c52.symm
            rw [hlz] at hset5
            have hl2 : (zs.set 0 64).length = m := by rw [List.length_set]; exact HLEN.out
            have hO9 := hset5 (w6.setCell ⟨b, 0, none⟩ (.int .i64 64)) (zs.set 0 64) hl2 (HI.out.store HLEN.out 0 64) (HI.out.stored' HLEN.out 0 (.int .i64 64))
            have HL9 := keptI hO9.ls.at
            have HBD9 : Hid (PicBd (P.set 0 (zs.set 0 64))) := HBD.out.set (by omega)
            have HB9 := keptI (HB6.out.setCell (p := ⟨b, 0, none⟩) hwb2 (.int .i64 64))
            have c0z := HI.out.cell HLEN.out q11
            have f0z := HI.out.free HLEN.out 0
            obtain ⟨z0, hz0⟩ : ∃ z0, zs.getD 0 0 = z0 := ⟨_, rfl⟩
            rw [hz0] at c0z
            clear hI5 hset5 hlz hl2 hO9 hp5 c52 hz0 e0
            go_wp2
            go_ret
            exact ⟨_, _, _, _, rfl, HL9.out, HBD9.out, HB9.out⟩
          · have e1 : ((c : Int) == 1) = false := by simp; omega
            have HLL := keptI HO6.out.ls.at
            clear HPUT
            go_wp2
            go_ret
            exact ⟨_, _, _, _, rfl, HLL.out, HBD.out, HB6.out⟩
end Go.Proofs.Ytmmgeplhaooknaa
