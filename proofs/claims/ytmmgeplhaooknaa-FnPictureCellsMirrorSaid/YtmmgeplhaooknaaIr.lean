
/- CellsPicture in the model. -/
import Derived.Test.YtmmgeplhaooknaaIq
import Derived.Test.YtmmgeplhaooknaaIm
import Derived.Test.YtmmgeplhaooknaaVal
import Derived.Deep.RegionHeld3
import Derived.IntWalk
namespace Go.Proofs.Ytmmgeplhaooknaa
open Go.RowKit

theorem new_twoI {w : World} {t : TypeId} {y z : Int} : ∀ j u, [Value.int .i64 y, Value.int .i64 z][j]? = some u → (w.alloc (.cells #[.int .i64 y, .int .i64 z] t)).cell? ((⟨w.heap.size, 0, none⟩ : Addr).add j) = some u := by
  intro j u hj
  match j, hj with
  | 0, hj => simp at hj; subst hj; simp [Addr.add]
  | 1, hj => simp at hj; subst hj; simp [Addr.add]
theorem two_cellI {y z : Int} : ∀ u ∈ [Value.int .i64 y, Value.int .i64 z], u.oneCell' = true := by
  intro u hu
  simp at hu
  rcases hu with rfl | rfl <;> rfl
theorem OwnInts.snoc2I {w : World} {base : Nat} {v : Value} {zs : List Int} {y z : Int} (h : w.ownsRow base 3 1 v (zs.length + 2) (ints zs ++ [.int .i64 y, .int .i64 z])) : OwnInts w base v (zs ++ [y, z]) := by
  unfold OwnInts
  rw [show ints (zs ++ [y, z]) = ints zs ++ [.int .i64 y, .int .i64 z] from by simp [ints], List.length_append]
  exact h
theorem s_bitAt (c k : Nat) (w : World) (hc : c ≤ 63) (hk : k ≤ 6) :
    Calls Try.prog 59 #[.int .i64 (c : Int), .int .i64 (k : Int)] w fun e w' => e = .returned (.int .i64 ((c / 2 ^ k % 2 : Nat) : Int)) ∧ w = w' := by
  go_enter Try.func59, Try.ntmps59
  go_wp2
  go_loop [0, 5] (fun x i => ∃ q y : Nat, q ≤ k ∧ i = .int .i64 q ∧ x = .int .i64 y ∧ y ≤ 63 ∧ Hid (c / 2 ^ q = y)) (fun _ i => k - (intOf i).toNat)
  case atStart => exact ⟨0, c, Nat.zero_le _, rfl, rfl, hc, by show _ = _; simp⟩
  case round =>
    obtain ⟨q, y, hq, rfl, rfl, hy, HY⟩ := hrel
    by_cases hlt : q < k
    · have HY2 : Hid (c / 2 ^ (q + 1) = y / 2) := by show _ = _; rw [Nat.pow_succ, ← Nat.div_div_eq_div_mul, HY.out]
      clear HY
      go_wp2
      go_round
      case rel => exact ⟨q + 1, y / 2, by omega, by go_num, by go_num, by omega, HY2⟩
      case measure => simp [intOf]; omega
    · obtain rfl : q = k := by omega
      have HV : Hid (((c / 2 ^ q % 2 : Nat) : Int) = (y : Int) % 2) := by show _ = _; rw [HY.out]; simp
      clear HY
      go_wp2
      go_ret
      exact ⟨ret_intI HV.out.symm, rfl⟩
theorem OwnInts.isSliceI {w : World} {base : Nat} {v : Value} {zs : List Int} (h : OwnInts w base v zs) : ∃ a n c, v = .slice a n c := by
  obtain ⟨_, _, e, _⟩ := h.at
  exact ⟨_, _, _, e⟩
theorem row_valid {zs : List Int} {l : Nat} (h1 : zs.length = l) (h2 : l ≤ 12) : ValidL zs ↔ RowOk zs l 63 := by
  subst h1
  constructor
  · intro h
    refine ⟨rfl, fun j hj => ?_⟩
    have := h.2 (zs.getD j 0) (by rw [List.getD_eq_getElem?_getD, List.getElem?_eq_getElem hj, Option.getD_some]; exact List.getElem_mem hj)
    omega
  · intro h
    refine ⟨by omega, fun z hz => ?_⟩
    obtain ⟨j, hj, rfl⟩ := List.getElem_of_mem hz
    have := h.2 j hj
    rw [List.getD_eq_getElem?_getD, List.getElem?_eq_getElem hj, Option.getD_some] at this
    omega
theorem cp_at (f : Nat → Nat → Int) (k y q : Nat) (hy : y < 3) : cpF f (3 * k + y) (2 * q) = (((f k q).toNat / 2 ^ y % 2 : Nat) : Int) ∧ cpF f (3 * k + y) (2 * q + 1) = (((f k q).toNat / 2 ^ (y + 3) % 2 : Nat) : Int) := by
  unfold cpF spotOf
  have e1 : (3 * k + y) / 3 = k := by omega
  have e2 : (2 * q) / 2 = q := by omega
  have e3 : (2 * q + 1) / 2 = q := by omega
  have e4 : (3 * k + y) % 3 + 3 * ((2 * q) % 2) = y := by omega
  have e5 : (3 * k + y) % 3 + 3 * ((2 * q + 1) % 2) = y + 3 := by omega
  rw [e1, e2, e3, e4, e5]
  exact ⟨rfl, rfl⟩
set_option maxHeartbeats 8000000 in
theorem sl_CellsPicture (w : World) (v : Value) (L R : List (List Int)) (hx : ListsAt w v L) (hR : CellsPicIs L R) :
    Calls Try.prog 32 #[v] w fun e w' => PlOut R w e w' := by
  obtain ⟨i0, hi, hz0, hz1, hz2⟩ := info_parts infoInt
  have HR := keptI hR
  obtain ⟨a, n, cp, rfl, hn, x1, x2, x3⟩ := hx.partsI
  have HN := Lib.hid hn
  have HX3 := keptI x3
  clear hx hR hn x3
  by_cases hn8 : 1 ≤ n ∧ n ≤ 8
  · rcases HX3.out with rfl | ⟨g, off, rfl, x3⟩
    · omega
    obtain ⟨u0, c00, hu0⟩ := x3 0 (by omega)
    rw [Nat.add_zero] at c00
    obtain ⟨L0, hr0⟩ : ∃ L0, L.getD 0 [] = L0 := ⟨_, rfl⟩
    rw [hr0] at hu0
    obtain ⟨a0, m, cp0, rfl, hm0, _, z2, _⟩ := hu0.partsI
    have hwm : wdt L = m := by unfold wdt; rw [hr0, hm0]
    have HW := Lib.hid hwm
    have HC00 := keptI c00
    have HY := keptI x3
    obtain ⟨f, hf⟩ : ∃ f : Nat → Nat → Int, f = cpF (px L) := ⟨_, rfl⟩
    have HF := Lib.hid hf
    have HZ : Hid (BlockOk L 8 12 63 → R = gridOf (3 * n) (m * 2) f) := fun h => by rw [HR.out.yes h, hf, HN.out, hwm, Nat.mul_comm n 3]
    have HNO : Hid (¬ BlockOk L 8 12 63 → R = []) := fun h => HR.out.no h
    obtain ⟨hn1, hn2⟩ := hn8
    have q0 : (0 : Int) < (n : Int) := by omega
    have hal : Below w.heap.size w (w.alloc (.cells #[] 26)) := (Below.refl _ _).alloc (Nat.le_refl _) _
    have HO0 : Hid (OwnLL (w.alloc (.cells #[] 26)) w.heap.size (w.alloc (.cells #[] 26)).heap.size (.slice (some ⟨w.heap.size, 0, none⟩) 0 0) (gridOf (3 * 0) (m * 2) f)) := OwnLL.madeI w w.heap.size (Nat.le_refl _)
    have HA0 := keptI hal
    clear hr0 hm0 hu0 hwm hf hal c00 x3
    go_enter Try.func32, Try.ntmps32
    go_wp2_with fail
    refine (inRange_yes (n : Int) 1 8 w (by omega) (by omega)).mono ?_
    rintro e w' ⟨rfl, rfl⟩
    go_wp2
    go_loopw [3, 4] (fun o i wr => ∃ k : Nat, k ≤ n ∧ i = .int .i64 k ∧ OwnLL wr w.heap.size wr.heap.size o (gridOf (3 * k) (m * 2) f) ∧ Below w.heap.size w wr ∧ Hid (RowsTo L m 63 k) ∧ (0 < k → 1 ≤ m ∧ m ≤ 12)) (fun _ i _ => n - (intOf i).toNat)
    case atStart => exact ⟨0, Nat.zero_le _, rfl, HO0.out, HA0.out, RowsTo.zero _ _ _, fun h => absurd h (by omega)⟩
    case round =>
      clear HO0 HA0
      obtain ⟨k, hk, rfl, hO, hB, HRT, hkm⟩ := hrel
      rename World => wo
      have hsz := hB.size
      have HO := keptI hO
      have HB := keptI hB
      have HKM := keptI hkm
      obtain ⟨ao, no, co, hoo⟩ := hO.ls.isSlice
      subst hoo
      clear hO hkm
      by_cases hlt : k < n
      · obtain ⟨u, c1, hu⟩ := HY.out k hlt
        obtain ⟨zs, hzs⟩ : ∃ zs, L.getD k [] = zs := ⟨_, rfl⟩
        rw [hzs] at hu
        have HZS := Lib.hid hzs
        have HU := keptI hu
        obtain ⟨a2, l, cp2, rfl, hl, _, y2, y3⟩ := hu.partsI
        have HL := Lib.hid hl
        have HY3 := keptI y3
        have HC1 := keptI c1
        have c1 := (hB.cell (World.block_lt_of_cell? w _ c1)).trans c1
        have c00 := (hB.cell (World.block_lt_of_cell? w _ HC00.out)).trans HC00.out
        have HUo := keptI (HU.out.below hB)
        clear hu hzs hl y3 hB
        have HROW : Hid (BlockOk L 8 12 63 → l = m ∧ 1 ≤ l ∧ l ≤ 12 ∧ RowOk zs l 63) := fun h => by
          have h1 := h.2.2 k (by rw [HN.out]; exact hlt)
          have h2 := h.2.1
          have e : (L.getD 0 []).length = m := HW.out
          rw [e] at h1 h2
          rw [HZS.out, HL.out] at h1
          have hrow : RowOk zs l 63 := ⟨HL.out, fun j hj => by have := h1.2 j (by omega); unfold px at this; rw [HZS.out] at this; exact this⟩
          exact ⟨h1.1, by omega, by omega, hrow⟩
        by_cases h1 : 1 ≤ l ∧ l ≤ 12
        · have HL1 : Hid (∀ q, Calls Try.prog 57 #[.int .i64 (l : Int), .int .i64 1, .int .i64 12] (wo.drewN q) fun e w' => e = .returned (.bool true) ∧ w' = wo.drewN q) := fun q => (inRange_yes (l : Int) 1 12 (wo.drewN q) (by omega) (by omega)).mono fun _ _ ⟨h, k⟩ => ⟨h, k.symm⟩
          by_cases h2 : l = m
          · subst h2
            by_cases h3 : ValidL zs
            · have HVC : Hid (∀ q, Calls Try.prog 58 #[.slice a2 l cp2] (wo.drewN q) fun e w' => e = .returned (.bool true) ∧ w' = wo.drewN q) := fun q => (s_validCells (wo.drewN q) _ zs (HUo.out.drewN q)).mono fun _ _ ⟨h, k⟩ => ⟨by rw [h, decide_eq_true h3], k.symm⟩
              have HROK : Hid (RowOk zs l 63) := (row_valid HL.out (by omega)).1 h3
              obtain ⟨h11, h12⟩ := h1
              have q1 : (0 : Int) ≤ (k : Int) := by omega
              have q2 : (k : Int) < (n : Int) := by omega
              clear h3
              go_wp2_with fail
              go_quiet (first | (go_at_call 57; with_reducible exact Calls.quiet_of_same (HL1.out _)) | (go_at_call 58; with_reducible exact Calls.quiet_of_same (HVC.out _)))
              go_wp2
              clear c1 c00
              go_loopw [3, 5] (fun o i wr => ∃ y : Nat, y ≤ 3 ∧ i = .int .i64 y ∧ OwnLL wr w.heap.size wr.heap.size o (gridOf (3 * k + y) (l * 2) f) ∧ Below w.heap.size w wr) (fun _ i _ => 3 - (intOf i).toNat)
              case atStart => exact ⟨0, by omega, rfl, HO.out, below_drewNI HB.out _⟩
              case round =>
                clear HO HB
                obtain ⟨y, hy, rfl, hO, hB⟩ := hrel
                rename World => wp
                have hszp := hB.size
                have HO := keptI hO
                have HB := keptI hB
                obtain ⟨ao, no, co, hoo⟩ := hO.ls.isSlice
                subst hoo
                clear hO hB
                by_cases hlt3 : y < 3
                · have d3 : decide ((y : Int) < 3) = true := decide_eq_true (by omega)
                  have hal : Below wp.heap.size wp (wp.alloc (.cells #[] 3)) := (Below.refl _ _).alloc (Nat.le_refl _) _
                  have HI0 : Hid (OwnInts (wp.alloc (.cells #[] 3)) wp.heap.size (.slice (some ⟨wp.heap.size, 0, none⟩) 0 0) (rowOf (2 * 0) (f (3 * k + y)))) := OwnInts.made _ _ (Nat.le_refl _)
                  have HA1 := keptI hal
                  clear hal
                  go_wp2
                  go_loopw [6, 7] (fun r j wx => ∃ q : Nat, q ≤ l ∧ j = .int .i64 q ∧ OwnInts wx wp.heap.size r (rowOf (2 * q) (f (3 * k + y))) ∧ Below wp.heap.size wp wx) (fun _ j _ => l - (intOf j).toNat)
                  case atStart => exact ⟨0, Nat.zero_le _, rfl, HI0.out, HA1.out⟩
                  case round =>
                    clear HI0 HA1
                    obtain ⟨q, hq, rfl, hI, hb⟩ := hrel
                    have hsx := hb.size
                    have hbw := HB.out.trans (hb.mono hszp)
                    have HBW := keptI hbw
                    have c1 := (hbw.cell (World.block_lt_of_cell? w _ HC1.out)).trans HC1.out
                    have hrl := rowOf_len (2 * q) (f (3 * k + y))
                    obtain ⟨P, hP⟩ : ∃ P, rowOf (2 * q) (f (3 * k + y)) = P := ⟨_, rfl⟩
                    rw [hP] at hI hrl
                    have HP2 := Lib.hid hP
                    have HI := keptI hI
                    have HBx := keptI hb
                    obtain ⟨ar, nr, cr, hrr⟩ := hI.isSliceI
                    subst hrr
                    clear hP hI hb
                    by_cases hqm : q < l
                    · rcases HY3.out with hl0 | ⟨g2, off2, hg2, y4⟩
                      · omega
                      subst hg2
                      have cx := (hbw.cell (World.block_lt_of_cell? w _ (y4 q hqm))).trans (y4 q hqm)
                      have hcel := HROK.out.2 q hqm
                      obtain ⟨c, hc⟩ : ∃ c : Nat, zs.getD q 0 = (c : Int) := ⟨(zs.getD q 0).toNat, by omega⟩
                      rw [hc] at cx hcel
                      have hpx : px L k q = (c : Int) := by unfold px; rw [HZS.out, hc]
                      have hcp := cp_at (px L) k y q hlt3
                      rw [← HF.out, hpx, Int.toNat_natCast] at hcp
                      have hc63 : c ≤ 63 := by omega
                      have hb1 := s_bitAt c y wr hc63 (by omega)
                      obtain ⟨v1, hv1⟩ : ∃ v1, c / 2 ^ y % 2 = v1 := ⟨_, rfl⟩
                      obtain ⟨v2, hv2⟩ : ∃ v2, c / 2 ^ (y + 3) % 2 = v2 := ⟨_, rfl⟩
                      rw [hv1, hv2] at hcp
                      have HB1 : Hid (∀ wy, Calls Try.prog 59 #[.int .i64 (c : Int), .int .i64 (y : Int)] wy fun e w' => e = .returned (.int .i64 (v1 : Int)) ∧ wy = w') := fun wy => by have := s_bitAt c y wy hc63 (by omega); rw [hv1] at this; exact this
                      have HB2 : Hid (∀ wy, Calls Try.prog 59 #[.int .i64 (c : Int), .int .i64 ((y : Int) + 3)] wy fun e w' => e = .returned (.int .i64 (v2 : Int)) ∧ wy = w') := fun wy => by have := s_bitAt c (y + 3) wy hc63 (by omega); rw [hv2] at this; exact this
                      have HNEW : Hid (rowOf (2 * (q + 1)) (f (3 * k + y)) = P ++ [(v1 : Int), (v2 : Int)]) := by
                        show _ = _
                        rw [show 2 * (q + 1) = 2 * q + 1 + 1 by omega, rowOf_succ, rowOf_succ, HP2.out, hcp.1, hcp.2, List.append_assoc]; rfl
                      have u1 : IntKind.i64.wrap ((y : Int) + 3) = (y : Int) + 3 := IntWalk.i64_in _ (by omega)
                      have HKw : Hid (∀ wy, Below w.heap.size w wy → wy.cell? ⟨g, off + k, none⟩ = some (.slice (some ⟨g2, off2, none⟩) l cp2) ∧ wy.cell? ⟨g2, off2 + q, none⟩ = some (.int .i64 (c : Int))) := fun wy h =>
                        ⟨(h.cell (World.block_lt_of_cell? w _ HC1.out)).trans HC1.out, by have h9 := (h.cell (World.block_lt_of_cell? w _ (y4 q hqm))).trans (y4 q hqm); rw [hc] at h9; exact h9⟩
                      have HBD : Hid (Below w.heap.size w wr.drew) := hbw.drew
                      have hszr := hbw.size
                      have HBA : Hid (Below w.heap.size w (wr.alloc (.cells #[.int .i64 (v1 : Int), .int .i64 (v2 : Int)] 3)).drew) := (hbw.alloc hszr _).drew
                      have HO9 : Hid ((wr.alloc (.cells #[.int .i64 (v1 : Int), .int .i64 (v2 : Int)] 3)).drew.ownsRow wp.heap.size 3 1 (.slice ar nr cr) P.length (ints P)) := HI.out.below ((Below.refl _ _).alloc (Nat.le_refl _) _).drew
                      have HS9 : Hid (wp.heap.size ≤ (wr.alloc (.cells #[.int .i64 (v1 : Int), .int .i64 (v2 : Int)] 3)).drew.heap.size) := by show _ ≤ (wr.alloc _).heap.size; rw [World.size_alloc]; omega
                      have HNL : Hid (P.length + 2 ≤ maxLen ∧ (P.length + 2) * 8 ≤ 140737488355328) := ⟨by unfold maxLen; omega, by omega⟩
                      have q3 : (0 : Int) ≤ (q : Int) := by omega
                      have q4 : (q : Int) < (l : Int) := by omega
                      have HBWr := keptI hbw
                      clear hc hpx hcp hv1 hv2 hcel hb1 hbw y4 hrl
                      go_wp2_with fail
                      go_region_held3 (fun wy => wy.cell? ⟨g, off + k, none⟩ = some (.slice (some ⟨g2, off2, none⟩) l cp2) ∧ wy.cell? ⟨g2, off2 + q, none⟩ = some (.int .i64 (c : Int))) (first | assumption | exact HKw.out _ HBWr.out | exact HKw.out _ HBD.out | exact HKw.out _ HBA.out | exact HK9) (first | (go_at_call 59; (with_reducible refine (HB1.out _).mono ?_); rintro e w2 ⟨rfl, rfl⟩) | (go_at_call 59; (with_reducible refine (HB2.out _).mono ?_); rintro e w2 ⟨rfl, rfl⟩) | ((rw [if_pos (by rfl)]); (refine wp_append_own _ (.tmp 60) (.tmp 80) 26 rfl wp.heap.size 3 i0 (.int .i64 0) 1 8 Try.underlying26 hi hz0 hz1 hz2 rfl (by decide) (.slice ar nr cr) P.length (ints P) rfl HO9.out ⟨wr.heap.size, 0, none⟩ 2 2 [.int .i64 (v1 : Int), .int .i64 (v2 : Int)] rfl rfl new_twoI two_cellI HNL.out.1 HNL.out.2 HS9.out ?_); intro v7 w7 hown7 hgrow7 hnil7; have hgrow8 : (wr.alloc (.cells #[.int .i64 (v1 : Int), .int .i64 (v2 : Int)] 3)).grownBy w7 (Value.slice ar nr cr).ownBlock := ⟨hgrow7.os, hgrow7.tape, hgrow7.output, hgrow7.size, hgrow7.block⟩; have hB7 := below_append HBx.out hsx HI.out hgrow8; have HK9 := HKw.out w7 (HB.out.trans (hB7.mono hszp))))
                      all_goals
                        have hR1 := OwnInts.snoc2I hown7
                        rw [← HNEW.out] at hR1
                        have HR1 := keptI hR1
                        have HR2 := keptI hB7
                        clear hown7 hgrow7 hgrow8 hR1 hB7 hnil7 HO9 HS9
                        obtain ⟨c9, c9'⟩ := HK9
                        go_wp2
                        go_roundw
                        case rel => exact ⟨q + 1, by omega, by go_num, HR1.out, HR2.out⟩
                        case measure => simp [intOf]; omega
                    · obtain rfl : q = l := by omega
                      have hbw' := keptI hbw
                      obtain ⟨b6, c6, hv6, hb6⟩ := HI.out.shape (by omega)
                      injection hv6 with hv6 hv7 hv8
                      subst hv6 hv7 hv8
                      have HO3 := keptI (HO.out.below HBx.out (Nat.le_refl _))
                      have hl := gridOf_len (3 * k + y) (q * 2) f
                      obtain ⟨G, hG⟩ : ∃ G, gridOf (3 * k + y) (q * 2) f = G := ⟨_, rfl⟩
                      have HG := Lib.hid hG
                      rw [hG] at HO3 hl
                      have hal : Below wr.heap.size wr (wr.alloc (.cells #[.slice (some ⟨b6, 0, none⟩) P.length cr] 26)) := (Below.refl _ _).alloc (Nat.le_refl _) _
                      have HO8 := keptI (HO3.out.below hal hsx)
                      have HE8 := keptI (HI.out.below hal)
                      have HC8 : Hid ((wr.alloc (.cells #[.slice (some ⟨b6, 0, none⟩) P.length cr] 26)).cell? ⟨wr.heap.size, 0, none⟩ = some (.slice (some ⟨b6, 0, none⟩) P.length cr)) := by
                        show _ = _
                        rw [cell_of_row _ wr.heap.size 0 _ _ _ (heap_alloc_new wr _)]; rfl
                      have hl8 : G.length ≤ 100000 := by omega
                      have HNEW : Hid (gridOf (3 * k + (y + 1)) (q * 2) f = G ++ [P]) := by
                        show _ = _
                        rw [← Nat.add_assoc, gridOf_succ, HG.out, Nat.mul_comm q 2, HP2.out]
                      clear hal hG hl hrl hbw
                      go_wp2_with (at_builtin; refine wpList_append_ll rfl _ _ rfl w.heap.size wp.heap.size wr.heap.size b6 P.length cr P rfl rfl HO8.out HC8.out HE8.out rfl hl8 hszp ?_)
                      intro v9 w9 hown9 hgrow9
                      rw [← HNEW.out] at hown9
                      have HO9 := keptI hown9
                      have HB9 := keptI (grown_llI hbw'.out (by omega) HO3.out hgrow9)
                      clear hown9 hgrow9
                      set_option maxRecDepth 20000 in
                      go_wp2
                      go_roundw
                      case rel => exact ⟨y + 1, by omega, by go_num, HO9.out, HB9.out⟩
                      case measure => simp [intOf]; omega
                · obtain rfl : y = 3 := by omega
                  have HO9 : Hid (OwnLL wp w.heap.size wp.heap.size (.slice ao no co) (gridOf (3 * (k + 1)) (l * 2) f)) := by show OwnLL _ _ _ _ _; rw [Nat.mul_add]; exact HO.out
                  have HRT2 : Hid (RowsTo L l 63 (k + 1)) := HRT.out.succ (by rw [HZS.out]; exact HROK.out)
                  set_option maxRecDepth 20000 in
                  go_wp2
                  go_roundw
                  case rel => exact ⟨k + 1, by omega, by go_num, HO9.out, HB.out, HRT2, fun _ => ⟨h11, h12⟩⟩
                  case measure => simp [intOf]; omega
            · have HVC : Hid (∀ q, Calls Try.prog 58 #[.slice a2 l cp2] (wo.drewN q) fun e w' => e = .returned (.bool false) ∧ w' = wo.drewN q) := fun q => (s_validCells (wo.drewN q) _ zs (HUo.out.drewN q)).mono fun _ _ ⟨h, k⟩ => ⟨by rw [h, decide_eq_false h3], k.symm⟩
              have HT : Hid (R = []) := HNO.out fun h => h3 ((row_valid HL.out (by omega)).2 (HROW.out h).2.2.2)
              have q1 : (0 : Int) ≤ (k : Int) := by omega
              have q2 : (k : Int) < (n : Int) := by omega
              clear h3
              go_wp2_with fail
              go_quiet (first | (go_at_call 57; with_reducible exact Calls.quiet_of_same (HL1.out _)) | (go_at_call 58; with_reducible exact Calls.quiet_of_same (HVC.out _)))
              go_wp2
              go_ret
              exact plOut_nil HT.out (below_drewNI HB.out _)
          · have d2 : ((l : Int) == (m : Int)) = false := by simp; omega
            have d3 : ((l : Int) != (m : Int)) = true := by simp; omega
            have HT : Hid (R = []) := HNO.out fun h => h2 (HROW.out h).1
            have q1 : (0 : Int) ≤ (k : Int) := by omega
            have q2 : (k : Int) < (n : Int) := by omega
            go_wp2_with fail
            go_quiet (first | (go_at_call 57; with_reducible exact Calls.quiet_of_same (HL1.out _)))
            go_wp2
            go_ret
            exact plOut_nil HT.out (below_drewNI HB.out _)
        · have HL1 : Hid (∀ q, Calls Try.prog 57 #[.int .i64 (l : Int), .int .i64 1, .int .i64 12] (wo.drewN q) fun e w' => e = .returned (.bool false) ∧ w' = wo.drewN q) := fun q => (inRange_no (l : Int) 1 12 (wo.drewN q) (by omega)).mono fun _ _ ⟨h, k⟩ => ⟨h, k.symm⟩
          have HT : Hid (R = []) := HNO.out fun h => h1 ⟨(HROW.out h).2.1, (HROW.out h).2.2.1⟩
          have q1 : (0 : Int) ≤ (k : Int) := by omega
          have q2 : (k : Int) < (n : Int) := by omega
          go_wp2_with fail
          go_quiet (first | (go_at_call 57; with_reducible exact Calls.quiet_of_same (HL1.out _)))
          go_wp2
          go_ret
          exact plOut_nil HT.out (below_drewNI HB.out _)
      · obtain rfl : k = n := by omega
        have HOK : Hid (BlockOk L 8 12 63) := by
          have e : (L.getD 0 []).length = m := HW.out
          exact ⟨by rw [HN.out]; exact ⟨hn1, hn2⟩, by rw [e]; exact HKM.out (by omega), by rw [e, HN.out]; exact HRT.out⟩
        have HZ2 := keptI (HZ.out HOK.out)
        clear hB
        go_wp2
        go_ret
        exact ⟨_, _, _, rfl, by rw [HZ2.out]; exact HO.out, HB.out⟩
  · have HT : Hid (R = []) := HR.out.no fun h => by have := h.1; rw [HN.out] at this; exact hn8 this
    have hn8' : (n : Int) < 1 ∨ 8 < (n : Int) := by omega
    clear hn8
    go_enter Try.func32, Try.ntmps32
    go_wp2_with fail
    refine (inRange_no (n : Int) 1 8 w hn8').mono ?_
    rintro e w' ⟨rfl, rfl⟩
    go_wp2
    go_ret
    exact plOut_nil HT.out (Below.refl _ _)
theorem s_CellsPicture (w : World) (v : Value) (L R : List (List Int)) (hx : ListsAt w v L) (hR : CellsPicIs L R) :
    Calls Try.prog 32 #[v] w fun e w' => PsOut R w e w' := (sl_CellsPicture w v L R hx hR).mono fun _ _ h => h.ps
end Go.Proofs.Ytmmgeplhaooknaa
