
/- The lines of a grid: gridLine of the model. -/
import Derived.Test.YtidjnhlioebchaaZl
namespace Go.Proofs.Ytidjnhlioebchaa
open Go.RowKit

theorem new_twoZ {w : World} {t : TypeId} {y z : Int} : ∀ j u, [Value.int .i64 y, Value.int .i64 z][j]? = some u → (w.alloc (.cells #[.int .i64 y, .int .i64 z] t)).cell? ((⟨w.heap.size, 0, none⟩ : Addr).add j) = some u := by
  intro j u hj
  rw [Addr.add_lit, cell_of_row _ w.heap.size (0 + j) _ _ _ (heap_alloc_new w _)]
  match j with
  | 0 => simpa using hj
  | 1 => simpa using hj
  | j + 2 => simp at hj
theorem two_cellZ {y z : Int} : ∀ u ∈ [Value.int .i64 y, Value.int .i64 z], u.oneCell' = true := by
  intro u hu
  simp at hu
  rcases hu with rfl | rfl <;> rfl
set_option maxHeartbeats 4000000 in
theorem s_gridLine_z (w : World) (v u : Value) (L : List (List Int)) (Z : List Int) (n : Nat) (hx : RowP w v L) (hy : IntsAt w u Z) (hn : Hid (L.length = n)) (hz : Hid (Z.length = n)) (h5 : n ≤ 5) (hf : Hid (FitTo L Z n)) :
    Calls Try.prog 51 #[v, u] w fun e w' => WidOut (lineTo L Z n) w e w' := by
  obtain ⟨i0, hi, hz0, hz1, hz2⟩ := info_parts infoInt
  obtain ⟨a, n', cp, rfl, hn', x1, x2, x3⟩ := hx
  obtain rfl : n' = n := hn'.symm.trans hn.out
  obtain ⟨b, n'', cq, rfl, hz', y1, y2, y3⟩ := hy.partsZ
  obtain rfl : n'' = n' := hz'.symm.trans hz.out
  clear hn' hz' hy
  have HO0 : Hid (OwnInts (w.alloc (.cells #[] 3)) w.heap.size (.slice (some ⟨w.heap.size, 0, none⟩) 0 0) (lineTo L Z 0)) := OwnInts.made w w.heap.size (Nat.le_refl _)
  have HB0 : Hid (Below w.heap.size w (w.alloc (.cells #[] 3))) := (Below.refl _ _).alloc (Nat.le_refl _) _
  go_enter Try.func51, Try.ntmps51
  go_wp2
  go_loopw [5, 6, 7] (fun x i _ wr => ∃ k : Nat, k ≤ n'' ∧ i = .int .i64 k ∧ Hid (OwnInts wr w.heap.size x (lineTo L Z k)) ∧ Hid (Below w.heap.size w wr)) (fun _ i _ _ => n'' - (intOf i).toNat)
  case atStart => exact ⟨0, Nat.zero_le _, rfl, HO0, HB0⟩
  case round =>
    clear HO0 HB0
    obtain ⟨k, hk, rfl, HO, HB⟩ := hrel
    obtain ⟨ao, no, co, hs'⟩ := HO.out.isSliceZ
    subst hs'
    by_cases hlt : k < n''
    · rcases x3 with rfl | ⟨g, off, rfl, x3⟩
      · omega
      rcases y3 with rfl | ⟨gz, offz, rfl, y3⟩
      · omega
      obtain ⟨g2, off2, n2, c2, q0, hE, hl⟩ := x3 k hlt
      have q1 := y3 k hlt
      obtain ⟨zs, hzs⟩ : ∃ zs, L.getD k [] = zs := ⟨_, rfl⟩
      obtain ⟨z, hzz⟩ : ∃ z, Z.getD k 0 = z := ⟨_, rfl⟩
      have hft := hf.out k hlt
      have hln := lineTo_len hf.out k hk
      rw [hzs, hzz] at hft
      rw [hzs] at hE hl
      rw [hzz] at q1
      rw [hl] at hft
      have HLN : Hid (zs.length = n2) := hl
      have HZS : Hid (lineTo L Z (k + 1) = (lineTo L Z k ++ (if k = 0 then [] else [0, 0])) ++ zs ++ List.replicate (z.toNat - n2) 0) := by
        show (lineTo L Z k ++ (if k = 0 then [] else [0, 0])) ++ L.getD k [] ++ List.replicate ((Z.getD k 0).toNat - (L.getD k []).length) 0 = _
        rw [hzs, hzz, hl]
      obtain ⟨zn, rfl⟩ : ∃ zn : Nat, z = zn := ⟨z.toNat, by omega⟩
      have HQ0 := keptZ q0
      have HQ1 := keptZ q1
      have HE := keptZ hE
      have hsz := HB.out.size
      have H12 : Hid (zn ≤ 12 ∧ n2 ≤ zn) := ⟨by omega, by omega⟩
      clear hzs hzz hl hft hE q0 q1 x3 y3
      by_cases k0 : k = 0
      · have d0 : decide (0 < (k : Int)) = false := decide_eq_false (by omega)
        have HO3 := HO
        have K0 := keptZ k0
        have n0 : k ≤ 0 := by omega
        have n1 : decide (0 < k) = false := decide_eq_false (by omega)
        clear k0
        have HB3 := HB
        have hl3 : (lineTo L Z k).length ≤ 80 := by omega
        clear HO HB
        have HNW := Lib.hid (HE.out.below HB3.out).newsZ
        have hlz : Hid ((ints zs).length = n2 * 1) := by show _ = _; rw [ints_length, HLN.out, Nat.mul_one]
        have hn212 : n2 ≤ 12 := by have := H12.out; omega
        have hsz3 := HB3.out.size
        have q3 := (HB3.out.cell (World.block_lt_of_cell? w _ HQ0.out)).trans HQ0.out
        go_wp2_with (at_builtin; refine wpList_append_own _ rfl _ _ 27 rfl w.heap.size 3 i0 (.int .i64 0) 1 8 Try.underlying27 hi hz0 hz1 hz2 rfl (by decide) _ _ _ rfl HO3.out ⟨g2, off2, none⟩ n2 c2 (ints zs) rfl hlz.out HNW.out (ints_oneZ zs) (by unfold maxLen; omega) (by omega) hsz3 ?_)
        intro v4 w4 hown4 hgrow4 hnil4
        have hO4 := OwnInts.addAllZ hown4 (by have := HLN.out; first | omega | (simp; omega))
        have hl4 : (lineTo L Z k ++ zs).length ≤ 100 := by rw [List.length_append, HLN.out]; omega
        obtain ⟨B0, hB0⟩ : ∃ B0, lineTo L Z k ++ zs = B0 := ⟨_, rfl⟩
        have HBB := Lib.hid hB0
        rw [hB0] at hO4 hl4
        have HO4 : Hid (OwnInts w4 w.heap.size v4 (B0 ++ List.replicate 0 0)) := by show OwnInts _ _ _ _; rw [List.replicate_zero, List.append_nil]; exact hO4
        have HB4 := keptZ (HB3.out.grown hgrow4 hsz3 (fun q hq => (HO3.out.lt q hq).1))
        obtain ⟨a4, n4, c4, hv4⟩ := HO4.out.isSliceZ
        subst hv4
        have q4 := (HB4.out.cell (World.block_lt_of_cell? w _ HQ0.out)).trans HQ0.out
        clear hown4 hgrow4 hnil4 HO3 HB3 HNW hlz hO4 q3 hB0
        go_wp2
        clear q4
        go_loopw [5, 7] (fun x i wr => ∃ j : Nat, n2 + j ≤ zn ∧ i = .int .i64 ((n2 + j : Nat) : Int) ∧ Hid (OwnInts wr w.heap.size x (B0 ++ List.replicate j 0)) ∧ Hid (Below w.heap.size w wr)) (fun _ i _ => zn - (intOf i).toNat)
        case atStart => exact ⟨0, by have := H12.out; omega, rfl, HO4, HB4⟩
        case round =>
          clear HO4 HB4
          obtain ⟨j, hj, rfl, HO4, HB4⟩ := hrel
          obtain ⟨a4, n4, c4, hv4⟩ := HO4.out.isSliceZ
          subst hv4
          have q2 := (HB4.out.cell (World.block_lt_of_cell? w _ HQ1.out)).trans HQ1.out
          have hsz4 := HB4.out.size
          have hzn : zn ≤ 12 := by have := H12.out; omega
          by_cases hj2 : n2 + j < zn
          · have d1 : decide (((n2 + j : Nat) : Int) < (zn : Int)) = true := decide_eq_true (by omega)
            have hln5 : (B0 ++ List.replicate j (0 : Int)).length ≤ 200 := by rw [List.length_append, List.length_replicate]; omega
            go_wp2_with (at_builtin; refine wpList_append_own _ rfl _ _ 27 rfl w.heap.size 3 i0 (.int .i64 0) 1 8 Try.underlying27 hi hz0 hz1 hz2 rfl (by decide) _ _ _ rfl (HO4.out.below ((Below.refl _ _).alloc (Nat.le_refl _) _)) ⟨_, 0, none⟩ 1 1 [.int .i64 0] rfl rfl new_one one_cell (by unfold maxLen; omega) (by omega) (by simp; omega) ?_)
            intro v5 w5 hown5 hgrow5 _
            have hO5 : OwnInts w5 w.heap.size v5 (B0 ++ List.replicate (j + 1) 0) := by
              have := OwnInts.snoc (zs := B0 ++ List.replicate j 0) (z := 0) (by rw [List.length_append, List.length_replicate]; exact hown5)
              rw [List.append_assoc B0, ← List.replicate_succ'] at this
              exact this
            have hB5 := below_append HB4.out hsz4 HO4.out hgrow5
            have NXT := keptZ (And.intro hO5 hB5)
            clear hown5 hgrow5 hO5 hB5 HO4 HB4 hln5
            go_wp2
            go_roundw
            case rel => exact ⟨j + 1, by omega, by go_num, NXT.out.1, NXT.out.2⟩
            case measure => simp [intOf]; omega
          · have d1 : decide (((n2 + j : Nat) : Int) < (zn : Int)) = false := decide_eq_false (by omega)
            have hjj : j = zn - n2 := by omega
            have HO5 : Hid (OwnInts wr w.heap.size (.slice a4 n4 c4) (lineTo L Z (k + 1))) := by
              show OwnInts _ _ _ _
              rw [HZS.out, if_pos K0.out, List.append_nil, Int.toNat_natCast, ← hjj, HBB.out]
              exact HO4.out
            clear hjj HO4
            go_wp2
            go_roundw
            case rel => exact ⟨k + 1, by omega, by go_num, HO5, HB4⟩
            case measure => simp [intOf]; omega
      · have d0 : decide (0 < (k : Int)) = true := decide_eq_true (by omega)
        have K1 := keptZ k0
        have hln80 : (lineTo L Z k).length ≤ 78 := by omega
        go_wp2_with (at_builtin; refine wpList_append_own _ rfl _ _ 27 rfl w.heap.size 3 i0 (.int .i64 0) 1 8 Try.underlying27 hi hz0 hz1 hz2 rfl (by decide) _ _ _ rfl (HO.out.below ((Below.refl _ _).alloc (Nat.le_refl _) _)) ⟨_, 0, none⟩ 2 2 [.int .i64 0, .int .i64 0] rfl rfl new_twoZ two_cellZ (by unfold maxLen; omega) (by omega) (by simp; omega) ?_)
        intro v3 w3 hown3 hgrow3 _
        have HO3 : Hid (OwnInts w3 w.heap.size v3 (lineTo L Z k ++ [0, 0])) := OwnInts.addAllZ (ys := [0, 0]) hown3 rfl
        have HB3 := keptZ (below_append HB.out hsz HO.out hgrow3)
        have hl3 : (lineTo L Z k ++ [0, 0]).length ≤ 80 := by simp; omega
        obtain ⟨a3, n3, c3, hv3⟩ := HO3.out.isSliceZ
        subst hv3
        clear hown3 hgrow3 HO HB hln80
        have HNW := Lib.hid (HE.out.below HB3.out).newsZ
        have hlz : Hid ((ints zs).length = n2 * 1) := by show _ = _; rw [ints_length, HLN.out, Nat.mul_one]
        have hn212 : n2 ≤ 12 := by have := H12.out; omega
        have hsz3 := HB3.out.size
        have q3 := (HB3.out.cell (World.block_lt_of_cell? w _ HQ0.out)).trans HQ0.out
        go_wp2_with (at_builtin; refine wpList_append_own _ rfl _ _ 27 rfl w.heap.size 3 i0 (.int .i64 0) 1 8 Try.underlying27 hi hz0 hz1 hz2 rfl (by decide) _ _ _ rfl HO3.out ⟨g2, off2, none⟩ n2 c2 (ints zs) rfl hlz.out HNW.out (ints_oneZ zs) (by unfold maxLen; omega) (by omega) hsz3 ?_)
        intro v4 w4 hown4 hgrow4 hnil4
        have hO4 := OwnInts.addAllZ hown4 (by have := HLN.out; first | omega | (simp; omega))
        have hl4 : (lineTo L Z k ++ [0, 0] ++ zs).length ≤ 100 := by rw [List.length_append, HLN.out]; omega
        obtain ⟨B0, hB0⟩ : ∃ B0, lineTo L Z k ++ [0, 0] ++ zs = B0 := ⟨_, rfl⟩
        have HBB := Lib.hid hB0
        rw [hB0] at hO4 hl4
        have HO4 : Hid (OwnInts w4 w.heap.size v4 (B0 ++ List.replicate 0 0)) := by show OwnInts _ _ _ _; rw [List.replicate_zero, List.append_nil]; exact hO4
        have HB4 := keptZ (HB3.out.grown hgrow4 hsz3 (fun q hq => (HO3.out.lt q hq).1))
        obtain ⟨a4, n4, c4, hv4⟩ := HO4.out.isSliceZ
        subst hv4
        have q4 := (HB4.out.cell (World.block_lt_of_cell? w _ HQ0.out)).trans HQ0.out
        clear hown4 hgrow4 hnil4 HO3 HB3 HNW hlz hO4 q3 hB0
        go_wp2
        clear q4
        go_loopw [5, 7] (fun x i wr => ∃ j : Nat, n2 + j ≤ zn ∧ i = .int .i64 ((n2 + j : Nat) : Int) ∧ Hid (OwnInts wr w.heap.size x (B0 ++ List.replicate j 0)) ∧ Hid (Below w.heap.size w wr)) (fun _ i _ => zn - (intOf i).toNat)
        case atStart => exact ⟨0, by have := H12.out; omega, rfl, HO4, HB4⟩
        case round =>
          clear HO4 HB4
          obtain ⟨j, hj, rfl, HO4, HB4⟩ := hrel
          obtain ⟨a4, n4, c4, hv4⟩ := HO4.out.isSliceZ
          subst hv4
          have q2 := (HB4.out.cell (World.block_lt_of_cell? w _ HQ1.out)).trans HQ1.out
          have hsz4 := HB4.out.size
          have hzn : zn ≤ 12 := by have := H12.out; omega
          by_cases hj2 : n2 + j < zn
          · have d1 : decide (((n2 + j : Nat) : Int) < (zn : Int)) = true := decide_eq_true (by omega)
            have hln5 : (B0 ++ List.replicate j (0 : Int)).length ≤ 200 := by rw [List.length_append, List.length_replicate]; omega
            go_wp2_with (at_builtin; refine wpList_append_own _ rfl _ _ 27 rfl w.heap.size 3 i0 (.int .i64 0) 1 8 Try.underlying27 hi hz0 hz1 hz2 rfl (by decide) _ _ _ rfl (HO4.out.below ((Below.refl _ _).alloc (Nat.le_refl _) _)) ⟨_, 0, none⟩ 1 1 [.int .i64 0] rfl rfl new_one one_cell (by unfold maxLen; omega) (by omega) (by simp; omega) ?_)
            intro v5 w5 hown5 hgrow5 _
            have hO5 : OwnInts w5 w.heap.size v5 (B0 ++ List.replicate (j + 1) 0) := by
              have := OwnInts.snoc (zs := B0 ++ List.replicate j 0) (z := 0) (by rw [List.length_append, List.length_replicate]; exact hown5)
              rw [List.append_assoc B0, ← List.replicate_succ'] at this
              exact this
            have hB5 := below_append HB4.out hsz4 HO4.out hgrow5
            have NXT := keptZ (And.intro hO5 hB5)
            clear hown5 hgrow5 hO5 hB5 HO4 HB4 hln5
            go_wp2
            go_roundw
            case rel => exact ⟨j + 1, by omega, by go_num, NXT.out.1, NXT.out.2⟩
            case measure => simp [intOf]; omega
          · have d1 : decide (((n2 + j : Nat) : Int) < (zn : Int)) = false := decide_eq_false (by omega)
            have hjj : j = zn - n2 := by omega
            have HO5 : Hid (OwnInts wr w.heap.size (.slice a4 n4 c4) (lineTo L Z (k + 1))) := by
              show OwnInts _ _ _ _
              rw [HZS.out, if_neg K1.out, Int.toNat_natCast, ← hjj, HBB.out]
              exact HO4.out
            clear hjj HO4
            go_wp2
            go_roundw
            case rel => exact ⟨k + 1, by omega, by go_num, HO5, HB4⟩
            case measure => simp [intOf]; omega
    · obtain rfl : k = n'' := by omega
      go_wp2
      go_ret
      exact ⟨_, _, _, rfl, HO.out, HB.out⟩
end Go.Proofs.Ytidjnhlioebchaa
