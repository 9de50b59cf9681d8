
/- ColumnWidths in the model. -/
import Derived.Test.YtidjnhlioebchaaZh
import Derived.BigRegion
namespace Go.Proofs.Ytidjnhlioebchaa
open Go.RowKit

/-- the widths after the first i rows and k entries of the next one -/
def mixW (G : List (List (List Int))) (m i k : Nat) : List Int := (List.range m).map fun q => ((if q < k then wd G (i + 1) q else wd G i q : Nat) : Int)
theorem mixW_len (G : List (List (List Int))) (m i k : Nat) : (mixW G m i k).length = m := by simp [mixW]
theorem mixW_next (G : List (List (List Int))) (m i : Nat) : mixW G m i m = mixW G m (i + 1) 0 := by
  unfold mixW
  refine List.map_congr_left fun q hq => ?_
  have := List.mem_range.1 hq
  rw [if_pos this, if_neg (by omega)]
theorem mixW_get {G : List (List (List Int))} {m i k : Nat} (h : k < m) : (mixW G m i k).getD k 0 = (wd G i k : Int) := by
  simp [mixW, List.getD_eq_getElem?_getD, h]
theorem mixW_set {G : List (List (List Int))} {m i k : Nat} (h : k < m) : (mixW G m i k).set k (wd G (i + 1) k : Int) = mixW G m i (k + 1) := by
  refine List.ext_getElem? fun j => ?_
  by_cases e : j = k
  · subst e
    rw [List.getElem?_set_self (by rw [mixW_len]; exact h)]
    simp [mixW, h]
  · rw [List.getElem?_set_ne (by omega)]
    by_cases hj : j < m
    · simp only [mixW, List.getElem?_map, List.getElem?_range hj, Option.map_some]
      by_cases hjk : j < k
      · rw [if_pos hjk, if_pos (by omega)]
      · rw [if_neg hjk, if_neg (by omega)]
    · rw [List.getElem?_eq_none (by rw [mixW_len]; omega), List.getElem?_eq_none (by rw [mixW_len]; omega)]
theorem mixW_all {G : List (List (List Int))} {m i : Nat} (hi : G.length = i) (hm : (G.getD 0 []).length = m) : mixW G m i 0 = widths G := by
  subst hi hm
  simp [mixW, widths]
theorem mixW_zero (G : List (List (List Int))) (m : Nat) : mixW G m 0 0 = List.replicate m 0 := by
  refine List.ext_getElem (by simp [mixW]) fun j h1 h2 => ?_
  simp [mixW, wd]
/-- where a row of a valid grid lies, and its entries -/
theorem GridAt.row {w : World} {a : Option Addr} {n cp : Nat} {G : List (List (List Int))} (h : GridAt w (.slice a n cp) G) (hok : GridOk G) {i : Nat} (hi : i < n) :
    ∃ g off g2 off2 c2, a = some ⟨g, off, none⟩ ∧ w.cell? ⟨g, off + i, none⟩ = some (.slice (some ⟨g2, off2, none⟩) (G.getD 0 []).length c2) ∧ ∀ k, k < (G.getD 0 []).length → ∃ a5 l5 c5, w.cell? ⟨g2, off2 + k, none⟩ = some (.slice a5 l5 c5) ∧ ((G.getD i []).getD k []).length = l5 ∧ l5 ≤ 12 := by
  have h0 : 0 < (G.getD 0 []).length := by have := hok.2.2.1; omega
  obtain ⟨g, off, g2, off2, m, c2, _, _, _, rfl, rfl, c1, _⟩ := h.entry hok hi h0
  refine ⟨g, off, g2, off2, c2, rfl, c1, fun k hk => ?_⟩
  obtain ⟨g', off', g2', off2', m', c2', a5, l5, c5, e, rfl, d1, d2, hl, hl2⟩ := h.entry hok hi hk
  injection e with e
  injection e with e1 e2 _
  subst e1 e2
  rw [c1] at d1
  injection d1 with d1
  injection d1 with d1 _ _
  injection d1 with d1
  injection d1 with d1 d3 _
  subst d1 d3
  exact ⟨a5, l5, c5, d2, hl, hl2⟩
set_option maxHeartbeats 4000000 in
theorem s_columnWidths_z (w : World) (v : Value) (G : List (List (List Int))) (hx : GridAt w v G) (hok : Hid (GridOk G)) :
    Calls Try.prog 49 #[v] w fun e w' => WidOut (widths G) w e w' := by
  obtain ⟨i0, hi, hz0, hz1, hz2⟩ := info_parts infoInt
  have HX := keptZ hx
  obtain ⟨a, n, cp, rfl, hn, x1, x2, x3⟩ := hx.partsZ
  have HN := Lib.hid hn
  clear hx hn
  have hn1 : 1 ≤ n ∧ n ≤ 8 := by have := hok.out.1; have := hok.out.2.1; have := HN.out; omega
  rcases x3 with rfl | ⟨g, off, rfl, x3⟩
  · omega
  obtain ⟨u0, c0, hu0⟩ := x3 0 (by omega)
  rw [Nat.add_zero] at c0
  obtain ⟨a0, m, cp0, rfl, hm, _, y2, _⟩ := hu0.partsZ
  have hm5 : m ≤ 5 := by have := hok.out.2.2.2.1; omega
  have HM := Lib.hid hm
  have b3 : (0 : Int) < (n : Int) := by omega
  clear hm hu0 x3
  go_enter Try.func49, Try.ntmps49
  go_wp2_with (at_make; refine wpList_make_full _ rfl _ _ 27 rfl w.heap.size 3 i0 (.int .i64 0) 1 Try.underlying27 hi hz0 hz1 .i64 .i64 m m m rfl rfl rfl rfl (by rw [hz2]; omega) (by unfold maxLen; omega) (Nat.le_refl _) ?_)
  intro w1 hown hgr
  have HB1 : Hid (Below w.heap.size w w1) := ⟨hgr.os, hgr.tape, hgr.output, hgr.size, fun k hk => hgr.block k hk (by simp)⟩
  obtain ⟨g0, hg0⟩ : ∃ g0, w.heap.size = g0 := ⟨_, rfl⟩
  have HO1 : Hid (OwnInts w1 g0 (.slice (some ⟨g0, 0, none⟩) m m) (mixW G m 0 0)) := by
    show OwnInts _ _ _ _
    rw [mixW_zero]
    unfold OwnInts
    rw [List.length_replicate]
    rw [made_ints, hg0] at hown
    exact hown
  have HG0 := Lib.hid hg0
  rw [hg0]
  clear hown hgr hg0 c0
  go_wp2
  go_loopw [4, 5] (fun i _ wr => ∃ k : Nat, k ≤ n ∧ i = .int .i64 k ∧ Hid (OwnInts wr g0 (.slice (some ⟨g0, 0, none⟩) m m) (mixW G m k 0)) ∧ Hid (Below w.heap.size w wr)) (fun i _ _ => n - (intOf i).toNat)
  case atStart => exact ⟨0, Nat.zero_le _, rfl, HO1, HB1⟩
  case round =>
    clear HO1 HB1
    obtain ⟨i, hi', rfl, HO, HB⟩ := hrel
    by_cases hlt : i < n
    · obtain ⟨g1, off1, g2, off2, c2, e1, q0, hent⟩ := HX.out.row hok.out hlt
      injection e1 with e1
      injection e1 with e1 e2 _
      subst e1 e2
      rw [HM.out] at q0 hent
      have HQ := keptZ q0
      have HE := keptZ hent
      clear q0 hent
      go_wp2
      go_loopw [5] (fun j wr => ∃ k : Nat, k ≤ m ∧ j = .int .i64 k ∧ Hid (OwnInts wr g0 (.slice (some ⟨g0, 0, none⟩) m m) (mixW G m i k)) ∧ Hid (Below w.heap.size w wr)) (fun j _ => m - (intOf j).toNat)
      case atStart => exact ⟨0, Nat.zero_le _, rfl, HO, HB⟩
      case round =>
        clear HO HB
        obtain ⟨k, hk, rfl, HO, HB⟩ := hrel
        have q0 := (HB.out.cell (World.block_lt_of_cell? w _ HQ.out)).trans HQ.out
        by_cases hkm : k < m
        · obtain ⟨a5, l5, c5, q1, hl, hl12⟩ := HE.out k hkm
          have q1 := (HB.out.cell (World.block_lt_of_cell? w _ q1)).trans q1
          have hlen := mixW_len G m i k
          have hc := HO.out.cell hlen hkm
          have hf := HO.out.free hlen k
          rw [mixW_get hkm] at hc
          have HS : Hid (wd G (i + 1) k = max (wd G i k) l5) := by show max _ _ = _; rw [hl]
          have r1 : (0 : Int) ≤ (k : Int) := by omega
          have r2 : (k : Int) < (m : Int) := by omega
          have r3 : (0 : Int) ≤ (i : Int) := by omega
          have r4 : (i : Int) < (n : Int) := by omega
          clear hl
          go_wp2_with fail
          by_cases hcc : wd G i k < l5
          · have d1 : decide ((wd G i k : Int) < (l5 : Int)) = true := decide_eq_true (by omega)
            have HS2 : Hid (wd G (i + 1) k = l5) := by rw [HS.out]; exact Nat.max_eq_right (by omega)
            have hO2 := HO.out.store hlen k ((l5 : Nat) : Int)
            rw [← HS2.out, mixW_set hkm, HS2.out] at hO2
            have HO2 := keptZ hO2
            have HB2 := keptZ (Below.drew (HB.out.setCell (p := ⟨g0, k, none⟩) (by rw [HG0.out]; exact Nat.le_refl _) (.int .i64 ((l5 : Nat) : Int))))
            clear hO2 hlen HO
            have hmx : max (wd G i k : Int) (l5 : Int) = ((l5 : Nat) : Int) := by omega
            go_region
            all_goals
              go_wp2
              go_roundw
              case rel => exact ⟨k + 1, by omega, by go_num, HO2, HB2⟩
              case measure => simp [intOf]; omega
          · have d1 : decide ((wd G i k : Int) < (l5 : Int)) = false := decide_eq_false (by omega)
            have HS2 : Hid (wd G (i + 1) k = wd G i k) := by rw [HS.out]; exact Nat.max_eq_left (by omega)
            have hO2 := HO.out.store hlen k ((wd G i k : Nat) : Int)
            rw [← HS2.out, mixW_set hkm, HS2.out] at hO2
            have HO2 := keptZ hO2
            have HB2 := keptZ (Below.drew (HB.out.setCell (p := ⟨g0, k, none⟩) (by rw [HG0.out]; exact Nat.le_refl _) (.int .i64 ((wd G i k : Nat) : Int))))
            clear hO2 hlen HO
            have hmx : max (wd G i k : Int) (l5 : Int) = ((wd G i k : Nat) : Int) := by omega
            go_region
            all_goals
              go_wp2
              go_roundw
              case rel => exact ⟨k + 1, by omega, by go_num, HO2, HB2⟩
              case measure => simp [intOf]; omega
        · obtain rfl : k = m := by omega
          have HO2 : Hid (OwnInts wr g0 (.slice (some ⟨g0, 0, none⟩) k k) (mixW G k (i + 1) 0)) := by show OwnInts _ _ _ _; rw [← mixW_next]; exact HO.out
          clear HO
          go_wp2
          go_roundw
          case rel => exact ⟨i + 1, by omega, by go_num, HO2, HB⟩
          case measure => simp [intOf]; omega
    · obtain rfl : i = n := by omega
      have HF : Hid (OwnInts wr g0 (.slice (some ⟨g0, 0, none⟩) m m) (widths G)) := by show OwnInts _ _ _ _; rw [← mixW_all HN.out HM.out]; exact HO.out
      clear HO
      go_wp2
      go_ret
      refine ⟨_, _, _, rfl, ?_, HB.out⟩
      rw [HG0.out]
      exact HF.out
end Go.Proofs.Ytidjnhlioebchaa
