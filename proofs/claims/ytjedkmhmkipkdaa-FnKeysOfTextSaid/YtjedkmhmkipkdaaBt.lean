
/- Plain texts can be typed. -/
import Derived.Test.YtjedkmhmkipkdaaBr
import Derived.Test.YtjedkmhmkipkdaaPlT
import Derived.Test.YtjedkmhmkipkdaaPlM
import Derived.Test.YtjedkmhmkipkdaaDrT
namespace Go.Proofs.Ytjedkmhmkipkdaa
open Go.RowKit

/-- a list of cells that the call made -/
def CellsOut (D : List Int) (w : World) (e : Ending) (w' : World) : Prop :=
  ∃ a n c, e = .returned (.slice a n c) ∧ OwnInts w' w.heap.size (.slice a n c) D ∧ Below w.heap.size w w'
theorem plain_out (s : ByteArray) (hs : s.size ≤ 1048576) : ∃ D, (∀ z ∈ D, 0 ≤ z ∧ z < 64) ∧ D.length ≤ 240 ∧ (∀ w, Calls Try.prog 28 #[.string s] w fun e w' => CellsOut D w e w') ∧ (∀ w, Calls Try.prog 29 #[.string s] w fun e w' => CellsOut D w e w') := by
  by_cases hv : ValidT s.data.toList
  · have hl := plainC_le hv
    have hd := plainC_valid hv
    refine ⟨plainC s.data.toList, hd.2, hl, fun w => (i_PlainCells s _ w (Txt.of s) rfl hv).mono fun _ _ h => ?_, fun w => (s_PlainCells s _ w (Txt.of s) rfl hv).mono fun _ _ h => ?_⟩
    all_goals
      obtain ⟨v, h1, h2, h3, a, n, c, rfl⟩ := h
      exact ⟨a, n, c, h1, h2, h3⟩
  · refine ⟨[], by simp, by simp, fun w => (i_PlainCells_no s w (by omega) hv).mono fun _ _ h => ?_, fun w => (s_PlainCells_no s w (by omega) hv).mono fun _ _ h => ?_⟩
    all_goals exact ⟨none, 0, 0, h.1, OwnInts.nil _ _, h.2⟩
/-- the code of a cell, where a blank one is the space bar -/
def cdOf (z : Int) : Int := if z = 0 then 64 else z
def cdL (D : List Int) (k : Nat) : List Int := (D.take k).map cdOf
theorem cdL_succ {D : List Int} {k : Nat} {z : Int} (h : k < D.length) (hz : D.getD k 0 = z) : cdL D (k + 1) = cdL D k ++ [cdOf z] := by
  unfold cdL
  rw [take_snoc h, hz, List.map_append]; rfl
theorem cdL_len (D : List Int) (k : Nat) : (cdL D k).length ≤ k := by unfold cdL; rw [List.length_map, List.length_take]; omega
theorem cdL_ok {D : List Int} (h : ∀ z ∈ D, 0 ≤ z ∧ z < 64) {k : Nat} (hk : k ≤ 20) : CodesOk (cdL D k) := by
  refine ⟨by have := cdL_len D k; omega, fun z hz => ?_⟩
  unfold cdL at hz
  obtain ⟨y, hy, rfl⟩ := List.mem_map.1 hz
  have := h y (List.mem_of_mem_take hy)
  unfold cdOf
  split <;> omega
set_option maxHeartbeats 2000000 in
theorem keysOfText_walk (a : Option Addr) (len cap : Nat) (zs : List Int) (w : World) (h : RowIn .u8 w a len cap zs) :
    Calls Try.prog 9 #[.slice a len cap] w fun e w' => e = .returned (.bool true) ∧ Below w.heap.size w w' := by
  have hlen : len ≤ 9223372036854775807 := by
    obtain ⟨_, h2, h3⟩ := bytesAt_of_row h; unfold maxLen at h3; omega
  by_cases hbig : len ≤ 1048576
  · obtain ⟨i0, hi, hz0, hz1, hz2⟩ := info_parts infoInt
    go_enter Try.func9, Try.ntmps9
    go_wp2_with fail
    refine (drawPlainCells_any w a len cap zs h).mono ?_
    rintro e w1 ⟨s, rfl, hs, hB⟩
    clear h
    have HB1 := keptE hB
    obtain ⟨D, hd, hdl, hI, hS⟩ := plain_out s (by omega)
    have HD := keptE hd
    have HI := keptE hI
    have HS := keptE hS
    clear hB hd hI hS hs
    go_wp2_with fail
    refine (HI.out w1).mono ?_
    rintro e w2 ⟨a2, n2, c2, rfl, hO2, hb2⟩
    have HN2 := keptE hO2.lenB
    have HO2 := keptE hO2.sh
    have HB2 := keptE (below_next HB1.out hb2)
    have hn2 : n2 ≤ 240 := by rw [← HN2.out]; exact hdl
    clear hO2 hb2 hdl
    go_wp2_with fail
    refine (HS.out w2).mono ?_
    rintro e w3 ⟨a3, n3, c3, rfl, hO3, hb3⟩
    have HS3 := keptE hO3.at
    have HO3 := keptE (HO2.out.below hb3)
    have HB3 := keptE (below_next HB2.out hb3)
    clear hO3 hb3 HB2 HO2
    go_wp2_with fail
    refine (equalInts_sameB w3 _ _ D HO3.out.1 HS3.out).mono ?_
    rintro e w4 ⟨rfl, hb4⟩
    have HS4 := keptE (HS3.out.below hb4)
    have HO4 := keptE (HO3.out.below hb4)
    have HB4 := keptE (below_next HB3.out hb4)
    clear hb4 HB3 HO3 HS3
    by_cases h0 : n2 = 0
    · subst h0
      go_wp2_with fail
      refine (HS.out w4).mono ?_
      rintro e w5 ⟨a5, n5, c5, rfl, hO5, hb5⟩
      have HS5 := keptE hO5.at
      have HO5 := keptE (HO4.out.below hb5)
      have HB5 := keptE (below_next HB4.out hb5)
      clear hO5 hb5
      go_wp2_with fail
      refine (equalInts_sameB w5 _ _ D HO5.out.1 HS5.out).mono ?_
      rintro e w6 ⟨rfl, hb6⟩
      have HB6 := keptE (below_next HB5.out hb6)
      clear hb6
      go_wp2
      go_ret
      exact ⟨rfl, HB6.out⟩
    · have e0 : ((n2 : Int) == 0) = false := by simp; omega
      have HOO := HO4.out.1
      obtain ⟨g, off, hga, hcs⟩ : ∃ g off, a2 = some ⟨g, off, none⟩ ∧ Hid (∀ wx, Below w4.heap.size w4 wx → ∀ i, i < n2 → wx.cell? ⟨g, off + i, none⟩ = some (.int .i64 (D.getD i 0))) := by
        obtain ⟨a', c', e, _, _, h5⟩ := HOO
        injection e with e1 _ _
        rcases h5 with h0' | ⟨g', off', e5, h6⟩
        · have := HN2.out; rw [h0'] at this; simp at this; omega
        · refine ⟨g', off', by rw [e1, e5], fun wx hb i hi => ?_⟩
          have h7 := h6 i (by rw [HN2.out]; exact hi)
          exact (hb.cell (World.block_lt_of_cell? w4 _ h7)).trans h7
      subst hga
      have hO0 : OwnInts (w4.alloc (.cells #[] 3)) w4.heap.size (.slice (some ⟨w4.heap.size, 0, none⟩) 0 0) [] := OwnInts.made w4 w4.heap.size (Nat.le_refl _)
      have hB0 : Below w4.heap.size w4 (w4.alloc (.cells #[] 3)) := (Below.refl _ _).alloc (Nat.le_refl _) _
      have HO0 := keptE hO0
      have HB0 := keptE hB0
      clear HOO h0 hO0 hB0
      go_wp2_with fail
      go_loopw [5, 6] (fun v y wr => ∃ k : Nat, k ≤ n2 ∧ k ≤ 20 ∧ y = .int .i64 k ∧ Hid (OwnInts wr w4.heap.size v (cdL D k)) ∧ Hid (Below w4.heap.size w4 wr)) (fun _ y _ => n2 - (intOf y).toNat)
      case atStart => exact ⟨0, by omega, by omega, rfl, HO0, HB0⟩
      case round =>
        clear HO0 HB0
        obtain ⟨k, hk, hk20, rfl, hO, hB⟩ := hrel
        have hsw := hB.out.size
        obtain ⟨ao, no, co, hoo⟩ := hO.out.isSliceB
        subst hoo
        by_cases hlt : k < n2 ∧ k < 20
        · obtain ⟨hlt, hlt2⟩ := hlt
          have d1 : decide ((k : Int) < (n2 : Int)) = true := decide_eq_true (by omega)
          have d2 : decide ((k : Int) < 20) = true := decide_eq_true (by omega)
          have hc := hcs.out wr hB.out k hlt
          obtain ⟨z, hz⟩ : ∃ z, D.getD k 0 = z := ⟨_, rfl⟩
          have hST := keptE (cdL_succ (by rw [HN2.out]; exact hlt) hz)
          have hcl := cdL_len D k
          rw [hz] at hc
          obtain ⟨X, hX⟩ : ∃ X, cdL D k = X := ⟨_, rfl⟩
          rw [hX] at hO hST hcl
          have hO' := hO.out
          by_cases hz0' : z = 0
          · have e1 : (z == 0) = true := by simp [hz0']
            have hcd : cdOf z = 64 := by unfold cdOf; rw [if_pos hz0']
            rw [hcd] at hST
            clear hz hX hz0' hcd
            go_wp2_with (at_builtin; refine wpList_append_own _ rfl _ _ 23 rfl w4.heap.size 3 i0 (.int .i64 0) 1 8 Try.underlying23 hi hz0 hz1 hz2 rfl (by decide) _ _ _ rfl (hO'.alloc _) ⟨wr.heap.size, 0, none⟩ 1 1 [.int .i64 64] rfl rfl new_one one_cell (by unfold maxLen; omega) (by omega) (by simp; omega) ?_)
            intro v' w6 hown' hgrow _
            have HO6 := keptE (OwnInts.snoc hown')
            have HB6 := keptE (below_append hB.out hsw hO.out hgrow)
            clear hown' hgrow hO' hO hB
            go_wp2
            go_roundw
            case rel => exact ⟨k + 1, by omega, by omega, by go_num, keptE (by rw [hST.out]; exact HO6.out), HB6⟩
            case measure => simp [intOf]; omega
          · have e1 : (z == 0) = false := by simp [hz0']
            have hcd : cdOf z = z := by unfold cdOf; rw [if_neg hz0']
            rw [hcd] at hST
            clear hz hX hz0' hcd
            go_wp2_with (at_builtin; refine wpList_append_own _ rfl _ _ 23 rfl w4.heap.size 3 i0 (.int .i64 0) 1 8 Try.underlying23 hi hz0 hz1 hz2 rfl (by decide) _ _ _ rfl (hO'.alloc _) ⟨wr.heap.size, 0, none⟩ 1 1 [.int .i64 z] rfl rfl new_one one_cell (by unfold maxLen; omega) (by omega) (by simp; omega) ?_)
            intro v' w6 hown' hgrow _
            have HO6 := keptE (OwnInts.snoc hown')
            have HB6 := keptE (below_append hB.out hsw hO.out hgrow)
            clear hown' hgrow hO' hO hB
            go_wp2
            go_roundw
            case rel => exact ⟨k + 1, by omega, by omega, by go_num, keptE (by rw [hST.out]; exact HO6.out), HB6⟩
            case measure => simp [intOf]; omega
        · have hcok := cdL_ok HD.out hk20
          obtain ⟨X, hX⟩ : ∃ X, cdL D k = X := ⟨_, rfl⟩
          rw [hX] at hO hcok
          have hev : keysL X = evL X := if_pos hcok
          obtain ⟨E, hE⟩ : ∃ E, keysL X = E := ⟨_, rfl⟩
          have hpl := (evL_play hcok).2
          rw [← hev, hE] at hpl
          have HE := keptE hE
          have HP := keptE hpl
          have HFX : Hid (Fits X) := fun z hz => by have := hcok.2 z hz; omega
          have HFE : Hid (Fits E) := by show Fits E; rw [← hE, hev]; exact (evL_bt X).fits (by omega) (by omega)
          have HX := keptE hO.out.at
          have HBX := keptE (below_next HB4.out hB.out)
          clear hX hcok hev hE hpl hO hB
          by_cases hlt1 : k < n2
          · have d1 : decide ((k : Int) < (n2 : Int)) = true := decide_eq_true (by omega)
            have d2 : decide ((k : Int) < 20) = false := decide_eq_false (by omega)
            go_wp2_with fail
            refine (i_KeysOf wr _ X E HX.out HFX.out HE).mono ?_
            rintro e w6 ⟨a6, n6, c6, rfl, hO6, hb6⟩
            have HO6 := keptE hO6.at
            have HX6 := keptE (HX.out.below hb6)
            have HB6 := keptE (below_next HBX.out hb6)
            clear hO6 hb6
            go_wp2_with fail
            refine (i_PlayKeys w6 _ E X HO6.out HFE.out HP).mono ?_
            rintro e w7 ⟨a7, n7, c7, rfl, hO7, hb7⟩
            have HO7 := keptE hO7.at
            have HX7 := keptE (HX6.out.below hb7)
            have HB7 := keptE (below_next HB6.out hb7)
            clear hO7 hb7
            go_wp2_with fail
            refine (equalInts_sameB w7 _ _ X HO7.out HX7.out).mono ?_
            rintro e w8 ⟨rfl, hb8⟩
            have HB8 := keptE (below_next HB7.out hb8)
            clear hb8
            go_wp2
            go_ret
            exact ⟨rfl, HB8.out⟩
          · have d1 : decide ((k : Int) < (n2 : Int)) = false := decide_eq_false (by omega)
            go_wp2_with fail
            refine (i_KeysOf wr _ X E HX.out HFX.out HE).mono ?_
            rintro e w6 ⟨a6, n6, c6, rfl, hO6, hb6⟩
            have HO6 := keptE hO6.at
            have HX6 := keptE (HX.out.below hb6)
            have HB6 := keptE (below_next HBX.out hb6)
            clear hO6 hb6
            go_wp2_with fail
            refine (i_PlayKeys w6 _ E X HO6.out HFE.out HP).mono ?_
            rintro e w7 ⟨a7, n7, c7, rfl, hO7, hb7⟩
            have HO7 := keptE hO7.at
            have HX7 := keptE (HX6.out.below hb7)
            have HB7 := keptE (below_next HB6.out hb7)
            clear hO7 hb7
            go_wp2_with fail
            refine (equalInts_sameB w7 _ _ X HO7.out HX7.out).mono ?_
            rintro e w8 ⟨rfl, hb8⟩
            have HB8 := keptE (below_next HB7.out hb8)
            clear hb8
            go_wp2
            go_ret
            exact ⟨rfl, HB8.out⟩
  · go_enter Try.func9, Try.ntmps9
    go_wp2
    go_ret
    exact ⟨rfl, Below.refl _ _⟩
end Go.Proofs.Ytjedkmhmkipkdaa
