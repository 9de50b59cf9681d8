
/- In how many ways cells are code words: the model. -/
import Derived.Test.YtimbphkbkhlclaaCg
import Derived.Test.YtimbphkbkhlclaaExS
import Derived.Deep.QuietTactic
import Derived.BigQuiet
namespace Go.Proofs.Ytimbphkbkhlclaa
open Go.RowKit

theorem infoIntC : (Try.prog.info? 3).map (fun i => (i.zero, i.size, i.bytes)) = some (some (.int .i64 0), 1, 8) := by kernel_rfl
set_option maxHeartbeats 4000000 in
theorem s_factorCount (w : World) (v u : Value) (L : List (List Int)) (zs : List Int) (hx : ListsAt w v L) (hy : IntsAt w u zs) (hv : Hid (ValidCd L)) (hl : zs.length ≤ 24) :
    Calls Try.prog 42 #[v, u] w fun e w' => e = .returned (.int .i64 (fc L zs)) ∧ Below w.heap.size w w' := by
  obtain ⟨i0, hi, hz0, hz1, hz2⟩ := info_parts infoIntC
  have HX := Lib.hid hx
  have HY := Lib.hid hy
  obtain ⟨a, c, rfl, x1, x2, _⟩ := hx
  obtain ⟨a', d, rfl, y1, y2, _⟩ := hy
  obtain ⟨n, hn⟩ : ∃ n, L.length = n := ⟨_, rfl⟩
  obtain ⟨m, hm⟩ : ∃ m, zs.length = m := ⟨_, rfl⟩
  rw [hn] at x1 HX ⊢
  rw [hm] at y1 HY hl ⊢
  have HN := Lib.hid hn
  have HM := Lib.hid hm
  clear hn hm
  obtain ⟨m1, hm1⟩ : ∃ m1, m + 1 = m1 := ⟨_, rfl⟩
  have u0 : IntKind.i64.wrap ((m : Int) + 1) = (m1 : Int) := by rw [← hm1]; exact IntWalk.i64_in _ (by omega)
  have HM1 := Lib.hid hm1
  have hm24 : m1 ≤ 25 := by omega
  have b0 : m < m1 := by omega
  clear hm1
  go_enter Try.func42, Try.ntmps42
  go_wp2_with (at_make; refine wpList_make_full _ rfl _ _ 30 rfl w.heap.size 3 i0 (.int .i64 0) 1 Try.underlying30 hi hz0 hz1 .i64 .i64 m1 m1 m1 rfl rfl rfl rfl (by rw [hz2]; omega) (by unfold maxLen; omega) (Nat.le_refl _) ?_)
  intro w1 hown hgr
  have hB1 : Below w.heap.size w w1 := ⟨hgr.os, hgr.tape, hgr.output, hgr.size, fun k hk => hgr.block k hk (by simp)⟩
  obtain ⟨g, hg⟩ : ∃ g, w.heap.size = g := ⟨_, rfl⟩
  have HG := Lib.hid hg
  have hA1 : ArrAt w1 w.heap.size (List.replicate m1 0) := by
    refine ⟨fun j hj => ?_, fun o => hown.frozenAt o, (hown.lt _ rfl).2⟩
    rw [List.length_replicate] at hj
    have := hown.cellAt j (by omega)
    rw [this]
    rw [made_ints]
    simp [ints, List.getD_eq_getElem?_getD, hj]
  have hc0 := hA1.1 m (by simpa using b0)
  have hf0 := hA1.2.1 m
  have hA2 := hA1.set m (by simpa using b0) 1
  have e := arr_first L zs 0
  rw [HM.out, Nat.add_zero, HM1.out] at e
  rw [e] at hA2
  have HC := keptH' hA2
  have HB1 := keptH' (hB1.setCell (p := ⟨w.heap.size, m, none⟩) (Nat.le_refl _) (.int .i64 1))
  have hz : (List.replicate m1 (0 : Int)).getD m 0 = 0 := by simp [List.getD_eq_getElem?_getD, b0]
  rw [hz] at hc0
  have u1 : IntKind.i64.wrap ((m : Int) - 1) = (m : Int) - 1 := IntWalk.i64_in _ (by omega)
  have b1 : (0 : Int) ≤ (m : Int) := by omega
  have b2 : (m : Int) < (m1 : Int) := by omega
  clear hown hgr hi hz0 hz1 hz2 hA1 hA2 e hB1 hz u0 hg
  go_wp2_with fail
  generalize (w1.setCell ⟨w.heap.size, m, none⟩ (.int .i64 1)) = wA at HC HB1 ⊢
  clear hc0 hf0
  rw [HG.out] at HC ⊢
  have hsz : w.heap.size ≤ g := by have := HG.out; omega
  go_loopw [6] (fun x wr => ∃ (k : Nat) (y : Int), k ≤ m ∧ x = .int .i64 y ∧ y = (k : Int) - 1 ∧ ArrAt wr g (arrI L zs 0 k) ∧ Below w.heap.size w wr) (fun x _ => (intOf x + 1).toNat)
  case atStart => exact ⟨m, _, Nat.le_refl _, rfl, rfl, HC.out, HB1.out⟩
  case round =>
    clear HC HB1
    obtain ⟨k, y, hk, rfl, hy, hA, hB⟩ := hrel
    by_cases hk0 : k = 0
    · subst hk0
      obtain rfl : y = -1 := by omega
      have h0 := hA.1 0 (by rw [arrI_len _ _ _ _ (by omega)]; omega)
      rw [arrI_head] at h0
      have b7 : 0 < m1 := by omega
      have b8 : (0 : Int) < (m1 : Int) := by omega
      clear hA hy
      go_wp2
      go_ret
      exact ⟨rfl, hB⟩
    · obtain ⟨j, rfl⟩ : ∃ j, k = j + 1 := ⟨k - 1, by omega⟩
      obtain rfl : y = (j : Int) := by omega
      clear hy hk0
      rw [arr_start] at hA
      have dj : decide ((j : Int) < 0) = false := decide_eq_false (by omega)
      obtain ⟨g', off', rfl⟩ := HY.out.addrC (by omega)
      go_wp2_with fail
      go_loopw [7] (fun x wx => ∃ q : Nat, q ≤ n ∧ x = .int .i64 q ∧ ArrAt wx g (arrX L zs 0 j (wayTo L (zs.drop j) (ways L (zs.drop (j + 1))) q)) ∧ Below w.heap.size w wx) (fun x _ => n - (intOf x).toNat)
      case atStart => exact ⟨0, Nat.zero_le _, rfl, hA, hB⟩
      case round =>
        clear hA hB
        obtain ⟨q, hq, rfl, hA, hB⟩ := hrel
        by_cases hlt : q < n
        · obtain ⟨g3, off3, u3, rfl, c1, hu3⟩ := (HX.out.below hB).someNth hlt
          obtain ⟨wd, hr⟩ : ∃ wd, L.getD q [] = wd := ⟨_, rfl⟩
          have hw4 : CodeW (L.getD q []) := hv.out.2.1 q (by rw [HN.out]; exact hlt)
          rw [hr] at hu3 hw4
          have HR := Lib.hid hr
          clear hr
          have HU : Hid (IntsAt wr.drew u3 wd) := (show IntsAt wr u3 wd from hu3)
          obtain ⟨a4, cp4, rfl, _, _, _⟩ := hu3
          obtain ⟨l, hl2⟩ : ∃ l, wd.length = l := ⟨_, rfl⟩
          obtain ⟨⟨l1, l4⟩, _⟩ := hw4
          rw [hl2] at c1 HU l1 l4
          have HL := Lib.hid hl2
          clear hl2
          have HD : Hid (IntsAt wr.drew (.slice (some ⟨g', off' + j, none⟩) (m - j) (d - j)) (zs.drop j)) := (show IntsAt wr (.slice (some ⟨g', off' + j, none⟩) (m - j) (d - j)) (zs.drop j) from (HY.out.below hB).dropC j (by omega))
          have dj2 : ¬ d = j := by omega
          have b3 : (0 : Int) ≤ (j : Int) := by omega
          have b4 : (j : Int) ≤ (m : Int) := by omega
          have b5 : (0 : Int) ≤ (q : Int) := by omega
          have b6 : (q : Int) < (n : Int) := by omega
          have n1 : ((j : Int)).toNat = j := by omega
          have HK : Hid (∀ wy, Below wr.heap.size wr wy → wy.cell? ⟨g3, off3 + q, none⟩ = some (.slice a4 l cp4)) := fun wy h => (h.cell (World.block_lt_of_cell? wr _ c1)).trans c1
          have hszr := hB.size
          by_cases hit : (zs.drop j).take wd.length = wd
          · have HB := Lib.hid (decide_eq_true hit)
            have hlen : j + l ≤ m := by
              have := begins_len hit
              rw [HL.out, List.length_drop, HM.out] at this
              omega
            have HW := Lib.hid (wayTo_hit (A := ways L (zs.drop (j + 1))) HR.out hit)
            clear hit
            have HA := keptH' hA
            clear hA
            go_wp2_with fail
            go_region_held3 (fun wy => wy.cell? ⟨g3, off3 + q, none⟩ = some (.slice a4 l cp4)) (first | assumption | exact HK.out _ (Below.refl _ _).drew | exact HK.out _ ((Below.refl _ _).drew.trans hb5)) (first | (go_at_call 57; refine (s_startsWith_b wr.drew _ _ (zs.drop j) wd true HD.out HU.out HB).mono ?_; rintro e w5 ⟨rfl, hb5⟩))
            all_goals
              have hb6 := (Below.refl wr.heap.size wr).drew.trans hb5
              have c5 := HK.out _ hb6
              have hA5 := HA.out.below hb6
              have hB5 := below_next hB hb6
              obtain ⟨X, hX⟩ : ∃ X, wayTo L (zs.drop j) (ways L (zs.drop (j + 1))) q = X := ⟨_, rfl⟩
              obtain ⟨Y, hY⟩ : ∃ Y, (ways L (zs.drop (j + 1))).getD (l - 1) 0 = Y := ⟨_, rfl⟩
              have hW := HW.out
              rw [hX] at hA5 hW
              rw [HL.out, hY] at hW
              have hal : (arrX L zs 0 j X).length = m1 := by rw [arrX_len _ _ _ _ _ (by rw [HM.out]; omega), HM.out]; have := HM1.out; omega
              have r1 := hA5.1 j (by omega)
              rw [arrX_at] at r1
              have r2 := hA5.1 (j + l) (by omega)
              rw [arrX_behind L zs _ j l X l1 (by rw [HM.out]; exact hlen), hY] at r2
              have f1 := hA5.2.1 j
              obtain ⟨Z, hZ⟩ : ∃ Z, IntKind.i64.wrap (X + Y) = Z := ⟨_, rfl⟩
              rw [hZ] at hW
              have hS := hA5.set j (by omega) Z
              rw [arrX_set] at hS
              have HS : Hid (ArrAt (w5.setCell ⟨g, j, none⟩ (.int .i64 Z)) g (arrX L zs 0 j (wayTo L (zs.drop j) (ways L (zs.drop (j + 1))) (q + 1)))) := by
                rw [hW]; exact hS
              have HB5 := keptH' (hB5.setCell (p := ⟨g, j, none⟩) hsz (.int .i64 Z))
              have u1 : IntKind.i64.wrap ((j : Int) + (l : Int)) = (j : Int) + (l : Int) := IntWalk.i64_in _ (by omega)
              have n2 : ((j : Int) + (l : Int)).toNat = j + l := by omega
              have b9 : (0 : Int) ≤ (j : Int) + (l : Int) := by omega
              have b10 : (j : Int) + (l : Int) < (m1 : Int) := by omega
              have b7 : (j : Int) < (m1 : Int) := by omega
              clear hX hY hW hA5 hB5 hS hB hb5 hb6 hal c1
              go_wp2_with fail
              go_region
              all_goals
                go_wp2
                go_roundw
                case rel => exact ⟨q + 1, by omega, by go_num, HS.out, HB5.out.drew⟩
                case measure => simp [intOf]; omega
          · have HB := Lib.hid (decide_eq_false hit)
            have HW := Lib.hid (wayTo_miss (A := ways L (zs.drop (j + 1))) HR.out hit)
            clear hit
            rw [← HW.out] at hA
            have HA := keptH' hA
            clear hA
            go_wp2_with fail
            go_region_held3 (fun wy => wy.cell? ⟨g3, off3 + q, none⟩ = some (.slice a4 l cp4)) (first | assumption | exact HK.out _ (Below.refl _ _).drew | exact HK.out _ ((Below.refl _ _).drew.trans hb5)) (first | (go_at_call 57; refine (s_startsWith_b wr.drew _ _ (zs.drop j) wd false HD.out HU.out HB).mono ?_; rintro e w5 ⟨rfl, hb5⟩))
            all_goals
              have hb6 := (Below.refl wr.heap.size wr).drew.trans hb5
              have HA5 := keptH' (HA.out.below hb6)
              have HB5 := keptH' (below_next hB hb6)
              clear hb5 hb6 hB
              go_wp2
              go_roundw
              case rel => exact ⟨q + 1, by omega, by go_num, HA5.out, HB5.out⟩
              case measure => simp [intOf]; omega
        · obtain rfl : q = n := by omega
          rw [← HN.out, arr_done L zs _ j (by rw [HM.out]; omega)] at hA
          have HA := keptH' hA
          have HBx := keptH' hB
          clear hA hB
          have u2 : IntKind.i64.wrap ((j : Int) - 1) = (j : Int) - 1 := IntWalk.i64_in _ (by omega)
          go_wp2
          go_roundw
          case rel => exact ⟨j, _, by omega, rfl, rfl, HA.out, HBx.out⟩
          case measure => first | (simp [intOf]; omega) | simp [intOf]
theorem FcFalse {b : Bool} {p : Prop} (h : ¬ p) (hb : b = true ↔ p) : b = false := by
  cases b
  · rfl
  · exact absurd (hb.1 rfl) h
/-- what both sides answer -/
def fcOf (L : List (List Int)) (zs : List Int) (b : Bool) : Int := if b = true ∧ ValidL zs ∧ zs.length ≤ 24 then fc L zs else -1
set_option maxHeartbeats 2000000 in
theorem s_FactorCount (w : World) (v u : Value) (L : List (List Int)) (zs : List Int) (b : Bool) (hx : ListsAt w v L) (hy : IntsAt w u zs) (hb : Hid (b = true ↔ ValidCd L)) :
    Calls Try.prog 21 #[v, u] w fun e w' => e = .returned (.int .i64 (fcOf L zs b)) ∧ Below w.heap.size w w' := by
  have HX := Lib.hid hx
  have HY := Lib.hid hy
  obtain ⟨a, c, rfl, x1, x2, _⟩ := hx
  obtain ⟨a', d, rfl, y1, y2, _⟩ := hy
  obtain ⟨m, hm⟩ : ∃ m, zs.length = m := ⟨_, rfl⟩
  rw [hm] at y1 HY ⊢
  have HM := Lib.hid hm
  clear hm
  obtain ⟨F, hF⟩ : ∃ F, fcOf L zs b = F := ⟨_, rfl⟩
  rw [hF]
  have HF := Lib.hid hF
  clear hF
  cases b with
  | false =>
    have HR : Hid (F = -1) := by
      show F = -1
      rw [← HF.out]; exact if_neg (fun h => by simp at h)
    go_enter Try.func21, Try.ntmps21
    go_wp2_with fail
    refine (s_validCode w _ L false HX.out hb).mono ?_
    rintro e w1 ⟨rfl, hb1⟩
    go_wp2
    go_ret
    exact ⟨by rw [HR.out]; rfl, hb1⟩
  | true =>
    have HVC : Hid (ValidCd L) := hb.out.1 rfl
    clear hb
    by_cases hv : ValidL zs
    · have HV : Hid (decide (ValidL zs) = true) := decide_eq_true hv
      by_cases h24 : m ≤ 24
      · have HR : Hid (F = fc L zs) := by
          show F = _
          rw [← HF.out]; exact if_pos ⟨rfl, hv, by rw [HM.out]; exact h24⟩
        have d1 : decide (24 < (m : Int)) = false := decide_eq_false (by omega)
        clear hv
        go_enter Try.func21, Try.ntmps21
        go_wp2_with fail
        refine (s_validCode w _ L true HX.out (show _ ↔ _ from ⟨fun _ => HVC.out, fun _ => rfl⟩)).mono ?_
        rintro e w1 ⟨rfl, hb1⟩
        go_wp2_with fail
        have := s_validCells w1 _ zs (HY.out.below hb1)
        rw [HV.out] at this
        refine this.mono ?_
        rintro e w2 ⟨rfl, rfl⟩
        clear this
        go_wp2_with fail
        refine (s_factorCount w1 _ _ L zs (HX.out.below hb1) (HY.out.below hb1) (show ValidCd L from HVC.out) (by rw [HM.out]; exact h24)).mono ?_
        rintro e w3 ⟨rfl, hb3⟩
        go_wp2
        go_ret
        exact ⟨by rw [HR.out]; rfl, below_next hb1 hb3⟩
      · have HR : Hid (F = -1) := by
          show F = -1
          rw [← HF.out]; exact if_neg (fun h => by have := h.2.2; rw [HM.out] at this; omega)
        have d1 : decide (24 < (m : Int)) = true := decide_eq_true (by omega)
        clear hv
        go_enter Try.func21, Try.ntmps21
        go_wp2_with fail
        refine (s_validCode w _ L true HX.out (show _ ↔ _ from ⟨fun _ => HVC.out, fun _ => rfl⟩)).mono ?_
        rintro e w1 ⟨rfl, hb1⟩
        go_wp2_with fail
        have := s_validCells w1 _ zs (HY.out.below hb1)
        rw [HV.out] at this
        refine this.mono ?_
        rintro e w2 ⟨rfl, rfl⟩
        clear this
        go_wp2
        go_ret
        exact ⟨by rw [HR.out]; rfl, hb1⟩
    · have HV : Hid (decide (ValidL zs) = false) := decide_eq_false hv
      have HR : Hid (F = -1) := by
        show F = -1
        rw [← HF.out]; exact if_neg (fun h => hv h.2.1)
      clear hv
      go_enter Try.func21, Try.ntmps21
      go_wp2_with fail
      refine (s_validCode w _ L true HX.out (show _ ↔ _ from ⟨fun _ => HVC.out, fun _ => rfl⟩)).mono ?_
      rintro e w1 ⟨rfl, hb1⟩
      go_wp2_with fail
      have := s_validCells w1 _ zs (HY.out.below hb1)
      rw [HV.out] at this
      refine this.mono ?_
      rintro e w2 ⟨rfl, rfl⟩
      clear this
      go_wp2
      go_ret
      exact ⟨by rw [HR.out]; rfl, hb1⟩
set_option maxHeartbeats 2000000 in
theorem i_FactorCount_any (w : World) (v u : Value) (L : List (List Int)) (zs : List Int) (b : Bool) (hx : ListsAt w v L) (hy : IntsAt w u zs) (hb : Hid (b = true ↔ ValidCd L)) :
    Calls Try.prog 23 #[v, u] w fun e w' => e = .returned (.int .i64 (fcOf L zs b)) ∧ Below w.heap.size w w' := by
  by_cases hok : b = true ∧ ValidL zs ∧ zs.length ≤ 24
  · have e : fcOf L zs b = fc L zs := if_pos hok
    rw [e]
    exact i_FactorCount w v u L zs hx hy (show ValidCd L from hb.out.1 hok.1) hok.2.2 (show _ from hok.2.1.2)
  · have e : fcOf L zs b = -1 := if_neg hok
    rw [e]
    clear e
    have HX := Lib.hid hx
    have HY := Lib.hid hy
    obtain ⟨a, c, rfl, x1, x2, _⟩ := hx
    obtain ⟨a', d, rfl, y1, y2, _⟩ := hy
    obtain ⟨m, hm⟩ : ∃ m, zs.length = m := ⟨_, rfl⟩
    rw [hm] at y1 HY hok ⊢
    clear hm
    cases b with
    | false =>
      go_enter Try.func23, Try.ntmps23
      go_wp2_with fail
      refine (i_ValidCode w _ L false HX.out hb).mono ?_
      rintro e w1 ⟨rfl, hb1⟩
      go_wp2
      go_ret
      exact ⟨rfl, hb1⟩
    | true =>
      have HVC : Hid (ValidCd L) := hb.out.1 rfl
      clear hb
      by_cases h24 : m ≤ 24
      · have HV : Hid (decide (ValidL zs) = false) := decide_eq_false fun h => hok ⟨rfl, h, h24⟩
        have d1 : decide (24 < (m : Int)) = false := decide_eq_false (by omega)
        clear hok
        go_enter Try.func23, Try.ntmps23
        go_wp2_with fail
        refine (i_ValidCode w _ L true HX.out (show _ ↔ _ from ⟨fun _ => HVC.out, fun _ => rfl⟩)).mono ?_
        rintro e w1 ⟨rfl, hb1⟩
        go_wp2_with fail
        have := i_ValidCells w1 _ zs (HY.out.below hb1)
        rw [HV.out] at this
        refine this.mono ?_
        rintro e w2 ⟨rfl, rfl⟩
        clear this
        go_wp2
        go_ret
        exact ⟨rfl, hb1⟩
      · have d1 : decide (24 < (m : Int)) = true := decide_eq_true (by omega)
        clear hok
        go_enter Try.func23, Try.ntmps23
        go_wp2_with fail
        refine (i_ValidCode w _ L true HX.out (show _ ↔ _ from ⟨fun _ => HVC.out, fun _ => rfl⟩)).mono ?_
        rintro e w1 ⟨rfl, hb1⟩
        go_wp2
        go_ret
        exact ⟨rfl, hb1⟩
end Go.Proofs.Ytimbphkbkhlclaa
