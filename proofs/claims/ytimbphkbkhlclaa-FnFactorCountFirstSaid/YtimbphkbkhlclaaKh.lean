
/- P42: ways begin with a code word. -/
import Derived.Test.YtimbphkbkhlclaaKe
import Derived.Test.YtimbphkbkhlclaaKd
import Derived.Test.YtimbphkbkhlclaaEqInts
import Derived.Deep.QuietTactic
import Derived.BigQuiet
namespace Go.Proofs.Ytimbphkbkhlclaa
open Go.RowKit

theorem ways_at (L : List (List Int)) : ∀ (zs : List Int) (i : Nat), i ≤ zs.length → (ways L zs).getD i 0 = fc L (zs.drop i) := by
  intro zs
  induction zs with
  | nil => intro i hi; obtain rfl : i = 0 := by simpa using hi
           rfl
  | cons z ys ih =>
    intro i hi
    cases i with
    | zero => rfl
    | succ i => exact ih i (by simpa using hi)
theorem fc_way {L : List (List Int)} {zs : List Int} (h : 0 < zs.length) : fc L zs = wayTo L zs (ways L (zs.drop 1)) L.length := by
  cases zs with
  | nil => simp at h
  | cons z ys => rfl
theorem equalInts_b (w : World) (u v : Value) (xs ys : List Int) (b : Bool) (hx : IntsAt w u xs) (hy : IntsAt w v ys) (hb : Hid (decide (xs = ys) = b)) :
    Calls Try.prog 26 #[u, v] w fun e w' => e = .returned (.bool b) ∧ Below w.heap.size w w' := by
  have := equalInts_any w u v xs ys hx hy
  rw [hb.out] at this
  exact this
theorem fcOf_ok {L : List (List Int)} {ys : List Int} (h1 : ValidL ys) (h2 : ys.length ≤ 24) : fcOf L ys true = fc L ys := if_pos ⟨rfl, h1, h2⟩
theorem validL_sub {zs ys : List Int} (h : ValidL zs) (hs : ∀ z ∈ ys, z ∈ zs) (hl : ys.length ≤ zs.length) : ValidL ys := ⟨Nat.le_trans hl h.1, fun z hz => h.2 z (hs z hz)⟩
set_option maxHeartbeats 500000 in
theorem factorCountFirst_walk (a : Option Addr) (len cap : Nat) (zs0 : List Int) (w : World) (h : RowIn .u8 w a len cap zs0) :
    Calls Try.prog 7 #[.slice a len cap] w fun e w' => e = .returned (.bool true) ∧ Below w.heap.size w w' := by
  have hlen : len ≤ 9223372036854775807 := by
    obtain ⟨_, h2, h3⟩ := bytesAt_of_row h; unfold maxLen at h3; omega
  by_cases hbig : len ≤ 1048576
  · go_enter Try.func7, Try.ntmps7
    go_wp2_with fail
    refine (drawFactorCount_any w a len cap zs0 h).mono ?_
    rintro e w1 ⟨_, a1, n1, c1, P, a2, n2, c2, zs, rfl, hL, hI, hP, hL3, hz, hb1, _, hnil⟩
    clear h
    have HX1 := keptC hL
    have HY1 := keptC hI
    have HB1 := keptC hb1
    have HPN : Hid (P.length = n1) := by
      obtain ⟨_, _, e⟩ := listOf hL
      injection e with _ e2 _
      exact e2.symm
    have HZN : Hid (zs.length = n2) := by
      obtain ⟨_, _, e, _⟩ := hI
      injection e with _ e2 _
      exact e2.symm
    have hn1 : n1 ≤ 9 := by have := HPN.out; omega
    have hn2 : n2 ≤ 19 := by have := HZN.out; omega
    have HNIL := keptC hnil
    clear hL hI hb1 hP hL3 hz hnil
    obtain ⟨b, hb⟩ := ValidCd.b P
    have HB := keptC hb
    have HFA : Hid (∀ wx v u ys, ListsAt wx v P → IntsAt wx u ys → Calls Try.prog 23 #[v, u] wx fun e w' => e = .returned (.int .i64 (fcOf P ys b)) ∧ Below wx.heap.size wx w') := fun wx v u ys h1 h2 => i_FactorCount_any wx v u P ys b h1 h2 hb
    obtain ⟨F, hF⟩ : ∃ F, fcOf P zs b = F := ⟨_, rfl⟩
    have HS : Hid (∀ wx v u, ListsAt wx v P → IntsAt wx u zs → Calls Try.prog 21 #[v, u] wx fun e w' => e = .returned (.int .i64 F) ∧ Below wx.heap.size wx w') := fun wx v u h1 h2 => by rw [← hF]; exact s_FactorCount wx v u P zs b h1 h2 hb
    have HI : Hid (∀ wx v u, ListsAt wx v P → IntsAt wx u zs → Calls Try.prog 23 #[v, u] wx fun e w' => e = .returned (.int .i64 F) ∧ Below wx.heap.size wx w') := fun wx v u h1 h2 => by rw [← hF]; exact i_FactorCount_any wx v u P zs b h1 h2 hb
    have HF := keptC hF
    clear hb hF
    go_wp2_with fail
    refine (HI.out w1 _ _ HX1.out HY1.out).mono ?_
    rintro e w2 ⟨rfl, hb2⟩
    have HX2 := keptC (HX1.out.below hb2)
    have HY2 := keptC (HY1.out.below hb2)
    have HB2 := keptC (below_next HB1.out hb2)
    clear hb2
    go_wp2_with fail
    refine (HS.out w2 _ _ HX2.out HY2.out).mono ?_
    rintro e w3 ⟨rfl, hb3⟩
    have HX3 := keptC (HX2.out.below hb3)
    have HY3 := keptC (HY2.out.below hb3)
    have HB3 := keptC (below_next HB2.out hb3)
    clear hb3
    by_cases hF0 : F < 0
    · have d0 : decide (F < 0) = true := decide_eq_true hF0
      go_wp2_with fail
      refine (HS.out w3 _ _ HX3.out HY3.out).mono ?_
      rintro e w4 ⟨rfl, hb4⟩
      have FIN := keptC (below_next HB3.out hb4)
      clear hb4
      go_wp2
      go_ret
      exact ⟨rfl, FIN.out⟩
    · have d0 : decide (F < 0) = false := decide_eq_false hF0
      by_cases hn0 : n2 = 0
      · subst hn0
        go_wp2_with fail
        refine (HS.out w3 _ _ HX3.out HY3.out).mono ?_
        rintro e w4 ⟨rfl, hb4⟩
        have FIN := keptC (below_next HB3.out hb4)
        clear hb4
        go_wp2
        go_ret
        exact ⟨rfl, FIN.out⟩
      · have q0 : ((n2 : Int) == 0) = false := by simp; omega
        have hok : b = true ∧ ValidL zs ∧ zs.length ≤ 24 := by
          refine Classical.byContradiction fun h => ?_
          have := HF.out
          unfold fcOf at this
          rw [if_neg h] at this
          omega
        obtain ⟨rfl, hzv, h24⟩ := hok
        have HVV : Hid (ValidCd P) := HB.out.1 rfl
        have HFc : Hid (F = (cnt P zs : Nat)) := by
          show F = _
          rw [← HF.out]
          unfold fcOf
          rw [if_pos ⟨rfl, hzv, h24⟩, fc_cnt HVV.out h24]
        have HZV := keptC hzv
        have HFW : Hid (F = wayTo P zs (ways P (zs.drop 1)) P.length) := by
          show F = _
          rw [HFc.out, ← fc_cnt HVV.out h24, fc_way (by have := HZN.out; omega)]
        have H24 : Hid (zs.length ≤ 24) := h24
        clear h24 hzv HI HS HB hF0
        go_wp2_with fail
        go_loopw [6, 7] (fun ms y wr => ∃ i : Nat, i ≤ n1 ∧ y = .int .i64 i ∧ ms = .int .i64 (wayTo P zs (ways P (zs.drop 1)) i) ∧ Below w.heap.size w wr ∧ Below w3.heap.size w3 wr) (fun _ y _ => n1 - (intOf y).toNat)
        case atStart => exact ⟨0, Nat.zero_le _, rfl, rfl, HB3.out, Below.refl _ _⟩
        case round =>
          obtain ⟨i, hi, rfl, rfl, hB, hB3⟩ := hrel
          obtain ⟨X, hX⟩ : ∃ X, wayTo P zs (ways P (zs.drop 1)) i = X := ⟨_, rfl⟩
          have HX := keptC hX
          rw [hX]
          clear hX
          by_cases hlt : i < n1
          · obtain ⟨g, off, u3, rfl, c1, hu3⟩ := (HX3.out.below hB3).someNth hlt
            obtain ⟨wd, hwd⟩ : ∃ wd, P.getD i [] = wd := ⟨_, rfl⟩
            rw [hwd] at hu3
            have HWD := keptC hwd
            have hw1 := (HVV.out.2.1 i (by rw [HPN.out]; exact hlt)).1
            rw [hwd] at hw1
            have HI3 : Hid (IntsAt wr.drew _ wd) := keptC (show IntsAt wr _ wd from hu3)
            obtain ⟨a4, c4, rfl, _, _, _⟩ := hu3
            obtain ⟨l, hl⟩ : ∃ l, wd.length = l := ⟨_, rfl⟩
            rw [hl] at c1 HI3 hw1
            have HL := keptC hl
            obtain ⟨g2, off2, rfl⟩ := (HY3.out).addrC (by omega)
            have HB := keptC hB
            have HB3x := keptC hB3
            have C1 := keptC c1
            clear hwd hl
            by_cases hle : l ≤ n2
            · have d1 : decide ((l : Int) ≤ n2) = true := decide_eq_true (by omega)
              have hcap : n2 ≤ c2 := by
                obtain ⟨_, _, e, x1, _⟩ := HY3.out
                injection e with _ e2 e3
                omega
              have hT : Hid (IntsAt wr.drew (.slice (some ⟨g2, off2, none⟩) l c2) (zs.take l)) := keptC (show IntsAt wr _ _ from (HY3.out.below hB3).takeC l hle)
              obtain ⟨bq, hbq⟩ : ∃ bq, decide (zs.take l = wd) = bq := ⟨_, rfl⟩
              have HBQ := keptC hbq
              have b1 : (0 : Int) ≤ (l : Int) := by omega
              have b2 : (l : Int) ≤ (n2 : Int) := by omega
              have b3 : (0 : Int) ≤ (i : Int) := by omega
              have b4 : (i : Int) < (n1 : Int) := by omega
              have b5 : l ≤ c2 := by omega
              have b6 : (l : Int) ≤ (c2 : Int) := by omega
              have n3 : ((l : Int)).toNat = l := by omega
              have HK : Hid (∀ wy, Below wr.heap.size wr wy → wy.cell? ⟨g, off + i, none⟩ = some (.slice a4 l c4)) := fun wy h => (h.cell (World.block_lt_of_cell? wr _ c1)).trans c1
              have hszr := hB.size
              have hszr3 := hB3.size
              clear hbq hB hB3
              go_wp2_with fail
              go_region_held3 (fun wy => wy.cell? ⟨g, off + i, none⟩ = some (.slice a4 l c4)) (first | assumption | exact HK.out _ (Below.refl _ _).drew | exact HK.out _ ((Below.refl _ _).drew.trans hb5)) (first | (go_at_call 26; refine (equalInts_b wr.drew _ _ (zs.take l) wd bq hT.out HI3.out HBQ).mono ?_; rintro e w5 ⟨rfl, hb5⟩))
              all_goals
                have hb6 := (Below.refl wr.heap.size wr).drew.trans hb5
                have HB5 := keptC (below_next HB.out hb6)
                have HB35 := keptC (below_next HB3x.out hb6)
                clear hb5 hb6
                cases bq with
                | false =>
                  have HW' : Hid (wayTo P zs (ways P (zs.drop 1)) (i + 1) = X) := by
                    show _ = _
                    rw [wayTo_miss HWD.out (by rw [HL.out]; exact of_decide_eq_false HBQ.out), HX.out]
                  go_wp2
                  go_roundw
                  case rel => exact ⟨i + 1, by omega, by go_num, by rw [HW'.out], HB5.out, HB35.out⟩
                  case measure => simp [intOf]; omega
                | true =>
                  have hp := of_decide_eq_true HBQ.out
                  have hdl : (zs.drop l).length ≤ 24 := by rw [List.length_drop]; have := H24.out; omega
                  have hvl : ValidL (zs.drop l) := validL_sub HZV.out (fun z hz => List.mem_of_mem_drop hz) (by rw [List.length_drop]; omega)
                  obtain ⟨Y, hY⟩ : ∃ Y, fcOf P (zs.drop l) true = Y := ⟨_, rfl⟩
                  have HFC : Hid (∀ wx v u, ListsAt wx v P → IntsAt wx u (zs.drop l) → Calls Try.prog 23 #[v, u] wx fun e w' => e = .returned (.int .i64 Y) ∧ Below wx.heap.size wx w') := fun wx v u h1 h2 => by rw [← hY]; exact HFA.out wx v u (zs.drop l) h1 h2
                  obtain ⟨Z, hZ⟩ : ∃ Z, IntKind.i64.wrap (X + Y) = Z := ⟨_, rfl⟩
                  have HW' : Hid (wayTo P zs (ways P (zs.drop 1)) (i + 1) = Z) := by
                    show _ = _
                    rw [wayTo_hit HWD.out (by rw [HL.out]; exact hp), HX.out, HL.out, ← hZ]
                    have e1 : (ways P (zs.drop 1)).getD (l - 1) 0 = Y := by
                      rw [ways_at P _ _ (by rw [List.length_drop, HZN.out]; omega), List.drop_drop, show 1 + (l - 1) = l from by omega, ← hY]
                      exact (fcOf_ok hvl hdl).symm
                    rw [e1]
                  have HX5 := keptC (HX3.out.below HB35.out)
                  clear hp hdl hvl hY
                  by_cases hck : c2 = l
                  · have hnl : l = n2 := by omega
                    have hD : IntsAt w5 (.slice (some ⟨g2, off2, none⟩) 0 0) (zs.drop l) := by
                      have e : zs.drop l = [] := List.drop_eq_nil_of_le (by rw [HZN.out]; omega)
                      rw [e]
                      exact ⟨_, 0, rfl, by simp, by omega, .inl rfl⟩
                    have HD := keptC hD
                    clear hD
                    subst hnl
                    subst hck
                    go_wp2_with fail
                    with_reducible refine (HFC.out w5 _ _ HX5.out HD.out).mono ?_
                    rintro e w6 ⟨rfl, hb6⟩
                    have HB6 := keptC (below_next HB5.out hb6)
                    have HB36 := keptC (below_next HB35.out hb6)
                    clear hb6
                    go_wp2
                    go_roundw
                    case rel => exact ⟨i + 1, by omega, by go_num, by rw [HW'.out], HB6.out, HB36.out⟩
                    case measure => simp [intOf]; omega
                  · have HD := keptC ((HY3.out.below HB35.out).dropC l hle)
                    go_wp2_with fail
                    with_reducible refine (HFC.out w5 _ _ HX5.out HD.out).mono ?_
                    rintro e w6 ⟨rfl, hb6⟩
                    have HB6 := keptC (below_next HB5.out hb6)
                    have HB36 := keptC (below_next HB35.out hb6)
                    clear hb6
                    go_wp2
                    go_roundw
                    case rel => exact ⟨i + 1, by omega, by go_num, by rw [HW'.out], HB6.out, HB36.out⟩
                    case measure => simp [intOf]; omega
            · have d1 : decide ((l : Int) ≤ n2) = false := decide_eq_false (by omega)
              have HW' : Hid (wayTo P zs (ways P (zs.drop 1)) (i + 1) = X) := by
                show _ = _
                rw [wayTo_miss HWD.out (fun h => by have := begins_len h; rw [HL.out, HZN.out] at this; exact hle this), HX.out]
              clear hB hB3
              go_wp2_with fail
              go_quiet (fail)
              go_wp2
              go_roundw
              case rel => exact ⟨i + 1, by omega, by go_num, by rw [HW'.out], below_drewN HB.out _, below_drewN HB3x.out _⟩
              case measure => simp [intOf]; omega
          · obtain rfl : n1 = i := by omega
            have HFX : Hid (F = X) := by
              show F = X
              rw [HFW.out, HPN.out]; exact HX.out
            have HB := keptC hB
            clear hB hB3
            obtain rfl := HFX.out
            go_wp2
            go_ret
            exact ⟨by simp, HB.out⟩
  · have hbig' : 1048576 < len := by omega
    go_enter Try.func7, Try.ntmps7
    go_wp2
    go_ret
    exact ⟨rfl, Below.refl _ _⟩
end Go.Proofs.Ytimbphkbkhlclaa
