
/- Shrink in the model. -/
import Derived.Test.YtmmgeplhaooknaaIe
namespace Go.Proofs.Ytmmgeplhaooknaa
open Go.RowKit

def ShrinkIs (L : List (List Int)) (k : Int) (R : List (List Int)) : Prop :=
  AnsIs (BlockOk L 24 24 1 ∧ 1 ≤ k ∧ k ≤ 6) (gridOf (ceilD L.length k.toNat) (ceilD (wdt L) k.toNat) (shrF (px L) L.length (wdt L) k.toNat)) R
theorem Shrink_ex (L : List (List Int)) (k : Int) : ∃ R, ShrinkIs L k R ∧ ListsSmall R :=
  ansIs_ex _ _ fun h => grid_small (by have := h.1.bd; have := ceilD_le (n := L.length) (k := k.toNat) (by omega); omega) (by have := h.1.bd; have := ceilD_le (n := wdt L) (k := k.toNat) (by omega); omega)
theorem s_one_yes (w : World) :
    Calls Try.prog 62 #[.bool true] w fun e w' => e = .returned (.int .i64 1) ∧ w = w' := by
  go_enter Try.func62, Try.ntmps62
  go_wp2
  go_ret
  exact ⟨rfl, rfl⟩
theorem s_one_no (w : World) :
    Calls Try.prog 62 #[.bool false] w fun e w' => e = .returned (.int .i64 0) ∧ w = w' := by
  go_enter Try.func62, Try.ntmps62
  go_wp2
  go_ret
  exact ⟨rfl, rfl⟩
set_option maxHeartbeats 4000000 in
theorem sl_Shrink (w : World) (v : Value) (L : List (List Int)) (kk : Int) (R : List (List Int)) (hx : ListsAt w v L) (hR : ShrinkIs L kk R) :
    Calls Try.prog 35 #[v, .int .i64 kk] w fun e w' => PlOut R w e w' := by
  obtain ⟨i0, hi, hz0, hz1, hz2⟩ := info_parts infoInt
  have HX := keptI hx
  have HR := keptI hR
  obtain ⟨a, n, cp, rfl, hn, x1, x2, _⟩ := hx.partsI
  clear hx hR hn
  go_enter Try.func35, Try.ntmps35
  go_wp2_with fail
  refine (s_validPicture w _ L HX.out).mono ?_
  rintro e w0 ⟨b, rfl, hb0, hbb⟩
  cases b with
  | false =>
    have HZ : Hid (R = []) := HR.out.no fun h => by simpa using hbb.2 h.1
    clear hbb
    go_wp2
    go_ret
    exact plOut_nil HZ.out hb0
  | true =>
    by_cases hK : 1 ≤ kk ∧ kk ≤ 6
    · have HOK : Hid (BlockOk L 24 24 1) := keptI (hbb.1 rfl)
      have HZ : Hid (R = _) := HR.out.yes ⟨HOK.out, hK⟩
      obtain ⟨hn, hp⟩ := HOK.out.pic HX.out
      obtain ⟨hd1, hd2, hd3, hd4⟩ := HOK.out.bd
      have HN := Lib.hid hn
      rw [← hn] at hd1 hd2
      obtain ⟨m, hm⟩ : ∃ m, wdt L = m := ⟨_, rfl⟩
      rw [hm] at hd3 hd4 hp
      have HM := Lib.hid hm
      obtain ⟨K, rfl⟩ : ∃ K : Nat, kk = (K : Int) := ⟨kk.toNat, by omega⟩
      obtain ⟨f, hf⟩ : ∃ f : Nat → Nat → Int, f = shrF (px L) n m K := ⟨_, rfl⟩
      have HF := Lib.hid hf
      obtain ⟨h, hh⟩ : ∃ h, ceilD n K = h := ⟨_, rfl⟩
      obtain ⟨h2, hh2⟩ : ∃ h2, ceilD m K = h2 := ⟨_, rfl⟩
      have HZ : Hid (R = gridOf h h2 f) := by show _ = _; rw [HZ.out, ← HN.out, HM.out, hf, Int.toNat_natCast, hh, hh2]
      have HH : Hid (∀ Y, Y < h ↔ Y * K < n) := fun Y => by rw [← hh]; exact ceilD_lt (by omega)
      have HH2 : Hid (∀ Y, Y < h2 ↔ Y * K < m) := fun Y => by rw [← hh2]; exact ceilD_lt (by omega)
      have hhb : h ≤ n := by rw [← hh]; exact ceilD_le (by omega)
      have hhb2 : h2 ≤ m := by rw [← hh2]; exact ceilD_le (by omega)
      have hp2 : 1 ≤ h2 := by rw [← hh2]; exact ceilD_pos (by omega) hd3
      have HP := keptI hp
      have HB0 := keptI hb0
      have hs0 := hb0.size
      obtain ⟨_, _, g, off, rfl, _⟩ := hp
      obtain ⟨_, _, b0, o0, d0, e0, c00, _, _, _⟩ := HP.out.row (y := 0) hd1
      injection e0 with e0
      injection e0 with e0 e0'
      subst e0 e0'
      rw [Nat.add_zero] at c00
      have HC00 := keptI c00
      have q0 : (0 : Int) < (n : Int) := by omega
      obtain ⟨hK1, hK2⟩ := hK
      have hal : Below w.heap.size w (w0.alloc (.cells #[] 26)) := hb0.alloc hs0 _
      have HO0 : Hid (OwnLL (w0.alloc (.cells #[] 26)) w.heap.size (w0.alloc (.cells #[] 26)).heap.size (.slice (some ⟨w0.heap.size, 0, none⟩) 0 0) (gridOf 0 h2 f)) := OwnLL.madeI w0 w.heap.size hs0
      have HA0 := keptI hal
      have HK0 : Hid (0 = 0 * K) := by show _ = _; simp
      clear hbb hf hn hm hb0 hal hh hh2 c00
      go_wp2_with fail
      refine (inRange_yes (K : Int) 1 6 _ hK1 hK2).mono ?_
      rintro e w' ⟨rfl, rfl⟩
      go_wp2
      go_loopw [5, 6] (fun o i wr => ∃ Y YK : Nat, Y ≤ h ∧ i = .int .i64 YK ∧ Hid (YK = Y * K) ∧ YK ≤ n + 6 ∧ OwnLL wr w.heap.size wr.heap.size o (gridOf Y h2 f) ∧ Below w.heap.size w wr) (fun _ i _ => n + 6 - (intOf i).toNat)
      case atStart => exact ⟨0, 0, Nat.zero_le _, rfl, HK0, by omega, HO0.out, HA0.out⟩
      case round =>
        clear HO0 HA0
        obtain ⟨Y, YK, hY, rfl, HYK, hYK, hO, hB⟩ := hrel
        rename World => wo
        have hsz := hB.size
        have HO := keptI hO
        have HB := keptI hB
        obtain ⟨ao, no, co, hoo⟩ := hO.ls.isSlice
        subst hoo
        clear hO hB
        by_cases hlt : YK < n
        · have hYh : Y < h := by rw [HH.out, ← HYK.out]; exact hlt
          have hal : Below wo.heap.size wo (wo.alloc (.cells #[] 3)) := (Below.refl _ _).alloc (Nat.le_refl _) _
          have HI0 : Hid (OwnInts (wo.alloc (.cells #[] 3)) wo.heap.size (.slice (some ⟨wo.heap.size, 0, none⟩) 0 0) (rowOf 0 (f Y))) := OwnInts.made _ _ (Nat.le_refl _)
          have HA1 := keptI hal
          clear hal
          go_wp2
          go_loopw [7, 8] (fun r j wx => ∃ X XK : Nat, X ≤ h2 ∧ j = .int .i64 XK ∧ Hid (XK = X * K) ∧ XK ≤ m + 6 ∧ OwnInts wx wo.heap.size r (rowOf X (f Y)) ∧ Below wo.heap.size wo wx) (fun _ j _ => m + 6 - (intOf j).toNat)
          case atStart => exact ⟨0, 0, Nat.zero_le _, rfl, HK0, by omega, HI0.out, HA1.out⟩
          case round =>
            clear HI0 HA1
            obtain ⟨X, XK, hX, rfl, HXK, hXK, hI, hb⟩ := hrel
            have hsx := hb.size
            have hbw := HB.out.trans (hb.mono hsz)
            have c00 := (hbw.cell (World.block_lt_of_cell? w _ HC00.out)).trans HC00.out
            have hrl := rowOf_len X (f Y)
            obtain ⟨P, hP⟩ : ∃ P, rowOf X (f Y) = P := ⟨_, rfl⟩
            rw [hP] at hI hrl
            have HP2 := Lib.hid hP
            have HI := keptI hI
            have HBx := keptI hb
            clear hP hI hb
            by_cases hqm : XK < m
            · have hXh : X < h2 := by rw [HH2.out, ← HXK.out]; exact hqm
              have HBW := keptI hbw
              have hl9 : P.length ≤ 1000 := by omega
              have HRL := Lib.hid hrl
              obtain ⟨ny, hny⟩ : ∃ ny, within n YK K = ny := ⟨_, rfl⟩
              obtain ⟨nx, hnx⟩ : ∃ nx, within m XK K = nx := ⟨_, rfl⟩
              have HNY : Hid (∀ I : Nat, YK ≤ I → (I < YK + ny ↔ (I < n ∧ I < YK + K))) := fun I h => by rw [← hny]; unfold within; omega
              have HNX : Hid (∀ I : Nat, XK ≤ I → (I < XK + nx ↔ (I < m ∧ I < XK + K))) := fun I h => by rw [← hnx]; unfold within; omega
              have hny6 : ny ≤ 6 := by rw [← hny]; unfold within; omega
              have hnx6 : nx ≤ 6 := by rw [← hnx]; unfold within; omega
              have HFV : Hid (f Y X = if ((ny * nx : Nat) : Int) ≤ 2 * bs (px L) YK ny XK nx then 1 else 0) := by
                show _ = _
                rw [HF.out]
                show (if ((within n (Y * K) K * within m (X * K) K : Nat) : Int) ≤ 2 * bs (px L) (Y * K) (within n (Y * K) K) (X * K) (within m (X * K) K) then (1 : Int) else 0) = _
                rw [← HYK.out, ← HXK.out, hny, hnx]
              clear hbw hrl hny hnx
              clear c00
              have c00 := (HBW.out.cell (World.block_lt_of_cell? w _ HC00.out)).trans HC00.out
              go_wp2
              go_loop [9, 10, 11] (fun r l y => ∃ (I A : Nat) (s : Int), YK ≤ I ∧ I ≤ YK + ny ∧ y = .int .i64 I ∧ r = .int .i64 s ∧ l = .int .i64 A ∧ 0 ≤ s ∧ s ≤ A ∧ A ≤ 6 * (I - YK) ∧ Hid (bs (px L) YK (I - YK) XK nx = s) ∧ Hid ((I - YK) * nx = A)) (fun _ _ y => YK + ny - (intOf y).toNat)
              case atStart => exact ⟨YK, 0, 0, Nat.le_refl _, by omega, rfl, rfl, rfl, by omega, by omega, by omega, by show _ = _; rw [Nat.sub_self]; rfl, by show _ = _; rw [Nat.sub_self, Nat.zero_mul]⟩
              case round =>
                obtain ⟨I, A, s, hI0, hI1, rfl, rfl, rfl, hs3, hs4, hA, HS, HA⟩ := hrel
                by_cases hIlt : I < YK + ny
                · obtain ⟨hIn, hIt⟩ := (HNY.out I hI0).1 hIlt
                  have hIt' : (I : Int) < (YK : Int) + (K : Int) := by omega
                  obtain ⟨_, _, b, o, d, e1, c0, hd5, hd6, hcx⟩ := HP.out.row hIn
                  injection e1 with e1
                  injection e1 with e1 e2
                  subst e1 e2
                  have HCX := keptI hcx
                  have c0 := (HBW.out.cell (World.block_lt_of_cell? w _ c0)).trans c0
                  have q1 : (0 : Int) ≤ (I : Int) := by omega
                  have q2 : (I : Int) < (n : Int) := by omega
                  clear hcx
                  by_cases hmin : (YK : Int) + (K : Int) < (n : Int)
                  all_goals
                    go_wp2
                    go_loop [9, 10, 12] (fun r l x => ∃ (J B : Nat) (t : Int), XK ≤ J ∧ J ≤ XK + nx ∧ x = .int .i64 J ∧ r = .int .i64 (s + t) ∧ l = .int .i64 ((A : Int) + B) ∧ 0 ≤ t ∧ t ≤ B ∧ B ≤ 6 ∧ Hid (rs (px L I) XK (J - XK) = t) ∧ Hid (J - XK = B)) (fun _ _ x => XK + nx - (intOf x).toNat)
                    case atStart => exact ⟨XK, 0, 0, Nat.le_refl _, by omega, rfl, by rw [Int.add_zero], by simp, by omega, by omega, by omega, by show _ = _; rw [Nat.sub_self]; rfl, by show _ = _; rw [Nat.sub_self]⟩
                    case round =>
                      obtain ⟨J, B, t, hJ0, hJ1, rfl, rfl, rfl, ht3, ht4, hB6, HT, HB6⟩ := hrel
                      by_cases hJlt : J < XK + nx
                      · obtain ⟨hJn, hJt⟩ := (HNX.out J hJ0).1 hJlt
                        have hJt' : (J : Int) < (XK : Int) + (K : Int) := by omega
                        have cx := (HBW.out.cell (World.block_lt_of_cell? w _ (HCX.out J hJn))).trans (HCX.out J hJn)
                        have hbin := HOK.out.bin I J
                        have HT1 : Hid (rs (px L I) XK (J + 1 - XK) = t + px L I J) := by
                          show _ = _
                          rw [show J + 1 - XK = (J - XK) + 1 by omega, rs_succ, HT.out, show XK + (J - XK) = J by omega]
                        have HB1 : Hid (J + 1 - XK = B + 1) := by show _ = _; rw [← HB6.out]; omega
                        have hBx : B + 1 ≤ 6 := by have := HB6.out; omega
                        obtain ⟨z, hz⟩ : ∃ z, px L I J = z := ⟨_, rfl⟩
                        rw [hz] at cx hbin HT1
                        have hz1 : 0 ≤ z := by omega
                        have hz2 : z ≤ 1 := by omega
                        have q3 : (0 : Int) ≤ (J : Int) := by omega
                        have q4 : (J : Int) < (m : Int) := by omega
                        clear hz hbin HT HB6
                        by_cases hmin2 : (XK : Int) + (K : Int) < (m : Int)
                        all_goals
                          go_wp2
                          go_round
                          case rel => exact ⟨J + 1, B + 1, t + z, by omega, by omega, by go_num, by rw [Int.add_assoc], by go_num, by omega, by omega, by omega, HT1, HB1⟩
                          case measure => simp [intOf]; omega
                      · have HSX : Hid (bs (px L) YK (I + 1 - YK) XK nx = s + t) := by
                          show _ = _
                          rw [show I + 1 - YK = (I - YK) + 1 by omega, bs_succ, HS.out, show YK + (I - YK) = I by omega, ← HT.out, show J - XK = nx by omega]
                        have HAX : Hid ((I + 1 - YK) * nx = A + B) := by
                          show _ = _
                          rw [show I + 1 - YK = (I - YK) + 1 by omega, Nat.add_mul, HA.out, Nat.one_mul, ← HB6.out]; omega
                        have hJo : ¬ (J < m ∧ J < XK + K) := fun h => hJlt ((HNX.out J hJ0).2 h)
                        clear HT HB6
                        by_cases hmin2 : (XK : Int) + (K : Int) < (m : Int)
                        · have e2 : decide ((J : Int) < (XK : Int) + (K : Int)) = false := decide_eq_false (by omega)
                          go_wp2
                          go_round
                          case rel => exact ⟨I + 1, A + B, s + t, by omega, by omega, by go_num, rfl, by go_num, by omega, by omega, by omega, HSX, HAX⟩
                          case measure => simp [intOf]; omega
                        · have e1 : decide (J < m) = false := decide_eq_false (by omega)
                          go_wp2
                          go_round
                          case rel => exact ⟨I + 1, A + B, s + t, by omega, by omega, by go_num, rfl, by go_num, by omega, by omega, by omega, HSX, HAX⟩
                          case measure => simp [intOf]; omega
                · have HSX : Hid (bs (px L) YK ny XK nx = s) := by show _ = _; rw [← HS.out, show I - YK = ny by omega]
                  have HAX : Hid (((ny * nx : Nat) : Int) = (A : Int)) := by show _ = _; rw [← HA.out, show I - YK = ny by omega]
                  have hIo : ¬ (I < n ∧ I < YK + K) := fun h => hIlt ((HNY.out I hI0).2 h)
                  have hA36 : A ≤ 36 := by omega
                  have HV : Hid (f Y X = if (A : Int) ≤ 2 * s then 1 else 0) := by show _ = _; rw [HFV.out, HSX.out, HAX.out]
                  clear HS HA
                  have hXs : (X + 1) * K = XK + K := by rw [Nat.add_mul, ← HXK.out]; omega
                  have HXS : Hid (XK + K = (X + 1) * K) := hXs.symm
                  clear hXs
                  by_cases hmin : (YK : Int) + (K : Int) < (n : Int)
                  · have e2 : decide ((I : Int) < (YK : Int) + (K : Int)) = false := decide_eq_false (by omega)
                    by_cases hbig : (A : Int) ≤ 2 * s
                    · have HV1 : Hid (f Y X = 1) := by show _ = _; rw [HV.out, if_pos hbig]
                      have e3 : decide ((A : Int) ≤ 2 * s) = true := decide_eq_true hbig
                      clear HV
                      go_wp2_with (first | (go_at_call 62; refine (s_one_yes _).mono ?_; rintro e w' ⟨rfl, rfl⟩) | (at_builtin; refine wpList_append_own _ rfl _ _ 26 rfl wo.heap.size 3 i0 (.int .i64 0) 1 8 Try.underlying26 hi hz0 hz1 hz2 rfl (by decide) _ _ _ rfl (HI.out.alloc _) ⟨_, 0, none⟩ 1 1 [.int .i64 1] rfl rfl new_one one_cell (by unfold maxLen; omega) (by omega) (by simp; omega) ?_))
                      intro v' w1 hown' hgrow _
                      have R1 := OwnInts.snoc hown'
                      have R2 := below_append HBx.out hsx HI.out hgrow
                      have HR1 : Hid (OwnInts w1 wo.heap.size v' (rowOf (X + 1) (f Y))) := by show OwnInts _ _ _ _; rw [rowOf_succ, HP2.out, HV1.out]; exact R1
                      have HR2 := keptI R2
                      clear hown' hgrow R1 R2
                      go_wp2
                      go_roundw
                      case rel => exact ⟨X + 1, XK + K, by omega, by go_num, HXS, by omega, HR1.out, HR2.out⟩
                      case measure => simp [intOf]; omega
                    · have HV1 : Hid (f Y X = 0) := by show _ = _; rw [HV.out, if_neg hbig]
                      have e3 : decide ((A : Int) ≤ 2 * s) = false := decide_eq_false hbig
                      clear HV
                      go_wp2_with (first | (go_at_call 62; refine (s_one_no _).mono ?_; rintro e w' ⟨rfl, rfl⟩) | (at_builtin; refine wpList_append_own _ rfl _ _ 26 rfl wo.heap.size 3 i0 (.int .i64 0) 1 8 Try.underlying26 hi hz0 hz1 hz2 rfl (by decide) _ _ _ rfl (HI.out.alloc _) ⟨_, 0, none⟩ 1 1 [.int .i64 0] rfl rfl new_one one_cell (by unfold maxLen; omega) (by omega) (by simp; omega) ?_))
                      intro v' w1 hown' hgrow _
                      have R1 := OwnInts.snoc hown'
                      have R2 := below_append HBx.out hsx HI.out hgrow
                      have HR1 : Hid (OwnInts w1 wo.heap.size v' (rowOf (X + 1) (f Y))) := by show OwnInts _ _ _ _; rw [rowOf_succ, HP2.out, HV1.out]; exact R1
                      have HR2 := keptI R2
                      clear hown' hgrow R1 R2
                      go_wp2
                      go_roundw
                      case rel => exact ⟨X + 1, XK + K, by omega, by go_num, HXS, by omega, HR1.out, HR2.out⟩
                      case measure => simp [intOf]; omega
                  · have e2 : decide (I < n) = false := decide_eq_false (by omega)
                    by_cases hbig : (A : Int) ≤ 2 * s
                    · have HV1 : Hid (f Y X = 1) := by show _ = _; rw [HV.out, if_pos hbig]
                      have e3 : decide ((A : Int) ≤ 2 * s) = true := decide_eq_true hbig
                      clear HV
                      go_wp2_with (first | (go_at_call 62; refine (s_one_yes _).mono ?_; rintro e w' ⟨rfl, rfl⟩) | (at_builtin; refine wpList_append_own _ rfl _ _ 26 rfl wo.heap.size 3 i0 (.int .i64 0) 1 8 Try.underlying26 hi hz0 hz1 hz2 rfl (by decide) _ _ _ rfl (HI.out.alloc _) ⟨_, 0, none⟩ 1 1 [.int .i64 1] rfl rfl new_one one_cell (by unfold maxLen; omega) (by omega) (by simp; omega) ?_))
                      intro v' w1 hown' hgrow _
                      have R1 := OwnInts.snoc hown'
                      have R2 := below_append HBx.out hsx HI.out hgrow
                      have HR1 : Hid (OwnInts w1 wo.heap.size v' (rowOf (X + 1) (f Y))) := by show OwnInts _ _ _ _; rw [rowOf_succ, HP2.out, HV1.out]; exact R1
                      have HR2 := keptI R2
                      clear hown' hgrow R1 R2
                      go_wp2
                      go_roundw
                      case rel => exact ⟨X + 1, XK + K, by omega, by go_num, HXS, by omega, HR1.out, HR2.out⟩
                      case measure => simp [intOf]; omega
                    · have HV1 : Hid (f Y X = 0) := by show _ = _; rw [HV.out, if_neg hbig]
                      have e3 : decide ((A : Int) ≤ 2 * s) = false := decide_eq_false hbig
                      clear HV
                      go_wp2_with (first | (go_at_call 62; refine (s_one_no _).mono ?_; rintro e w' ⟨rfl, rfl⟩) | (at_builtin; refine wpList_append_own _ rfl _ _ 26 rfl wo.heap.size 3 i0 (.int .i64 0) 1 8 Try.underlying26 hi hz0 hz1 hz2 rfl (by decide) _ _ _ rfl (HI.out.alloc _) ⟨_, 0, none⟩ 1 1 [.int .i64 0] rfl rfl new_one one_cell (by unfold maxLen; omega) (by omega) (by simp; omega) ?_))
                      intro v' w1 hown' hgrow _
                      have R1 := OwnInts.snoc hown'
                      have R2 := below_append HBx.out hsx HI.out hgrow
                      have HR1 : Hid (OwnInts w1 wo.heap.size v' (rowOf (X + 1) (f Y))) := by show OwnInts _ _ _ _; rw [rowOf_succ, HP2.out, HV1.out]; exact R1
                      have HR2 := keptI R2
                      clear hown' hgrow R1 R2
                      go_wp2
                      go_roundw
                      case rel => exact ⟨X + 1, XK + K, by omega, by go_num, HXS, by omega, HR1.out, HR2.out⟩
                      case measure => simp [intOf]; omega
            · obtain rfl : X = h2 := by
                have := HH2.out X
                rw [← HXK.out] at this
                omega
              have hbw' := keptI hbw
              obtain ⟨b6, c6, hv6, hb6⟩ := HI.out.shape (by omega)
              subst hv6
              have HO3 := keptI (HO.out.below HBx.out (Nat.le_refl _))
              have hl := gridOf_len Y X f
              obtain ⟨G, hG⟩ : ∃ G, gridOf Y X f = G := ⟨_, rfl⟩
              have HG := Lib.hid hG
              rw [hG] at HO3 hl
              have hal : Below wr.heap.size wr (wr.alloc (.cells #[.slice (some ⟨b6, 0, none⟩) P.length c6] 26)) := (Below.refl _ _).alloc (Nat.le_refl _) _
              have HO8 := keptI (HO3.out.below hal hsx)
              have HE8 := keptI (HI.out.below hal)
              have HC8 : Hid ((wr.alloc (.cells #[.slice (some ⟨b6, 0, none⟩) P.length c6] 26)).cell? ⟨wr.heap.size, 0, none⟩ = some (.slice (some ⟨b6, 0, none⟩) P.length c6)) := by
                show _ = _
                rw [cell_of_row _ wr.heap.size 0 _ _ _ (heap_alloc_new wr _)]; rfl
              have hl8 : G.length ≤ 100000 := by omega
              have hYs : (Y + 1) * K = YK + K := by rw [Nat.add_mul, ← HYK.out]; omega
              have HYS : Hid (YK + K = (Y + 1) * K) := hYs.symm
              clear hal hG hl hrl hbw hYs
              go_wp2_with (at_builtin; refine wpList_append_ll rfl _ _ rfl w.heap.size wo.heap.size wr.heap.size b6 P.length c6 P rfl rfl HO8.out HC8.out HE8.out rfl hl8 hsz ?_)
              intro v9 w9 hown9 hgrow9
              have HO9 : Hid (OwnLL w9 w.heap.size w9.heap.size v9 (gridOf (Y + 1) X f)) := by show OwnLL _ _ _ _ _; rw [gridOf_succ, HG.out, HP2.out]; exact hown9
              have HB9 := keptI (grown_llI hbw'.out (by omega) HO3.out hgrow9)
              clear hown9 hgrow9
              set_option maxRecDepth 20000 in
              go_wp2
              go_roundw
              case rel => exact ⟨Y + 1, YK + K, by omega, by go_num, HYS, by omega, HO9.out, HB9.out⟩
              case measure => simp [intOf]; omega
        · obtain rfl : Y = h := by
            have := HH.out Y
            rw [← HYK.out] at this
            omega
          go_wp2
          go_ret
          exact ⟨_, _, _, rfl, by rw [HZ.out]; exact HO.out, HB.out⟩
    · have HZ : Hid (R = []) := HR.out.no fun h => hK h.2
      have hK' : kk < 1 ∨ 6 < kk := by omega
      clear hbb hK
      go_wp2_with fail
      refine (inRange_no kk 1 6 _ hK').mono ?_
      rintro e w' ⟨rfl, rfl⟩
      go_wp2
      go_ret
      exact plOut_nil HZ.out hb0
theorem s_Shrink (w : World) (v : Value) (L : List (List Int)) (kk : Int) (R : List (List Int)) (hx : ListsAt w v L) (hR : ShrinkIs L kk R) :
    Calls Try.prog 35 #[v, .int .i64 kk] w fun e w' => PsOut R w e w' := (sl_Shrink w v L kk R hx hR).mono fun _ _ h => h.ps
end Go.Proofs.Ytmmgeplhaooknaa
