
/- PictureCells in the model. -/
import Derived.Test.YtmmgeplhaooknaaIl
import Derived.Test.YtmmgeplhaooknaaIm
namespace Go.Proofs.Ytmmgeplhaooknaa
open Go.RowKit

theorem pxI_nat {f : Nat → Nat → Int} {n m : Nat} (h1 : ∀ y x, n ≤ y → f y x = 0) (h2 : ∀ y x, m ≤ x → f y x = 0) (y x : Nat) : pxI f n m y x = f y x := by
  unfold pxI
  by_cases h : (0 ≤ (y : Int) ∧ (y : Int) < n) ∧ (0 ≤ (x : Int) ∧ (x : Int) < m)
  · rw [if_pos h]; simp
  · rw [if_neg h]
    by_cases hy : n ≤ y
    · exact (h1 y x hy).symm
    · exact (h2 y x (by omega)).symm
set_option maxHeartbeats 4000000 in
theorem sl_PictureCells (w : World) (v : Value) (L R : List (List Int)) (hx : ListsAt w v L) (hR : PicCellsIs L R) :
    Calls Try.prog 24 #[v] w fun e w' => PlOut R w e w' := by
  obtain ⟨i0, hi, hz0, hz1, hz2⟩ := info_parts infoInt
  have HX := keptI hx
  have HR := keptI hR
  obtain ⟨a, n, cp, rfl, hn, x1, x2, _⟩ := hx.partsI
  clear hx hR hn
  go_enter Try.func24, Try.ntmps24
  go_wp2_with fail
  refine (s_validPicture w _ L HX.out).mono ?_
  rintro e w0 ⟨b, rfl, hb0, hbb⟩
  cases b with
  | false =>
    have HZ : Hid (R = []) := HR.out.no fun h => by simpa using hbb.2 h
    clear hbb
    go_wp2
    go_ret
    exact plOut_nil HZ.out hb0
  | true =>
    have HOK : Hid (BlockOk L 24 24 1) := keptI (hbb.1 rfl)
    have HZ : Hid (R = _) := HR.out.yes HOK.out
    obtain ⟨hn, hp⟩ := HOK.out.pic HX.out
    obtain ⟨hd1, hd2, hd3, hd4⟩ := HOK.out.bd
    have HN := Lib.hid hn
    rw [← hn] at hd1 hd2
    obtain ⟨m, hm⟩ : ∃ m, wdt L = m := ⟨_, rfl⟩
    rw [hm] at hd3 hd4 hp
    have HM := Lib.hid hm
    obtain ⟨f, hf⟩ : ∃ f : Nat → Nat → Int, f = px L := ⟨_, rfl⟩
    rw [← hf] at hp
    obtain ⟨h, hh⟩ : ∃ h, ceilD n 3 = h := ⟨_, rfl⟩
    obtain ⟨h2, hh2⟩ : ∃ h2, ceilD m 2 = h2 := ⟨_, rfl⟩
    have HZ : Hid (R = gridOf h h2 (pcF f)) := by show _ = _; rw [HZ.out, ← HN.out, HM.out, hf, hh, hh2]
    have HH : Hid (∀ Y, Y < h ↔ Y * 3 < n) := fun Y => by rw [← hh]; exact ceilD_lt (by omega)
    have HH2 : Hid (∀ Y, Y < h2 ↔ Y * 2 < m) := fun Y => by rw [← hh2]; exact ceilD_lt (by omega)
    have hhb : h ≤ n := by rw [← hh]; exact ceilD_le (by omega)
    have hhb2 : h2 ≤ m := by rw [← hh2]; exact ceilD_le (by omega)
    have hp2 : 1 ≤ h2 := by rw [← hh2]; exact ceilD_pos (by omega) hd3
    have HOutY : Hid (∀ y x, n ≤ y → f y x = 0) := fun y x h => by rw [hf]; exact px_out HOK.out.2.2 (.inl (by omega))
    have HOutX : Hid (∀ y x, m ≤ x → f y x = 0) := fun y x h => by rw [hf]; exact px_out HOK.out.2.2 (.inr (by rw [← hm] at h; exact h))
    have HBin : Hid (∀ y x, f y x = 0 ∨ f y x = 1) := fun y x => by rw [hf]; exact HOK.out.bin y x
    have HP := keptI hp
    have HB0 := keptI hb0
    have hs0 := hb0.size
    obtain ⟨_, _, g, off, rfl, _⟩ := hp
    obtain ⟨_, _, b0, o0, d0, e0, c00, _, _, _⟩ := HP.out.row (y := 0) hd1
    injection e0 with e0
    injection e0 with e0 e0'
    subst e0 e0'
    rw [Nat.add_zero] at c00
    have HC00 := keptI c00
    have HAT : Hid (∀ wy (y x : Nat), Below w.heap.size w wy → Calls Try.prog 52 #[.slice (some ⟨g, off, none⟩) n cp, .int .i64 (y : Int), .int .i64 (x : Int)] wy fun e w' => e = .returned (.int .i64 (f y x)) ∧ wy = w') := fun wy y x hb => by
      have := s_at wy _ n cp m f y x (HP.out.below hb) (by omega) (by omega)
      rw [pxI_nat HOutY.out HOutX.out] at this
      exact this
    have q0 : (0 : Int) < (n : Int) := by omega
    have hal : Below w.heap.size w (w0.alloc (.cells #[] 26)) := hb0.alloc hs0 _
    have HO0 : Hid (OwnLL (w0.alloc (.cells #[] 26)) w.heap.size (w0.alloc (.cells #[] 26)).heap.size (.slice (some ⟨w0.heap.size, 0, none⟩) 0 0) (gridOf 0 h2 (pcF f))) := OwnLL.madeI w0 w.heap.size hs0
    have HA0 := keptI hal
    clear hbb hf hn hm hb0 hal hh hh2 c00
    go_wp2
    go_loopw [3, 4] (fun o i wr => ∃ Y YK : Nat, Y ≤ h ∧ i = .int .i64 YK ∧ Hid (YK = Y * 3) ∧ YK ≤ n + 3 ∧ OwnLL wr w.heap.size wr.heap.size o (gridOf Y h2 (pcF f)) ∧ Below w.heap.size w wr) (fun _ i _ => n + 3 - (intOf i).toNat)
    case atStart => exact ⟨0, 0, Nat.zero_le _, rfl, rfl, by omega, HO0.out, HA0.out⟩
    case round =>
      clear HO0 HA0
      obtain ⟨Y, YK, hY, rfl, HYK, hYK, hO, hB⟩ := hrel
      rename World => wo
      have hsz := hB.size
      have HO := keptI hO
      have HB := keptI hB
      obtain ⟨ao, no, co, hoo⟩ := hO.ls.isSlice
      subst hoo
      clear hO hB
      by_cases hlt : YK < n
      · have hYh : Y < h := by rw [HH.out, ← HYK.out]; exact hlt
        have hal : Below wo.heap.size wo (wo.alloc (.cells #[] 3)) := (Below.refl _ _).alloc (Nat.le_refl _) _
        have HI0 : Hid (OwnInts (wo.alloc (.cells #[] 3)) wo.heap.size (.slice (some ⟨wo.heap.size, 0, none⟩) 0 0) (rowOf 0 (pcF f Y))) := OwnInts.made _ _ (Nat.le_refl _)
        have HA1 := keptI hal
        clear hal
        go_wp2
        go_loopw [5, 6] (fun r j wx => ∃ X XK : Nat, X ≤ h2 ∧ j = .int .i64 XK ∧ Hid (XK = X * 2) ∧ XK ≤ m + 2 ∧ OwnInts wx wo.heap.size r (rowOf X (pcF f Y)) ∧ Below wo.heap.size wo wx) (fun _ j _ => m + 2 - (intOf j).toNat)
        case atStart => exact ⟨0, 0, Nat.zero_le _, rfl, rfl, by omega, HI0.out, HA1.out⟩
        case round =>
          clear HI0 HA1
          obtain ⟨X, XK, hX, rfl, HXK, hXK, hI, hb⟩ := hrel
          have hsx := hb.size
          have hbw := HB.out.trans (hb.mono hsz)
          have c00 := (hbw.cell (World.block_lt_of_cell? w _ HC00.out)).trans HC00.out
          have hrl := rowOf_len X (pcF f Y)
          obtain ⟨P, hP⟩ : ∃ P, rowOf X (pcF f Y) = P := ⟨_, rfl⟩
          rw [hP] at hI hrl
          have HP2 := Lib.hid hP
          have HI := keptI hI
          have HBx := keptI hb
          clear hP hI hb
          by_cases hqm : XK < m
          · have hXh : X < h2 := by rw [HH2.out, ← HXK.out]; exact hqm
            have HBW := keptI hbw
            have hl9 : P.length ≤ 1000 := by omega
            have HRL := Lib.hid hrl
            obtain ⟨v1, hv1⟩ : ∃ v1, f YK XK = v1 := ⟨_, rfl⟩
            obtain ⟨v2, hv2⟩ : ∃ v2, f (YK + 1) XK = v2 := ⟨_, rfl⟩
            obtain ⟨v3, hv3⟩ : ∃ v3, f (YK + 2) XK = v3 := ⟨_, rfl⟩
            obtain ⟨v4, hv4⟩ : ∃ v4, f YK (XK + 1) = v4 := ⟨_, rfl⟩
            obtain ⟨v5, hv5⟩ : ∃ v5, f (YK + 1) (XK + 1) = v5 := ⟨_, rfl⟩
            obtain ⟨v6, hv6⟩ : ∃ v6, f (YK + 2) (XK + 1) = v6 := ⟨_, rfl⟩
            have HV : Hid (pcF f Y X = v1 + 2 * v2 + 4 * v3 + 8 * v4 + 16 * v5 + 32 * v6) := by
              show _ = _
              unfold pcF
              rw [show 3 * Y = YK by rw [HYK.out]; omega, show 2 * X = XK by rw [HXK.out]; omega, hv1, hv2, hv3, hv4, hv5, hv6]
            have H1 := keptI (HAT.out wr YK XK hbw)
            have H2 := keptI (HAT.out wr (YK + 1) XK hbw)
            have H3 := keptI (HAT.out wr (YK + 2) XK hbw)
            have H4 := keptI (HAT.out wr YK (XK + 1) hbw)
            have H5 := keptI (HAT.out wr (YK + 1) (XK + 1) hbw)
            have H6 := keptI (HAT.out wr (YK + 2) (XK + 1) hbw)
            rw [hv1] at H1
            rw [hv2] at H2
            rw [hv3] at H3
            rw [hv4] at H4
            rw [hv5] at H5
            rw [hv6] at H6
            have z1 := HBin.out YK XK
            have z2 := HBin.out (YK + 1) XK
            have z3 := HBin.out (YK + 2) XK
            have z4 := HBin.out YK (XK + 1)
            have z5 := HBin.out (YK + 1) (XK + 1)
            have z6 := HBin.out (YK + 2) (XK + 1)
            rw [hv1] at z1
            rw [hv2] at z2
            rw [hv3] at z3
            rw [hv4] at z4
            rw [hv5] at z5
            rw [hv6] at z6
            have y1 : 0 ≤ v1 := by omega
            have y2 : 0 ≤ v2 := by omega
            have y3 : 0 ≤ v3 := by omega
            have y4 : 0 ≤ v4 := by omega
            have y5 : 0 ≤ v5 := by omega
            have y6 : 0 ≤ v6 := by omega
            have w1 : v1 ≤ 1 := by omega
            have w2 : v2 ≤ 1 := by omega
            have w3 : v3 ≤ 1 := by omega
            have w4 : v4 ≤ 1 := by omega
            have w5 : v5 ≤ 1 := by omega
            have w6 : v6 ≤ 1 := by omega
            have hXs : XK + 2 = (X + 1) * 2 := by rw [HXK.out]; omega
            have HXS := Lib.hid hXs
            clear hbw hrl hv1 hv2 hv3 hv4 hv5 hv6 z1 z2 z3 z4 z5 z6 hXs
            go_wp2_with fail
            refine H1.out.mono ?_
            rintro e w' ⟨rfl, rfl⟩
            go_wp2_with fail
            refine H2.out.mono ?_
            rintro e w' ⟨rfl, rfl⟩
            go_wp2_with fail
            refine H3.out.mono ?_
            rintro e w' ⟨rfl, rfl⟩
            go_wp2_with fail
            refine H4.out.mono ?_
            rintro e w' ⟨rfl, rfl⟩
            go_wp2_with fail
            refine H5.out.mono ?_
            rintro e w' ⟨rfl, rfl⟩
            go_wp2_with fail
            refine H6.out.mono ?_
            rintro e w' ⟨rfl, rfl⟩
            go_wp2_with (at_builtin; refine wpList_append_own _ rfl _ _ 26 rfl wo.heap.size 3 i0 (.int .i64 0) 1 8 Try.underlying26 hi hz0 hz1 hz2 rfl (by decide) _ _ _ rfl (HI.out.alloc _) ⟨_, 0, none⟩ 1 1 [.int .i64 (v1 + 2 * v2 + 4 * v3 + 8 * v4 + 16 * v5 + 32 * v6)] rfl rfl new_one one_cell (by unfold maxLen; omega) (by omega) (by simp; omega) ?_)
            intro v' w1 hown' hgrow _
            have R1 := OwnInts.snoc hown'
            have R2 := below_append HBx.out hsx HI.out hgrow
            have HR1 : Hid (OwnInts w1 wo.heap.size v' (rowOf (X + 1) (pcF f Y))) := by show OwnInts _ _ _ _; rw [rowOf_succ, HP2.out, HV.out]; exact R1
            have HR2 := keptI R2
            clear hown' hgrow R1 R2
            go_wp2
            go_roundw
            case rel => exact ⟨X + 1, XK + 2, by omega, by go_num, HXS, by omega, HR1.out, HR2.out⟩
            case measure => simp [intOf]; omega
          · obtain rfl : X = h2 := by
              have := HH2.out X
              rw [← HXK.out] at this
              omega
            have hbw' := keptI hbw
            obtain ⟨b6, c6, hv6, hb6⟩ := HI.out.shape (by omega)
            subst hv6
            have HO3 := keptI (HO.out.below HBx.out (Nat.le_refl _))
            have hl := gridOf_len Y X (pcF f)
            obtain ⟨G, hG⟩ : ∃ G, gridOf Y X (pcF f) = G := ⟨_, rfl⟩
            have HG := Lib.hid hG
            rw [hG] at HO3 hl
            have hal : Below wr.heap.size wr (wr.alloc (.cells #[.slice (some ⟨b6, 0, none⟩) P.length c6] 26)) := (Below.refl _ _).alloc (Nat.le_refl _) _
            have HO8 := keptI (HO3.out.below hal hsx)
            have HE8 := keptI (HI.out.below hal)
            have HC8 : Hid ((wr.alloc (.cells #[.slice (some ⟨b6, 0, none⟩) P.length c6] 26)).cell? ⟨wr.heap.size, 0, none⟩ = some (.slice (some ⟨b6, 0, none⟩) P.length c6)) := by
              show _ = _
              rw [cell_of_row _ wr.heap.size 0 _ _ _ (heap_alloc_new wr _)]; rfl
            have hl8 : G.length ≤ 100000 := by omega
            have hYs : YK + 3 = (Y + 1) * 3 := by rw [HYK.out]; omega
            have HYS := Lib.hid hYs
            clear hal hG hl hrl hbw hYs
            go_wp2_with (at_builtin; refine wpList_append_ll rfl _ _ rfl w.heap.size wo.heap.size wr.heap.size b6 P.length c6 P rfl rfl HO8.out HC8.out HE8.out rfl hl8 hsz ?_)
            intro v9 w9 hown9 hgrow9
            have HO9 : Hid (OwnLL w9 w.heap.size w9.heap.size v9 (gridOf (Y + 1) X (pcF f))) := by show OwnLL _ _ _ _ _; rw [gridOf_succ, HG.out, HP2.out]; exact hown9
            have HB9 := keptI (grown_llI hbw'.out (by omega) HO3.out hgrow9)
            clear hown9 hgrow9
            set_option maxRecDepth 20000 in
            go_wp2
            go_roundw
            case rel => exact ⟨Y + 1, YK + 3, by omega, by go_num, HYS, by omega, HO9.out, HB9.out⟩
            case measure => simp [intOf]; omega
      · obtain rfl : Y = h := by
          have := HH.out Y
          rw [← HYK.out] at this
          omega
        go_wp2
        go_ret
        exact ⟨_, _, _, rfl, by rw [HZ.out]; exact HO.out, HB.out⟩
theorem s_PictureCells (w : World) (v : Value) (L R : List (List Int)) (hx : ListsAt w v L) (hR : PicCellsIs L R) :
    Calls Try.prog 24 #[v] w fun e w' => PsOut R w e w' := (sl_PictureCells w v L R hx hR).mono fun _ _ h => h.ps
end Go.Proofs.Ytmmgeplhaooknaa
