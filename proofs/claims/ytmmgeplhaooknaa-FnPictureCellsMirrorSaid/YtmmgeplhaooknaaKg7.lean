
/- P129: a mirrored picture has mirrored cells. -/
import Derived.Test.YtmmgeplhaooknaaKf7
import Derived.Test.YtmmgeplhaooknaaIn
import Derived.Deep.QuietTactic
import Derived.BigQuiet
import Derived.IntWalk
namespace Go.Proofs.Ytmmgeplhaooknaa
open Go.RowKit

set_option maxHeartbeats 4000000 in
theorem pictureCellsMirror_walk (a : Option Addr) (len cap : Nat) (zs : List Int) (w : World) (h : RowIn .u8 w a len cap zs) :
    Calls Try.prog 6 #[.slice a len cap] w fun e w' => e = .returned (.bool true) ∧ Below w.heap.size w w' := by
  have hlen : len ≤ 9223372036854775807 := by
    obtain ⟨_, h2, h3⟩ := bytesAt_of_row h; unfold maxLen at h3; omega
  by_cases hbig : len ≤ 1048576
  · go_enter Try.func6, Try.ntmps6
    go_wp2_with fail
    refine (drawPictureCells_any w a len cap zs h).mono ?_
    rintro e w1 ⟨a1, n1, c1, P, rfl, hP1, hbd, hB1⟩
    clear h
    have HP1 := keptI hP1
    have HBD := keptI hbd
    have HB1 := keptI hB1
    obtain ⟨R, hR, hRS⟩ := PictureCells_ex P
    have HR := keptI hR
    clear hP1 hbd hB1 hR hRS
    go_wp2_with fail
    refine (i_PictureCells w1 _ P R HP1.out HR.out).mono ?_
    rintro e w2 ⟨a2, n2, c2, rfl, hO2, hb2⟩
    have HO2 := keptI hO2
    have HP2 := keptI (HP1.out.below hb2)
    have HB2 := keptI (below_next HB1.out hb2)
    clear hO2 hb2 HP1 HB1
    go_wp2_with fail
    refine (s_PictureCells w2 _ P R HP2.out HR.out).mono ?_
    rintro e w3 ⟨a3, n3, c3, rfl, hO3, hb3⟩
    have HS3 := keptI hO3
    have HO3 := keptI (HO2.out.below hb3 (Nat.le_refl _))
    have HP3 := keptI (HP2.out.below hb3)
    have HB3 := keptI (below_next HB2.out hb3)
    have hs3 := hb3.size
    clear hO3 hb3 HP2 HB2 HO2
    go_wp2_with fail
    refine (equalLists_sameI w3 _ _ R HO3.out.ls.at HS3.out).mono ?_
    rintro e w4 ⟨rfl, hb4⟩
    have HO4 := keptI (HO3.out.below hb4 hs3)
    have HP4 := keptI (HP3.out.below hb4)
    have HB4 := keptI (below_next HB3.out hb4)
    have hn2 : R.length = n2 := by
      obtain ⟨_, _, e, _⟩ := HO4.out.ls.at
      injection e with _ e2 _
      exact e2.symm
    have hn1 : P.length = n1 := by
      obtain ⟨_, _, e, _⟩ := HP4.out
      injection e with _ e2 _
      exact e2.symm
    have HN2 := Lib.hid hn2
    have HN1 := Lib.hid hn1
    clear hb4 HP3 HB3 HO3 HS3 hn2 hn1 hs3
    by_cases h0 : n2 = 0
    · subst h0
      go_wp2_with fail
      refine (s_PictureCells w4 _ P R HP4.out HR.out).mono ?_
      rintro e w5 ⟨a5, n5, c5, rfl, hO5, hb5⟩
      have HB5 := keptI (below_next HB4.out hb5)
      have HO5 := keptI (HO4.out.ls.at.below hb5)
      have HS5 := keptI hO5
      clear hO5 hb5
      go_wp2_with fail
      refine (equalLists_sameI w5 _ _ R HO5.out HS5.out).mono ?_
      rintro e w6 ⟨rfl, hb6⟩
      have HB6 := keptI (below_next HB5.out hb6)
      clear hb6
      go_wp2
      go_ret
      exact ⟨rfl, HB6.out⟩
    · have d0 : ((n2 : Int) == 0) = false := by simp; omega
      have HNE : Hid (R.length ≠ 0) := by show R.length ≠ 0; rw [HN2.out]; exact h0
      have HF := keptI (pc_facts HR.out HNE.out)
      have hpic := (HF.out.ok).pic HP4.out
      obtain ⟨m, hm⟩ : ∃ m, wdt P = m := ⟨_, rfl⟩
      rw [hm] at hpic
      have hd := (HF.out.ok).bd
      rw [hm, HN1.out] at hd
      obtain ⟨hd1, hd2, hd3, hd4⟩ := hd
      have HM := Lib.hid hm
      have HPIC := keptI hpic.2
      obtain ⟨g, off, b0, o0, d0, rfl, c00, _, _, _⟩ := hpic.2.row (y := 0) hd1
      rw [Nat.add_zero] at c00
      have HC : Hid (∀ wy, Below w4.heap.size w4 wy → wy.cell? ⟨g, off, none⟩ = some (.slice (some ⟨b0, o0, none⟩) m d0)) := fun wy hb => (hb.cell (World.block_lt_of_cell? w4 _ c00)).trans c00
      have q0 : (0 : Int) < (n1 : Int) := by omega
      have q00 : 0 < n1 := by omega
      clear hpic hm
      have hpic2 := (HF.out.okR).pic HO4.out.ls.at
      obtain ⟨m2, hm2⟩ : ∃ m2, wdt R = m2 := ⟨_, rfl⟩
      rw [hm2] at hpic2
      have hdd := (HF.out.okR).bd
      rw [hm2, HN2.out] at hdd
      obtain ⟨hdd1, hdd2, hdd3, hdd4⟩ := hdd
      have HM2 := Lib.hid hm2
      have HPIC2 := keptI hpic2.2
      obtain ⟨g2, off2, b2, o2, d2, rfl, c20, _, _, _⟩ := hpic2.2.row (y := 0) hdd1
      rw [Nat.add_zero] at c20
      have HC2 : Hid (∀ wy, Below w4.heap.size w4 wy → wy.cell? ⟨g2, off2, none⟩ = some (.slice (some ⟨b2, o2, none⟩) m2 d2)) := fun wy hb => (hb.cell (World.block_lt_of_cell? w4 _ c20)).trans c20
      have q20 : (0 : Int) < (n2 : Int) := by omega
      have q200 : 0 < n2 := by omega
      clear hpic2 hm2
      by_cases hc2 : m % 2 = 1
      · have t2 : (m : Int) % 2 = 1 := by omega
        clear hc2
        go_wp2_with fail
        refine (s_PictureCells w4 _ P R HP4.out HR.out).mono ?_
        rintro e w5 ⟨a5, n5, c5, rfl, hO5, hb5⟩
        have HB5 := keptI (below_next HB4.out hb5)
        have HO5 := keptI (HO4.out.ls.at.below hb5)
        have HS5 := keptI hO5
        clear hO5 hb5
        go_wp2_with fail
        refine (equalLists_sameI w5 _ _ R HO5.out HS5.out).mono ?_
        rintro e w6 ⟨rfl, hb6⟩
        have HB6 := keptI (below_next HB5.out hb6)
        clear hb6
        go_wp2
        go_ret
        exact ⟨rfl, HB6.out⟩

      · have t2 : (m : Int) % 2 = 0 := by omega
        have HM2E : Hid (m % 2 = 0) := by show m % 2 = 0; omega
        clear hc2
        obtain ⟨fB, hfB⟩ : ∃ fB, bkF (px P) m = fB := ⟨_, rfl⟩
        have HFB := Lib.hid hfB
        have hO0 : OwnLL (w4.alloc (.cells #[] 26)) w4.heap.size (w4.alloc (.cells #[] 26)).heap.size (.slice (some ⟨w4.heap.size, 0, none⟩) 0 0) (gridOf 0 m fB) := OwnLL.madeI w4 _ (Nat.le_refl _)
        have hal0 : Below w4.heap.size w4 (w4.alloc (.cells #[] 26)) := (Below.refl _ _).alloc (Nat.le_refl _) _
        clear hfB
        go_wp2_with fail
        generalize (w4.alloc (.cells #[] 26)) = wA at hO0 hal0 ⊢
        clear t2
        go_loopw [5, 6] (fun o y wx => ∃ i : Nat, i ≤ n1 ∧ y = .int .i64 i ∧ OwnLL wx w4.heap.size wx.heap.size o (gridOf i m fB) ∧ Below w4.heap.size w4 wx) (fun _ y _ => n1 - (intOf y).toNat)
        case atStart => exact ⟨0, Nat.zero_le _, rfl, hO0, hal0⟩
        case round =>
          clear hO0 hal0
          obtain ⟨i, hi, rfl, hO, hB⟩ := hrel
          rename World => wo
          obtain ⟨ao, no, co, hoo⟩ := hO.ls.isSlice
          subst hoo
          have HO := keptI hO
          have HB := keptI hB
          have hs := hB.size
          by_cases hlt : i < n1
          · obtain ⟨_, _, u, e, cu, hu⟩ := HP4.out.someNth hlt
            injection e with e
            injection e with e e'
            subst e e'
            have HU := keptI (hu.below hB)
            have hlm : (P.getD i []).length = m := by rw [← HM.out]; exact (HF.out.ok.2.2 i (by rw [HN1.out]; exact hlt)).1
            have hrv := block_rev HF.out.ok (i := i) (by rw [HN1.out]; exact hlt)
            rw [HM.out, HFB.out] at hrv
            have HRV := Lib.hid hrv
            have HST : Hid (gridOf (i + 1) m fB = gridOf i m fB ++ [rowOf m (fB i)]) := gridOf_succ _ _ _
            have hrl : (rowOf m (fB i)).length = m := rowOf_len _ _
            obtain ⟨zs', hz⟩ : ∃ zs', rowOf m (fB i) = zs' := ⟨_, rfl⟩
            rw [hz] at hrl
            have HZ := Lib.hid hz
            have HRL := Lib.hid hrl
            have HLM := Lib.hid hlm
            obtain ⟨a9, d9, hu9, _⟩ := id hu
            rw [hlm] at hu9
            subst hu9
            have cu := (hB.cell (World.block_lt_of_cell? w4 _ cu)).trans cu
            have b1 : (0 : Int) ≤ (i : Int) := by omega
            have b2 : (i : Int) < (n1 : Int) := by omega
            clear hO hB hu hlm hrv hrl hz
            go_wp2_with fail
            refine (backwards_I wo _ (P.getD i []) HU.out (by rw [HLM.out]; omega)).mono ?_
            rintro e w6 ⟨a6, n6, c6, rfl, hO6, hb6⟩
            rw [HRV.out, HZ.out] at hO6
            obtain ⟨b6, c7, hv6, hb7⟩ := hO6.shape (by rw [HRL.out]; omega)
            injection hv6 with hv6 hv7 hv8
            subst hv6 hv7 hv8
            have hB6 := below_next HB.out hb6
            have hs6 := hb6.size
            have HO6 := keptI (HO.out.below hb6 (Nat.le_refl _))
            have hal : Below w6.heap.size w6 (w6.alloc (.cells #[.slice (some ⟨b6, 0, none⟩) zs'.length c6] 26)) := (Below.refl _ _).alloc (Nat.le_refl _) _
            have HO8 := keptI (HO6.out.below hal hs6)
            have HE8 := keptI (hO6.below hal)
            have HC8 : Hid ((w6.alloc (.cells #[.slice (some ⟨b6, 0, none⟩) zs'.length c6] 26)).cell? ⟨w6.heap.size, 0, none⟩ = some (.slice (some ⟨b6, 0, none⟩) zs'.length c6)) := by
              show _ = _
              rw [cell_of_row _ w6.heap.size 0 _ _ _ (heap_alloc_new w6 _)]; rfl
            have hl8 : (gridOf i m fB).length ≤ 100000 := by rw [gridOf_len]; omega
            have HB6 := keptI hB6
            have HS6 := keptI hB6.size
            clear hal hO6 hb6 hB6 cu hb7
            go_wp2_with (at_builtin; refine wpList_append_ll rfl _ _ rfl w4.heap.size wo.heap.size w6.heap.size b6 zs'.length c6 zs' rfl rfl HO8.out HC8.out HE8.out rfl hl8 hs ?_)
            intro v9 w9 hown9 hgrow9
            have HO9 : Hid (OwnLL w9 w4.heap.size w9.heap.size v9 (gridOf (i + 1) m fB)) := by
              show OwnLL _ _ _ _ _
              rw [HST.out, HZ.out]; exact hown9
            have HB9 := keptI (grown_llI HB6.out HS6.out HO6.out hgrow9)
            clear hown9 hgrow9
            set_option maxRecDepth 20000 in
            go_wp2
            set_option maxRecDepth 20000 in
            go_roundw
            case rel => exact ⟨i + 1, by omega, by go_num, HO9.out, HB9.out⟩
            case measure => simp [intOf]; omega
          · obtain rfl : i = n1 := by omega
            obtain ⟨Q, hQ, _⟩ := PictureCells_ex (gridOf i m fB)
            have HQ := keptI hQ
            have hQ' : PicCellsIs (gridOf P.length (wdt P) (bkF (px P) (wdt P))) Q := by rw [HN1.out, HM.out, HFB.out]; exact hQ
            have HX := keptI (pc_mirror HF.out hQ' (by rw [HM.out]; exact HM2E.out))
            have HBK := keptI hO.ls.at
            clear hO hB hQ hQ' HFB
            go_wp2_with fail
            refine (i_PictureCells wo _ _ Q HBK.out HQ.out).mono ?_
            rintro e w6 ⟨a6, n6, c6, rfl, hO6, hb6⟩
            have HB46 := keptI (below_next HB.out hb6)
            have hpicQ := HX.out.2.2.1.pic hO6.ls.at
            rw [HX.out.1, HX.out.2.1, HN2.out, HM2.out] at hpicQ
            obtain rfl : n6 = n2 := hpicQ.1
            have HPICQ := keptI hpicQ.2
            have HPICR := keptI (HPIC2.out.below HB46.out)
            obtain ⟨g6, off6, _, _, _, rfl, _⟩ := hpicQ.2.row (y := 0) hdd1
            clear hO6 hb6 hpicQ
            go_wp2
            go_loopw [8] (fun i wr => ∃ y : Nat, y ≤ n6 ∧ i = .int .i64 y ∧ Below w6.heap.size w6 wr) (fun i _ => n6 - (intOf i).toNat)
            case atStart => exact ⟨0, Nat.zero_le _, rfl, Below.refl _ _⟩
            case round =>
              obtain ⟨y, hy, rfl, hb1⟩ := hrel
              have HBy := keptI hb1
              by_cases hlt : y < n6
              · obtain ⟨_, _, bq, oq, dq, e3, cq0, _, _, hcq⟩ := HPICR.out.row hlt
                injection e3 with e3
                injection e3 with e3 e4
                subst e3 e4
                obtain ⟨_, _, bs6, os6, ds6, e5, cs0, _, _, hcs⟩ := HPICQ.out.row hlt
                injection e5 with e5
                injection e5 with e5 e6
                subst e5 e6
                have HCQ0 := keptI cq0
                have HCQ := keptI hcq
                have HCS0 := keptI cs0
                have HCS := keptI hcs
                have p1 : (0 : Int) ≤ (y : Int) := by omega
                have p2 : (y : Int) < (n6 : Int) := by omega
                have cq0 := (hb1.cell (World.block_lt_of_cell? w6 _ cq0)).trans cq0
                clear hcq hcs cs0 hb1
                go_wp2
                clear cq0
                go_loopw [9] (fun j wr => ∃ x : Nat, x ≤ m2 ∧ j = .int .i64 x ∧ Below w6.heap.size w6 wr) (fun j _ => m2 - (intOf j).toNat)
                case atStart => exact ⟨0, Nat.zero_le _, rfl, HBy.out⟩
                case round =>
                  obtain ⟨x, hx, rfl, hb2⟩ := hrel
                  have HBx := keptI hb2
                  have cq0 := (hb2.cell (World.block_lt_of_cell? w6 _ HCQ0.out)).trans HCQ0.out
                  by_cases hltx : x < m2
                  · obtain ⟨xx, hxx⟩ : ∃ xx, m2 - 1 - x = xx := ⟨_, rfl⟩
                    have hxm : xx < m2 := by omega
                    have cs0 := (hb2.cell (World.block_lt_of_cell? w6 _ HCS0.out)).trans HCS0.out
                    have cq1 := (hb2.cell (World.block_lt_of_cell? w6 _ (HCQ.out x hltx))).trans (HCQ.out x hltx)
                    have cs1 := (hb2.cell (World.block_lt_of_cell? w6 _ (HCS.out xx hxm))).trans (HCS.out xx hxm)
                    have hmi := HX.out.2.2.2 y x (by rw [HN2.out]; exact hlt) (by rw [HM2.out]; exact hltx)
                    rw [HM2.out, hxx] at hmi
                    have hv1 := (HF.out.okR.2.2 y (by rw [HN2.out]; exact hlt)).2 x (by have := HM2.out; unfold wdt at this; omega)
                    obtain ⟨c, hv⟩ : ∃ c : Nat, px R y x = (c : Int) := ⟨(px R y x).toNat, by omega⟩
                    rw [hv] at cq1 hmi hv1
                    obtain ⟨mz, hmz⟩ : ∃ mz, c % 8 * 8 + c / 8 = mz := ⟨_, rfl⟩
                    have hz : px Q y xx = (mz : Int) := by omega
                    rw [hz] at cs1
                    have HMI : Hid (∀ wy, Calls Try.prog 30 #[.int .i64 (c : Int)] wy fun e w' => e = .returned (.int .i64 (mz : Int)) ∧ w' = wy) := fun wy => i_MirrorP c mz wy (by omega) hmz
                    have u1 : IntKind.i64.wrap ((m2 : Int) - 1) = (m2 : Int) - 1 := IntWalk.i64_in _ (by omega)
                    have u2 : IntKind.i64.wrap ((m2 : Int) - 1 - (x : Int)) = (xx : Int) := by rw [IntWalk.i64_in _ (by omega)]; omega
                    have x3 : decide (n6 ≤ y) = false := decide_eq_false (by omega)
                    have p3 : (0 : Int) ≤ (x : Int) := by omega
                    have p4 : (x : Int) < (m2 : Int) := by omega
                    have p5 : (0 : Int) ≤ (xx : Int) := by omega
                    have p6 : (xx : Int) < (m2 : Int) := by omega
                    clear hv hz hmi hmz hv1 hb2 hxx
                    go_wp2_with fail
                    go_quiet (first | (go_at_call 30; with_reducible exact Calls.quiet_of_same (HMI.out _)))
                    go_wp2
                    go_roundw
                    case rel => exact ⟨x + 1, by omega, by go_num, below_drewNI HBx.out _⟩
                    case measure => simp [intOf]; omega
                  · obtain rfl : x = m2 := by omega
                    clear hb2
                    set_option maxRecDepth 20000 in
                    go_wp2
                    go_roundw
                    case rel => exact ⟨y + 1, by omega, by go_num, HBx.out⟩
                    case measure => simp [intOf]; omega
              · obtain rfl : y = n6 := by omega
                clear hb1
                go_wp2
                go_ret
                exact ⟨rfl, below_next HB4.out (HB46.out.trans (HBy.out.mono HB46.out.size))⟩
  · have d : decide (len ≤ 1048576) = false := decide_eq_false hbig
    have hl : (1048576 : Int) < len := by omega
    clear h
    go_enter Try.func6, Try.ntmps6
    go_wp2
    go_ret
    exact ⟨rfl, Below.refl _ _⟩
end Go.Proofs.Ytmmgeplhaooknaa
