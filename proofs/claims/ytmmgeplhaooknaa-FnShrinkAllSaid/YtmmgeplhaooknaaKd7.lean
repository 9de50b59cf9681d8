
/- P132: full pictures stay full. -/
import Derived.Test.YtmmgeplhaooknaaKc7
import Derived.Deep.RegionHeld3
import Derived.IntWalk
namespace Go.Proofs.Ytmmgeplhaooknaa
open Go.RowKit

set_option maxHeartbeats 4000000 in
theorem shrinkAll_walk (a : Option Addr) (len cap : Nat) (zs : List Int) (w : World) (h : RowIn .u8 w a len cap zs) :
    Calls Try.prog 9 #[.slice a len cap] w fun e w' => e = .returned (.bool true) ∧ Below w.heap.size w w' := by
  have hlen : len ≤ 9223372036854775807 := by
    obtain ⟨_, h2, h3⟩ := bytesAt_of_row h; unfold maxLen at h3; omega
  by_cases hbig : len ≤ 1048576
  · go_enter Try.func9, Try.ntmps9
    go_wp2_with fail
    refine (drawShrink_any w a len cap zs h).mono ?_
    rintro e w1 ⟨a1, n1, c1, P, k, hk25, rfl, hP1, hbd, hB1⟩
    clear h
    have HP1 := keptI hP1
    have HBD := keptI hbd
    have HB1 := keptI hB1
    obtain ⟨R, hR, hRS⟩ := Shrink_ex P (k : Int)
    have HR := keptI hR
    clear hP1 hbd hB1 hR hRS
    go_wp2_with fail
    refine (i_Shrink w1 _ P (k : Int) R HP1.out HR.out).mono ?_
    rintro e w2 ⟨a2, n2, c2, rfl, hO2, hb2⟩
    have HO2 := keptI hO2
    have HP2 := keptI (HP1.out.below hb2)
    have HB2 := keptI (below_next HB1.out hb2)
    clear hO2 hb2 HP1 HB1
    go_wp2_with fail
    refine (s_Shrink w2 _ P (k : Int) R HP2.out HR.out).mono ?_
    rintro e w3 ⟨a3, n3, c3, rfl, hO3, hb3⟩
    have HS3 := keptI hO3
    have HO3 := keptI (HO2.out.below hb3 (Nat.le_refl _))
    have HP3 := keptI (HP2.out.below hb3)
    have HB3 := keptI (below_next HB2.out hb3)
    have hs3 := hb3.size
    clear hO3 hb3 HP2 HB2 HO2
    go_wp2_with fail
    refine (equalLists_sameI w3 _ _ R HO3.out.ls.at HS3.out).mono ?_
    rintro e w4 ⟨rfl, hb4⟩
    have HO4 := keptI (HO3.out.below hb4 hs3)
    have HP4 := keptI (HP3.out.below hb4)
    have HB4 := keptI (below_next HB3.out hb4)
    have hn2 : R.length = n2 := by
      obtain ⟨_, _, e, _⟩ := HO4.out.ls.at
      injection e with _ e2 _
      exact e2.symm
    have hn1 : P.length = n1 := by
      obtain ⟨_, _, e, _⟩ := HP4.out
      injection e with _ e2 _
      exact e2.symm
    have HN2 := Lib.hid hn2
    have HN1 := Lib.hid hn1
    clear hb4 HP3 HB3 HO3 HS3 hn2 hn1 hs3
    by_cases h0 : n2 = 0
    · subst h0
      go_wp2_with fail
      refine (s_Shrink w4 _ P (k : Int) R HP4.out HR.out).mono ?_
      rintro e w5 ⟨a5, n5, c5, rfl, hO5, hb5⟩
      have HB5 := keptI (below_next HB4.out hb5)
      have HO5 := keptI (HO4.out.ls.at.below hb5)
      have HS5 := keptI hO5
      clear hO5 hb5
      go_wp2_with fail
      refine (equalLists_sameI w5 _ _ R HO5.out HS5.out).mono ?_
      rintro e w6 ⟨rfl, hb6⟩
      have HB6 := keptI (below_next HB5.out hb6)
      clear hb6
      go_wp2
      go_ret
      exact ⟨rfl, HB6.out⟩
    · have d0 : ((n2 : Int) == 0) = false := by simp; omega
      have HNE : Hid (R.length ≠ 0) := by show R.length ≠ 0; rw [HN2.out]; exact h0
      obtain ⟨i0, hi, hz0, hz1, hz2⟩ := info_parts infoInt
      have HF := keptI (shrink_facts HR.out HNE.out)
      have hpic := (HF.out.1).pic HP4.out
      obtain ⟨m, hm⟩ : ∃ m, wdt P = m := ⟨_, rfl⟩
      rw [hm] at hpic
      have hd := (HF.out.1).bd
      rw [hm, HN1.out] at hd
      obtain ⟨hd1, hd2, hd3, hd4⟩ := hd
      have HM := Lib.hid hm
      have HPIC := keptI hpic.2
      obtain ⟨g, off, b0, o0, d0, rfl, c00, _, _, _⟩ := hpic.2.row (y := 0) hd1
      rw [Nat.add_zero] at c00
      have HC : Hid (∀ wy, Below w4.heap.size w4 wy → wy.cell? ⟨g, off, none⟩ = some (.slice (some ⟨b0, o0, none⟩) m d0)) := fun wy hb => (hb.cell (World.block_lt_of_cell? w4 _ c00)).trans c00
      have q0 : (0 : Int) < (n1 : Int) := by omega
      have q00 : 0 < n1 := by omega
      clear hpic hm
      have hpic2 := (HF.out.2.2.1).pic HO4.out.ls.at
      obtain ⟨m2, hm2⟩ : ∃ m2, wdt R = m2 := ⟨_, rfl⟩
      rw [hm2] at hpic2
      have hdd := (HF.out.2.2.1).bd
      rw [hm2, HN2.out] at hdd
      obtain ⟨hdd1, hdd2, hdd3, hdd4⟩ := hdd
      have HM2 := Lib.hid hm2
      have HPIC2 := keptI hpic2.2
      obtain ⟨g2, off2, b2, o2, d2, rfl, c20, _, _, _⟩ := hpic2.2.row (y := 0) hdd1
      rw [Nat.add_zero] at c20
      have HC2 : Hid (∀ wy, Below w4.heap.size w4 wy → wy.cell? ⟨g2, off2, none⟩ = some (.slice (some ⟨b2, o2, none⟩) m2 d2)) := fun wy hb => (hb.cell (World.block_lt_of_cell? w4 _ c20)).trans c20
      have q20 : (0 : Int) < (n2 : Int) := by omega
      have q200 : 0 < n2 := by omega
      clear hpic2 hm2
      obtain ⟨hk1, hk2⟩ := HF.out.2.1
      obtain ⟨Z, O, SZ, SO, hfl⟩ := flat_facts (n := n1) (m := m) (k := k) ⟨hd1, hd2⟩ ⟨hd3, hd4⟩ ⟨hk1, hk2⟩
      have HFL := keptI hfl
      have hl := HF.out.2.2.2.1
      have hw := HF.out.2.2.2.2.1
      rw [HN2.out, HN1.out] at hl
      rw [HM2.out, HM.out] at hw
      obtain ⟨A, hA⟩ : ∃ A, n2 * m2 = A := ⟨_, rfl⟩
      have hall := hfl.all
      rw [← hl, ← hw, hA] at hall
      have hA2 : A ≤ 576 := by rw [← hA]; exact Nat.le_trans (Nat.mul_le_mul hdd2 hdd4) (by omega)
      have e2 : (n2 : Int) * (m2 : Int) = (A : Int) := by rw [← hA]; simp
      have E2 := Lib.hid e2
      have HALL := Lib.hid hall
      have hal0 : Below w4.heap.size w4 (w4.alloc (.cells #[] 26)) := (Below.refl _ _).alloc (Nat.le_refl _) _
      have HO0 : Hid (OwnLL (w4.alloc (.cells #[] 26)) w4.heap.size (w4.alloc (.cells #[] 26)).heap.size (.slice (some ⟨w4.heap.size, 0, none⟩) 0 0) (gridOf 0 m fun _ _ => 0)) := OwnLL.madeI w4 w4.heap.size (Nat.le_refl _)
      have HA0 := keptI hal0
      clear hfl hl hw hA hall e2 hal0
      go_wp2
      go_loopw [6, 7] (fun o i wr => ∃ y : Nat, y ≤ n1 ∧ i = .int .i64 y ∧ OwnLL wr w4.heap.size wr.heap.size o (gridOf y m fun _ _ => 0) ∧ Below w4.heap.size w4 wr) (fun _ i _ => n1 - (intOf i).toNat)
      case atStart => exact ⟨0, Nat.zero_le _, rfl, HO0.out, HA0.out⟩
      case round =>
        clear HO0 HA0
        obtain ⟨y, hy, rfl, hO, hB⟩ := hrel
        have hsz := hB.size
        have HO := keptI hO
        have HB := keptI hB
        obtain ⟨ao, no, co, hoo⟩ := hO.ls.isSlice
        subst hoo
        have hl := gridOf_len y m fun _ _ => 0
        by_cases hlt : y < n1
        · obtain ⟨G, hG⟩ : ∃ G, gridOf y m (fun _ _ => 0) = G := ⟨_, rfl⟩
          have HPP := Lib.hid hG
          rw [hG] at HO hl
          obtain ⟨_, _, bp, op, dp, e1, cp0, hd5, hd6, _⟩ := HPIC.out.row hlt
          injection e1 with e1
          injection e1 with e1 e2
          subst e1 e2
          have cp0 := (hB.cell (World.block_lt_of_cell? w4 _ cp0)).trans cp0
          have hl8 : G.length ≤ 100000 := by omega
          have HPL := Lib.hid hl
          have q1 : (0 : Int) ≤ (y : Int) := by omega
          have q2 : (y : Int) < (n1 : Int) := by omega
          clear hO hB hG hl
          go_wp2_with (at_make; refine wpList_make_full _ rfl _ _ 26 rfl wr.heap.size 3 i0 (.int .i64 0) 1 Try.underlying26 hi hz0 hz1 .i64 .i64 m m m rfl rfl rfl rfl (by rw [hz2]; omega) (by unfold maxLen; omega) (Nat.le_refl _) ?_)
          intro w1 hown hgr
          rw [made_ints, ints_rep] at hown
          have HI1 : Hid (OwnInts w1 wr.heap.size (.slice (some ⟨wr.heap.size, 0, none⟩) m m) (rowOf m fun _ => 0)) := by
            show w1.ownsRow _ _ _ _ _ _; rw [rowOf_len]; exact hown
          have hB1 : Below wr.heap.size wr w1 := ⟨hgr.os, hgr.tape, hgr.output, hgr.size, fun k hk => hgr.block k hk (by simp)⟩
          have HB1 := keptI (HB.out.trans (hB1.mono hsz))
          have HO1 := keptI (HO.out.below hB1 (Nat.le_refl _))
          have hs1 := hB1.size
          clear hown hgr hB1 cp0
          have hal : Below w1.heap.size w1 (w1.alloc (.cells #[.slice (some ⟨wr.heap.size, 0, none⟩) m m] 26)) := (Below.refl _ _).alloc (Nat.le_refl _) _
          have HO8 := keptI (HO1.out.below hal hs1)
          have HE8 := keptI (HI1.out.below hal)
          have HC8 : Hid ((w1.alloc (.cells #[.slice (some ⟨wr.heap.size, 0, none⟩) m m] 26)).cell? ⟨w1.heap.size, 0, none⟩ = some (.slice (some ⟨wr.heap.size, 0, none⟩) m m)) := by
            show _ = _
            rw [cell_of_row _ w1.heap.size 0 _ _ _ (heap_alloc_new w1 _)]; rfl
          clear hal
          go_wp2_with (at_builtin; refine wpList_append_ll rfl _ _ rfl w4.heap.size wr.heap.size w1.heap.size wr.heap.size m m (rowOf m fun _ => 0) rfl rfl HO8.out HC8.out HE8.out (rowOf_len _ _) hl8 hsz ?_)
          intro v9 w9 hown9 hgrow9
          have HO9 : Hid (OwnLL w9 w4.heap.size w9.heap.size v9 (gridOf (y + 1) m fun _ _ => 0)) := by show OwnLL _ _ _ _ _; rw [gridOf_succ, HPP.out]; exact hown9
          have HB9 := keptI (grown_llI HB1.out (by omega) HO1.out hgrow9)
          clear hown9 hgrow9
          set_option maxRecDepth 20000 in
          go_wp2
          go_roundw
          case rel => exact ⟨y + 1, by omega, by go_num, HO9.out, HB9.out⟩
          case measure => simp [intOf]; omega
        · obtain rfl : y = n1 := by omega
          have hlz : ListsAt wr (.slice ao no co) Z := by rw [HFL.out.z]; exact hO.ls.at
          have HLZ : Hid (ListsAt wr.drew (.slice ao no co) Z) := hlz
          have HSZ : Hid (Calls Try.prog 34 #[.slice ao no co, .int .i64 (k : Int)] wr.drew fun e w' => PlOut SZ wr.drew e w') := i_Shrink wr.drew _ Z k SZ HLZ.out HFL.out.sz
          have HI2 : Hid (∀ wy, Below wr.heap.size wr wy → Calls Try.prog 36 #[.slice ao no co] wy fun e w' => PlOut O wy e w') := fun wy hb => i_Invert wy _ Z O (hlz.below hb) HFL.out.inv
          have HC9 : Hid (∀ wy, Below wr.heap.size wr wy → wy.cell? ⟨g2, off2, none⟩ = some (.slice (some ⟨b2, o2, none⟩) m2 d2)) := fun wy hb => HC2.out wy (HB.out.trans (hb.mono hsz))
          have hz : rai SZ = 0 := HFL.out.none
          have hbz := HFL.out.okSZ.bd
          have hbo := HFL.out.okSO.bd
          have HZR : Hid (∀ wy v, ListsAt wy v SZ → Calls Try.prog 27 #[v] wy fun e w' => e = .returned (.int .i64 0) ∧ wy = w') := fun wy v hv => s_raised wy v SZ 0 hv (by omega) (fun i => HFL.out.okSZ.lens (by omega) i) hz
          have HOR : Hid (∀ wy v, ListsAt wy v SO → Calls Try.prog 27 #[v] wy fun e w' => e = .returned (.int .i64 (A : Int)) ∧ wy = w') := fun wy v hv => s_raised wy v SO A hv (by omega) (fun i => HFL.out.okSO.lens (by omega) i) HALL.out
          have e2 := E2.out
          have u1 : IntKind.i64.wrap (A : Int) = (A : Int) := IntWalk.i64_in _ (by omega)
          have x9 : ((A : Int) == (A : Int)) = true := by simp
          clear hO hB hl hlz hz hbz hbo
          set_option maxRecDepth 20000 in
          go_wp2_with fail
          go_region_held3 (fun wy => wy.cell? ⟨g2, off2, none⟩ = some (.slice (some ⟨b2, o2, none⟩) m2 d2)) (first | assumption | exact HC9.out _ (Below.refl _ _).drew | exact HC9.out _ HBA.out | exact HC9.out _ HBB.out | exact HC9.out _ HBD.out) (first | (go_at_call 34; (with_reducible refine HSZ.out.mono ?_); rintro e wA ⟨aA, nA, cA, rfl, hOA, hbA⟩; have HBA : Hid (Below wr.heap.size wr wA) := (Below.refl _ _).drew.trans hbA; have HOA := keptI hOA.ls.at; clear hOA hbA) | (go_at_call 27; (with_reducible refine (HZR.out wA _ HOA.out).mono ?_); rintro e w' ⟨rfl, rfl⟩) | (go_at_call 36; (with_reducible refine (HI2.out wA HBA.out).mono ?_); rintro e wB ⟨aB, nB, cB, rfl, hOB, hbB⟩; have HBB : Hid (Below wr.heap.size wr wB) := below_next HBA.out hbB; have HSO : Hid (Calls Try.prog 34 #[.slice aB nB cB, .int .i64 (k : Int)] wB fun e w' => PlOut SO wB e w') := i_Shrink wB _ O k SO hOB.ls.at HFL.out.so; clear hOB hbB) | (go_at_call 34; (with_reducible refine HSO.out.mono ?_); rintro e wD ⟨aD, nD, cD, rfl, hOD, hbD⟩; have HBD : Hid (Below wr.heap.size wr wD) := below_next HBB.out hbD; have HOD := keptI hOD.ls.at; clear hOD hbD) | (go_at_call 27; (with_reducible refine (HOR.out wD _ HOD.out).mono ?_); rintro e w' ⟨rfl, rfl⟩))
          all_goals
            go_wp2
            go_ret
            exact ⟨rfl, below_next HB4.out (HB.out.trans (HBD.out.mono hsz))⟩
  · have d : decide (len ≤ 1048576) = false := decide_eq_false hbig
    have hl : (1048576 : Int) < len := by omega
    clear h
    go_enter Try.func9, Try.ntmps9
    go_wp2
    go_ret
    exact ⟨rfl, Below.refl _ _⟩
end Go.Proofs.Ytmmgeplhaooknaa
