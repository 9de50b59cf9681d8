
/- P127: pictures are in their cells. -/
import Derived.Test.YtmmgeplhaooknaaJs
import Derived.Test.YtmmgeplhaooknaaIn
import Derived.Deep.QuietTactic
import Derived.BigQuiet
import Derived.Deep.RegionHeld3
import Derived.IntWalk
namespace Go.Proofs.Ytmmgeplhaooknaa
open Go.RowKit

set_option maxHeartbeats 4000000 in
theorem pictureCells_walk (a : Option Addr) (len cap : Nat) (zs : List Int) (w : World) (h : RowIn .u8 w a len cap zs) :
    Calls Try.prog 4 #[.slice a len cap] w fun e w' => e = .returned (.bool true) ∧ Below w.heap.size w w' := by
  have hlen : len ≤ 9223372036854775807 := by
    obtain ⟨_, h2, h3⟩ := bytesAt_of_row h; unfold maxLen at h3; omega
  by_cases hbig : len ≤ 1048576
  · go_enter Try.func4, Try.ntmps4
    go_wp2_with fail
    refine (drawPictureCells_any w a len cap zs h).mono ?_
    rintro e w1 ⟨a1, n1, c1, P, rfl, hP1, hbd, hB1⟩
    clear h
    have HP1 := keptI hP1
    have HBD := keptI hbd
    have HB1 := keptI hB1
    obtain ⟨R, hR, hRS⟩ := PictureCells_ex P
    have HR := keptI hR
    clear hP1 hbd hB1 hR hRS
    go_wp2_with fail
    refine (i_PictureCells w1 _ P R HP1.out HR.out).mono ?_
    rintro e w2 ⟨a2, n2, c2, rfl, hO2, hb2⟩
    have HO2 := keptI hO2
    have HP2 := keptI (HP1.out.below hb2)
    have HB2 := keptI (below_next HB1.out hb2)
    clear hO2 hb2 HP1 HB1
    go_wp2_with fail
    refine (s_PictureCells w2 _ P R HP2.out HR.out).mono ?_
    rintro e w3 ⟨a3, n3, c3, rfl, hO3, hb3⟩
    have HS3 := keptI hO3
    have HO3 := keptI (HO2.out.below hb3 (Nat.le_refl _))
    have HP3 := keptI (HP2.out.below hb3)
    have HB3 := keptI (below_next HB2.out hb3)
    have hs3 := hb3.size
    clear hO3 hb3 HP2 HB2 HO2
    go_wp2_with fail
    refine (equalLists_sameI w3 _ _ R HO3.out.ls.at HS3.out).mono ?_
    rintro e w4 ⟨rfl, hb4⟩
    have HO4 := keptI (HO3.out.below hb4 hs3)
    have HP4 := keptI (HP3.out.below hb4)
    have HB4 := keptI (below_next HB3.out hb4)
    have hn2 : R.length = n2 := by
      obtain ⟨_, _, e, _⟩ := HO4.out.ls.at
      injection e with _ e2 _
      exact e2.symm
    have hn1 : P.length = n1 := by
      obtain ⟨_, _, e, _⟩ := HP4.out
      injection e with _ e2 _
      exact e2.symm
    have HN2 := Lib.hid hn2
    have HN1 := Lib.hid hn1
    clear hb4 HP3 HB3 HO3 HS3 hn2 hn1 hs3
    by_cases h0 : n2 = 0
    · subst h0
      go_wp2_with fail
      refine (s_PictureCells w4 _ P R HP4.out HR.out).mono ?_
      rintro e w5 ⟨a5, n5, c5, rfl, hO5, hb5⟩
      have HB5 := keptI (below_next HB4.out hb5)
      have HO5 := keptI (HO4.out.ls.at.below hb5)
      have HS5 := keptI hO5
      clear hO5 hb5
      go_wp2_with fail
      refine (equalLists_sameI w5 _ _ R HO5.out HS5.out).mono ?_
      rintro e w6 ⟨rfl, hb6⟩
      have HB6 := keptI (below_next HB5.out hb6)
      clear hb6
      go_wp2
      go_ret
      exact ⟨rfl, HB6.out⟩
    · have d0 : ((n2 : Int) == 0) = false := by simp; omega
      have HNE : Hid (R.length ≠ 0) := by show R.length ≠ 0; rw [HN2.out]; exact h0
      have HF := keptI (pc_facts HR.out HNE.out)
      obtain ⟨Bk, hBk⟩ := back_facts HF.out
      have HK := keptI hBk
      clear hBk
      have hpic := (HF.out.ok).pic HP4.out
      obtain ⟨m, hm⟩ : ∃ m, wdt P = m := ⟨_, rfl⟩
      rw [hm] at hpic
      have hd := (HF.out.ok).bd
      rw [hm, HN1.out] at hd
      obtain ⟨hd1, hd2, hd3, hd4⟩ := hd
      have HM := Lib.hid hm
      have HPIC := keptI hpic.2
      obtain ⟨g, off, b0, o0, d0, rfl, c00, _, _, _⟩ := hpic.2.row (y := 0) hd1
      rw [Nat.add_zero] at c00
      have HC : Hid (∀ wy, Below w4.heap.size w4 wy → wy.cell? ⟨g, off, none⟩ = some (.slice (some ⟨b0, o0, none⟩) m d0)) := fun wy hb => (hb.cell (World.block_lt_of_cell? w4 _ c00)).trans c00
      have q0 : (0 : Int) < (n1 : Int) := by omega
      have q00 : 0 < n1 := by omega
      clear hpic hm
      have HCI : Hid (CellsPicIs R Bk) := HK.out.is
      obtain ⟨A, hA⟩ : ∃ A, rai P = A := ⟨_, rfl⟩
      have hA2 : rai Bk = A := by rw [HK.out.same, hA]
      go_wp2_with fail
      refine (i_CellsPicture w4 _ R Bk HO4.out.ls.at HCI.out).mono ?_
      rintro e w5 ⟨a5, n5, c5, rfl, hO5, hb5⟩
      have HO5 := keptI hO5.ls.at
      have HB45 := keptI hb5
      have HP5 := keptI (HP4.out.below hb5)
      have HPIC5 := keptI (HPIC.out.below hb5)
      have HB5 := keptI (below_next HB4.out hb5)
      have hpicB := HK.out.ok.pic HO5.out
      obtain ⟨mb, hmb⟩ : ∃ mb, wdt Bk = mb := ⟨_, rfl⟩
      have x1 := HK.out.n1
      have x2 := HK.out.n2
      have x3 := HK.out.m1
      have x4 := HK.out.m2
      rw [hmb] at hpicB x3 x4
      rw [← hpicB.1, HN1.out] at x1 x2
      rw [HM.out] at x3 x4
      have hbn : n5 ≤ 24 := by have h1 := HK.out.ok.bd; have h2 := hpicB.1; omega
      have HPICB := keptI hpicB.2
      obtain ⟨g5, off5, b5, o5, d5, rfl, c50, _, _, _⟩ := hpicB.2.row (y := 0) (by omega)
      rw [Nat.add_zero] at c50
      have c00 := HC.out w5 hb5
      have q5 : (0 : Int) < (n5 : Int) := by omega
      have q50 : 0 < n5 := by omega
      have d1 : decide ((n5 : Int) < (n1 : Int)) = false := decide_eq_false (by omega)
      have d2 : decide ((n1 : Int) + 2 < (n5 : Int)) = false := decide_eq_false (by omega)
      have d3 : decide ((mb : Int) < (m : Int)) = false := decide_eq_false (by omega)
      have d4 : decide ((m : Int) + 1 < (mb : Int)) = false := decide_eq_false (by omega)
      have d1' : decide (n5 < n1) = false := decide_eq_false (by omega)
      have d3' : decide (mb < m) = false := decide_eq_false (by omega)
      have u1 : IntKind.i64.wrap ((n1 : Int) + 2) = (n1 : Int) + 2 := IntWalk.i64_in _ (by omega)
      have u2 : IntKind.i64.wrap ((m : Int) + 1) = (m : Int) + 1 := IntWalk.i64_in _ (by omega)
      have HRA : Hid (∀ wy, Below w5.heap.size w5 wy → Calls Try.prog 27 #[.slice (some ⟨g5, off5, none⟩) n5 c5] wy fun e w' => e = .returned (.int .i64 (A : Int)) ∧ wy = w') := fun wy hb => s_raised wy _ Bk A (HO5.out.below hb) (by have := HK.out.ok.bd; omega) (fun i => HK.out.ok.lens (by omega) i) hA2
      have HRB : Hid (∀ wy, Below w5.heap.size w5 wy → Calls Try.prog 27 #[.slice (some ⟨g, off, none⟩) n1 c1] wy fun e w' => e = .returned (.int .i64 (A : Int)) ∧ wy = w') := fun wy hb => s_raised wy _ P A (HP5.out.below hb) (by have := HF.out.ok.bd; omega) (fun i => HF.out.ok.lens (by omega) i) hA
      clear hO5 hb5 hpicB hmb hA hA2
      go_wp2_with fail
      go_quiet (fail)
      go_wp2
      go_loopw [6] (fun i wr => ∃ y : Nat, y ≤ n1 ∧ i = .int .i64 y ∧ Below w5.heap.size w5 wr) (fun i _ => n1 - (intOf i).toNat)
      case atStart => exact ⟨0, Nat.zero_le _, rfl, below_drewNI (Below.refl _ _) _⟩
      case round =>
        obtain ⟨y, hy, rfl, hb1⟩ := hrel
        have HBy := keptI hb1
        by_cases hlt : y < n1
        · obtain ⟨_, _, bp, op, dp, e1, cp0, hdp1, hdp2, hcp⟩ := HPIC5.out.row hlt
          injection e1 with e1
          injection e1 with e1 e2
          subst e1 e2
          obtain ⟨_, _, bq, oq, dq, e3, cq0, hdq1, hdq2, hcq⟩ := HPICB.out.row (y := y) (by omega)
          injection e3 with e3
          injection e3 with e3 e4
          subst e3 e4
          have hrow := HK.out.row y (by rw [HN1.out]; exact hlt)
          have hlp : (P.getD y []).length = m := by rw [(HF.out.ok.2.2 y (by rw [HN1.out]; exact hlt)).1]; exact HM.out
          have HIP : Hid (IntsAt w5 (.slice (some ⟨bp, op, none⟩) m dp) (P.getD y [])) := ⟨_, dp, by rw [hlp], by rw [hlp]; exact hdp1, hdp2, .inr ⟨bp, op, rfl, fun i hi => by rw [hlp] at hi; exact hcp i hi⟩⟩
          have HIB : Hid (IntsAt w5 (.slice (some ⟨bq, oq, none⟩) m dq) (P.getD y [])) := ⟨_, dq, by rw [hlp], by rw [hlp]; omega, hdq2, .inr ⟨bq, oq, rfl, fun i hi => by
            rw [hlp] at hi
            rw [hcq i (by omega)]
            have e9 : (P.getD y []).getD i 0 = px Bk y i := by
              unfold px
              rw [← hrow, List.getD_eq_getElem?_getD, List.getElem?_take, if_pos (by rw [HM.out]; exact hi), ← List.getD_eq_getElem?_getD]
            rw [e9]⟩⟩
          obtain ⟨ys, hys⟩ : ∃ ys, P.getD y [] = ys := ⟨_, rfl⟩
          rw [hys] at HIP HIB
          have HCK : Hid (∀ wy, Below w5.heap.size w5 wy → wy.cell? ⟨g5, off5 + y, none⟩ = some (.slice (some ⟨bq, oq, none⟩) mb dq) ∧ wy.cell? ⟨g, off, none⟩ = some (.slice (some ⟨b0, o0, none⟩) m d0) ∧ wy.cell? ⟨g, off + y, none⟩ = some (.slice (some ⟨bp, op, none⟩) m dp)) := fun wy h =>
            ⟨(h.cell (World.block_lt_of_cell? w5 _ cq0)).trans cq0, (h.cell (World.block_lt_of_cell? w5 _ c00)).trans c00, (h.cell (World.block_lt_of_cell? w5 _ cp0)).trans cp0⟩
          have HEQ : Hid (Calls Try.prog 26 #[.slice (some ⟨bq, oq, none⟩) m dq, .slice (some ⟨bp, op, none⟩) m dp] wr.drew fun e w' => e = .returned (.bool true) ∧ Below wr.drew.heap.size wr.drew w') := equalInts_sameI wr.drew _ _ ys (HIB.out.below hb1.drew) (HIP.out.below hb1.drew)
          have HBd := keptI hb1.drew
          have p1 : (0 : Int) ≤ (y : Int) := by omega
          have p2 : (y : Int) < (n1 : Int) := by omega
          have p3 : (y : Int) < (n5 : Int) := by omega
          have p4 : (m : Int) ≤ (dq : Int) := by omega
          have p5 : m ≤ dq := by omega
          have p6 : (0 : Int) ≤ (m : Int) := by omega
          have hszr := hb1.size
          clear hys hrow hlp hcp hcq cp0 cq0 hb1
          go_wp2_with fail
          go_region_held3 (fun wy => wy.cell? ⟨g5, off5 + y, none⟩ = some (.slice (some ⟨bq, oq, none⟩) mb dq) ∧ wy.cell? ⟨g, off, none⟩ = some (.slice (some ⟨b0, o0, none⟩) m d0) ∧ wy.cell? ⟨g, off + y, none⟩ = some (.slice (some ⟨bp, op, none⟩) m dp)) (first | assumption | exact HCK.out _ HBd.out | exact HCK.out _ HB7.out) (first | (go_at_call 26; (refine HEQ.out.mono ?_); rintro e w7 ⟨rfl, hb7⟩; have HB7 : Hid (Below w5.heap.size w5 w7) := HBd.out.trans (hb7.mono hszr); clear hb7))
          all_goals
            go_wp2
            go_roundw
            case rel => exact ⟨y + 1, by omega, by go_num, HB7.out⟩
            case measure => simp [intOf]; omega
        · obtain rfl : y = n1 := by omega
          have x9 : ((A : Int) == (A : Int)) = true := by simp
          clear hb1
          go_wp2_with fail
          refine (HRA.out _ HBy.out).mono ?_
          rintro e w' ⟨rfl, rfl⟩
          go_wp2_with fail
          refine (HRB.out _ HBy.out).mono ?_
          rintro e w' ⟨rfl, rfl⟩
          go_wp2
          go_ret
          exact ⟨rfl, below_next HB5.out HBy.out⟩
  · have d : decide (len ≤ 1048576) = false := decide_eq_false hbig
    have hl : (1048576 : Int) < len := by omega
    clear h
    go_enter Try.func4, Try.ntmps4
    go_wp2
    go_ret
    exact ⟨rfl, Below.refl _ _⟩
end Go.Proofs.Ytmmgeplhaooknaa
