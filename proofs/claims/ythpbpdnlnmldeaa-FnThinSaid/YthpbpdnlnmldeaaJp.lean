
/- P136: thin pictures have dots apart. -/
import Derived.Test.YthpbpdnlnmldeaaJn
import Derived.Test.YthpbpdnlnmldeaaJc
import Derived.Test.YthpbpdnlnmldeaaIc
import Derived.Deep.QuietTactic
import Derived.BigQuiet
namespace Go.Proofs.Ythpbpdnlnmldeaa
open Go.RowKit

set_option maxHeartbeats 4000000 in
theorem thin_walk (a : Option Addr) (len cap : Nat) (zs : List Int) (w : World) (h : RowIn .u8 w a len cap zs) :
    Calls Try.prog 4 #[.slice a len cap] w fun e w' => e = .returned (.bool true) ∧ Below w.heap.size w w' := by
  have hlen : len ≤ 9223372036854775807 := by
    obtain ⟨_, h2, h3⟩ := bytesAt_of_row h; unfold maxLen at h3; omega
  by_cases hbig : len ≤ 1048576
  · go_enter Try.func4, Try.ntmps4
    go_wp2_with fail
    refine (drawThin_any w a len cap zs h).mono ?_
    rintro e w1 ⟨a1, n1, c1, P, k, hk25, rfl, hP1, hbd, hB1⟩
    clear h
    have HP1 := keptI hP1
    have HBD := keptI hbd
    have HB1 := keptI hB1
    obtain ⟨R, hR, hRS⟩ := Thin_ex P (k : Int)
    have HR := keptI hR
    clear hP1 hbd hB1 hR hRS
    go_wp2_with fail
    refine (i_Thin w1 _ P (k : Int) R HP1.out HR.out).mono ?_
    rintro e w2 ⟨a2, n2, c2, rfl, hO2, hb2⟩
    have HO2 := keptI hO2
    have HP2 := keptI (HP1.out.below hb2)
    have HB2 := keptI (below_next HB1.out hb2)
    clear hO2 hb2 HP1 HB1
    go_wp2_with fail
    refine (s_Thin w2 _ P (k : Int) R HP2.out HR.out).mono ?_
    rintro e w3 ⟨a3, n3, c3, rfl, hO3, hb3⟩
    have HS3 := keptI hO3
    have HO3 := keptI (HO2.out.below hb3 (Nat.le_refl _))
    have HP3 := keptI (HP2.out.below hb3)
    have HB3 := keptI (below_next HB2.out hb3)
    have hs3 := hb3.size
    clear hO3 hb3 HP2 HB2 HO2
    go_wp2_with fail
    refine (equalLists_sameI w3 _ _ R HO3.out.ls.at HS3.out).mono ?_
    rintro e w4 ⟨rfl, hb4⟩
    have HO4 := keptI (HO3.out.below hb4 hs3)
    have HP4 := keptI (HP3.out.below hb4)
    have HB4 := keptI (below_next HB3.out hb4)
    have hn2 : R.length = n2 := by
      obtain ⟨_, _, e, _⟩ := HO4.out.ls.at
      injection e with _ e2 _
      exact e2.symm
    have hn1 : P.length = n1 := by
      obtain ⟨_, _, e, _⟩ := HP4.out
      injection e with _ e2 _
      exact e2.symm
    have HN2 := Lib.hid hn2
    have HN1 := Lib.hid hn1
    clear hb4 HP3 HB3 HO3 HS3 hn2 hn1 hs3
    by_cases h0 : n2 = 0
    · subst h0
      go_wp2_with fail
      refine (s_Thin w4 _ P (k : Int) R HP4.out HR.out).mono ?_
      rintro e w5 ⟨a5, n5, c5, rfl, hO5, hb5⟩
      have HB5 := keptI (below_next HB4.out hb5)
      have HO5 := keptI (HO4.out.ls.at.below hb5)
      have HS5 := keptI hO5
      clear hO5 hb5
      go_wp2_with fail
      refine (equalLists_sameI w5 _ _ R HO5.out HS5.out).mono ?_
      rintro e w6 ⟨rfl, hb6⟩
      have HB6 := keptI (below_next HB5.out hb6)
      clear hb6
      go_wp2
      go_ret
      exact ⟨rfl, HB6.out⟩
    · have d0 : ((n2 : Int) == 0) = false := by simp; omega
      have HNE : Hid (R.length ≠ 0) := by show R.length ≠ 0; rw [HN2.out]; exact h0
      have HF := keptI (thin_facts HR.out HNE.out)
      have hfar := HF.out.far
      obtain ⟨hfar1, hfar2⟩ := hfar
      have hpic := (HF.out.ok).pic HP4.out
      obtain ⟨m, hm⟩ : ∃ m, wdt P = m := ⟨_, rfl⟩
      rw [hm] at hpic
      have hd := (HF.out.ok).bd
      rw [hm, HN1.out] at hd
      obtain ⟨hd1, hd2, hd3, hd4⟩ := hd
      have HM := Lib.hid hm
      have HPIC := keptI hpic.2
      obtain ⟨g, off, b0, o0, d0, rfl, c00, _, _, _⟩ := hpic.2.row (y := 0) hd1
      rw [Nat.add_zero] at c00
      have HC : Hid (∀ wy, Below w4.heap.size w4 wy → wy.cell? ⟨g, off, none⟩ = some (.slice (some ⟨b0, o0, none⟩) m d0)) := fun wy hb => (hb.cell (World.block_lt_of_cell? w4 _ c00)).trans c00
      have q0 : (0 : Int) < (n1 : Int) := by omega
      have q00 : 0 < n1 := by omega
      clear hpic hm
      have hpic2 := (HF.out.okR).pic HO4.out.ls.at
      obtain ⟨m2, hm2⟩ : ∃ m2, wdt R = m2 := ⟨_, rfl⟩
      rw [hm2] at hpic2
      have hdd := (HF.out.okR).bd
      rw [hm2, HN2.out] at hdd
      obtain ⟨hdd1, hdd2, hdd3, hdd4⟩ := hdd
      have HM2 := Lib.hid hm2
      have HPIC2 := keptI hpic2.2
      obtain ⟨g2, off2, b2, o2, d2, rfl, c20, _, _, _⟩ := hpic2.2.row (y := 0) hdd1
      rw [Nat.add_zero] at c20
      have HC2 : Hid (∀ wy, Below w4.heap.size w4 wy → wy.cell? ⟨g2, off2, none⟩ = some (.slice (some ⟨b2, o2, none⟩) m2 d2)) := fun wy hb => (hb.cell (World.block_lt_of_cell? w4 _ c20)).trans c20
      have q20 : (0 : Int) < (n2 : Int) := by omega
      have q200 : 0 < n2 := by omega
      clear hpic2 hm2
      have en : n2 = n1 := by rw [← HN2.out, HF.out.len, HN1.out]
      have em : m2 = m := by rw [← HM2.out, HF.out.wd, HM.out]
      subst en em
      go_wp2_with fail
      go_loopw [6] (fun i wr => ∃ y : Nat, y ≤ n2 ∧ i = .int .i64 y ∧ Below w4.heap.size w4 wr) (fun i _ => n2 - (intOf i).toNat)
      case atStart => exact ⟨0, Nat.zero_le _, rfl, Below.refl _ _⟩
      case round =>
        obtain ⟨y, hy, rfl, hb1⟩ := hrel
        have HBy := keptI hb1
        by_cases hlt : y < n2
        · obtain ⟨_, _, bp, op, dp, e1, cp0, _, _, hcp⟩ := HPIC.out.row hlt
          injection e1 with e1
          injection e1 with e1 e2
          subst e1 e2
          obtain ⟨_, _, bq, oq, dq, e3, cq0, _, _, hcq⟩ := HPIC2.out.row hlt
          injection e3 with e3
          injection e3 with e3 e4
          subst e3 e4
          have HCP0 := keptI cp0
          have HCQ0 := keptI cq0
          have HCP := keptI hcp
          have HCQ := keptI hcq
          have cp0 := (hb1.cell (World.block_lt_of_cell? w4 _ cp0)).trans cp0
          have p1 : (0 : Int) ≤ (y : Int) := by omega
          have p2 : (y : Int) < (n2 : Int) := by omega
          clear cq0 hcp hcq hb1
          go_wp2
          clear cp0
          go_loopw [7] (fun j wr => ∃ x : Nat, x ≤ m2 ∧ j = .int .i64 x ∧ Below w4.heap.size w4 wr) (fun j _ => m2 - (intOf j).toNat)
          case atStart => exact ⟨0, Nat.zero_le _, rfl, HBy.out⟩
          case round =>
            obtain ⟨x, hx, rfl, hb2⟩ := hrel
            have HBx := keptI hb2
            have cp0 := (hb2.cell (World.block_lt_of_cell? w4 _ HCP0.out)).trans HCP0.out
            by_cases hltx : x < m2
            · have cq0 := (hb2.cell (World.block_lt_of_cell? w4 _ HCQ0.out)).trans HCQ0.out
              have cp1 := (hb2.cell (World.block_lt_of_cell? w4 _ (HCP.out x hltx))).trans (HCP.out x hltx)
              have cq1 := (hb2.cell (World.block_lt_of_cell? w4 _ (HCQ.out x hltx))).trans (HCQ.out x hltx)
              have hle := HF.out.le y x (by rw [HN1.out]; exact hlt) (by rw [HM.out]; exact hltx)
              obtain ⟨z, hz⟩ : ∃ z, px P y x = z := ⟨_, rfl⟩
              obtain ⟨v, hv⟩ : ∃ v, px R y x = v := ⟨_, rfl⟩
              rw [hz] at cp1
              rw [hv] at cq1
              rw [hz, hv] at hle
              have dl : decide (z < v) = false := decide_eq_false (by omega)
              have p3 : (0 : Int) ≤ (x : Int) := by omega
              have p4 : (x : Int) < (m2 : Int) := by omega
              clear hz hv hle hb2
              go_wp2_with fail
              go_quiet (fail)
              go_wp2
              go_roundw
              case rel => exact ⟨x + 1, by omega, by go_num, below_drewNI HBx.out _⟩
              case measure => simp [intOf]; omega
            · obtain rfl : x = m2 := by omega
              clear hb2
              go_wp2
              go_roundw
              case rel => exact ⟨y + 1, by omega, by go_num, HBx.out⟩
              case measure => simp [intOf]; omega
        · obtain rfl : y = n2 := by omega
          have HDA : Hid (Calls Try.prog 18 #[.slice (some ⟨g2, off2, none⟩) y c2, .int .i64 (k : Int)] wr fun e w' => e = .returned (.bool true) ∧ wr = w') := (i_DotsApart wr _ R k (HO4.out.ls.at.below hb1)).mono fun _ _ ⟨b', h1, h2, h3⟩ => ⟨by rw [h1, h3.2 HF.out.apart], h2⟩
          obtain ⟨b, hb⟩ := boolOfI (ApartOk P k)
          have HDP : Hid (Calls Try.prog 18 #[.slice (some ⟨g, off, none⟩) y c1, .int .i64 (k : Int)] wr fun e w' => e = .returned (.bool b) ∧ wr = w') := (i_DotsApart wr _ P k (HP4.out.below hb1)).mono fun _ _ ⟨b', h1, h2, h3⟩ => ⟨by rw [h1, bool_same h3 hb], h2⟩
          have HBB := keptI hb
          have HOr := keptI (HO4.out.ls.at.below hb1)
          have HPr := keptI (HP4.out.below hb1)
          clear hb hb1
          go_wp2_with fail
          refine HDA.out.mono ?_
          rintro e w' ⟨rfl, rfl⟩
          go_wp2_with fail
          refine HDP.out.mono ?_
          rintro e w' ⟨rfl, rfl⟩
          cases b with
          | false =>
            go_wp2
            go_ret
            exact ⟨rfl, below_next HB4.out HBy.out⟩
          | true =>
            have HEQ : Hid (R = P) := HF.out.same (HBB.out.1 rfl)
            have HOr2 : Hid (ListsAt wr (.slice (some ⟨g2, off2, none⟩) y c2) P) := by have := HOr.out; rw [HEQ.out] at this; exact this
            go_wp2_with fail
            refine (equalLists_sameI wr _ _ P HOr2.out HPr.out).mono ?_
            rintro e w6 ⟨rfl, hb6⟩
            have HB6 := keptI (below_next HBy.out hb6)
            clear hb6
            go_wp2
            go_ret
            exact ⟨rfl, below_next HB4.out HB6.out⟩
  · have d : decide (len ≤ 1048576) = false := decide_eq_false hbig
    have hl : (1048576 : Int) < len := by omega
    clear h
    go_enter Try.func4, Try.ntmps4
    go_wp2
    go_ret
    exact ⟨rfl, Below.refl _ _⟩
end Go.Proofs.Ythpbpdnlnmldeaa
