
/- P128: dots are raised in cells. -/
import Derived.Test.YtmmgeplhaooknaaJy
import Derived.Test.YtmmgeplhaooknaaIn
import Derived.Deep.QuietTactic
import Derived.BigQuiet
namespace Go.Proofs.Ytmmgeplhaooknaa
open Go.RowKit

set_option maxHeartbeats 4000000 in
theorem pictureCellsDots_walk (a : Option Addr) (len cap : Nat) (zs : List Int) (w : World) (h : RowIn .u8 w a len cap zs) :
    Calls Try.prog 5 #[.slice a len cap] w fun e w' => e = .returned (.bool true) ∧ Below w.heap.size w w' := by
  have hlen : len ≤ 9223372036854775807 := by
    obtain ⟨_, h2, h3⟩ := bytesAt_of_row h; unfold maxLen at h3; omega
  by_cases hbig : len ≤ 1048576
  · go_enter Try.func5, Try.ntmps5
    go_wp2_with fail
    refine (drawPictureCells_any w a len cap zs h).mono ?_
    rintro e w1 ⟨a1, n1, c1, P, rfl, hP1, hbd, hB1⟩
    clear h
    have HP1 := keptI hP1
    have HBD := keptI hbd
    have HB1 := keptI hB1
    obtain ⟨R, hR, hRS⟩ := PictureCells_ex P
    have HR := keptI hR
    clear hP1 hbd hB1 hR hRS
    go_wp2_with fail
    refine (i_PictureCells w1 _ P R HP1.out HR.out).mono ?_
    rintro e w2 ⟨a2, n2, c2, rfl, hO2, hb2⟩
    have HO2 := keptI hO2
    have HP2 := keptI (HP1.out.below hb2)
    have HB2 := keptI (below_next HB1.out hb2)
    clear hO2 hb2 HP1 HB1
    go_wp2_with fail
    refine (s_PictureCells w2 _ P R HP2.out HR.out).mono ?_
    rintro e w3 ⟨a3, n3, c3, rfl, hO3, hb3⟩
    have HS3 := keptI hO3
    have HO3 := keptI (HO2.out.below hb3 (Nat.le_refl _))
    have HP3 := keptI (HP2.out.below hb3)
    have HB3 := keptI (below_next HB2.out hb3)
    have hs3 := hb3.size
    clear hO3 hb3 HP2 HB2 HO2
    go_wp2_with fail
    refine (equalLists_sameI w3 _ _ R HO3.out.ls.at HS3.out).mono ?_
    rintro e w4 ⟨rfl, hb4⟩
    have HO4 := keptI (HO3.out.below hb4 hs3)
    have HP4 := keptI (HP3.out.below hb4)
    have HB4 := keptI (below_next HB3.out hb4)
    have hn2 : R.length = n2 := by
      obtain ⟨_, _, e, _⟩ := HO4.out.ls.at
      injection e with _ e2 _
      exact e2.symm
    have hn1 : P.length = n1 := by
      obtain ⟨_, _, e, _⟩ := HP4.out
      injection e with _ e2 _
      exact e2.symm
    have HN2 := Lib.hid hn2
    have HN1 := Lib.hid hn1
    clear hb4 HP3 HB3 HO3 HS3 hn2 hn1 hs3
    by_cases h0 : n2 = 0
    · subst h0
      go_wp2_with fail
      refine (s_PictureCells w4 _ P R HP4.out HR.out).mono ?_
      rintro e w5 ⟨a5, n5, c5, rfl, hO5, hb5⟩
      have HB5 := keptI (below_next HB4.out hb5)
      have HO5 := keptI (HO4.out.ls.at.below hb5)
      have HS5 := keptI hO5
      clear hO5 hb5
      go_wp2_with fail
      refine (equalLists_sameI w5 _ _ R HO5.out HS5.out).mono ?_
      rintro e w6 ⟨rfl, hb6⟩
      have HB6 := keptI (below_next HB5.out hb6)
      clear hb6
      go_wp2
      go_ret
      exact ⟨rfl, HB6.out⟩
    · have d0 : ((n2 : Int) == 0) = false := by simp; omega
      have HNE : Hid (R.length ≠ 0) := by show R.length ≠ 0; rw [HN2.out]; exact h0
      have HF := keptI (pc_facts HR.out HNE.out)
      have hpic2 := (HF.out.okR).pic HO4.out.ls.at
      obtain ⟨m2, hm2⟩ : ∃ m2, wdt R = m2 := ⟨_, rfl⟩
      rw [hm2] at hpic2
      have hdd := (HF.out.okR).bd
      rw [hm2, HN2.out] at hdd
      obtain ⟨hdd1, hdd2, hdd3, hdd4⟩ := hdd
      have HM2 := Lib.hid hm2
      have HPIC2 := keptI hpic2.2
      obtain ⟨g2, off2, b2, o2, d2, rfl, c20, _, _, _⟩ := hpic2.2.row (y := 0) hdd1
      rw [Nat.add_zero] at c20
      have HC2 : Hid (∀ wy, Below w4.heap.size w4 wy → wy.cell? ⟨g2, off2, none⟩ = some (.slice (some ⟨b2, o2, none⟩) m2 d2)) := fun wy hb => (hb.cell (World.block_lt_of_cell? w4 _ c20)).trans c20
      have q20 : (0 : Int) < (n2 : Int) := by omega
      have q200 : 0 < n2 := by omega
      clear hpic2 hm2
      have hsum := nb_sum HF.out
      rw [HN2.out, HM2.out] at hsum
      obtain ⟨A, hA⟩ : ∃ A, rai P = A := ⟨_, rfl⟩
      rw [hA] at hsum
      have HSUM := Lib.hid hsum
      have HRB : Hid (∀ wy, Below w4.heap.size w4 wy → Calls Try.prog 27 #[.slice a1 n1 c1] wy fun e w' => e = .returned (.int .i64 (A : Int)) ∧ wy = w') := fun wy hb => s_raised wy _ P A (HP4.out.below hb) (by have := HF.out.ok.bd; omega) (fun i => HF.out.ok.lens (by omega) i) hA
      clear hsum hA
      go_wp2_with fail
      go_loopw [5, 6] (fun t i wr => ∃ (y : Nat) (S : Int), y ≤ n2 ∧ i = .int .i64 y ∧ t = .int .i64 S ∧ 0 ≤ S ∧ S ≤ 72 * y ∧ Hid (rs (fun i => rs (nbF (px P) i) 0 m2) 0 y = S) ∧ Below w4.heap.size w4 wr) (fun _ i _ => n2 - (intOf i).toNat)
      case atStart => exact ⟨0, 0, Nat.zero_le _, rfl, rfl, by omega, by omega, rfl, Below.refl _ _⟩
      case round =>
        obtain ⟨y, S, hy, rfl, rfl, hS0, hS1, HS, hb1⟩ := hrel
        have HBy := keptI hb1
        by_cases hlt : y < n2
        · obtain ⟨_, _, bq, oq, dq, e3, cq0, _, _, hcq⟩ := HPIC2.out.row hlt
          injection e3 with e3
          injection e3 with e3 e4
          subst e3 e4
          have HCQ0 := keptI cq0
          have HCQ := keptI hcq
          have p1 : (0 : Int) ≤ (y : Int) := by omega
          have p2 : (y : Int) < (n2 : Int) := by omega
          have cq0 := (hb1.cell (World.block_lt_of_cell? w4 _ cq0)).trans cq0
          clear hcq hb1
          go_wp2
          clear cq0
          go_loopw [5, 7] (fun t j wr => ∃ (x : Nat) (T : Int), x ≤ m2 ∧ j = .int .i64 x ∧ t = .int .i64 (S + T) ∧ 0 ≤ T ∧ T ≤ 6 * x ∧ Hid (rs (nbF (px P) y) 0 x = T) ∧ Below w4.heap.size w4 wr) (fun _ j _ => m2 - (intOf j).toNat)
          case atStart => exact ⟨0, 0, Nat.zero_le _, rfl, by rw [Int.add_zero], by omega, by omega, rfl, HBy.out⟩
          case round =>
            obtain ⟨x, T, hx, rfl, rfl, hT0, hT1, HT, hb2⟩ := hrel
            have HBx := keptI hb2
            have cq0 := (hb2.cell (World.block_lt_of_cell? w4 _ HCQ0.out)).trans HCQ0.out
            by_cases hltx : x < m2
            · have cq1 := (hb2.cell (World.block_lt_of_cell? w4 _ (HCQ.out x hltx))).trans (HCQ.out x hltx)
              have hat := HF.out.at' y x (by rw [HN2.out]; exact hlt) (by rw [HM2.out]; exact hltx)
              have hbd := pc_bd (fun y x => HF.out.ok.bin y x) y x
              have hnb := nb_pc (fun y x => HF.out.ok.bin y x) y x
              rw [← hat] at hbd hnb
              obtain ⟨c, hc⟩ : ∃ c : Nat, px R y x = (c : Int) := ⟨(px R y x).toNat, by omega⟩
              rw [hc] at cq1 hbd hnb
              rw [Int.toNat_natCast] at hnb
              obtain ⟨q, hq⟩ : ∃ q, (dotsL c).length = q := ⟨_, rfl⟩
              have hq6 : q ≤ 6 := by rw [← hq, nb_bits c (by omega)]; omega
              rw [hq] at hnb
              have HDO : Hid (Calls Try.prog 28 #[.int .i64 (c : Int)] wr fun e w' => (∃ a k, e = .returned (.slice a q k)) ∧ Below wr.heap.size wr w') := (i_DotsOf_out c wr (by omega)).mono fun _ _ ⟨v, h1, ⟨a, k, h2, _⟩, h3, _⟩ => ⟨⟨a, k, by rw [h1, h2, hq]⟩, h3⟩
              have HT2 : Hid (rs (nbF (px P) y) 0 (x + 1) = T + (q : Int)) := by show _ + nbF (px P) y (0 + x) = _; rw [HT.out, Nat.zero_add, ← hnb]
              have p3 : (0 : Int) ≤ (x : Int) := by omega
              have p4 : (x : Int) < (m2 : Int) := by omega
              clear hat hbd hnb hc hq hb2 HT
              go_wp2_with fail
              refine HDO.out.mono ?_
              rintro e w9 ⟨⟨a9, k9, rfl⟩, hb9⟩
              have HB9 := keptI (below_next HBx.out hb9)
              clear hb9
              go_wp2
              go_roundw
              case rel => exact ⟨x + 1, T + q, by omega, by go_num, by rw [Int.add_assoc], by omega, by omega, HT2, HB9.out⟩
              case measure => simp [intOf]; omega
            · obtain rfl : x = m2 := by omega
              have HS2 : Hid (rs (fun i => rs (nbF (px P) i) 0 x) 0 (y + 1) = S + T) := by show _ + rs (nbF (px P) (0 + y)) 0 x = _; rw [HS.out, Nat.zero_add, HT.out]
              clear hb2
              go_wp2
              go_roundw
              case rel => exact ⟨y + 1, S + T, by omega, by go_num, rfl, by omega, by omega, HS2, HBx.out⟩
              case measure => simp [intOf]; omega
        · obtain rfl : y = n2 := by omega
          have hSA : S = (A : Int) := by rw [← HS.out]; exact HSUM.out
          have x9 : ((A : Int) == (A : Int)) = true := by simp
          subst hSA
          clear hb1
          go_wp2_with fail
          refine (HRB.out _ HBy.out).mono ?_
          rintro e w' ⟨rfl, rfl⟩
          go_wp2
          go_ret
          exact ⟨rfl, below_next HB4.out HBy.out⟩
  · have d : decide (len ≤ 1048576) = false := decide_eq_false hbig
    have hl : (1048576 : Int) < len := by omega
    clear h
    go_enter Try.func5, Try.ntmps5
    go_wp2
    go_ret
    exact ⟨rfl, Below.refl _ _⟩
end Go.Proofs.Ytmmgeplhaooknaa
