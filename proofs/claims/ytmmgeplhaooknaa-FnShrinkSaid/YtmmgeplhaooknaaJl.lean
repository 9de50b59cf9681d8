
/- P131: small pictures have a dot for each square. -/
import Derived.Test.YtmmgeplhaooknaaJk
import Derived.Deep.RegionHeld3
import Derived.IntWalk
namespace Go.Proofs.Ytmmgeplhaooknaa
open Go.RowKit

set_option maxHeartbeats 4000000 in
theorem shrink_walk (a : Option Addr) (len cap : Nat) (zs : List Int) (w : World) (h : RowIn .u8 w a len cap zs) :
    Calls Try.prog 8 #[.slice a len cap] w fun e w' => e = .returned (.bool true) ∧ Below w.heap.size w w' := by
  have hlen : len ≤ 9223372036854775807 := by
    obtain ⟨_, h2, h3⟩ := bytesAt_of_row h; unfold maxLen at h3; omega
  by_cases hbig : len ≤ 1048576
  · go_enter Try.func8, Try.ntmps8
    go_wp2_with fail
    refine (drawShrink_any w a len cap zs h).mono ?_
    rintro e w1 ⟨a1, n1, c1, P, k, hk25, rfl, hP1, hbd, hB1⟩
    clear h
    have HP1 := keptI hP1
    have HBD := keptI hbd
    have HB1 := keptI hB1
    obtain ⟨R, hR, hRS⟩ := Shrink_ex P (k : Int)
    have HR := keptI hR
    clear hP1 hbd hB1 hR hRS
    go_wp2_with fail
    refine (i_Shrink w1 _ P (k : Int) R HP1.out HR.out).mono ?_
    rintro e w2 ⟨a2, n2, c2, rfl, hO2, hb2⟩
    have HO2 := keptI hO2
    have HP2 := keptI (HP1.out.below hb2)
    have HB2 := keptI (below_next HB1.out hb2)
    clear hO2 hb2 HP1 HB1
    go_wp2_with fail
    refine (s_Shrink w2 _ P (k : Int) R HP2.out HR.out).mono ?_
    rintro e w3 ⟨a3, n3, c3, rfl, hO3, hb3⟩
    have HS3 := keptI hO3
    have HO3 := keptI (HO2.out.below hb3 (Nat.le_refl _))
    have HP3 := keptI (HP2.out.below hb3)
    have HB3 := keptI (below_next HB2.out hb3)
    have hs3 := hb3.size
    clear hO3 hb3 HP2 HB2 HO2
    go_wp2_with fail
    refine (equalLists_sameI w3 _ _ R HO3.out.ls.at HS3.out).mono ?_
    rintro e w4 ⟨rfl, hb4⟩
    have HO4 := keptI (HO3.out.below hb4 hs3)
    have HP4 := keptI (HP3.out.below hb4)
    have HB4 := keptI (below_next HB3.out hb4)
    have hn2 : R.length = n2 := by
      obtain ⟨_, _, e, _⟩ := HO4.out.ls.at
      injection e with _ e2 _
      exact e2.symm
    have hn1 : P.length = n1 := by
      obtain ⟨_, _, e, _⟩ := HP4.out
      injection e with _ e2 _
      exact e2.symm
    have HN2 := Lib.hid hn2
    have HN1 := Lib.hid hn1
    clear hb4 HP3 HB3 HO3 HS3 hn2 hn1 hs3
    by_cases h0 : n2 = 0
    · subst h0
      go_wp2_with fail
      refine (s_Shrink w4 _ P (k : Int) R HP4.out HR.out).mono ?_
      rintro e w5 ⟨a5, n5, c5, rfl, hO5, hb5⟩
      have HB5 := keptI (below_next HB4.out hb5)
      have HO5 := keptI (HO4.out.ls.at.below hb5)
      have HS5 := keptI hO5
      clear hO5 hb5
      go_wp2_with fail
      refine (equalLists_sameI w5 _ _ R HO5.out HS5.out).mono ?_
      rintro e w6 ⟨rfl, hb6⟩
      have HB6 := keptI (below_next HB5.out hb6)
      clear hb6
      go_wp2
      go_ret
      exact ⟨rfl, HB6.out⟩
    · have d0 : ((n2 : Int) == 0) = false := by simp; omega
      have HNE : Hid (R.length ≠ 0) := by show R.length ≠ 0; rw [HN2.out]; exact h0
      have HF := keptI (shrink_facts HR.out HNE.out)
      have hpic := (HF.out.1).pic HP4.out
      obtain ⟨m, hm⟩ : ∃ m, wdt P = m := ⟨_, rfl⟩
      rw [hm] at hpic
      have hd := (HF.out.1).bd
      rw [hm, HN1.out] at hd
      obtain ⟨hd1, hd2, hd3, hd4⟩ := hd
      have HM := Lib.hid hm
      have HPIC := keptI hpic.2
      obtain ⟨g, off, b0, o0, d0, rfl, c00, _, _, _⟩ := hpic.2.row (y := 0) hd1
      rw [Nat.add_zero] at c00
      have HC : Hid (∀ wy, Below w4.heap.size w4 wy → wy.cell? ⟨g, off, none⟩ = some (.slice (some ⟨b0, o0, none⟩) m d0)) := fun wy hb => (hb.cell (World.block_lt_of_cell? w4 _ c00)).trans c00
      have q0 : (0 : Int) < (n1 : Int) := by omega
      have q00 : 0 < n1 := by omega
      clear hpic hm
      have hpic2 := (HF.out.2.2.1).pic HO4.out.ls.at
      obtain ⟨m2, hm2⟩ : ∃ m2, wdt R = m2 := ⟨_, rfl⟩
      rw [hm2] at hpic2
      have hdd := (HF.out.2.2.1).bd
      rw [hm2, HN2.out] at hdd
      obtain ⟨hdd1, hdd2, hdd3, hdd4⟩ := hdd
      have HM2 := Lib.hid hm2
      have HPIC2 := keptI hpic2.2
      obtain ⟨g2, off2, b2, o2, d2, rfl, c20, _, _, _⟩ := hpic2.2.row (y := 0) hdd1
      rw [Nat.add_zero] at c20
      have HC2 : Hid (∀ wy, Below w4.heap.size w4 wy → wy.cell? ⟨g2, off2, none⟩ = some (.slice (some ⟨b2, o2, none⟩) m2 d2)) := fun wy hb => (hb.cell (World.block_lt_of_cell? w4 _ c20)).trans c20
      have q20 : (0 : Int) < (n2 : Int) := by omega
      have q200 : 0 < n2 := by omega
      clear hpic2 hm2
      have hk := HF.out.2.1
      have hl := HF.out.2.2.2.1
      have hw := HF.out.2.2.2.2.1
      rw [HN2.out, HN1.out] at hl
      rw [HM2.out, HM.out] at hw
      obtain ⟨hk1, hk2⟩ := hk
      have HX4 : Hid (ListsAt w4.drew (.slice (some ⟨g, off, none⟩) n1 c1) P) := HP4.out
      have HS1 : Hid (ShrinkIs P 1 P) := HF.out.2.2.2.2.2.1
      have HVP : Hid (∀ wy, Below w4.heap.size w4 wy → Calls Try.prog 19 #[.slice (some ⟨g2, off2, none⟩) n2 c2] wy fun e w' => e = .returned (.bool true) ∧ wy = w') := fun wy hb => (i_ValidPicture wy _ R (HO4.out.ls.at.below hb)).mono fun _ _ ⟨b', h1, h2, h3⟩ => ⟨by rw [h1, h3.2 HF.out.2.2.1], h2⟩
      have u1 : IntKind.i64.wrap ((n1 : Int) + (k : Int)) = (n1 : Int) + (k : Int) := IntWalk.i64_in _ (by omega)
      have u2 : IntKind.i64.wrap ((n1 : Int) + (k : Int) - 1) = (n1 : Int) + (k : Int) - 1 := IntWalk.i64_in _ (by omega)
      have u3 : IntKind.i64.wrap ((m : Int) + (k : Int)) = (m : Int) + (k : Int) := IntWalk.i64_in _ (by omega)
      have u4 : IntKind.i64.wrap ((m : Int) + (k : Int) - 1) = (m : Int) + (k : Int) - 1 := IntWalk.i64_in _ (by omega)
      have t1 : ((n1 : Int) + (k : Int) - 1).tdiv (k : Int) = (n2 : Int) := by
        rw [Int.tdiv_eq_ediv_of_nonneg (by omega), hl, show ((n1 : Int) + (k : Int) - 1) = ((n1 + k - 1 : Nat) : Int) by omega]; rfl
      have t2 : ((m : Int) + (k : Int) - 1).tdiv (k : Int) = (m2 : Int) := by
        rw [Int.tdiv_eq_ediv_of_nonneg (by omega), hw, show ((m : Int) + (k : Int) - 1) = ((m + k - 1 : Nat) : Int) by omega]; rfl
      have u5 : IntKind.i64.wrap (n2 : Int) = (n2 : Int) := IntWalk.i64_in _ (by omega)
      have u6 : IntKind.i64.wrap (m2 : Int) = (m2 : Int) := IntWalk.i64_in _ (by omega)
      have z1 : ((k : Int) == 0) = false := by simp; omega
      have z2 : ¬ (k = 0) := by omega
      clear hl hw
      go_wp2_with fail
      go_region_held3 (fun wy => wy.cell? ⟨g, off, none⟩ = some (.slice (some ⟨b0, o0, none⟩) m d0) ∧ wy.cell? ⟨g2, off2, none⟩ = some (.slice (some ⟨b2, o2, none⟩) m2 d2)) (first | assumption | exact ⟨HC.out _ (Below.refl _ _).drew, HC2.out _ (Below.refl _ _).drew⟩ | exact ⟨HC.out _ HB5x.out, HC2.out _ HB5x.out⟩ | exact ⟨HC.out _ HB6x.out, HC2.out _ HB6x.out⟩) (first | (go_at_call 34; (refine (i_Shrink w4.drew _ P 1 P HX4.out HS1.out).mono ?_); rintro e w5 ⟨a5, n5, c5, rfl, hO5, hb5⟩; have HB5x : Hid (Below w4.heap.size w4 w5) := (Below.refl _ _).drew.trans hb5; have HO5 := keptI hO5; clear hO5 hb5) | (go_at_call 23; (refine (equalLists_sameI w5 _ _ P HO5.out.ls.at (HP4.out.below HB5x.out)).mono ?_); rintro e w6 ⟨rfl, hb6⟩; have HB6x : Hid (Below w4.heap.size w4 w6) := below_next HB5x.out hb6; clear hb6) | (go_at_call 19; (with_reducible refine (HVP.out _ HB6x.out).mono ?_); rintro e w' ⟨rfl, rfl⟩))
      all_goals
        go_wp2
        go_ret
        exact ⟨rfl, below_next HB4.out HB6x.out⟩
  · have d : decide (len ≤ 1048576) = false := decide_eq_false hbig
    have hl : (1048576 : Int) < len := by omega
    clear h
    go_enter Try.func8, Try.ntmps8
    go_wp2
    go_ret
    exact ⟨rfl, Below.refl _ _⟩
end Go.Proofs.Ytmmgeplhaooknaa
