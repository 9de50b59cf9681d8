
/- P199: thin pictures keep enough dots. -/
import Derived.Test.YthpbpdnlnmldeaaJn
import Derived.Test.YthpbpdnlnmldeaaJc
namespace Go.Proofs.Ythpbpdnlnmldeaa
open Go.RowKit

set_option maxHeartbeats 4000000 in
theorem thinMany_walk (a : Option Addr) (len cap : Nat) (zs : List Int) (w : World) (h : RowIn .u8 w a len cap zs) :
    Calls Try.prog 8 #[.slice a len cap] w fun e w' => e = .returned (.bool true) ∧ Below w.heap.size w w' := by
  have hlen : len ≤ 9223372036854775807 := by
    obtain ⟨_, h2, h3⟩ := bytesAt_of_row h; unfold maxLen at h3; omega
  by_cases hbig : len ≤ 1048576
  · go_enter Try.func8, Try.ntmps8
    go_wp2_with fail
    refine (drawThin_any w a len cap zs h).mono ?_
    rintro e w1 ⟨a1, n1, c1, P, k, hk25, rfl, hP1, hbd, hB1⟩
    clear h
    have HP1 := keptI hP1
    have HBD := keptI hbd
    have HB1 := keptI hB1
    obtain ⟨R, hR, hRS⟩ := Thin_ex P (k : Int)
    have HR := keptI hR
    clear hP1 hbd hB1 hR hRS
    go_wp2_with fail
    refine (i_Thin w1 _ P (k : Int) R HP1.out HR.out).mono ?_
    rintro e w2 ⟨a2, n2, c2, rfl, hO2, hb2⟩
    have HO2 := keptI hO2
    have HP2 := keptI (HP1.out.below hb2)
    have HB2 := keptI (below_next HB1.out hb2)
    clear hO2 hb2 HP1 HB1
    go_wp2_with fail
    refine (s_Thin w2 _ P (k : Int) R HP2.out HR.out).mono ?_
    rintro e w3 ⟨a3, n3, c3, rfl, hO3, hb3⟩
    have HS3 := keptI hO3
    have HO3 := keptI (HO2.out.below hb3 (Nat.le_refl _))
    have HP3 := keptI (HP2.out.below hb3)
    have HB3 := keptI (below_next HB2.out hb3)
    have hs3 := hb3.size
    clear hO3 hb3 HP2 HB2 HO2
    go_wp2_with fail
    refine (equalLists_sameI w3 _ _ R HO3.out.ls.at HS3.out).mono ?_
    rintro e w4 ⟨rfl, hb4⟩
    have HO4 := keptI (HO3.out.below hb4 hs3)
    have HP4 := keptI (HP3.out.below hb4)
    have HB4 := keptI (below_next HB3.out hb4)
    have hn2 : R.length = n2 := by
      obtain ⟨_, _, e, _⟩ := HO4.out.ls.at
      injection e with _ e2 _
      exact e2.symm
    have hn1 : P.length = n1 := by
      obtain ⟨_, _, e, _⟩ := HP4.out
      injection e with _ e2 _
      exact e2.symm
    have HN2 := Lib.hid hn2
    have HN1 := Lib.hid hn1
    clear hb4 HP3 HB3 HO3 HS3 hn2 hn1 hs3
    by_cases h0 : n2 = 0
    · subst h0
      go_wp2_with fail
      refine (s_Thin w4 _ P (k : Int) R HP4.out HR.out).mono ?_
      rintro e w5 ⟨a5, n5, c5, rfl, hO5, hb5⟩
      have HB5 := keptI (below_next HB4.out hb5)
      have HO5 := keptI (HO4.out.ls.at.below hb5)
      have HS5 := keptI hO5
      clear hO5 hb5
      go_wp2_with fail
      refine (equalLists_sameI w5 _ _ R HO5.out HS5.out).mono ?_
      rintro e w6 ⟨rfl, hb6⟩
      have HB6 := keptI (below_next HB5.out hb6)
      clear hb6
      go_wp2
      go_ret
      exact ⟨rfl, HB6.out⟩
    · have d0 : ((n2 : Int) == 0) = false := by simp; omega
      have HNE : Hid (R.length ≠ 0) := by show R.length ≠ 0; rw [HN2.out]; exact h0
      have HF := keptI (thin_facts HR.out HNE.out)
      have hfar := HF.out.far
      obtain ⟨hfar1, hfar2⟩ := hfar
      obtain ⟨A, hA⟩ : ∃ A, rai R = A := ⟨_, rfl⟩
      obtain ⟨B, hB⟩ : ∃ B, rai P = B := ⟨_, rfl⟩
      have HRA : Hid (Calls Try.prog 25 #[.slice a2 n2 c2] w4 fun e w' => e = .returned (.int .i64 (A : Int)) ∧ w4 = w') := s_raised w4 _ R A HO4.out.ls.at (by have := HF.out.okR.bd; omega) (fun i => HF.out.okR.lens (by omega) i) hA
      have HRB : Hid (Calls Try.prog 25 #[.slice a1 n1 c1] w4 fun e w' => e = .returned (.int .i64 (B : Int)) ∧ w4 = w') := s_raised w4 _ P B HP4.out (by have := HF.out.ok.bd; omega) (fun i => HF.out.ok.lens (by omega) i) hB
      have hmany := HF.out.many
      have hfew := HF.out.few
      rw [hA, hB] at hmany hfew
      have hA576 : A ≤ 576 := by
        rw [← hA]
        have h1 := rai_bs HF.out.okR
        have h2 := bs_bd (f := px R) (y0 := 0) (ny := R.length) (x0 := 0) (nx := wdt R) (fun i j _ _ => by have := HF.out.okR.bin (0 + i) (0 + j); omega)
        have h3 : R.length * wdt R ≤ 24 * 24 := Nat.mul_le_mul (by have := HF.out.okR.bd; omega) (by have := HF.out.okR.bd; omega)
        omega
      obtain ⟨c, hc⟩ : ∃ c : Int, 2 * (k : Int) - 1 = c := ⟨_, rfl⟩
      have hc1 : 1 ≤ c ∧ c ≤ 47 := by omega
      obtain ⟨p1, hp1⟩ : ∃ p1 : Int, (A : Int) * c = p1 := ⟨_, rfl⟩
      obtain ⟨p2, hp2⟩ : ∃ p2 : Int, p1 * c = p2 := ⟨_, rfl⟩
      have hp1b : 0 ≤ p1 ∧ p1 ≤ 576 * 47 := by
        rw [← hp1]
        refine ⟨Int.mul_nonneg (by omega) (by omega), ?_⟩
        have x1 := Int.mul_le_mul_of_nonneg_right (show (A : Int) ≤ 576 by omega) (show 0 ≤ c by omega)
        omega
      have hp2b : 0 ≤ p2 ∧ p2 ≤ 576 * 47 * 47 := by
        rw [← hp2]
        refine ⟨Int.mul_nonneg (by omega) (by omega), ?_⟩
        have x1 := Int.mul_le_mul_of_nonneg_right (show p1 ≤ 576 * 47 by omega) (show 0 ≤ c by omega)
        omega
      rw [hc] at hmany
      have hle : (B : Int) ≤ p2 := by
        rw [← hp2, ← hp1, Int.mul_comm (A : Int) c, Int.mul_comm (c * (A : Int)) c]; exact hmany
      have d1 : decide ((B : Int) ≤ p2) = true := decide_eq_true hle
      have d2 : decide ((A : Int) ≤ (B : Int)) = true := decide_eq_true (by omega)
      have d3 : decide (A ≤ B) = true := decide_eq_true hfew
      obtain ⟨hc1', hc2'⟩ := hc1
      obtain ⟨hp1b1, hp1b2⟩ := hp1b
      obtain ⟨hp2b1, hp2b2⟩ := hp2b
      clear hA hB hmany
      go_wp2_with fail
      refine HRB.out.mono ?_
      rintro e w' ⟨rfl, rfl⟩
      go_wp2_with fail
      refine HRA.out.mono ?_
      rintro e w' ⟨rfl, rfl⟩
      go_wp2_with fail
      refine HRA.out.mono ?_
      rintro e w' ⟨rfl, rfl⟩
      go_wp2_with fail
      refine HRB.out.mono ?_
      rintro e w' ⟨rfl, rfl⟩
      go_wp2
      go_ret
      exact ⟨rfl, HB4.out⟩
  · have d : decide (len ≤ 1048576) = false := decide_eq_false hbig
    have hl : (1048576 : Int) < len := by omega
    clear h
    go_enter Try.func8, Try.ntmps8
    go_wp2
    go_ret
    exact ⟨rfl, Below.refl _ _⟩
end Go.Proofs.Ythpbpdnlnmldeaa
