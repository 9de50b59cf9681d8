
/- P139: thin pictures have as many regions as dots. -/
import Derived.Test.YthpbpdnlnmldeaaJn
import Derived.Test.YthpbpdnlnmldeaaJc
import Derived.Test.YthpbpdnlnmldeaaKk7
import Derived.Deep.RegionHeld3
import Derived.IntWalk
namespace Go.Proofs.Ythpbpdnlnmldeaa
open Go.RowKit

theorem lone_apart {f : Nat → Nat → Int} {n m F : Nat} (h : ApartF f n m F) (hF : 2 ≤ F) : LoneAll f n m := by
  intro y x hy hx h1 i j hi hj a b c d e
  unfold upd at e
  by_cases h2 : i = y ∧ j = x
  · rw [if_pos h2] at e; exact absurd e (by omega)
  · rw [if_neg h2] at e
    exact h y x hy hx h1 ⟨i, j, hi, hj, ⟨by omega, by omega⟩, ⟨by omega, by omega⟩, e, by omega⟩
set_option maxHeartbeats 4000000 in
theorem thinRegions_walk (a : Option Addr) (len cap : Nat) (zs : List Int) (w : World) (h : RowIn .u8 w a len cap zs) :
    Calls Try.prog 7 #[.slice a len cap] w fun e w' => e = .returned (.bool true) ∧ Below w.heap.size w w' := by
  have hlen : len ≤ 9223372036854775807 := by
    obtain ⟨_, h2, h3⟩ := bytesAt_of_row h; unfold maxLen at h3; omega
  by_cases hbig : len ≤ 1048576
  · go_enter Try.func7, Try.ntmps7
    go_wp2_with fail
    refine (drawThin_any w a len cap zs h).mono ?_
    rintro e w1 ⟨a1, n1, c1, P, k, hk25, rfl, hP1, hbd, hB1⟩
    clear h
    have HP1 := keptI hP1
    have HBD := keptI hbd
    have HB1 := keptI hB1
    obtain ⟨R, hR, hRS⟩ := Thin_ex P (k : Int)
    have HR := keptI hR
    clear hP1 hbd hB1 hR hRS
    go_wp2_with fail
    refine (i_Thin w1 _ P (k : Int) R HP1.out HR.out).mono ?_
    rintro e w2 ⟨a2, n2, c2, rfl, hO2, hb2⟩
    have HO2 := keptI hO2
    have HP2 := keptI (HP1.out.below hb2)
    have HB2 := keptI (below_next HB1.out hb2)
    clear hO2 hb2 HP1 HB1
    go_wp2_with fail
    refine (s_Thin w2 _ P (k : Int) R HP2.out HR.out).mono ?_
    rintro e w3 ⟨a3, n3, c3, rfl, hO3, hb3⟩
    have HS3 := keptI hO3
    have HO3 := keptI (HO2.out.below hb3 (Nat.le_refl _))
    have HP3 := keptI (HP2.out.below hb3)
    have HB3 := keptI (below_next HB2.out hb3)
    have hs3 := hb3.size
    clear hO3 hb3 HP2 HB2 HO2
    go_wp2_with fail
    refine (equalLists_sameI w3 _ _ R HO3.out.ls.at HS3.out).mono ?_
    rintro e w4 ⟨rfl, hb4⟩
    have HO4 := keptI (HO3.out.below hb4 hs3)
    have HP4 := keptI (HP3.out.below hb4)
    have HB4 := keptI (below_next HB3.out hb4)
    have hn2 : R.length = n2 := by
      obtain ⟨_, _, e, _⟩ := HO4.out.ls.at
      injection e with _ e2 _
      exact e2.symm
    have hn1 : P.length = n1 := by
      obtain ⟨_, _, e, _⟩ := HP4.out
      injection e with _ e2 _
      exact e2.symm
    have HN2 := Lib.hid hn2
    have HN1 := Lib.hid hn1
    clear hb4 HP3 HB3 HO3 HS3 hn2 hn1 hs3
    by_cases h0 : n2 = 0
    · subst h0
      go_wp2_with fail
      refine (s_Thin w4 _ P (k : Int) R HP4.out HR.out).mono ?_
      rintro e w5 ⟨a5, n5, c5, rfl, hO5, hb5⟩
      have HB5 := keptI (below_next HB4.out hb5)
      have HO5 := keptI (HO4.out.ls.at.below hb5)
      have HS5 := keptI hO5
      clear hO5 hb5
      go_wp2_with fail
      refine (equalLists_sameI w5 _ _ R HO5.out HS5.out).mono ?_
      rintro e w6 ⟨rfl, hb6⟩
      have HB6 := keptI (below_next HB5.out hb6)
      clear hb6
      go_wp2
      go_ret
      exact ⟨rfl, HB6.out⟩
    · have d0 : ((n2 : Int) == 0) = false := by simp; omega
      have HNE : Hid (R.length ≠ 0) := by show R.length ≠ 0; rw [HN2.out]; exact h0
      have HF := keptI (thin_facts HR.out HNE.out)
      by_cases hk2 : k < 2
      · have z1 : decide ((k : Int) < 2) = true := decide_eq_true (by omega)
        have z1' : decide (k < 2) = true := decide_eq_true hk2
        go_wp2_with fail
        refine (s_Thin w4 _ P (k : Int) R HP4.out HR.out).mono ?_
        rintro e w5 ⟨a5, n5, c5, rfl, hO5, hb5⟩
        have HB5 := keptI (below_next HB4.out hb5)
        have HO5 := keptI (HO4.out.ls.at.below hb5)
        have HS5 := keptI hO5
        clear hO5 hb5
        go_wp2_with fail
        refine (equalLists_sameI w5 _ _ R HO5.out HS5.out).mono ?_
        rintro e w6 ⟨rfl, hb6⟩
        have HB6 := keptI (below_next HB5.out hb6)
        clear hb6
        go_wp2
        go_ret
        exact ⟨rfl, HB6.out⟩

      · have z1 : decide ((k : Int) < 2) = false := decide_eq_false (by omega)
        have z1' : decide (k < 2) = false := decide_eq_false hk2
        obtain ⟨A, hA⟩ : ∃ A, rai R = A := ⟨_, rfl⟩
        have HLO : Hid (LoneAll (px R) R.length (wdt R)) := by
          have h := HF.out.apart.2
          rw [Int.toNat_natCast] at h
          exact lone_apart h (by omega)
        have HRA : Hid (∀ wy, Below w4.heap.size w4 wy → Calls Try.prog 25 #[.slice a2 n2 c2] wy fun e w' => e = .returned (.int .i64 (A : Int)) ∧ wy = w') := fun wy hb => s_raised wy _ R A (HO4.out.ls.at.below hb) (by have := HF.out.okR.bd; omega) (fun i => HF.out.okR.lens (by omega) i) hA
        have HRE : Hid (∀ wy, Below w4.heap.size w4 wy → Calls Try.prog 24 #[.slice a2 n2 c2] wy fun e w' => e = .returned (.int .i64 (A : Int)) ∧ Below wy.heap.size wy w') := fun wy hb => by
          rw [← hA]; exact i_Regions_apart wy _ R (HO4.out.ls.at.below hb) HF.out.okR HLO.out
        clear hA
        go_wp2_with fail
        refine (HRE.out _ (Below.refl _ _)).mono ?_
        rintro e w5 ⟨rfl, hb5⟩
        have HB5 := keptI hb5
        clear hb5
        go_wp2_with fail
        refine (HRA.out _ HB5.out).mono ?_
        rintro e w6 ⟨rfl, rfl⟩
        go_wp2
        go_ret
        exact ⟨rfl, below_next HB4.out HB5.out⟩
  · have d : decide (len ≤ 1048576) = false := decide_eq_false hbig
    have hl : (1048576 : Int) < len := by omega
    clear h
    go_enter Try.func7, Try.ntmps7
    go_wp2
    go_ret
    exact ⟨rfl, Below.refl _ _⟩
end Go.Proofs.Ythpbpdnlnmldeaa
