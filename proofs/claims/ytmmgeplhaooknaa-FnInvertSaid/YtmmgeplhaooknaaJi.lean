
/- P134: inverting twice changes nothing. -/
import Derived.Test.YtmmgeplhaooknaaJh
import Derived.Test.YtmmgeplhaooknaaIf
import Derived.Deep.RegionHeld3
import Derived.IntWalk
namespace Go.Proofs.Ytmmgeplhaooknaa
open Go.RowKit

set_option maxHeartbeats 4000000 in
theorem invert_walk (a : Option Addr) (len cap : Nat) (zs : List Int) (w : World) (h : RowIn .u8 w a len cap zs) :
    Calls Try.prog 11 #[.slice a len cap] w fun e w' => e = .returned (.bool true) ∧ Below w.heap.size w w' := by
  have hlen : len ≤ 9223372036854775807 := by
    obtain ⟨_, h2, h3⟩ := bytesAt_of_row h; unfold maxLen at h3; omega
  by_cases hbig : len ≤ 1048576
  · go_enter Try.func11, Try.ntmps11
    go_wp2_with fail
    refine (drawInvert_any w a len cap zs h).mono ?_
    rintro e w1 ⟨a1, n1, c1, P, rfl, hP1, hbd, hB1⟩
    clear h
    have HP1 := keptI hP1
    have HBD := keptI hbd
    have HB1 := keptI hB1
    obtain ⟨R, hR, hRS⟩ := Invert_ex P
    have HR := keptI hR
    clear hP1 hbd hB1 hR hRS
    go_wp2_with fail
    refine (i_Invert w1 _ P R HP1.out HR.out).mono ?_
    rintro e w2 ⟨a2, n2, c2, rfl, hO2, hb2⟩
    have HO2 := keptI hO2
    have HP2 := keptI (HP1.out.below hb2)
    have HB2 := keptI (below_next HB1.out hb2)
    clear hO2 hb2 HP1 HB1
    go_wp2_with fail
    refine (s_Invert w2 _ P R HP2.out HR.out).mono ?_
    rintro e w3 ⟨a3, n3, c3, rfl, hO3, hb3⟩
    have HS3 := keptI hO3
    have HO3 := keptI (HO2.out.below hb3 (Nat.le_refl _))
    have HP3 := keptI (HP2.out.below hb3)
    have HB3 := keptI (below_next HB2.out hb3)
    have hs3 := hb3.size
    clear hO3 hb3 HP2 HB2 HO2
    go_wp2_with fail
    refine (equalLists_sameI w3 _ _ R HO3.out.ls.at HS3.out).mono ?_
    rintro e w4 ⟨rfl, hb4⟩
    have HO4 := keptI (HO3.out.below hb4 hs3)
    have HP4 := keptI (HP3.out.below hb4)
    have HB4 := keptI (below_next HB3.out hb4)
    have hn2 : R.length = n2 := by
      obtain ⟨_, _, e, _⟩ := HO4.out.ls.at
      injection e with _ e2 _
      exact e2.symm
    have hn1 : P.length = n1 := by
      obtain ⟨_, _, e, _⟩ := HP4.out
      injection e with _ e2 _
      exact e2.symm
    have HN2 := Lib.hid hn2
    have HN1 := Lib.hid hn1
    clear hb4 HP3 HB3 HO3 HS3 hn2 hn1 hs3
    by_cases h0 : n2 = 0
    · subst h0
      go_wp2_with fail
      refine (s_Invert w4 _ P R HP4.out HR.out).mono ?_
      rintro e w5 ⟨a5, n5, c5, rfl, hO5, hb5⟩
      have HB5 := keptI (below_next HB4.out hb5)
      have HO5 := keptI (HO4.out.ls.at.below hb5)
      have HS5 := keptI hO5
      clear hO5 hb5
      go_wp2_with fail
      refine (equalLists_sameI w5 _ _ R HO5.out HS5.out).mono ?_
      rintro e w6 ⟨rfl, hb6⟩
      have HB6 := keptI (below_next HB5.out hb6)
      clear hb6
      go_wp2
      go_ret
      exact ⟨rfl, HB6.out⟩
    · have d0 : ((n2 : Int) == 0) = false := by simp; omega
      have HNE : Hid (R.length ≠ 0) := by show R.length ≠ 0; rw [HN2.out]; exact h0
      have HINV := keptI (invert_back HR.out HNE.out)
      have hpic := (HINV.out.1).pic HP4.out
      obtain ⟨m, hm⟩ : ∃ m, wdt P = m := ⟨_, rfl⟩
      rw [hm] at hpic
      have hd := (HINV.out.1).bd
      rw [hm, HN1.out] at hd
      obtain ⟨hd1, hd2, hd3, hd4⟩ := hd
      have HM := Lib.hid hm
      have HPIC := keptI hpic.2
      obtain ⟨g, off, b0, o0, d0, rfl, c00, _, _, _⟩ := hpic.2.row (y := 0) hd1
      rw [Nat.add_zero] at c00
      have HC : Hid (∀ wy, Below w4.heap.size w4 wy → wy.cell? ⟨g, off, none⟩ = some (.slice (some ⟨b0, o0, none⟩) m d0)) := fun wy hb => (hb.cell (World.block_lt_of_cell? w4 _ c00)).trans c00
      have q0 : (0 : Int) < (n1 : Int) := by omega
      have q00 : 0 < n1 := by omega
      clear hpic hm
      have hl := HINV.out.2.2.1
      have hw := HINV.out.2.2.2.1
      have hr := HINV.out.2.2.2.2.2
      rw [HN2.out, HN1.out] at hl
      obtain ⟨A, hA⟩ : ∃ A, rai R = A := ⟨_, rfl⟩
      obtain ⟨B, hB⟩ : ∃ B, rai P = B := ⟨_, rfl⟩
      obtain ⟨N, hN⟩ : ∃ N, n1 * m = N := ⟨_, rfl⟩
      rw [hA, hB, HN1.out, HM.out, hN] at hr
      have hN2 : N ≤ 576 := by rw [← hN]; exact Nat.le_trans (Nat.mul_le_mul hd2 hd4) (by omega)
      have HRA : Hid (∀ wy, Below w4.heap.size w4 wy → Calls Try.prog 27 #[.slice a2 n2 c2] wy fun e w' => e = .returned (.int .i64 (A : Int)) ∧ wy = w') := fun wy hb => s_raised wy _ R A (HO4.out.ls.at.below hb) (by have := HINV.out.2.1.bd; omega) (fun i => HINV.out.2.1.lens (by omega) i) hA
      have HRB : Hid (∀ wy, Below w4.heap.size w4 wy → Calls Try.prog 27 #[.slice (some ⟨g, off, none⟩) n1 c1] wy fun e w' => e = .returned (.int .i64 (B : Int)) ∧ wy = w') := fun wy hb => s_raised wy _ P B (HP4.out.below hb) (by have := HINV.out.1.bd; omega) (fun i => HINV.out.1.lens (by omega) i) hB
      have HX4 : Hid (ListsAt w4.drew (.slice a2 n2 c2) R) := HO4.out.ls.at
      have HII : Hid (InvertIs R P) := HINV.out.2.2.2.2.1
      have e1 : (A : Int) + (B : Int) = (N : Int) := by omega
      have e2 : (n1 : Int) * (m : Int) = (N : Int) := by rw [← hN]; simp
      have u1 : IntKind.i64.wrap (N : Int) = (N : Int) := IntWalk.i64_in _ (by omega)
      clear hl hw hr hA hB hN
      go_wp2_with fail
      go_region_held3 (fun wy => wy.cell? ⟨g, off, none⟩ = some (.slice (some ⟨b0, o0, none⟩) m d0)) (first | assumption | exact HC.out _ (Below.refl _ _).drew | exact HC.out _ HB5x.out | exact HC.out _ HB6x.out) (first | (go_at_call 36; (refine (i_Invert w4.drew _ R P HX4.out HII.out).mono ?_); rintro e w5 ⟨a5, n5, c5, rfl, hO5, hb5⟩; have HB5x : Hid (Below w4.heap.size w4 w5) := (Below.refl _ _).drew.trans hb5; have HO5 := keptI hO5; clear hO5 hb5) | (go_at_call 23; (refine (equalLists_sameI w5 _ _ P HO5.out.ls.at (HP4.out.below HB5x.out)).mono ?_); rintro e w6 ⟨rfl, hb6⟩; have HB6x : Hid (Below w4.heap.size w4 w6) := below_next HB5x.out hb6; clear hb6) | (go_at_call 27; (with_reducible refine (HRA.out _ HB6x.out).mono ?_); rintro e w' ⟨rfl, rfl⟩) | (go_at_call 27; (with_reducible refine (HRB.out _ HB6x.out).mono ?_); rintro e w' ⟨rfl, rfl⟩))
      all_goals
        go_wp2
        go_ret
        exact ⟨rfl, below_next HB4.out HB6x.out⟩
  · have d : decide (len ≤ 1048576) = false := decide_eq_false hbig
    have hl : (1048576 : Int) < len := by omega
    clear h
    go_enter Try.func11, Try.ntmps11
    go_wp2
    go_ret
    exact ⟨rfl, Below.refl _ _⟩
end Go.Proofs.Ytmmgeplhaooknaa
