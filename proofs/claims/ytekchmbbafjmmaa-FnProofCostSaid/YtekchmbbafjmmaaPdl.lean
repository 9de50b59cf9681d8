
/- P162, P201: costs have no direction; parts can be compared apart. -/
import Derived.Test.YtekchmbbafjmmaaPdk
import Derived.Test.YtekchmbbafjmmaaEqInts
namespace Go.Proofs.Ytekchmbbafjmmaa
open Go.RowKit

theorem costA_ok {A B : List Int} (h : OkP A ∧ OkP B) {D : Nat} (hD : dist A B = D) : costA A B = (D : Int) := by rw [costA, if_pos h, hD]
theorem equalInts_d (w : World) (u v : Value) (xs ys : List Int) (b : Bool) (hx : IntsAt w u xs) (hy : IntsAt w v ys) (hb : Hid (decide (xs = ys) = b)) :
    Calls Try.prog 26 #[u, v] w fun e w' => e = .returned (.bool b) ∧ Below w.heap.size w w' := by
  have := equalInts_any w u v xs ys hx hy
  rw [hb.out] at this
  exact this
set_option maxHeartbeats 4000000 in
theorem proofCost_walk (a : Option Addr) (len cap : Nat) (zs : List Int) (w : World) (h : RowIn .u8 w a len cap zs) :
    Calls Try.prog 6 #[.slice a len cap] w fun e w' => e = .returned (.bool true) ∧ Below w.heap.size w w' := by
  have hlen : len ≤ 9223372036854775807 := by
    obtain ⟨_, h2, h3⟩ := bytesAt_of_row h; unfold maxLen at h3; omega
  by_cases hbig : len ≤ 1048576
  · go_enter Try.func6, Try.ntmps6
    go_wp2_with fail
    refine (drawProofCost_any w a len cap zs h).mono ?_
    rintro e w1 ⟨a1, n, ca, b1, m, cb, A, B, rfl, hA, hB, hAl, hBl, HB⟩
    clear h
    have hn : A.length = n := by obtain ⟨_, _, e, _⟩ := hA; injection e with _ e2 _; exact e2.symm
    have hm : B.length = m := by obtain ⟨_, _, e, _⟩ := hB; injection e with _ e2 _; exact e2.symm
    obtain ⟨c, hc⟩ : ∃ c, costA A B = c := ⟨_, rfl⟩
    have HC := Lib.hid hc
    have HN := Lib.hid hn
    have HM := Lib.hid hm
    rw [hn] at hAl
    rw [hm] at hBl
    clear hn hm
    go_wp2_with fail
    refine (i_ProofCost _ _ _ A B c hA hB HC).mono ?_
    rintro e w2 ⟨rfl, hbn⟩
    replace hA := hA.below hbn
    replace hB := hB.below hbn
    replace HB := below_next HB hbn
    clear hbn
    go_wp2_with fail
    refine (s_ProofCost _ _ _ A B c hA hB HC).mono ?_
    rintro e w3 ⟨rfl, hbn⟩
    replace hA := hA.below hbn
    replace hB := hB.below hbn
    replace HB := below_next HB hbn
    clear hbn
    by_cases hok : OkP A ∧ OkP B
    · obtain ⟨D, hD⟩ : ∃ D, dist A B = D := ⟨_, rfl⟩
      have hcD : c = (D : Int) := by rw [← hc, costA, if_pos hok, hD]
      have hDb := dist_bd A B
      rw [hD, HN.out, HM.out] at hDb
      subst hcD
      have HOK := Lib.hid hok
      have HD := Lib.hid hD
      clear hc hok hD
      have HC2 : Hid (costA B A = (D : Int)) := costA_ok ⟨HOK.out.2, HOK.out.1⟩ (by rw [dist_comm]; exact HD.out)
      have hw := way_len (way_dist A B)
      rw [HD.out, HN.out, HM.out] at hw
      have HQ : Hid (decide (A = B) = decide (D = 0)) := by
        show _ = _
        by_cases h0 : D = 0
        · rw [decide_eq_true h0]
          refine decide_eq_true (way_zero (way_dist A B) (by rw [HD.out]; exact h0) HOK.out.1.cl HOK.out.2.cl)
        · rw [decide_eq_false h0]
          refine decide_eq_false fun e => h0 ?_
          rw [← HD.out, e, dist_self]
      obtain ⟨X, hX⟩ : ∃ X : Nat, max ((n : Int) - m) ((m : Int) - n) = X := ⟨(max ((n : Int) - m) ((m : Int) - n)).toNat, by omega⟩
      have u1 : IntKind.i64.wrap ((n : Int) - (m : Int)) = (n : Int) - (m : Int) := IntWalk.i64_in _ (by omega)
      have u2 : IntKind.i64.wrap ((m : Int) - (n : Int)) = (m : Int) - (n : Int) := IntWalk.i64_in _ (by omega)
      have m1 : (if (n : Int) - (m : Int) < (m : Int) - (n : Int) then (m : Int) - (n : Int) else (n : Int) - (m : Int)) = (X : Int) := by rw [← hX]; split <;> omega
      have hX4 : 4 * (X : Int) ≤ (D : Int) := by omega
      have u3 : IntKind.i64.wrap (4 * (X : Int)) = 4 * (X : Int) := IntWalk.i64_in _ (by omega)
      have d5 : decide (4 * (X : Int) ≤ (D : Int)) = true := decide_eq_true hX4
      clear hX hw
      go_wp2_with fail
      refine (i_ProofCost _ _ _ B A _ hB hA HC2).mono ?_
      rintro e w4 ⟨rfl, hbn⟩
      replace hA := hA.below hbn
      replace hB := hB.below hbn
      replace HB := below_next HB hbn
      clear hbn
      go_wp2_with fail
      refine (equalInts_d _ _ _ A B _ hA hB HQ).mono ?_
      rintro e w5 ⟨rfl, hbn⟩
      replace HB := below_next HB hbn
      clear hbn hA hB
      by_cases h0 : D = 0
      · subst h0
        obtain rfl : X = 0 := by omega
        go_wp2
        go_ret
        exact ⟨rfl, HB⟩
      · have e0 : ((D : Int) == 0) = false := by simp; omega
        have e1 : decide (D = 0) = false := decide_eq_false h0
        go_wp2
        go_ret
        exact ⟨rfl, HB⟩
    · have hc1 : c = -1 := by rw [← hc, costA, if_neg hok]
      subst hc1
      clear hc hok
      go_wp2_with fail
      refine (s_ProofCost _ _ _ A B _ hA hB HC).mono ?_
      rintro e w4 ⟨rfl, hbn⟩
      go_wp2
      go_ret
      exact ⟨rfl, below_next HB hbn⟩
  · have d : decide (len ≤ 1048576) = false := decide_eq_false hbig
    have hl : (1048576 : Int) < len := by omega
    clear h
    go_enter Try.func6, Try.ntmps6
    go_wp2
    go_ret
    exact ⟨rfl, Below.refl _ _⟩
end Go.Proofs.Ytekchmbbafjmmaa
