
/- P201: parts can be compared apart. -/
import Derived.Test.YtekchmbbafjmmaaPdk
import Derived.Deep.RegionHeld3
namespace Go.Proofs.Ytekchmbbafjmmaa
open Go.RowKit

theorem costA_okN {A B : List Int} (h : OkP A ∧ OkP B) {D : Nat} (hD : dist A B = D) : costA A B = (D : Int) := by rw [costA, if_pos h, hD]
theorem OkP.take {zs : List Int} (h : OkP zs) (i : Nat) : OkP (zs.take i) :=
  ⟨by have := h.1; rw [List.length_take]; omega, by have := h.2.1; rw [List.length_take]; omega, fun z hz => h.2.2 z (List.mem_of_mem_take hz)⟩
theorem OkP.drop {zs : List Int} (h : OkP zs) (i : Nat) : OkP (zs.drop i) :=
  ⟨by have := h.1; rw [List.length_drop]; omega, by have := h.2.1; rw [List.length_drop]; omega, fun z hz => h.2.2 z (List.mem_of_mem_drop hz)⟩
set_option maxHeartbeats 4000000 in
theorem proofCostParts_walk (a : Option Addr) (len cap : Nat) (zs : List Int) (w : World) (h : RowIn .u8 w a len cap zs) :
    Calls Try.prog 9 #[.slice a len cap] w fun e w' => e = .returned (.bool true) ∧ Below w.heap.size w w' := by
  have hlen : len ≤ 9223372036854775807 := by
    obtain ⟨_, h2, h3⟩ := bytesAt_of_row h; unfold maxLen at h3; omega
  by_cases hbig : len ≤ 1048576
  · go_enter Try.func9, Try.ntmps9
    go_wp2_with fail
    refine (drawProofCost_any w a len cap zs h).mono ?_
    rintro e w1 ⟨a1, n, ca, b1, m, cb, A, B, rfl, hA, hB, hAl, hBl, hFA, hFB, HB⟩
    clear h
    have hn : A.length = n := by obtain ⟨_, _, e, _⟩ := hA; injection e with _ e2 _; exact e2.symm
    have hm : B.length = m := by obtain ⟨_, _, e, _⟩ := hB; injection e with _ e2 _; exact e2.symm
    obtain ⟨c, hc⟩ : ∃ c, costA A B = c := ⟨_, rfl⟩
    have HC := Lib.hid hc
    have HN := Lib.hid hn
    have HM := Lib.hid hm
    rw [hn] at hAl
    rw [hm] at hBl
    clear hn hm
    go_wp2_with fail
    refine (i_ProofCost _ _ _ A B c hA hB HC).mono ?_
    rintro e w2 ⟨rfl, hbn⟩
    replace hA := hA.below hbn
    replace hB := hB.below hbn
    replace HB := below_next HB hbn
    clear hbn
    go_wp2_with fail
    refine (s_ProofCost _ _ _ A B c hA hB HC).mono ?_
    rintro e w3 ⟨rfl, hbn⟩
    replace hA := hA.below hbn
    replace hB := hB.below hbn
    replace HB := below_next HB hbn
    clear hbn
    by_cases hok : OkP A ∧ OkP B
    · obtain ⟨D, hD⟩ : ∃ D, dist A B = D := ⟨_, rfl⟩
      have hcD : c = (D : Int) := by rw [← hc, costA, if_pos hok, hD]
      have hDb := dist_bd A B
      rw [hD, HN.out, HM.out] at hDb
      subst hcD
      have HOK := Lib.hid hok
      have HD := Lib.hid hD
      clear hc hok hD
      obtain ⟨i, hi⟩ : ∃ i, n / 2 = i := ⟨_, rfl⟩
      obtain ⟨k, hk⟩ : ∃ k, m / 2 = k := ⟨_, rfl⟩
      obtain ⟨D1, hD1⟩ : ∃ D, dist (A.take i) (B.take k) = D := ⟨_, rfl⟩
      obtain ⟨D2, hD2⟩ : ∃ D, dist (A.drop i) (B.drop k) = D := ⟨_, rfl⟩
      have hin : i ≤ n := by omega
      have hkm : k ≤ m := by omega
      have hnc : n ≤ ca := by obtain ⟨_, _, e, h, _⟩ := hA; injection e with _ e2 e3; omega
      have hmc : m ≤ cb := by obtain ⟨_, _, e, h, _⟩ := hB; injection e with _ e2 e3; omega
      have hDD := dist_app (A.take i) (B.take k) (A.drop i) (B.drop k)
      rw [List.take_append_drop, List.take_append_drop, HD.out, hD1, hD2] at hDD
      have hb1 := dist_bd (A.take i) (B.take k)
      have hb2 := dist_bd (A.drop i) (B.drop k)
      rw [hD1, List.length_take, List.length_take, HN.out, HM.out] at hb1
      rw [hD2, List.length_drop, List.length_drop, HN.out, HM.out] at hb2
      have HC1 : Hid (costA (A.take i) (B.take k) = (D1 : Int)) := costA_okN ⟨HOK.out.1.take i, HOK.out.2.take k⟩ hD1
      have HC2 : Hid (costA (A.drop i) (B.drop k) = (D2 : Int)) := costA_okN ⟨HOK.out.1.drop i, HOK.out.2.drop k⟩ hD2
      have u1 : IntKind.i64.wrap ((D1 : Int) + (D2 : Int)) = (D1 : Int) + (D2 : Int) := IntWalk.i64_in _ (by omega)
      have dd : decide ((D : Int) ≤ (D1 : Int) + (D2 : Int)) = true := decide_eq_true (by omega)
      have dq : decide (D ≤ D1 + D2) = true := decide_eq_true (by omega)
      have t1 : (n : Int) / 2 = (i : Int) := by omega
      have t2 : (m : Int) / 2 = (k : Int) := by omega
      have HI := Lib.hid hi
      have HK := Lib.hid hk
      clear hDD hb1 hb2 hD1 hD2 hDb hi hk
      have hT1 := hA.takeC i hin
      have hT2 := hB.takeC k hkm
      by_cases hz1 : ca = i
      · obtain rfl : n = 0 := by have := HI.out; omega
        obtain rfl : i = 0 := by omega
        subst hz1
        have hX1 : IntsAt w3 (.slice a1 0 0) (A.drop 0) := hA
        by_cases hz2 : cb = k
        · obtain rfl : m = 0 := by have := HK.out; omega
          obtain rfl : k = 0 := by omega
          subst hz2
          have hX2 : IntsAt w3 (.slice b1 0 0) (B.drop 0) := hB
          have HP1 : Hid (Calls Try.prog 24 #[.slice a1 0 0, .slice b1 0 0] w3.drew fun e w' => KInt (D1 : Int) w3.drew e w') := i_ProofCost w3.drew _ _ _ _ _ (hT1.below (Below.refl _ _).drew) (hT2.below (Below.refl _ _).drew) HC1
          have HP2 : Hid (∀ wy, Below w3.heap.size w3 wy → Calls Try.prog 24 #[.slice a1 0 0, .slice b1 0 0] wy fun e w' => KInt (D2 : Int) wy e w') := fun wy hb => i_ProofCost wy _ _ _ _ _ (hX1.below hb) (hX2.below hb) HC2
          clear hA hB hT1 hT2 hX1 hX2 HC1 HC2
          go_wp2_with fail
          go_region_held3 (fun wy => True) (exact trivial) (first | (go_at_call 24; (with_reducible refine HP1.out.mono ?_); rintro e w4 ⟨rfl, hb4⟩; have HB4 : Hid (Below w3.heap.size w3 w4) := (Below.refl _ _).drew.trans hb4; clear hb4) | (go_at_call 24; (with_reducible refine (HP2.out _ HB4.out).mono ?_); rintro e w5 ⟨rfl, hb5⟩; have HB5 : Hid (Below w3.heap.size w3 w5) := below_next HB4.out hb5; clear hb5))
          all_goals
            go_wp2
            go_ret
            exact ⟨rfl, below_next HB HB5.out⟩
        · obtain ⟨g2, o2, rfl⟩ : ∃ g off, b1 = some ⟨g, off, none⟩ := by
            rcases hFB with h | h
            · exact h
            · exact absurd h.2 (by omega)
          have hX2 := hB.dropC k hkm
          have c3 : (k : Int) ≤ (m : Int) := by omega
          have c4 : (k : Int) ≤ (cb : Int) := by omega
          have HP1 : Hid (Calls Try.prog 24 #[.slice a1 0 0, .slice (some ⟨g2, o2, none⟩) k cb] w3.drew fun e w' => KInt (D1 : Int) w3.drew e w') := i_ProofCost w3.drew _ _ _ _ _ (hT1.below (Below.refl _ _).drew) (hT2.below (Below.refl _ _).drew) HC1
          have HP2 : Hid (∀ wy, Below w3.heap.size w3 wy → Calls Try.prog 24 #[.slice a1 0 0, .slice (some ⟨g2, o2 + k, none⟩) (m - k) (cb - k)] wy fun e w' => KInt (D2 : Int) wy e w') := fun wy hb => i_ProofCost wy _ _ _ _ _ (hX1.below hb) (hX2.below hb) HC2
          clear hA hB hT1 hT2 hX1 hX2 HC1 HC2
          go_wp2_with fail
          go_region_held3 (fun wy => True) (exact trivial) (first | (go_at_call 24; (with_reducible refine HP1.out.mono ?_); rintro e w4 ⟨rfl, hb4⟩; have HB4 : Hid (Below w3.heap.size w3 w4) := (Below.refl _ _).drew.trans hb4; clear hb4) | (go_at_call 24; (with_reducible refine (HP2.out _ HB4.out).mono ?_); rintro e w5 ⟨rfl, hb5⟩; have HB5 : Hid (Below w3.heap.size w3 w5) := below_next HB4.out hb5; clear hb5))
          all_goals
            go_wp2
            go_ret
            exact ⟨rfl, below_next HB HB5.out⟩
      · obtain ⟨g1, o1, rfl⟩ : ∃ g off, a1 = some ⟨g, off, none⟩ := by
          rcases hFA with h | h
          · exact h
          · exact absurd h.2 (by omega)
        have hX1 := hA.dropC i hin
        have c1 : (i : Int) ≤ (n : Int) := by omega
        have c2 : (i : Int) ≤ (ca : Int) := by omega
        by_cases hz2 : cb = k
        · obtain rfl : m = 0 := by have := HK.out; omega
          obtain rfl : k = 0 := by omega
          subst hz2
          have hX2 : IntsAt w3 (.slice b1 0 0) (B.drop 0) := hB
          have HP1 : Hid (Calls Try.prog 24 #[.slice (some ⟨g1, o1, none⟩) i ca, .slice b1 0 0] w3.drew fun e w' => KInt (D1 : Int) w3.drew e w') := i_ProofCost w3.drew _ _ _ _ _ (hT1.below (Below.refl _ _).drew) (hT2.below (Below.refl _ _).drew) HC1
          have HP2 : Hid (∀ wy, Below w3.heap.size w3 wy → Calls Try.prog 24 #[.slice (some ⟨g1, o1 + i, none⟩) (n - i) (ca - i), .slice b1 0 0] wy fun e w' => KInt (D2 : Int) wy e w') := fun wy hb => i_ProofCost wy _ _ _ _ _ (hX1.below hb) (hX2.below hb) HC2
          clear hA hB hT1 hT2 hX1 hX2 HC1 HC2
          go_wp2_with fail
          go_region_held3 (fun wy => True) (exact trivial) (first | (go_at_call 24; (with_reducible refine HP1.out.mono ?_); rintro e w4 ⟨rfl, hb4⟩; have HB4 : Hid (Below w3.heap.size w3 w4) := (Below.refl _ _).drew.trans hb4; clear hb4) | (go_at_call 24; (with_reducible refine (HP2.out _ HB4.out).mono ?_); rintro e w5 ⟨rfl, hb5⟩; have HB5 : Hid (Below w3.heap.size w3 w5) := below_next HB4.out hb5; clear hb5))
          all_goals
            go_wp2
            go_ret
            exact ⟨rfl, below_next HB HB5.out⟩
        · obtain ⟨g2, o2, rfl⟩ : ∃ g off, b1 = some ⟨g, off, none⟩ := by
            rcases hFB with h | h
            · exact h
            · exact absurd h.2 (by omega)
          have hX2 := hB.dropC k hkm
          have c3 : (k : Int) ≤ (m : Int) := by omega
          have c4 : (k : Int) ≤ (cb : Int) := by omega
          have HP1 : Hid (Calls Try.prog 24 #[.slice (some ⟨g1, o1, none⟩) i ca, .slice (some ⟨g2, o2, none⟩) k cb] w3.drew fun e w' => KInt (D1 : Int) w3.drew e w') := i_ProofCost w3.drew _ _ _ _ _ (hT1.below (Below.refl _ _).drew) (hT2.below (Below.refl _ _).drew) HC1
          have HP2 : Hid (∀ wy, Below w3.heap.size w3 wy → Calls Try.prog 24 #[.slice (some ⟨g1, o1 + i, none⟩) (n - i) (ca - i), .slice (some ⟨g2, o2 + k, none⟩) (m - k) (cb - k)] wy fun e w' => KInt (D2 : Int) wy e w') := fun wy hb => i_ProofCost wy _ _ _ _ _ (hX1.below hb) (hX2.below hb) HC2
          clear hA hB hT1 hT2 hX1 hX2 HC1 HC2
          go_wp2_with fail
          go_region_held3 (fun wy => True) (exact trivial) (first | (go_at_call 24; (with_reducible refine HP1.out.mono ?_); rintro e w4 ⟨rfl, hb4⟩; have HB4 : Hid (Below w3.heap.size w3 w4) := (Below.refl _ _).drew.trans hb4; clear hb4) | (go_at_call 24; (with_reducible refine (HP2.out _ HB4.out).mono ?_); rintro e w5 ⟨rfl, hb5⟩; have HB5 : Hid (Below w3.heap.size w3 w5) := below_next HB4.out hb5; clear hb5))
          all_goals
            go_wp2
            go_ret
            exact ⟨rfl, below_next HB HB5.out⟩
    · have hc1 : c = -1 := by rw [← hc, costA, if_neg hok]
      subst hc1
      clear hc hok
      go_wp2_with fail
      refine (s_ProofCost _ _ _ A B _ hA hB HC).mono ?_
      rintro e w4 ⟨rfl, hbn⟩
      go_wp2
      go_ret
      exact ⟨rfl, below_next HB hbn⟩
  · have d : decide (len ≤ 1048576) = false := decide_eq_false hbig
    have hl : (1048576 : Int) < len := by omega
    clear h
    go_enter Try.func9, Try.ntmps9
    go_wp2
    go_ret
    exact ⟨rfl, Below.refl _ _⟩
end Go.Proofs.Ytekchmbbafjmmaa
