
/- The exact law of ProofCost. -/
import Derived.Test.YtekchmbbafjmmaaPdi
namespace Go.Proofs.Ytekchmbbafjmmaa
open Go.RowKit

def CopyP (zs : List Int) (n : Nat) (w : World) (e : Ending) (w' : World) : Prop := ∃ g, e = .returned (.slice (some ⟨g, 0, none⟩) n n) ∧ IntsAt w' (.slice (some ⟨g, 0, none⟩) n n) zs ∧ Below w.heap.size w w'
theorem toIntS_p (w : World) (a : Option Addr) (n cap : Nat) (zs : List Int) (hx : IntsAt w (.slice a n cap) zs) (hl : n ≤ 1048576) (hn : Hid (zs.length = n)) :
    Calls Try.prog 36 #[.slice a n cap] w fun e w' => CopyP zs n w e w' :=
  (toIntS_any w _ zs hx (by have := hn.out; omega)).mono fun _ _ ⟨v, h1, h2, h3, g, h4⟩ => by
    rw [hn.out] at h4
    subst h4
    exact ⟨g, h1, h2.at, h3⟩
theorem eqIntS_p (w : World) (u v : Value) (xs : List Int) (hx : IntsAt w u xs) (hy : IntsAt w v xs) :
    Calls Try.prog 37 #[u, v] w fun e w' => e = .returned (.bool true) ∧ Below w.heap.size w w' := by
  have := eqIntS_any w u v xs xs hx hy
  rw [decide_eq_true rfl] at this
  exact this
set_option maxHeartbeats 2000000 in
theorem exProofCost_walk (a : Option Addr) (len cap : Nat) (A : List Int) (b : Option Addr) (len2 cap2 : Nat) (B : List Int) (w : World) (hA : IntsAt w (.slice a len cap) A) (hB : IntsAt w (.slice b len2 cap2) B) (hn : A.length = len) (hm : B.length = len2) :
    Calls Try.prog 15 #[.slice a len cap, .slice b len2 cap2] w fun e w' => e = .returned (.bool true) ∧ Below w.heap.size w w' := by
  have HN := Lib.hid hn
  have HM := Lib.hid hm
  have hl1 : len ≤ 9223372036854775807 := by obtain ⟨_, c, hs, h1, h2, _⟩ := hA; injection hs; omega
  have hl2 : len2 ≤ 9223372036854775807 := by obtain ⟨_, c, hs, h1, h2, _⟩ := hB; injection hs; omega
  obtain ⟨c, hc⟩ : ∃ c, costA A B = c := ⟨_, rfl⟩
  have HC := Lib.hid hc
  have HB : Below w.heap.size w w := Below.refl _ _
  clear hn hm hc
  by_cases h1 : len ≤ 1048576
  · by_cases h2 : len2 ≤ 1048576
    · go_enter Try.func15, Try.ntmps15
      go_wp2_with fail
      refine (toIntS_p _ a len cap A hA h1 HN).mono ?_
      rintro e w1 ⟨g1, rfl, hX1, hbn⟩
      replace hA := hA.below hbn
      replace hB := hB.below hbn
      replace HB := below_next HB hbn
      clear hbn
      go_wp2_with fail
      refine (toIntS_p _ b len2 cap2 B hB h2 HM).mono ?_
      rintro e w2 ⟨g2, rfl, hX2, hbn⟩
      replace hA := hA.below hbn
      replace hB := hB.below hbn
      replace hX1 := hX1.below hbn
      replace HB := below_next HB hbn
      clear hbn
      go_wp2_with fail
      refine (s_ProofCost _ _ _ A B c hX1 hX2 HC).mono ?_
      rintro e w3 ⟨rfl, hbn⟩
      replace hA := hA.below hbn
      replace hB := hB.below hbn
      replace hX1 := hX1.below hbn
      replace hX2 := hX2.below hbn
      replace HB := below_next HB hbn
      clear hbn
      clear hX1 hX2
      go_wp2_with fail
      refine (toIntS_p _ a len cap A hA h1 HN).mono ?_
      rintro e w4 ⟨g3, rfl, hX3, hbn⟩
      replace hA := hA.below hbn
      replace hB := hB.below hbn
      replace HB := below_next HB hbn
      clear hbn
      go_wp2_with fail
      refine (toIntS_p _ b len2 cap2 B hB h2 HM).mono ?_
      rintro e w5 ⟨g4, rfl, hX4, hbn⟩
      replace hA := hA.below hbn
      replace hB := hB.below hbn
      replace hX3 := hX3.below hbn
      replace HB := below_next HB hbn
      clear hbn
      go_wp2_with fail
      refine (i_ProofCost _ _ _ A B c hX3 hX4 HC).mono ?_
      rintro e w6 ⟨rfl, hbn⟩
      replace hA := hA.below hbn
      replace hB := hB.below hbn
      replace hX3 := hX3.below hbn
      replace hX4 := hX4.below hbn
      replace HB := below_next HB hbn
      clear hbn
      go_wp2_with fail
      refine (toIntS_p _ a len cap A hA h1 HN).mono ?_
      rintro e w7 ⟨g5, rfl, hX5, hbn⟩
      replace hA := hA.below hbn
      replace hB := hB.below hbn
      replace hX3 := hX3.below hbn
      replace hX4 := hX4.below hbn
      replace HB := below_next HB hbn
      clear hbn
      go_wp2_with fail
      refine (eqIntS_p _ _ _ A hX3 hX5).mono ?_
      rintro e w8 ⟨rfl, hbn⟩
      replace hA := hA.below hbn
      replace hB := hB.below hbn
      replace hX3 := hX3.below hbn
      replace hX4 := hX4.below hbn
      replace hX5 := hX5.below hbn
      replace HB := below_next HB hbn
      clear hbn
      clear hX3 hX5
      go_wp2_with fail
      refine (toIntS_p _ b len2 cap2 B hB h2 HM).mono ?_
      rintro e w9 ⟨g6, rfl, hX6, hbn⟩
      replace hA := hA.below hbn
      replace hB := hB.below hbn
      replace hX4 := hX4.below hbn
      replace HB := below_next HB hbn
      clear hbn
      go_wp2_with fail
      refine (eqIntS_p _ _ _ B hX4 hX6).mono ?_
      rintro e w10 ⟨rfl, hbn⟩
      replace hA := hA.below hbn
      replace hB := hB.below hbn
      replace hX4 := hX4.below hbn
      replace hX6 := hX6.below hbn
      replace HB := below_next HB hbn
      clear hbn
      go_wp2
      go_ret
      exact ⟨rfl, HB⟩
    · have d2 : decide (len2 ≤ 1048576) = false := decide_eq_false h2
      have q2 : (1048576 : Int) < len2 := by omega
      clear hA hB
      go_enter Try.func15, Try.ntmps15
      go_wp2
      go_ret
      exact ⟨rfl, Below.refl _ _⟩
  · have d1 : decide (len ≤ 1048576) = false := decide_eq_false h1
    have q1 : (1048576 : Int) < len := by omega
    clear hA hB
    go_enter Try.func15, Try.ntmps15
    go_wp2
    go_ret
    exact ⟨rfl, Below.refl _ _⟩
end Go.Proofs.Ytekchmbbafjmmaa
