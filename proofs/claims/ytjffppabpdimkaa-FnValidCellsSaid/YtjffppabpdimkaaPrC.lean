/- FnLetterCell, FnLetterCellDecades, FnMirror: their walks. -/
import Derived.Test.YtjffppabpdimkaaPrB
namespace Go.Proofs.Ytjffppabpdimkaa
open Go.RowKit

theorem s_LetterCell_at (k : Nat) (v : Int) (w : World) (h1 : k < 26) (hv : Hid (letL.getD k 0 = v)) :
    Calls Try.prog 38 #[.int .i64 k] w fun e w' => e = .returned (.int .i64 v) ∧ Below w.heap.size w w' := by
  go_enter Try.func38, Try.ntmps38
  go_wp2_with (first | (go_at_call 58; refine (inRange_yes _ _ _ _ (by omega) (by omega)).mono ?_; rintro e w' ⟨rfl, rfl⟩) | (go_at_call 69; refine (s_letterCell_at k v _ h1 hv).mono ?_; rintro e w2 ⟨rfl, hb⟩))
  go_ret
  exact ⟨rfl, hb⟩
theorem s_LetterCell_no (n : Int) (w : World) (h : n < 0 ∨ 26 ≤ n) :
    Calls Try.prog 38 #[.int .i64 n] w fun e w' => e = .returned (.int .i64 (-1)) ∧ w = w' := by
  go_enter Try.func38, Try.ntmps38
  go_wp2_with (go_at_call 58; refine (inRange_no _ _ _ _ (by omega)).mono ?_; rintro e w' ⟨rfl, rfl⟩)
  go_ret
  exact ⟨rfl, rfl⟩
theorem letL_facts : ∀ k : Nat, k < 26 → (letL.getD k 0).toNat < 64 ∧ letL.getD k 0 = ((letL.getD k 0).toNat : Nat) ∧ idx letL (letL.getD k 0) = k ∧
    (decide ((1 : Int) ∈ dotsL (letL.getD k 0).toNat) = true ∨ (decide ((1 : Int) ∈ dotsL (letL.getD k 0).toNat) = false ∧ decide ((2 : Int) ∈ dotsL (letL.getD k 0).toNat) = true)) ∧
    (k < 10 → letL.getD (k + 10) 0 = letL.getD k 0 + 4 ∧ decide ((3 : Int) ∈ dotsL (letL.getD k 0).toNat) = false ∧ decide ((6 : Int) ∈ dotsL (letL.getD k 0).toNat) = false) := by decide +kernel
theorem mir_facts : ∀ c : Nat, c < 64 → c % 8 * 8 + c / 8 < 64 ∧ (c % 8 * 8 + c / 8) % 8 * 8 + (c % 8 * 8 + c / 8) / 8 = c ∧ (dotsL (c % 8 * 8 + c / 8)).length = (dotsL c).length ∧
    (∀ k : Nat, k < 3 → decide (((k : Int) + 1) ∈ dotsL c) = decide (((k : Int) + 1 + 3) ∈ dotsL (c % 8 * 8 + c / 8)) ∧ decide (((k : Int) + 1 + 3) ∈ dotsL c) = decide (((k : Int) + 1) ∈ dotsL (c % 8 * 8 + c / 8))) := by decide +kernel
theorem i_Mirror (c m : Nat) (w : World) (hc : c < 64) (hm : Hid (c % 8 * 8 + c / 8 = m)) :
    Calls Try.prog 28 #[.int .i64 c] w fun e w' => e = .returned (.int .i64 m) ∧ w = w' := by
  go_enter Try.func28, Try.ntmps28
  go_wp2_with (go_at_call 51; refine (i_isCell_yes _ _ (by omega) (by omega)).mono ?_; rintro e w' ⟨rfl, rfl⟩)
  go_ret
  exact ⟨ret_i64 (by have := hm.out; omega), rfl⟩
theorem i_Mirror_no (n : Int) (w : World) (h : n < 0 ∨ 64 ≤ n) :
    Calls Try.prog 28 #[.int .i64 n] w fun e w' => e = .returned (.int .i64 (-1)) ∧ w = w' := by
  go_enter Try.func28, Try.ntmps28
  go_wp2_with (go_at_call 51; refine (i_isCell_no _ _ h).mono ?_; rintro e w' ⟨rfl, rfl⟩)
  go_ret
  exact ⟨rfl, rfl⟩
theorem s_Mirror (c m : Nat) (w : World) (hc : c < 64) (hm : Hid (c % 8 * 8 + c / 8 = m)) :
    Calls Try.prog 29 #[.int .i64 c] w fun e w' => e = .returned (.int .i64 m) ∧ w = w' := by
  go_enter Try.func29, Try.ntmps29
  go_wp2_with (go_at_call 55; refine (s_isCell_yes _ _ (by omega) (by omega)).mono ?_; rintro e w' ⟨rfl, rfl⟩)
  go_ret
  exact ⟨ret_i64 (by have := hm.out; omega), rfl⟩
theorem s_Mirror_no (n : Int) (w : World) (h : n < 0 ∨ 64 ≤ n) :
    Calls Try.prog 29 #[.int .i64 n] w fun e w' => e = .returned (.int .i64 (-1)) ∧ w = w' := by
  go_enter Try.func29, Try.ntmps29
  go_wp2_with (go_at_call 55; refine (s_isCell_no _ _ h).mono ?_; rintro e w' ⟨rfl, rfl⟩)
  go_ret
  exact ⟨rfl, rfl⟩

set_option maxHeartbeats 2000000 in
theorem letterCell_walk (a : Option Addr) (len cap : Nat) (zs : List Int) (w : World) (h : RowIn .u8 w a len cap zs) :
    Calls Try.prog 10 #[.slice a len cap] w fun e w' => e = .returned (.bool true) ∧ Below w.heap.size w w' := by
  have hlen : len ≤ 9223372036854775807 := by
    obtain ⟨_, h2, h3⟩ := bytesAt_of_row h; unfold maxLen at h3; omega
  by_cases hbig : len ≤ 1048576
  · go_enter Try.func10, Try.ntmps10
    go_wp2_with fail
    refine (drawLetterCell_any w a len cap zs h).mono ?_
    rintro e w1 ⟨c, rfl, hd1, hd2, hb1⟩
    clear h
    by_cases hc : 0 ≤ c ∧ c < 26
    · obtain ⟨k, rfl⟩ : ∃ k : Nat, c = k := ⟨c.toNat, by omega⟩
      have hk : k < 26 := by omega
      obtain ⟨f0, f1, f2, f3, f4⟩ := letL_facts k hk
      obtain ⟨m, hm⟩ : ∃ m, (letL.getD k 0).toNat = m := ⟨_, rfl⟩
      obtain ⟨v, hv⟩ : ∃ v, letL.getD k 0 = v := ⟨_, rfl⟩
      rw [hm] at f0 f1 f3 f4
      rw [hv] at f1 f2 f4
      have HV := Lib.hid hv
      clear hv hm
      subst f1
      clear f4
      have F2 := Lib.hid f2
      clear f2 hc
      go_wp2_with (first | (go_at_call 37; refine (i_letterCell_at k m _ hk HV).mono ?_; rintro e w' ⟨rfl, rfl⟩) | (go_at_call 38; refine (s_LetterCell_at k m _ hk HV).mono ?_; rintro e w2 ⟨rfl, hb2⟩; replace hb1 := below_next hb1 hb2; clear hb2) | (go_at_call 19; fail))
      refine (i_DotsOf_out m _ f0).mono ?_
      rintro e w3 ⟨v3, rfl, hv3, hb3, a3, n3, c3, rfl⟩
      have hB3 := below_next hb1 hb3
      rcases f3 with f3 | ⟨f3, f5⟩
      · have F3 := Lib.hid f3
        clear f3
        go_wp2_with (first | (go_at_call 39; refine (i_letterOf_v m k _ F2).mono ?_; rintro e w' ⟨rfl, rfl⟩) | (go_at_call 24; refine (isIn_b _ _ _ _ true hv3 F3).mono ?_; rintro e w' ⟨rfl, rfl⟩))
        go_ret
        exact ⟨rfl, hB3⟩
      · have F3 := Lib.hid f3
        have F5 := Lib.hid f5
        clear f3 f5
        go_wp2_with fail
        refine (i_letterOf_v m k _ F2).mono ?_
        rintro e w' ⟨rfl, rfl⟩
        go_wp2_with fail
        refine (isIn_b _ _ _ _ false hv3 F3).mono ?_
        rintro e w' ⟨rfl, rfl⟩
        go_wp2_with fail
        refine (isIn_b _ _ _ _ true hv3 F5).mono ?_
        rintro e w' ⟨rfl, rfl⟩
        go_wp2
        go_ret
        exact ⟨rfl, hB3⟩
    · have hno : c < 0 ∨ 26 ≤ c := by omega
      go_wp2_with (first | (go_at_call 37; refine (i_letterCell_no c _ hno).mono ?_; rintro e w' ⟨rfl, rfl⟩) | (go_at_call 38; refine (s_LetterCell_no c _ hno).mono ?_; rintro e w' ⟨rfl, rfl⟩))
      all_goals
        go_ret
        exact ⟨rfl, hb1⟩
  · have hbig' : 1048576 < len := by omega
    go_enter Try.func10, Try.ntmps10
    go_wp2
    go_ret
    exact ⟨rfl, Below.refl _ _⟩

set_option maxHeartbeats 2000000 in
theorem letterCellDecades_walk (a : Option Addr) (len cap : Nat) (zs : List Int) (w : World) (h : RowIn .u8 w a len cap zs) :
    Calls Try.prog 11 #[.slice a len cap] w fun e w' => e = .returned (.bool true) ∧ Below w.heap.size w w' := by
  have hlen : len ≤ 9223372036854775807 := by
    obtain ⟨_, h2, h3⟩ := bytesAt_of_row h; unfold maxLen at h3; omega
  by_cases hbig : len ≤ 1048576
  · go_enter Try.func11, Try.ntmps11
    go_wp2_with fail
    refine (drawLetterCell_any w a len cap zs h).mono ?_
    rintro e w1 ⟨c, rfl, hd1, hd2, hb1⟩
    clear h
    by_cases hc : 0 ≤ c ∧ c < 26
    · obtain ⟨k, rfl⟩ : ∃ k : Nat, c = k := ⟨c.toNat, by omega⟩
      have hk : k < 26 := by omega
      obtain ⟨f0, f1, f2, f3, f4⟩ := letL_facts k hk
      obtain ⟨m, hm⟩ : ∃ m, (letL.getD k 0).toNat = m := ⟨_, rfl⟩
      obtain ⟨v, hv⟩ : ∃ v, letL.getD k 0 = v := ⟨_, rfl⟩
      rw [hm] at f0 f1 f3 f4
      rw [hv] at f1 f2 f4
      have HV := Lib.hid hv
      clear hv hm
      subst f1
      clear f3
      have F2 := Lib.hid f2
      clear f2 hc
      by_cases h10 : k < 10
      · obtain ⟨g1, g2, g3⟩ := f4 h10
        have G1 : Hid (letL.getD ((k : Int) + 10).toNat 0 = (m : Int) + 4) := by
          have : ((k : Int) + 10).toNat = k + 10 := by omega
          rw [this]; exact g1
        have G2 := Lib.hid g2
        have G3 := Lib.hid g3
        clear f4 g1 g2 g3
        have d10 : decide ((10 : Int) ≤ k) = false := decide_eq_false (by omega)
        go_wp2_with fail
        refine (i_letterCell_at k m _ hk HV).mono ?_
        rintro e w' ⟨rfl, rfl⟩
        go_wp2_with fail
        refine (s_LetterCell_at k m _ hk HV).mono ?_
        rintro e w2 ⟨rfl, hb2⟩
        have hB2 := below_next hb1 hb2
        go_wp2_with fail
        refine (i_letterCell_v _ ((m : Int) + 4) _ (by omega) (by omega) G1).mono ?_
        rintro e w' ⟨rfl, rfl⟩
        go_wp2_with fail
        refine (i_DotsOf_out m _ f0).mono ?_
        rintro e w3 ⟨v3, rfl, hv3, hb3, a3, n3, c3, rfl⟩
        have hB3 := below_next hB2 hb3
        go_wp2_with fail
        refine (isIn_b _ _ _ _ false hv3 G2).mono ?_
        rintro e w' ⟨rfl, rfl⟩
        go_wp2_with fail
        refine (i_DotsOf_out m _ f0).mono ?_
        rintro e w4 ⟨v4, rfl, hv4, hb4, a4, n4, c4, rfl⟩
        have hB4 := below_next hB3 hb4
        go_wp2_with fail
        refine (isIn_b _ _ _ _ false hv4 G3).mono ?_
        rintro e w' ⟨rfl, rfl⟩
        go_wp2
        go_ret
        exact ⟨rfl, hB4⟩
      · have d10 : decide ((10 : Int) ≤ k) = true := decide_eq_true (by omega)
        clear f4
        go_wp2_with (first | (go_at_call 37; refine (i_letterCell_at k m _ hk HV).mono ?_; rintro e w' ⟨rfl, rfl⟩) | (go_at_call 38; refine (s_LetterCell_at k m _ hk HV).mono ?_; rintro e w2 ⟨rfl, hb2⟩; replace hb1 := below_next hb1 hb2; clear hb2))
        go_ret
        exact ⟨rfl, hb1⟩
    · have hno : c < 0 ∨ 26 ≤ c := by omega
      go_wp2_with (first | (go_at_call 37; refine (i_letterCell_no c _ hno).mono ?_; rintro e w' ⟨rfl, rfl⟩) | (go_at_call 38; refine (s_LetterCell_no c _ hno).mono ?_; rintro e w' ⟨rfl, rfl⟩))
      all_goals
        go_ret
        exact ⟨rfl, hb1⟩
  · have hbig' : 1048576 < len := by omega
    go_enter Try.func11, Try.ntmps11
    go_wp2
    go_ret
    exact ⟨rfl, Below.refl _ _⟩

set_option maxHeartbeats 2000000 in
theorem mirror_walk (a : Option Addr) (len cap : Nat) (zs : List Int) (w : World) (h : RowIn .u8 w a len cap zs) :
    Calls Try.prog 6 #[.slice a len cap] w fun e w' => e = .returned (.bool true) ∧ Below w.heap.size w w' := by
  have hlen : len ≤ 9223372036854775807 := by
    obtain ⟨_, h2, h3⟩ := bytesAt_of_row h; unfold maxLen at h3; omega
  by_cases hbig : len ≤ 1048576
  · go_enter Try.func6, Try.ntmps6
    go_wp2_with fail
    refine (drawMirror_any w a len cap zs h).mono ?_
    rintro e w1 ⟨c, rfl, hd1, hd2, hb1⟩
    clear h
    by_cases hc : 0 ≤ c ∧ c < 64
    · obtain ⟨k, rfl⟩ : ∃ k : Nat, c = k := ⟨c.toNat, by omega⟩
      have hk : k < 64 := by omega
      obtain ⟨f0, f1, f2, f3⟩ := mir_facts k hk
      obtain ⟨m, hm⟩ : ∃ m, k % 8 * 8 + k / 8 = m := ⟨_, rfl⟩
      rw [hm] at f0 f1 f2 f3
      have HM := Lib.hid hm
      have HK := Lib.hid f1
      have F2 := Lib.hid f2
      have F3 := Lib.hid f3
      clear hm f1 f2 f3 hc
      go_wp2_with fail
      refine (i_Mirror k m _ hk HM).mono ?_
      rintro e w' ⟨rfl, rfl⟩
      go_wp2_with fail
      refine (s_Mirror k m _ hk HM).mono ?_
      rintro e w' ⟨rfl, rfl⟩
      go_wp2_with fail
      refine (i_DotsOf_out k _ hk).mono ?_
      rintro e w2 ⟨v2, rfl, hv2, hb2, a2, n2, c2, rfl⟩
      have hn2 : Hid (n2 = (dotsL k).length) := by
        obtain ⟨_, _, hs, _⟩ := hv2
        injection hs
      have hB2 := below_next hb1 hb2
      go_wp2_with fail
      refine (i_DotsOf_out m _ f0).mono ?_
      rintro e w3 ⟨v3, rfl, hv3, hb3, a3, n3, c3, rfl⟩
      have hn3 : Hid (n3 = (dotsL m).length) := by
        obtain ⟨_, _, hs, _⟩ := hv3
        injection hs
      obtain rfl : n2 = n3 := by rw [hn2.out, hn3.out, F2.out]
      have hv2 := hv2.below hb3
      have hB3 := below_next hB2 hb3
      clear hb2 hb3
      go_wp2_with fail
      go_loop [7] (fun i => ∃ q : Nat, q ≤ 3 ∧ i = .int .i64 ((q : Int) + 1)) (fun i => 8 - (intOf i).toNat)
      case atStart => exact ⟨0, by omega, rfl⟩
      case round =>
        obtain ⟨q, hq, rfl⟩ := hrel
        by_cases hlt : q < 3
        · obtain ⟨g1, g2⟩ := F3.out q hlt
          obtain ⟨b1, hb1'⟩ : ∃ b, decide (((q : Int) + 1) ∈ dotsL k) = b := ⟨_, rfl⟩
          obtain ⟨b2, hb2'⟩ : ∃ b, decide (((q : Int) + 1 + 3) ∈ dotsL k) = b := ⟨_, rfl⟩
          have G1 := Lib.hid hb1'
          have G2 := Lib.hid hb2'
          have G3 := Lib.hid (g1.symm.trans hb1')
          have G4 := Lib.hid (g2.symm.trans hb2')
          clear g1 g2 hb1' hb2'
          go_wp2_with fail
          refine (isIn_b _ _ _ _ b1 hv2 G1).mono ?_
          rintro e w' ⟨rfl, rfl⟩
          go_wp2_with fail
          refine (isIn_b _ _ _ _ b1 hv3 G3).mono ?_
          rintro e w' ⟨rfl, rfl⟩
          go_wp2_with fail
          refine (isIn_b _ _ _ _ b2 hv2 G2).mono ?_
          rintro e w' ⟨rfl, rfl⟩
          go_wp2_with fail
          refine (isIn_b _ _ _ _ b2 hv3 G4).mono ?_
          rintro e w' ⟨rfl, rfl⟩
          go_wp2
          go_round
          case rel => exact ⟨q + 1, by omega, by go_num⟩
          case measure => simp [intOf]; omega
        · go_wp2_with fail
          refine (i_Mirror m k _ f0 HK).mono ?_
          rintro e w' ⟨rfl, rfl⟩
          go_wp2
          go_ret
          exact ⟨rfl, hB3⟩
    · have hno : c < 0 ∨ 64 ≤ c := by omega
      go_wp2_with (first | (go_at_call 28; refine (i_Mirror_no c _ hno).mono ?_; rintro e w' ⟨rfl, rfl⟩) | (go_at_call 29; refine (s_Mirror_no c _ hno).mono ?_; rintro e w' ⟨rfl, rfl⟩))
      all_goals
        go_ret
        exact ⟨rfl, hb1⟩
  · have hbig' : 1048576 < len := by omega
    go_enter Try.func6, Try.ntmps6
    go_wp2
    go_ret
    exact ⟨rfl, Below.refl _ _⟩
end Go.Proofs.Ytjffppabpdimkaa
