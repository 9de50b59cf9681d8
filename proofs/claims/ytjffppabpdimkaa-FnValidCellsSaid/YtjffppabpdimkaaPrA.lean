/- FnDigitCell, FnDigitOf, FnLetterOf: their walks. -/
import Derived.Test.YtjffppabpdimkaaDrC
import Derived.Test.YtjffppabpdimkaaLetB
namespace Go.Proofs.Ytjffppabpdimkaa
open Go.RowKit

theorem i_letterCell_v (n v : Int) (w : World) (h0 : 0 ≤ n) (h1 : n < 26) (hv : Hid (letL.getD n.toNat 0 = v)) :
    Calls Try.prog 37 #[.int .i64 n] w fun e w' => e = .returned (.int .i64 v) ∧ w = w' := by
  have := i_letterCell n w h0 h1
  rw [hv.out] at this
  exact this
theorem i_letterOf_v (c r : Int) (w : World) (hr : Hid (idx letL c = r)) :
    Calls Try.prog 39 #[.int .i64 c] w fun e w' => e = .returned (.int .i64 r) ∧ w = w' := by
  have := i_letterOf c w
  rw [hr.out] at this
  exact this
theorem i_digitOf_v (c r : Int) (w : World) (hr : Hid (idx digL c = r)) :
    Calls Try.prog 45 #[.int .i64 c] w fun e w' => e = .returned (.int .i64 r) ∧ w = w' := by
  have := i_digitOf c w
  rw [hr.out] at this
  exact this
theorem s_letterOf_v (c r : Int) (w : World) (hr : Hid (idx letL c = r)) :
    Calls Try.prog 70 #[.int .i64 c] w fun e w' => e = .returned (.int .i64 r) ∧ Below w.heap.size w w' := by
  have := s_letterOf c w
  rw [hr.out] at this
  exact this
theorem s_digitOf_v (c r : Int) (w : World) (hr : Hid (idx digL c = r)) :
    Calls Try.prog 72 #[.int .i64 c] w fun e w' => e = .returned (.int .i64 r) ∧ Below w.heap.size w w' := by
  have := s_digitOf c w
  rw [hr.out] at this
  exact this
theorem digL_facts : ∀ k, k < 10 → 0 ≤ digL.getD k 0 ∧ idx digL (digL.getD k 0) = k ∧ letL.getD ((k + 9) % 10) 0 = digL.getD k 0 := by decide

set_option maxHeartbeats 1000000 in
theorem digitCell_walk (a : Option Addr) (len cap : Nat) (zs : List Int) (w : World) (h : RowIn .u8 w a len cap zs) :
    Calls Try.prog 13 #[.slice a len cap] w fun e w' => e = .returned (.bool true) ∧ Below w.heap.size w w' := by
  have hlen : len ≤ 9223372036854775807 := by
    obtain ⟨_, h2, h3⟩ := bytesAt_of_row h; unfold maxLen at h3; omega
  by_cases hbig : len ≤ 1048576
  · go_enter Try.func13, Try.ntmps13
    go_wp2_with fail
    refine (drawDigitCell_any w a len cap zs h).mono ?_
    rintro e w1 ⟨d, rfl, hd1, hd2, hb1⟩
    by_cases hd : 0 ≤ d ∧ d < 10
    · obtain ⟨k, rfl⟩ : ∃ k : Nat, d = k := ⟨d.toNat, by omega⟩
      have hk : k < 10 := by omega
      obtain ⟨f1, f2, f3⟩ := digL_facts k hk
      obtain ⟨v, hv⟩ : ∃ v, digL.getD k 0 = v := ⟨_, rfl⟩
      rw [hv] at f1 f2 f3
      have HV := Lib.hid hv
      have F2 := Lib.hid f2
      have F3 : Hid (letL.getD ((((k : Int) + 9) % 10)).toNat 0 = v) := by
        have : (((k : Int) + 9) % 10).toNat = (k + 9) % 10 := by omega
        rw [this]; exact f3
      clear hv f2 f3 hd
      have d1 : decide ((k : Int) ≤ 9) = true := decide_eq_true (by omega)
      go_wp2_with (first | (go_at_call 43; refine (i_digitCell_at k v _ hk HV).mono ?_; rintro e w' ⟨rfl, rfl⟩) | (go_at_call 71; refine (s_digitCell_at k v _ hk HV).mono ?_; rintro e w2 ⟨rfl, hb2⟩) | (go_at_call 44; go_in) | (go_at_call 58; go_in) | (go_at_call 45; refine (i_digitOf_v v k _ F2).mono ?_; rintro e w' ⟨rfl, rfl⟩) | (go_at_call 37; refine (i_letterCell_v _ v _ (by omega) (by omega) F3).mono ?_; rintro e w' ⟨rfl, rfl⟩))
      go_ret
      exact ⟨rfl, hb1.trans (hb2.mono hb1.size)⟩
    · have hno : d < 0 ∨ 10 ≤ d := by omega
      rcases hno with hno | hno
      · have d1 : decide (d ≤ 9) = true := decide_eq_true (by omega)
        go_wp2_with (first | (go_at_call 43; refine (i_digitCell_no d _ (.inl hno)).mono ?_; rintro e w' ⟨rfl, rfl⟩) | (go_at_call 44; go_in) | (go_at_call 58; go_in))
        go_ret
        exact ⟨rfl, hb1⟩
      · have d1 : decide (d ≤ 9) = false := decide_eq_false (by omega)
        go_wp2_with (first | (go_at_call 43; refine (i_digitCell_no d _ (.inr hno)).mono ?_; rintro e w' ⟨rfl, rfl⟩) | (go_at_call 44; go_in) | (go_at_call 58; go_in))
        go_ret
        exact ⟨rfl, hb1⟩
  · have hbig' : 1048576 < len := by omega
    go_enter Try.func13, Try.ntmps13
    go_wp2
    go_ret
    exact ⟨rfl, Below.refl _ _⟩

theorem digOf_facts : ∀ c : Nat, c < 66 → 0 ≤ idx digL ((c : Int) - 1) → (∃ k, k < 10 ∧ idx digL ((c : Int) - 1) = (k : Nat) ∧ digL.getD k 0 = (c : Int) - 1) ∧ 0 ≤ idx letL ((c : Int) - 1) ∧ idx letL ((c : Int) - 1) ≤ 9 := by
  have h : ∀ c : Nat, c < 66 → 0 ≤ idx digL ((c : Int) - 1) → (idx digL ((c : Int) - 1)).toNat < 10 ∧ idx digL ((c : Int) - 1) = ((idx digL ((c : Int) - 1)).toNat : Nat) ∧ digL.getD (idx digL ((c : Int) - 1)).toNat 0 = (c : Int) - 1 ∧ 0 ≤ idx letL ((c : Int) - 1) ∧ idx letL ((c : Int) - 1) ≤ 9 := by decide
  intro c hc h0
  obtain ⟨a, b, d, e⟩ := h c hc h0
  exact ⟨⟨_, a, b, d⟩, e⟩
theorem letOf_facts : ∀ c : Nat, c < 66 → 0 ≤ idx letL ((c : Int) - 1) → (∃ k, k < 26 ∧ idx letL ((c : Int) - 1) = (k : Nat) ∧ letL.getD k 0 = (c : Int) - 1) := by
  have h : ∀ c : Nat, c < 66 → 0 ≤ idx letL ((c : Int) - 1) → (idx letL ((c : Int) - 1)).toNat < 26 ∧ idx letL ((c : Int) - 1) = ((idx letL ((c : Int) - 1)).toNat : Nat) ∧ letL.getD (idx letL ((c : Int) - 1)).toNat 0 = (c : Int) - 1 := by decide
  intro c hc h0
  obtain ⟨a, b, d⟩ := h c hc h0
  exact ⟨_, a, b, d⟩

set_option maxHeartbeats 1000000 in
theorem digitOf_walk (a : Option Addr) (len cap : Nat) (zs : List Int) (w : World) (h : RowIn .u8 w a len cap zs) :
    Calls Try.prog 14 #[.slice a len cap] w fun e w' => e = .returned (.bool true) ∧ Below w.heap.size w w' := by
  have hlen : len ≤ 9223372036854775807 := by
    obtain ⟨_, h2, h3⟩ := bytesAt_of_row h; unfold maxLen at h3; omega
  by_cases hbig : len ≤ 1048576
  · go_enter Try.func14, Try.ntmps14
    go_wp2_with fail
    refine (drawDigitOf_any w a len cap zs h).mono ?_
    rintro e w1 ⟨c, rfl, hd1, hd2, hb1⟩
    obtain ⟨c', hc'⟩ : ∃ c' : Nat, c = (c' : Int) - 1 := ⟨(c + 1).toNat, by omega⟩
    obtain ⟨r, hr⟩ : ∃ r, idx digL c = r := ⟨_, rfl⟩
    obtain ⟨n, hn⟩ : ∃ n, idx letL c = n := ⟨_, rfl⟩
    have F := digOf_facts c' (by omega)
    rw [← hc', hr, hn] at F
    have HR := Lib.hid hr
    have HN := Lib.hid hn
    clear hc' hr hn
    by_cases h0 : 0 ≤ r
    · obtain ⟨⟨k, hk, rfl, hkc⟩, hn0, hn9⟩ := F h0
      have HK := Lib.hid hkc
      clear F hkc
      have d9 : decide (n ≤ 9) = true := decide_eq_true hn9
      go_wp2_with (first | (go_at_call 45; refine (i_digitOf_v c k _ HR).mono ?_; rintro e w' ⟨rfl, rfl⟩) | (go_at_call 47; go_in) | (go_at_call 72; refine (s_digitOf_v c k _ HR).mono ?_; rintro e w2 ⟨rfl, hb2⟩) | (go_at_call 39; refine (i_letterOf_v c n _ HN).mono ?_; rintro e w' ⟨rfl, rfl⟩) | (go_at_call 43; refine (i_digitCell_at k c _ hk HK).mono ?_; rintro e w' ⟨rfl, rfl⟩))
      go_ret
      exact ⟨rfl, hb1.trans (hb2.mono hb1.size)⟩
    · have h0' : r < 0 := by omega
      clear F h0
      go_wp2_with (first | (go_at_call 45; refine (i_digitOf_v c r _ HR).mono ?_; rintro e w' ⟨rfl, rfl⟩) | (go_at_call 47; go_in) | (go_at_call 72; refine (s_digitOf_v c r _ HR).mono ?_; rintro e w2 ⟨rfl, hb2⟩; replace hb1 := hb1.trans (hb2.mono hb1.size); clear hb2))
      go_ret
      exact ⟨rfl, hb1⟩
  · have hbig' : 1048576 < len := by omega
    go_enter Try.func14, Try.ntmps14
    go_wp2
    go_ret
    exact ⟨rfl, Below.refl _ _⟩

theorem s_LetterOf_v (c r : Int) (w : World) (hr : Hid (idx letL c = r)) :
    Calls Try.prog 41 #[.int .i64 c] w fun e w' => e = .returned (.int .i64 r) ∧ Below w.heap.size w w' := by
  go_enter Try.func41, Try.ntmps41
  go_wp2_with (go_at_call 70; refine (s_letterOf_v c r _ hr).mono ?_; rintro e w2 ⟨rfl, hb2⟩)
  go_ret
  exact ⟨rfl, hb2⟩

def cntL : Nat → Nat
  | 0 => 0
  | k + 1 => cntL k + if 0 ≤ idx letL (k : Int) then 1 else 0
theorem cntL_end : cntL 64 = 26 := by decide
theorem cntL_le (k : Nat) : cntL k ≤ k := by
  induction k with
  | zero => simp [cntL]
  | succ k ih => simp only [cntL]; split <;> omega

set_option maxHeartbeats 1000000 in
theorem letterOf_walk (a : Option Addr) (len cap : Nat) (zs : List Int) (w : World) (h : RowIn .u8 w a len cap zs) :
    Calls Try.prog 12 #[.slice a len cap] w fun e w' => e = .returned (.bool true) ∧ Below w.heap.size w w' := by
  have hlen : len ≤ 9223372036854775807 := by
    obtain ⟨_, h2, h3⟩ := bytesAt_of_row h; unfold maxLen at h3; omega
  by_cases hbig : len ≤ 1048576
  · go_enter Try.func12, Try.ntmps12
    go_wp2_with fail
    refine (drawLetterOf_any w a len cap zs h).mono ?_
    rintro e w1 ⟨c, rfl, hd1, hd2, hb1⟩
    obtain ⟨c', hc'⟩ : ∃ c' : Nat, c = (c' : Int) - 1 := ⟨(c + 1).toNat, by omega⟩
    obtain ⟨r, hr⟩ : ∃ r, idx letL c = r := ⟨_, rfl⟩
    have F := letOf_facts c' (by omega)
    rw [← hc', hr] at F
    have HR := Lib.hid hr
    clear hc' hr
    go_wp2_with (first | (go_at_call 39; refine (i_letterOf_v c r _ HR).mono ?_; rintro e w' ⟨rfl, rfl⟩) | (go_at_call 41; refine (s_LetterOf_v c r _ HR).mono ?_; rintro e w2 ⟨rfl, hb2⟩; replace hb1 := hb1.trans (hb2.mono hb1.size); clear hb2))
    go_loop [5, 6] (fun n i => ∃ k : Nat, k ≤ 64 ∧ i = .int .i64 k ∧ n = .int .i64 (cntL k)) (fun _ i => 64 - (intOf i).toNat)
    case atStart => exact ⟨0, by omega, rfl, rfl⟩
    case round =>
      obtain ⟨k, hk, rfl, rfl⟩ := hrel
      by_cases hlt : k < 64
      · obtain ⟨u, hu⟩ : ∃ u, idx letL (k : Int) = u := ⟨_, rfl⟩
        have hs : cntL (k + 1) = cntL k + if 0 ≤ u then 1 else 0 := by rw [← hu]; rfl
        have HU := Lib.hid hu
        have HS := Lib.hid hs
        have hle := cntL_le k
        clear hu hs
        by_cases hu0 : 0 ≤ u
        · go_wp2_with (go_at_call 39; refine (i_letterOf_v _ u _ HU).mono ?_; rintro e w' ⟨rfl, rfl⟩)
          go_round
          case rel => exact ⟨k + 1, by omega, by go_num, by rw [HS.out, if_pos hu0]; go_num⟩
          case measure => simp [intOf]; omega
        · go_wp2_with (go_at_call 39; refine (i_letterOf_v _ u _ HU).mono ?_; rintro e w' ⟨rfl, rfl⟩)
          go_round
          case rel => exact ⟨k + 1, by omega, by go_num, by rw [HS.out, if_neg (by omega)]; go_num⟩
          case measure => simp [intOf]; omega
      · obtain rfl : k = 64 := by omega
        have hc : ((cntL 64 : Nat) : Int) = 26 := by rw [cntL_end]; rfl
        by_cases h0 : 0 ≤ r
        · obtain ⟨m, hm, rfl, hmc⟩ := F h0
          have HM := Lib.hid hmc
          clear F hmc
          go_wp2_with (go_at_call 37; refine (i_letterCell_at m c _ hm HM).mono ?_; rintro e w' ⟨rfl, rfl⟩)
          go_ret
          exact ⟨rfl, hb1⟩
        · have h0' : r < 0 := by omega
          clear F h0
          go_wp2
          go_ret
          exact ⟨rfl, hb1⟩
  · have hbig' : 1048576 < len := by omega
    go_enter Try.func12, Try.ntmps12
    go_wp2
    go_ret
    exact ⟨rfl, Below.refl _ _⟩
end Go.Proofs.Ytjffppabpdimkaa
