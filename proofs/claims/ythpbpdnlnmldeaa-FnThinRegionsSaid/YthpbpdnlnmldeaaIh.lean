
/- dotsIn: the raised dots of a square. -/
import Derived.Test.YthpbpdnlnmldeaaId
namespace Go.Proofs.Ythpbpdnlnmldeaa
open Go.RowKit

def DotsRes (f : Nat → Nat → Int) (y0 ny x0 nx : Nat) (w : World) (e : Ending) (w' : World) : Prop :=
  e = .returned (.tuple #[.int .i64 (bs f y0 ny x0 nx), .int .i64 ((ny * nx : Nat) : Int)]) ∧ w = w'
theorem ret_tupI {a b c d : Int} (h : a = c) (k : b = d) : Ending.returned (.tuple #[.int .i64 a, .int .i64 b]) = .returned (.tuple #[.int .i64 c, .int .i64 d]) := by rw [h, k]
set_option maxHeartbeats 2000000 in
theorem i_dotsIn (w : World) (a : Option Addr) (n c m : Nat) (f : Nat → Nat → Int) (top left side : Int) (hp : PicAt w a n c m f) (hf : Bin f n m) (hn : n ≤ 1000) (hm : m ≤ 1000) (ht : -1000 ≤ top ∧ top ≤ 1000) (hl : -1000 ≤ left ∧ left ≤ 1000) (hs : 0 ≤ side ∧ side ≤ 1000) :
    Calls Try.prog 60 #[.slice a n c, .int .i64 top, .int .i64 left, .int .i64 side] w fun e w' => DotsRes f top.toNat (span n top side) left.toNat (span m left side) w e w' := by
  have HP := keptI hp
  have HF := keptI hf
  obtain ⟨y0, hy0⟩ : ∃ y0, top.toNat = y0 := ⟨_, rfl⟩
  obtain ⟨x0, hx0⟩ : ∃ x0, left.toNat = x0 := ⟨_, rfl⟩
  obtain ⟨ny, hny⟩ : ∃ ny, span n top side = ny := ⟨_, rfl⟩
  obtain ⟨nx, hnx⟩ : ∃ nx, span m left side = nx := ⟨_, rfl⟩
  have hny1 : ny ≤ n := by rw [← hny]; exact span_le _ _ _
  have hnx1 : nx ≤ m := by rw [← hnx]; exact span_le _ _ _
  have HYin : Hid (∀ Y : Nat, y0 ≤ Y → Y < y0 + ny → Y < n ∧ (Y : Int) < top + side) := fun Y h0 h1 => span_in (by rw [hy0]; exact h0) (by rw [hy0, hny]; exact h1)
  have HXin : Hid (∀ X : Nat, x0 ≤ X → X < x0 + nx → X < m ∧ (X : Int) < left + side) := fun X h0 h1 => span_in (by rw [hx0]; exact h0) (by rw [hx0, hnx]; exact h1)
  have HYout : Hid (y0 + ny < n → top + side ≤ ((y0 + ny : Nat) : Int)) := by
    have := span_out (n := n) (top := top) (side := side)
    rw [hy0, hny] at this; exact this
  have HXout : Hid (x0 + nx < m → left + side ≤ ((x0 + nx : Nat) : Int)) := by
    have := span_out (n := m) (top := left) (side := side)
    rw [hx0, hnx] at this; exact this
  obtain ⟨ht1, ht2⟩ := ht
  obtain ⟨hl1, hl2⟩ := hl
  obtain ⟨hs1, hs2⟩ := hs
  have hy0b : y0 ≤ 1000 := by omega
  have hx0b : x0 ≤ 1000 := by omega
  have HY0 := Lib.hid hy0
  have HX0 := Lib.hid hx0
  rw [hy0, hx0, hny, hnx]
  clear hp hf hy0 hx0 hny hnx
  go_enter Try.func60, Try.ntmps60
  go_wp2_with fail
  refine (i_notNegative top w).mono ?_
  rintro e w' ⟨rfl, rfl⟩
  rw [HY0.out]
  go_wp2_with fail
  go_loop [10, 11, 12] (fun r l y => ∃ (Y A : Nat) (s : Int), y0 ≤ Y ∧ Y ≤ y0 + ny ∧ y = .int .i64 Y ∧ r = .int .i64 s ∧ l = .int .i64 A ∧ 0 ≤ s ∧ s ≤ A ∧ A ≤ 1000 * (Y - y0) ∧ Hid (bs f y0 (Y - y0) x0 nx = s) ∧ Hid ((Y - y0) * nx = A)) (fun _ _ y => y0 + ny - (intOf y).toNat)
  case atStart => exact ⟨y0, 0, 0, Nat.le_refl _, by omega, rfl, rfl, rfl, by omega, by omega, by omega, by show _ = _; rw [Nat.sub_self]; rfl, by show _ = _; rw [Nat.sub_self, Nat.zero_mul]⟩
  case round =>
    obtain ⟨Y, A, s, hY0, hY1, rfl, rfl, rfl, hs3, hs4, hA, HS, HA⟩ := hrel
    by_cases hlt : Y < y0 + ny
    · obtain ⟨hYn, hYt⟩ := HYin.out Y hY0 hlt
      obtain ⟨g, off, b, o, d, rfl, c0, hd1, hd2, hcx⟩ := HP.out.row hYn
      have HCX := keptI hcx
      have d1 : decide (Y < n) = true := decide_eq_true hYn
      have d2 : decide ((Y : Int) < top + side) = true := decide_eq_true hYt
      have q1 : (0 : Int) ≤ (Y : Int) := by omega
      have q2 : (Y : Int) < (n : Int) := by omega
      clear hcx
      go_wp2_with fail
      refine (i_notNegative left w).mono ?_
      rintro e w' ⟨rfl, rfl⟩
      rw [HX0.out]
      go_wp2_with fail
      go_loop [10, 11, 13] (fun r l x => ∃ (X B : Nat) (t : Int), x0 ≤ X ∧ X ≤ x0 + nx ∧ x = .int .i64 X ∧ r = .int .i64 (s + t) ∧ l = .int .i64 ((A : Int) + B) ∧ 0 ≤ t ∧ t ≤ B ∧ B ≤ 1000 ∧ Hid (rs (f Y) x0 (X - x0) = t) ∧ Hid (X - x0 = B)) (fun _ _ x => x0 + nx - (intOf x).toNat)
      case atStart => exact ⟨x0, 0, 0, Nat.le_refl _, by omega, rfl, by rw [Int.add_zero], by simp, by omega, by omega, by omega, by show _ = _; rw [Nat.sub_self]; rfl, by show _ = _; rw [Nat.sub_self]⟩
      case round =>
        obtain ⟨X, B, t, hX0, hX1, rfl, rfl, rfl, ht3, ht4, hB, HT, HB⟩ := hrel
        by_cases hlx : X < x0 + nx
        · obtain ⟨hXm, hXt⟩ := HXin.out X hX0 hlx
          have cx := HCX.out X hXm
          have hbin := HF.out Y X hYn hXm
          have HT1 : Hid (rs (f Y) x0 (X + 1 - x0) = t + f Y X) := by
            show _ = _
            rw [show X + 1 - x0 = (X - x0) + 1 by omega, rs_succ, HT.out, show x0 + (X - x0) = X by omega]
          have HB1 : Hid (X + 1 - x0 = B + 1) := by show _ = _; rw [← HB.out]; omega
          have hBx : B + 1 ≤ 1000 := by have := HB.out; omega
          obtain ⟨z, hz⟩ : ∃ z, f Y X = z := ⟨_, rfl⟩
          rw [hz] at cx hbin HT1
          have hz1 : 0 ≤ z := by omega
          have hz2 : z ≤ 1 := by omega
          have e1 : decide (X < m) = true := decide_eq_true hXm
          have e2 : decide ((X : Int) < left + side) = true := decide_eq_true hXt
          have q3 : (0 : Int) ≤ (X : Int) := by omega
          have q4 : (X : Int) < (m : Int) := by omega
          clear hz hbin HT HB
          go_wp2
          go_round
          case rel => exact ⟨X + 1, B + 1, t + z, by omega, by omega, by go_num, by rw [Int.add_assoc], by go_num, by omega, by omega, by omega, HT1, HB1⟩
          case measure => simp [intOf]; omega
        · have HSX : Hid (bs f y0 (Y + 1 - y0) x0 nx = s + t) := by
            show _ = _
            rw [show Y + 1 - y0 = (Y - y0) + 1 by omega, bs_succ, HS.out, show y0 + (Y - y0) = Y by omega, ← HT.out, show X - x0 = nx by omega]
          have HAX : Hid ((Y + 1 - y0) * nx = A + B) := by
            show _ = _
            rw [show Y + 1 - y0 = (Y - y0) + 1 by omega, Nat.add_mul, HA.out, Nat.one_mul, ← HB.out]; omega
          by_cases hXm : X < m
          · have e1 : decide (X < m) = true := decide_eq_true hXm
            have hq : left + side ≤ (X : Int) := by
              have e : X = x0 + nx := by omega
              rw [e]; exact HXout.out (by omega)
            have e2 : decide ((X : Int) < left + side) = false := decide_eq_false (by omega)
            clear HT HB
            go_wp2
            go_round
            case rel => exact ⟨Y + 1, A + B, s + t, by omega, by omega, by go_num, rfl, by go_num, by omega, by omega, by omega, HSX, HAX⟩
            case measure => simp [intOf]; omega
          · have e1 : decide (X < m) = false := decide_eq_false hXm
            clear HT HB
            go_wp2
            go_round
            case rel => exact ⟨Y + 1, A + B, s + t, by omega, by omega, by go_num, rfl, by go_num, by omega, by omega, by omega, HSX, HAX⟩
            case measure => simp [intOf]; omega
    · have HSX : Hid (bs f y0 ny x0 nx = s) := by show _ = _; rw [← HS.out, show Y - y0 = ny by omega]
      have HAX : Hid (((ny * nx : Nat) : Int) = (A : Int)) := by show _ = _; rw [← HA.out, show Y - y0 = ny by omega]
      by_cases hYn : Y < n
      · have d1 : decide (Y < n) = true := decide_eq_true hYn
        have hq : top + side ≤ (Y : Int) := by
          have e : Y = y0 + ny := by omega
          rw [e]; exact HYout.out (by omega)
        have d2 : decide ((Y : Int) < top + side) = false := decide_eq_false (by omega)
        clear HS HA
        go_wp2
        go_ret2
        exact ⟨ret_tupI HSX.out.symm HAX.out.symm, rfl⟩
      · have d1 : decide (Y < n) = false := decide_eq_false hYn
        clear HS HA
        go_wp2
        go_ret2
        exact ⟨ret_tupI HSX.out.symm HAX.out.symm, rfl⟩
end Go.Proofs.Ythpbpdnlnmldeaa
