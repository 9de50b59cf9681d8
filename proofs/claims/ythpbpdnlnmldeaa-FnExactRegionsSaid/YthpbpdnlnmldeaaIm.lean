
/- at: what is in a place of a picture, in the model. -/
import Derived.Test.YthpbpdnlnmldeaaIe
namespace Go.Proofs.Ythpbpdnlnmldeaa
open Go.RowKit

/-- the number in a place, 0 outside -/
def pxI (f : Nat → Nat → Int) (n m : Nat) (y x : Int) : Int := if (0 ≤ y ∧ y < n) ∧ (0 ≤ x ∧ x < m) then f y.toNat x.toNat else 0
set_option maxHeartbeats 1000000 in
theorem s_at (w : World) (a : Option Addr) (n c m : Nat) (f : Nat → Nat → Int) (y x : Int) (hp : PicAt w a n c m f) (hn : 1 ≤ n ∧ n ≤ 1000) (hm : 1 ≤ m ∧ m ≤ 1000) :
    Calls Try.prog 61 #[.slice a n c, .int .i64 y, .int .i64 x] w fun e w' => e = .returned (.int .i64 (pxI f n m y x)) ∧ w = w' := by
  have HP := keptI hp
  obtain ⟨g, off, b0, o0, d0, rfl, c00, hd1, hd2, _⟩ := hp.row (y := 0) hn.1
  rw [Nat.add_zero] at c00
  obtain ⟨hn1, hn2⟩ := hn
  obtain ⟨hm1, hm2⟩ := hm
  have q0 : (0 : Int) < (n : Int) := by omega
  have HE : Hid (∀ r, pxI f n m y x = r → Ending.returned (.int .i64 r) = .returned (.int .i64 (pxI f n m y x))) := fun r h => by rw [h]
  clear hp
  by_cases hy : 0 ≤ y ∧ y < n
  · obtain ⟨Y, rfl⟩ : ∃ Y : Nat, y = (Y : Int) := ⟨y.toNat, by omega⟩
    have hY : Y < n := by omega
    by_cases hx : 0 ≤ x ∧ x < m
    · obtain ⟨X, rfl⟩ : ∃ X : Nat, x = (X : Int) := ⟨x.toNat, by omega⟩
      have hX : X < m := by omega
      obtain ⟨_, _, b, o, d, e1, c0, hd5, hd6, hcx⟩ := HP.out.row hY
      injection e1 with e1
      injection e1 with e1 e2
      subst e1 e2
      have cx := hcx X hX
      have HV : Hid (pxI f n m Y X = f Y X) := by show _ = _; unfold pxI; rw [if_pos ⟨hy, hx⟩]; simp
      obtain ⟨z, hz⟩ : ∃ z, f Y X = z := ⟨_, rfl⟩
      rw [hz] at cx HV
      have q1 : (0 : Int) ≤ (Y : Int) := by omega
      have q2 : (Y : Int) < (n : Int) := by omega
      have q3 : (0 : Int) ≤ (X : Int) := by omega
      have q4 : (X : Int) < (m : Int) := by omega
      clear hz hcx hx hy
      go_enter Try.func61, Try.ntmps61
      go_wp2_with fail
      refine (inRange_yes (Y : Int) 0 ((n : Int) - 1) w (by omega) (by omega)).mono ?_
      rintro e w' ⟨rfl, rfl⟩
      go_wp2_with fail
      refine (inRange_yes (X : Int) 0 ((m : Int) - 1) w (by omega) (by omega)).mono ?_
      rintro e w' ⟨rfl, rfl⟩
      go_wp2
      go_ret
      exact ⟨HE.out _ HV.out, rfl⟩
    · have HV : Hid (pxI f n m Y x = 0) := by show _ = _; unfold pxI; rw [if_neg (fun h => hx h.2)]
      have hx' : x < 0 ∨ (m : Int) - 1 < x := by omega
      clear hx hy
      go_enter Try.func61, Try.ntmps61
      go_wp2_with fail
      refine (inRange_yes (Y : Int) 0 ((n : Int) - 1) w (by omega) (by omega)).mono ?_
      rintro e w' ⟨rfl, rfl⟩
      go_wp2_with fail
      refine (inRange_no x 0 ((m : Int) - 1) w hx').mono ?_
      rintro e w' ⟨rfl, rfl⟩
      go_wp2
      go_ret
      exact ⟨HE.out _ HV.out, rfl⟩
  · have HV : Hid (pxI f n m y x = 0) := by show _ = _; unfold pxI; rw [if_neg (fun h => hy h.1)]
    have hy' : y < 0 ∨ (n : Int) - 1 < y := by omega
    clear hy
    go_enter Try.func61, Try.ntmps61
    go_wp2_with fail
    refine (inRange_no y 0 ((n : Int) - 1) w hy').mono ?_
    rintro e w' ⟨rfl, rfl⟩
    go_wp2
    go_ret
    exact ⟨HE.out _ HV.out, rfl⟩
end Go.Proofs.Ythpbpdnlnmldeaa
