
/- What a smaller picture is like. -/
import Derived.Test.YtmmgeplhaooknaaJh
import Derived.Test.YtmmgeplhaooknaaIj
namespace Go.Proofs.Ytmmgeplhaooknaa
open Go.RowKit

theorem shr_bin (f : Nat → Nat → Int) (n m k : Nat) (y x : Nat) : shrF f n m k y x = 0 ∨ shrF f n m k y x = 1 := by
  unfold shrF
  split
  · exact .inr rfl
  · exact .inl rfl
theorem ceilD_one (n : Nat) : ceilD n 1 = n := by unfold ceilD; omega
theorem shr_one {f : Nat → Nat → Int} {n m y x : Nat} (hf : f y x = 0 ∨ f y x = 1) (hy : y < n) (hx : x < m) : shrF f n m 1 y x = f y x := by
  have e1 : within n (y * 1) 1 = 1 := by unfold within; omega
  have e2 : within m (x * 1) 1 = 1 := by unfold within; omega
  unfold shrF
  rw [e1, e2]
  simp only [Nat.mul_one]
  have e3 : bs f y 1 x 1 = f y x := by simp [bs, rs]
  rw [e3]
  rcases hf with h | h <;> rw [h] <;> rfl
theorem shrink_facts {P R : List (List Int)} {k : Nat} (h : ShrinkIs P (k : Int) R) (hne : R.length ≠ 0) :
    BlockOk P 24 24 1 ∧ (1 ≤ k ∧ k ≤ 6) ∧ BlockOk R 24 24 1 ∧ R.length = ceilD P.length k ∧ wdt R = ceilD (wdt P) k ∧ ShrinkIs P 1 P ∧ R = gridOf (ceilD P.length k) (ceilD (wdt P) k) (shrF (px P) P.length (wdt P) k) := by
  obtain ⟨⟨hb, hk1, hk2⟩, hR⟩ := h.some hne
  rw [Int.toNat_natCast] at hR
  have hd := hb.bd
  have hk : 1 ≤ k := by omega
  have l1 := ceilD_pos (n := P.length) hk hd.1
  have l2 := ceilD_pos (n := wdt P) hk hd.2.2.1
  have l3 := ceilD_le (n := P.length) hk
  have l4 := ceilD_le (n := wdt P) hk
  have hB2 : BlockOk R 24 24 1 := by
    rw [hR]
    exact grid_blockB (fun y x _ _ => shr_bin _ _ _ _ y x) l1 (by omega) l2 (by omega)
  refine ⟨hb, by omega, hB2, by rw [hR, gridOf_len], by rw [hR, wdt_grid _ l1], .inl ⟨⟨hb, by omega, by omega⟩, ?_⟩, hR⟩
  show P = gridOf (ceilD P.length (1 : Int).toNat) (ceilD (wdt P) (1 : Int).toNat) (shrF (px P) P.length (wdt P) (1 : Int).toNat)
  rw [show (1 : Int).toNat = 1 from rfl, ceilD_one, ceilD_one]
  conv => lhs; rw [← hb.self]
  exact gridOf_congr fun y x hy hx => (shr_one (hb.bin y x) hy hx).symm
end Go.Proofs.Ytmmgeplhaooknaa
