
/- Small pictures of full and of inverted ones. -/
import Derived.Test.YtmmgeplhaooknaaJk
import Derived.Test.YtmmgeplhaooknaaIf
namespace Go.Proofs.Ytmmgeplhaooknaa
open Go.RowKit

theorem within_pos {n Y k : Nat} (hk : 1 ≤ k) (h : Y * k < n) : 1 ≤ within n (Y * k) k := by unfold within; omega
theorem within_in {n Y k i : Nat} (hi : i < within n (Y * k) k) : Y * k + i < n := by unfold within at hi; omega
theorem shr_congr {f g : Nat → Nat → Int} {n m k y x : Nat} (e : ∀ y x, y < n → x < m → f y x = g y x) : shrF f n m k y x = shrF g n m k y x := by
  unfold shrF
  rw [bs_congr (g := g) fun i j hi hj => e _ _ (within_in hi) (within_in hj)]
theorem shr_flat {n m k y x : Nat} (hk : 1 ≤ k) (hy : y * k < n) (hx : x * k < m) : shrF (fun _ _ => 0) n m k y x = 0 := by
  unfold shrF
  rw [bs_const]
  have h1 := within_pos hk hy
  have h2 := within_pos hk hx
  have h3 : 1 * 1 ≤ within n (y * k) k * within m (x * k) k := Nat.mul_le_mul h1 h2
  rw [if_neg]
  simp only [Int.mul_zero]
  omega
theorem shr_full {n m k y x : Nat} : shrF (fun _ _ => 1) n m k y x = 1 := by
  unfold shrF
  rw [bs_const, if_pos]
  rw [Int.mul_one, Int.natCast_mul]
  have : 0 ≤ ((within n (y * k) k : Nat) : Int) * ((within m (x * k) k : Nat) : Int) := Int.mul_nonneg (by omega) (by omega)
  omega
structure FlatFx (n m k : Nat) (Z O SZ SO : List (List Int)) : Prop where
  z : Z = gridOf n m fun _ _ => 0
  okZ : BlockOk Z 24 24 1
  inv : InvertIs Z O
  sz : ShrinkIs Z k SZ
  so : ShrinkIs O k SO
  okSZ : BlockOk SZ 24 24 1
  okSO : BlockOk SO 24 24 1
  none : rai SZ = 0
  all : rai SO = ceilD n k * ceilD m k
theorem flat_facts {n m k : Nat} (hn : 1 ≤ n ∧ n ≤ 24) (hm : 1 ≤ m ∧ m ≤ 24) (hk : 1 ≤ k ∧ k ≤ 6) : ∃ Z O SZ SO, FlatFx n m k Z O SZ SO := by
  have l1 := ceilD_pos (n := n) hk.1 hn.1
  have l2 := ceilD_pos (n := m) hk.1 hm.1
  have l3 := ceilD_le (n := n) hk.1
  have l4 := ceilD_le (n := m) hk.1
  have hb0 : Bin (fun _ _ => 0) n m := fun _ _ _ _ => .inl rfl
  have hb1 : Bin (fun _ _ => 1) n m := fun _ _ _ _ => .inr rfl
  have hZ : BlockOk (gridOf n m fun _ _ => 0) 24 24 1 := grid_blockB hb0 hn.1 hn.2 hm.1 hm.2
  have hO : BlockOk (gridOf n m fun _ _ => 1) 24 24 1 := grid_blockB hb1 hn.1 hn.2 hm.1 hm.2
  have wZ := wdt_grid (w := m) (fun _ _ => (0 : Int)) hn.1
  have wO := wdt_grid (w := m) (fun _ _ => (1 : Int)) hn.1
  have s0 : Bin (fun _ _ => (0 : Int)) (ceilD n k) (ceilD m k) := fun _ _ _ _ => .inl rfl
  have s1 : Bin (fun _ _ => (1 : Int)) (ceilD n k) (ceilD m k) := fun _ _ _ _ => .inr rfl
  refine ⟨_, gridOf n m fun _ _ => 1, gridOf (ceilD n k) (ceilD m k) fun _ _ => 0, gridOf (ceilD n k) (ceilD m k) fun _ _ => 1, rfl, hZ, .inl ⟨hZ, ?_⟩, .inl ⟨⟨hZ, by omega, by omega⟩, ?_⟩, .inl ⟨⟨hO, by omega, by omega⟩, ?_⟩, grid_blockB s0 l1 (by omega) l2 (by omega), grid_blockB s1 l1 (by omega) l2 (by omega), ?_, ?_⟩
  · rw [gridOf_len, wZ]
    exact gridOf_congr fun y x hy hx => by rw [px_grid, if_pos ⟨hy, hx⟩]; rfl
  · rw [gridOf_len, wZ, Int.toNat_natCast]
    refine gridOf_congr fun y x hy hx => ?_
    rw [shr_congr (g := fun _ _ => 0) (fun y x hy hx => by rw [px_grid, if_pos ⟨hy, hx⟩]), shr_flat hk.1 ((ceilD_lt hk.1).1 hy) ((ceilD_lt hk.1).1 hx)]
  · rw [gridOf_len, wO, Int.toNat_natCast]
    refine gridOf_congr fun y x hy hx => ?_
    rw [shr_congr (g := fun _ _ => 1) (fun y x hy hx => by rw [px_grid, if_pos ⟨hy, hx⟩]), shr_full]
  · have := rai_grid s0 l1 (by omega) l2 (by omega)
    rw [bs_const, Int.mul_zero, Int.mul_zero] at this
    omega
  · have := rai_grid s1 l1 (by omega) l2 (by omega)
    rw [bs_const, Int.mul_one] at this
    exact_mod_cast this
/-- a square of the inverted picture -/
theorem shr_inv {f : Nat → Nat → Int} {n m k y x A : Nat} (hA : within n (y * k) k * within m (x * k) k = A) :
    shrF f n m k y x + shrF (fun y x => 1 - f y x) n m k y x ≠ 0 ∧ (shrF f n m k y x + shrF (fun y x => 1 - f y x) n m k y x = 2 → A % 2 = 0) := by
  obtain ⟨s, hs⟩ : ∃ s, bs f (y * k) (within n (y * k) k) (x * k) (within m (x * k) k) = s := ⟨_, rfl⟩
  have e : bs (fun y x => 1 - f y x) (y * k) (within n (y * k) k) (x * k) (within m (x * k) k) = A - s := by
    have h1 := bs_add (fun y x => 1 - f y x) f (y * k) (within n (y * k) k) (x * k) (within m (x * k) k)
    have h2 : bs (fun y x => (1 - f y x) + f y x) (y * k) (within n (y * k) k) (x * k) (within m (x * k) k) = (within n (y * k) k : Nat) * ((within m (x * k) k : Nat) * 1) := by
      rw [← bs_const 1]
      exact bs_congr fun i j _ _ => by omega
    rw [h2, Int.mul_one, hs, ← Int.natCast_mul, hA] at h1
    omega
  unfold shrF
  rw [e, hs, hA]
  by_cases c1 : (A : Int) ≤ 2 * s
  · rw [if_pos c1]
    by_cases c2 : (A : Int) ≤ 2 * (A - s)
    · rw [if_pos c2]; omega
    · rw [if_neg c2]; omega
  · rw [if_neg c1]
    by_cases c2 : (A : Int) ≤ 2 * (A - s)
    · rw [if_pos c2]; omega
    · omega
end Go.Proofs.Ytmmgeplhaooknaa
