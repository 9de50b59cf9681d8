
/- What thin and grown pictures are like. -/
import Derived.Test.YthpbpdnlnmldeaaJh
import Derived.Test.YthpbpdnlnmldeaaJm
import Derived.Test.YthpbpdnlnmldeaaJb
import Derived.Test.YthpbpdnlnmldeaaIv
import Derived.Test.YthpbpdnlnmldeaaIw
namespace Go.Proofs.Ythpbpdnlnmldeaa
open Go.RowKit

theorem px_of_grid {h w : Nat} {f : Nat → Nat → Int} {L : List (List Int)} (e : L = gridOf h w f) {y x : Nat} (hy : y < h) (hx : x < w) : px L y x = f y x := by
  rw [e, px_grid, if_pos ⟨hy, hx⟩]
theorem apart_grid {f g : Nat → Nat → Int} {n m F : Nat} (e : ∀ y x, y < n → x < m → f y x = g y x) (h : ApartF g n m F) : ApartF f n m F := fun y x hy hx h1 hn =>
  h y x hy hx (by rw [← e y x hy hx]; exact h1) (near_mono (fun i j hi hj h2 => by rw [← e i j hi hj]; exact h2) hn)
theorem near_congr {f g : Nat → Nat → Int} {n m : Nat} (e : ∀ y x, y < n → x < m → f y x = g y x) {y x F : Nat} : NearP f n m y x F ↔ NearP g n m y x F :=
  ⟨near_mono fun i j hi hj h => by rw [← e i j hi hj]; exact h, near_mono fun i j hi hj h => by rw [e i j hi hj]; exact h⟩
structure ThinFx (P R : List (List Int)) (F : Nat) : Prop where
  ok : BlockOk P 24 24 1
  far : 1 ≤ F ∧ F ≤ 24
  okR : BlockOk R 24 24 1
  len : R.length = P.length
  wd : wdt R = wdt P
  grid : R = gridOf P.length (wdt P) (thE (px P) P.length (wdt P) F)
  le : ∀ y x, y < P.length → x < wdt P → px R y x ≤ px P y x
  apart : ApartOk R F
  same : ApartOk P F → R = P
  twice : ThinIs R F R
  one : ThinIs P 1 P
  many : (rai P : Int) ≤ (2 * F - 1) * ((2 * F - 1) * rai R)
  few : rai R ≤ rai P
theorem thin_eq {L : List (List Int)} {F : Nat} (hb : BlockOk L 24 24 1) (hF : 1 ≤ F ∧ F ≤ 24) (hap : ApartF (px L) L.length (wdt L) F) : ThinIs L F L := by
  refine .inl ⟨⟨hb, by omega, by omega⟩, ?_⟩
  rw [Int.toNat_natCast]
  conv => lhs; rw [← hb.self]
  exact gridOf_congr fun y x hy hx => (thE_same (fun y x _ _ => hb.bin y x) hap hy hx).symm
theorem thin_facts {P R : List (List Int)} {F : Nat} (h : ThinIs P (F : Int) R) (hne : R.length ≠ 0) : ThinFx P R F := by
  obtain ⟨⟨hb, hk1, hk2⟩, hR⟩ := h.some hne
  rw [Int.toNat_natCast] at hR
  have hd := hb.bd
  have hF : 1 ≤ F ∧ F ≤ 24 := by omega
  have hbT : Bin (thE (px P) P.length (wdt P) F) P.length (wdt P) := fun y x _ _ => thE_bin _ _ _ _ y x
  have hB2 : BlockOk R 24 24 1 := by rw [hR]; exact grid_blockB hbT hd.1 hd.2.1 hd.2.2.1 hd.2.2.2
  have hl : R.length = P.length := by rw [hR, gridOf_len]
  have hw : wdt R = wdt P := by rw [hR, wdt_grid _ hd.1]
  have hpx : ∀ y x, y < P.length → x < wdt P → px R y x = thE (px P) P.length (wdt P) F y x := fun y x hy hx => px_of_grid hR hy hx
  have hapT : ApartF (px R) P.length (wdt P) F := apart_grid hpx fun y x hy hx h1 => (thE_inv _ _ _ _).apart y x hy hx h1
  have hapR : ApartOk R F := ⟨⟨hB2, by omega, by omega⟩, by rw [hl, hw, Int.toNat_natCast]; exact hapT⟩
  have hr1 := rai_bs hb
  have hr2 : ((rai R : Nat) : Int) = bs (thE (px P) P.length (wdt P) F) 0 P.length 0 (wdt P) := by
    have := rai_grid hbT hd.1 hd.2.1 hd.2.2.1 hd.2.2.2
    rw [← this]
    exact congrArg (fun L => ((rai L : Nat) : Int)) hR
  refine ⟨hb, hF, hB2, hl, hw, hR, fun y x hy hx => by rw [hpx y x hy hx]; exact thE_le y x (hb.bin y x), hapR, fun hap => ?_, ?_, ?_, ?_, ?_⟩
  · have h2 := hap.2
    rw [Int.toNat_natCast] at h2
    rw [hR]
    conv => rhs; rw [← hb.self]
    exact gridOf_congr fun y x hy hx => thE_same (fun y x _ _ => hb.bin y x) h2 hy hx
  · exact thin_eq hB2 hF (by rw [hl, hw]; exact hapT)
  · exact thin_eq (F := 1) hb (by omega) fun y x _ _ _ => near_one
  · rw [hr1, hr2]; exact thE_many (fun y x _ _ => hb.bin y x) hF.1
  · have : ((rai R : Nat) : Int) ≤ ((rai P : Nat) : Int) := by
      rw [hr1, hr2]
      exact bs_mono fun i j _ _ => thE_le _ _ (hb.bin _ _)
    omega
structure GrowFx (P R : List (List Int)) : Prop where
  ok : BlockOk P 24 24 1
  okR : BlockOk R 24 24 1
  len : R.length = P.length
  wd : wdt R = wdt P
  ge : ∀ y x, y < P.length → x < wdt P → px P y x ≤ px R y x
  none : rai R = 0 ↔ rai P = 0
  nine : rai R ≤ 9 * rai P
theorem grow_facts {P R : List (List Int)} (h : GrowIs P R) (hne : R.length ≠ 0) : GrowFx P R := by
  obtain ⟨hb, hR⟩ := h.some hne
  have hd := hb.bd
  have hbG : Bin (growF (px P) P.length (wdt P)) P.length (wdt P) := fun y x _ _ => grow_bin _ _ _ y x
  have hbP : Bin (px P) P.length (wdt P) := fun y x _ _ => hb.bin y x
  have hB2 : BlockOk R 24 24 1 := by rw [hR]; exact grid_blockB hbG hd.1 hd.2.1 hd.2.2.1 hd.2.2.2
  have hr1 := rai_bs hb
  have hr2 : ((rai R : Nat) : Int) = bs (growF (px P) P.length (wdt P)) 0 P.length 0 (wdt P) := by
    have := rai_grid hbG hd.1 hd.2.1 hd.2.2.1 hd.2.2.2
    rw [← this]
    exact congrArg (fun L => ((rai L : Nat) : Int)) hR
  refine ⟨hb, hB2, by rw [hR, gridOf_len], by rw [hR, wdt_grid _ hd.1], fun y x hy hx => ?_, ?_, ?_⟩
  · rw [px_of_grid hR hy hx]; exact grow_ge (hb.bin y x)
  · have h1 := bs_zero_iff hbG
    have h2 := bs_zero_iff hbP
    rw [← hr2] at h1
    rw [← hr1] at h2
    have h3 := (grow_none hbP)
    constructor
    · intro e
      have := h2.2 (h3.1 (h1.1 (by omega))); omega
    · intro e
      have := h1.2 (h3.2 (h2.1 (by omega))); omega
  · have := grow_nine hbP (fun y x => by have := hb.bin y x; omega)
    rw [← hr1, ← hr2] at this
    omega
theorem apart_less {P : List (List Int)} {F k : Nat} (h : ApartOk P F) (h1 : 1 ≤ k) (h2 : k ≤ F) : ApartOk P k := by
  have hk := h.1.2
  refine ⟨⟨h.1.1, by omega, by omega⟩, ?_⟩
  have h3 := h.2
  rw [Int.toNat_natCast] at h3 ⊢
  exact fun y x hy hx e hn => h3 y x hy hx e (near_less h2 hn)
end Go.Proofs.Ythpbpdnlnmldeaa
