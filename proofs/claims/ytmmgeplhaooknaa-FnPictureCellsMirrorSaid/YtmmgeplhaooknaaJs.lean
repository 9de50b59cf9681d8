
/- Pictures and their cells: what the laws say of them. -/
import Derived.Test.YtmmgeplhaooknaaJh
import Derived.Test.YtmmgeplhaooknaaIl
import Derived.Test.YtmmgeplhaooknaaIq
import Derived.Test.YtmmgeplhaooknaaIr
namespace Go.Proofs.Ytmmgeplhaooknaa
open Go.RowKit

theorem cp_pc {f : Nat → Nat → Int} (hf : ∀ y x, f y x = 0 ∨ f y x = 1) (y x : Nat) : cpF (pcF f) y x = f y x := by
  obtain ⟨i, hi⟩ : ∃ i, y / 3 = i := ⟨_, rfl⟩
  obtain ⟨k, hk⟩ : ∃ k, x / 2 = k := ⟨_, rfl⟩
  have h1 := hf (3 * i) (2 * k); have h2 := hf (3 * i + 1) (2 * k); have h3 := hf (3 * i + 2) (2 * k)
  have h4 := hf (3 * i) (2 * k + 1); have h5 := hf (3 * i + 1) (2 * k + 1); have h6 := hf (3 * i + 2) (2 * k + 1)
  have h3' : y % 3 = 0 ∨ y % 3 = 1 ∨ y % 3 = 2 := by omega
  have h2' : x % 2 = 0 ∨ x % 2 = 1 := by omega
  unfold cpF spotOf
  rw [hi, hk]
  unfold pcF
  generalize e1 : f (3 * i) (2 * k) = v1 at *
  generalize e2 : f (3 * i + 1) (2 * k) = v2 at *
  generalize e3 : f (3 * i + 2) (2 * k) = v3 at *
  generalize e4 : f (3 * i) (2 * k + 1) = v4 at *
  generalize e5 : f (3 * i + 1) (2 * k + 1) = v5 at *
  generalize e6 : f (3 * i + 2) (2 * k + 1) = v6 at *
  rcases h3' with a | a | a <;> rcases h2' with b | b <;> rw [a, b]
  · rw [show y = 3 * i by omega, show x = 2 * k by omega, e1]; simp only [Nat.mul_zero, Nat.add_zero, Nat.pow_zero]; omega
  · rw [show y = 3 * i by omega, show x = 2 * k + 1 by omega, e4]; simp only [Nat.mul_one, Nat.zero_add]; omega
  · rw [show y = 3 * i + 1 by omega, show x = 2 * k by omega, e2]; simp only [Nat.mul_zero, Nat.add_zero]; omega
  · rw [show y = 3 * i + 1 by omega, show x = 2 * k + 1 by omega, e5]; simp only [Nat.mul_one]; omega
  · rw [show y = 3 * i + 2 by omega, show x = 2 * k by omega, e3]; simp only [Nat.mul_zero, Nat.add_zero]; omega
  · rw [show y = 3 * i + 2 by omega, show x = 2 * k + 1 by omega, e6]; simp only [Nat.mul_one]; omega
theorem pc_cp {c : Nat → Nat → Int} {i k : Nat} (h : 0 ≤ c i k ∧ c i k ≤ 63) : pcF (cpF c) i k = c i k := by
  have a0 := cp_at c i 0 k (by omega)
  have a1 := cp_at c i 1 k (by omega)
  have a2 := cp_at c i 2 k (by omega)
  unfold pcF
  rw [Nat.add_zero] at a0
  rw [a0.1, a0.2, a1.1, a1.2, a2.1, a2.2]
  generalize c i k = v at *
  obtain ⟨n, rfl⟩ : ∃ n : Nat, v = n := ⟨v.toNat, by omega⟩
  rw [Int.toNat_natCast]
  simp only [Nat.zero_add]
  omega
theorem bs_more {f : Nat → Nat → Int} {n m n' m' : Nat} (h1 : n ≤ n') (h2 : m ≤ m') (hy : ∀ y x, n ≤ y → f y x = 0) (hx : ∀ y x, m ≤ x → f y x = 0) : bs f 0 n' 0 m' = bs f 0 n 0 m := by
  have key : ∀ (g : Nat → Int) (a d : Nat), (∀ i, a ≤ i → g i = 0) → rs g 0 (a + d) = rs g 0 a := by
    intro g a d hg
    induction d with
    | zero => rfl
    | succ d ih => show rs g 0 (a + d) + g (0 + (a + d)) = _; rw [ih, hg _ (by omega)]; omega
  obtain ⟨d, rfl⟩ : ∃ d, n' = n + d := ⟨n' - n, by omega⟩
  obtain ⟨e, rfl⟩ : ∃ e, m' = m + e := ⟨m' - m, by omega⟩
  unfold bs
  rw [key _ n d (fun i hi => rs_zero _ _ _ fun j _ => hy i _ hi)]
  exact rs_congr fun i _ => key _ m e fun j hj => hx _ j hj
structure PcFx (P R : List (List Int)) : Prop where
  ok : BlockOk P 24 24 1
  okR : BlockOk R 8 12 63
  len : R.length = ceilD P.length 3
  wd : wdt R = ceilD (wdt P) 2
  grid : R = gridOf (ceilD P.length 3) (ceilD (wdt P) 2) (pcF (px P))
  at' : ∀ i k, i < R.length → k < wdt R → px R i k = pcF (px P) i k
theorem pc_facts {P R : List (List Int)} (h : PicCellsIs P R) (hne : R.length ≠ 0) : PcFx P R := by
  obtain ⟨hb, hR⟩ := h.some hne
  have hd := hb.bd
  have l1 := ceilD_pos (n := P.length) (k := 3) (by omega) hd.1
  have l2 := ceilD_pos (n := wdt P) (k := 2) (by omega) hd.2.2.1
  have l3 : ceilD P.length 3 ≤ 8 := by unfold ceilD; omega
  have l4 : ceilD (wdt P) 2 ≤ 12 := by unfold ceilD; omega
  refine ⟨hb, ?_, by rw [hR, gridOf_len], by rw [hR, wdt_grid _ l1], hR, fun i k hi hk => ?_⟩
  · rw [hR]
    exact grid_block (fun y x _ _ => pc_bd (fun y x => hb.bin y x) y x) l1 l3 l2 l4
  · rw [hR, gridOf_len] at hi
    rw [hR, wdt_grid _ l1] at hk
    conv => lhs; rw [hR]
    rw [px_grid, if_pos ⟨hi, hk⟩]
structure BackFx (P R B : List (List Int)) : Prop where
  is : CellsPicIs R B
  ok : BlockOk B 24 24 1
  len : B.length = R.length * 3
  wd : wdt B = wdt R * 2
  n1 : P.length ≤ B.length
  n2 : B.length ≤ P.length + 2
  m1 : wdt P ≤ wdt B
  m2 : wdt B ≤ wdt P + 1
  row : ∀ y, y < P.length → (B.getD y []).take (wdt P) = P.getD y []
  same : rai B = rai P
theorem back_facts {P R : List (List Int)} (h : PcFx P R) : ∃ B, BackFx P R B := by
  have hd := h.ok.bd
  have hdR := h.okR.bd
  have hl := h.len
  have hw := h.wd
  have e1 : P.length ≤ R.length * 3 ∧ R.length * 3 ≤ P.length + 2 := by rw [hl]; unfold ceilD; omega
  have e2 : wdt P ≤ wdt R * 2 ∧ wdt R * 2 ≤ wdt P + 1 := by rw [hw]; unfold ceilD; omega
  have hcp : ∀ y x, y < R.length * 3 → x < wdt R * 2 → cpF (px R) y x = px P y x := fun y x hy hx => by
    rw [← cp_pc (fun y x => h.ok.bin y x) y x]
    unfold cpF
    rw [h.at' (y / 3) (x / 2) (by omega) (by omega)]
  have hBin : Bin (cpF (px R)) (R.length * 3) (wdt R * 2) := fun y x hy hx => by rw [hcp y x hy hx]; exact h.ok.bin y x
  have hlB : (gridOf (R.length * 3) (wdt R * 2) (cpF (px R))).length = R.length * 3 := gridOf_len _ _ _
  have hwB : wdt (gridOf (R.length * 3) (wdt R * 2) (cpF (px R))) = wdt R * 2 := wdt_grid _ (by omega)
  refine ⟨_, .inl ⟨h.okR, rfl⟩, grid_blockB hBin (by omega) (by omega) (by omega) (by omega), hlB, hwB, by rw [hlB]; exact e1.1, by rw [hlB]; exact e1.2, by rw [hwB]; exact e2.1, by rw [hwB]; exact e2.2, fun y hy => ?_, ?_⟩
  · rw [gridOf_row _ (by omega)]
    have hw2 := (h.ok.2.2 y hy).1
    apply List.ext_getElem
    · rw [List.length_take, rowOf_len, hw2]; unfold wdt at e2 ⊢; omega
    · intro j h3 h4
      rw [List.length_take, rowOf_len] at h3
      have hj : j < wdt P := by omega
      have e3 : (P.getD y [])[j] = px P y j := by
        show _ = (P.getD y []).getD j 0
        rw [List.getD_eq_getElem?_getD (l := P.getD y []), List.getElem?_eq_getElem h4]; rfl
      rw [e3, List.getElem_take]
      have e4 := rowOf_get (w := wdt R * 2) (x := j) (cpF (px R) y) (by omega)
      rw [List.getD_eq_getElem?_getD, List.getElem?_eq_getElem (by rw [rowOf_len]; omega), Option.getD_some] at e4
      rw [e4, hcp y j (by omega) (by omega)]
  · have r1 := rai_grid hBin (by omega) (by omega) (by omega) (by omega)
    have r2 := rai_bs h.ok
    have r3 : bs (cpF (px R)) 0 (R.length * 3) 0 (wdt R * 2) = bs (px P) 0 (R.length * 3) 0 (wdt R * 2) := bs_congr fun i j hi hj => hcp _ _ (by omega) (by omega)
    rw [bs_more (f := px P) e1.1 e2.1 (fun y x hy => px_out h.ok.2.2 (.inl hy)) (fun y x hx => px_out h.ok.2.2 (.inr hx))] at r3
    omega
/-- cells become pictures and cells again -/
theorem cells_back {L R : List (List Int)} (h : CellsPicIs L R) (hne : R.length ≠ 0) : BlockOk L 8 12 63 ∧ BlockOk R 24 24 1 ∧ PicCellsIs R L := by
  obtain ⟨hb, hR⟩ := h.some hne
  have hd := hb.bd
  have hBin : Bin (cpF (px L)) (L.length * 3) (wdt L * 2) := fun y x _ _ => by
    unfold cpF; omega
  have hB2 : BlockOk R 24 24 1 := by rw [hR]; exact grid_blockB hBin (by omega) (by omega) (by omega) (by omega)
  refine ⟨hb, hB2, .inl ⟨hB2, ?_⟩⟩
  have hl : R.length = L.length * 3 := by rw [hR, gridOf_len]
  have hw : wdt R = wdt L * 2 := by rw [hR, wdt_grid _ (by omega)]
  rw [hl, hw, show ceilD (L.length * 3) 3 = L.length by unfold ceilD; omega, show ceilD (wdt L * 2) 2 = wdt L by unfold ceilD; omega]
  conv => lhs; rw [← hb.self]
  refine gridOf_congr fun i k hi hk => ?_
  have hv := (hb.2.2 i hi).2 k hk
  rw [← pc_cp hv]
  have e : ∀ y x, y < L.length * 3 → x < wdt L * 2 → px R y x = cpF (px L) y x := fun y x hy hx => by
    conv => lhs; rw [hR]
    rw [px_grid, if_pos ⟨hy, hx⟩]
  unfold pcF
  rw [e _ _ (by omega) (by omega), e _ _ (by omega) (by omega), e _ _ (by omega) (by omega), e _ _ (by omega) (by omega), e _ _ (by omega) (by omega), e _ _ (by omega) (by omega)]
end Go.Proofs.Ytmmgeplhaooknaa
