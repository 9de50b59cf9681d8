
/- Raised dots as sums. -/
import Derived.Test.YthpbpdnlnmldeaaJg
namespace Go.Proofs.Ythpbpdnlnmldeaa
open Go.RowKit

theorem cnt_rs {zs : List Int} : ∀ {k : Nat}, (∀ j, j < k → zs.getD j 0 = 0 ∨ zs.getD j 0 = 1) → ((cntTo zs 1 k : Nat) : Int) = rs (fun j => zs.getD j 0) 0 k := by
  intro k
  induction k with
  | zero => intro _; rfl
  | succ k ih =>
    intro h
    have h1 := ih fun j hj => h j (by omega)
    have h2 := h k (by omega)
    simp only [cntTo, rs, Nat.zero_add]
    rcases h2 with h2 | h2
    · rw [if_neg (by omega), h1, h2]; omega
    · rw [if_pos h2, h2, ← h1]; omega
theorem raiTo_bs {L : List (List Int)} {m : Nat} {M : Int} (hr : RowsTo L m M L.length) (hb : ∀ y x, px L y x = 0 ∨ px L y x = 1) : ∀ {k : Nat}, k ≤ L.length → ((raiTo L k : Nat) : Int) = bs (px L) 0 k 0 m := by
  intro k
  induction k with
  | zero => intro _; rfl
  | succ k ih =>
    intro hk
    have h1 := ih (by omega)
    have h2 := (hr k (by omega)).1
    have h3 := cnt_rs (zs := L.getD k []) (k := (L.getD k []).length) (fun j _ => hb k j)
    simp only [raiTo, bs_succ, Nat.zero_add]
    rw [Int.natCast_add, h1, h3, h2]
    rfl
theorem rai_bs {L : List (List Int)} (h : BlockOk L 24 24 1) : ((rai L : Nat) : Int) = bs (px L) 0 L.length 0 (wdt L) :=
  raiTo_bs h.2.2 (fun y x => h.bin y x) (Nat.le_refl _)
theorem px_grid (h w : Nat) (f : Nat → Nat → Int) (y x : Nat) : px (gridOf h w f) y x = if y < h ∧ x < w then f y x else 0 := by
  by_cases hy : y < h
  · by_cases hx : x < w
    · rw [if_pos ⟨hy, hx⟩, gridOf_px f hy hx]
    · rw [if_neg (fun e => hx e.2)]
      unfold px
      rw [gridOf_row f hy, List.getD_eq_getElem?_getD, List.getElem?_eq_none (by rw [rowOf_len]; omega)]; rfl
  · rw [if_neg (fun e => hy e.1)]
    unfold px
    rw [List.getD_eq_getElem?_getD (l := gridOf h w f), List.getElem?_eq_none (by rw [gridOf_len]; omega)]; rfl
theorem wdt_grid {h w : Nat} (f : Nat → Nat → Int) (hh : 1 ≤ h) : wdt (gridOf h w f) = w := by unfold wdt; rw [gridOf_row f (by omega), rowOf_len]
theorem grid_blockB {h w : Nat} {f : Nat → Nat → Int} (hf : Bin f h w) (h1 : 1 ≤ h) (h2 : h ≤ 24) (w1 : 1 ≤ w) (w2 : w ≤ 24) : BlockOk (gridOf h w f) 24 24 1 :=
  grid_block (fun y x hy hx => by have := hf y x hy hx; omega) h1 h2 w1 w2
theorem rai_grid {h w : Nat} {f : Nat → Nat → Int} (hf : Bin f h w) (h1 : 1 ≤ h) (h2 : h ≤ 24) (w1 : 1 ≤ w) (w2 : w ≤ 24) : ((rai (gridOf h w f) : Nat) : Int) = bs f 0 h 0 w := by
  rw [rai_bs (grid_blockB hf h1 h2 w1 w2), gridOf_len, wdt_grid f h1]
  exact bs_congr fun i j hi hj => by rw [Nat.zero_add, Nat.zero_add, px_grid, if_pos ⟨hi, hj⟩]
theorem rs_add (f g : Nat → Int) (a : Nat) : ∀ n, rs (fun i => f i + g i) a n = rs f a n + rs g a n := by
  intro n
  induction n with
  | zero => simp [rs]
  | succ n ih => simp only [rs]; rw [ih]; omega
theorem rs_const (c : Int) (a : Nat) : ∀ n : Nat, rs (fun _ => c) a n = n * c := by
  intro n
  induction n with
  | zero => simp [rs]
  | succ n ih => simp only [rs]; rw [ih, Int.natCast_add, Int.add_mul]; simp
theorem bs_add (f g : Nat → Nat → Int) (y0 ny x0 nx : Nat) : bs (fun y x => f y x + g y x) y0 ny x0 nx = bs f y0 ny x0 nx + bs g y0 ny x0 nx := by
  unfold bs
  rw [← rs_add]
  exact rs_congr fun i _ => rs_add _ _ _ _
theorem bs_const (c : Int) (y0 ny x0 nx : Nat) : bs (fun _ _ => c) y0 ny x0 nx = ny * (nx * c) := by
  unfold bs
  rw [show (fun _ : Nat => rs (fun _ => c) x0 nx) = fun _ => (nx : Int) * c from funext fun _ => rs_const c x0 nx, rs_const]
theorem BlockOk.lens {L : List (List Int)} {H W : Nat} {M : Int} (h : BlockOk L H W M) (hW : W ≤ 1000) : ∀ i, (L.getD i []).length ≤ 1000 := fun i => by
  by_cases hi : i < L.length
  · rw [(h.2.2 i hi).1]; have := h.2.1; omega
  · rw [List.getD_eq_getElem?_getD, List.getElem?_eq_none (by omega)]; simp
theorem rai_nil : rai [] = 0 := rfl
theorem BlockOk.self {L : List (List Int)} {H W : Nat} {M : Int} (h : BlockOk L H W M) : gridOf L.length (wdt L) (px L) = L := grid_self h.2.2
/-- an answer that is not empty was asked of what holds -/
theorem AnsIs.some {P : Prop} {A R : List (List Int)} (h : AnsIs P A R) (hne : R.length ≠ 0) : P ∧ R = A := by
  rcases h with h | ⟨_, h⟩
  · exact h
  · exact absurd (by rw [h]; rfl) hne
/-- what Invert makes of its own answer -/
theorem invert_back {L R : List (List Int)} (h : InvertIs L R) (hne : R.length ≠ 0) : BlockOk L 24 24 1 ∧ BlockOk R 24 24 1 ∧ R.length = L.length ∧ wdt R = wdt L ∧ InvertIs R L ∧ rai R + rai L = L.length * wdt L := by
  obtain ⟨hb, hR⟩ := h.some hne
  have hd := hb.bd
  have hbin : Bin (fun y x => 1 - px L y x) L.length (wdt L) := fun y x _ _ => by have := hb.bin y x; show 1 - px L y x = 0 ∨ 1 - px L y x = 1; omega
  have hB2 : BlockOk R 24 24 1 := by rw [hR]; exact grid_blockB hbin hd.1 hd.2.1 hd.2.2.1 hd.2.2.2
  have hl : R.length = L.length := by rw [hR, gridOf_len]
  have hw : wdt R = wdt L := by rw [hR, wdt_grid _ hd.1]
  refine ⟨hb, hB2, hl, hw, .inl ⟨hB2, ?_⟩, ?_⟩
  · rw [hl, hw]
    conv => lhs; rw [← hb.self]
    refine gridOf_congr fun y x hy hx => ?_
    rw [hR, px_grid, if_pos ⟨hy, hx⟩]; omega
  · have e1 := rai_grid hbin hd.1 hd.2.1 hd.2.2.1 hd.2.2.2
    have e2 := rai_bs hb
    rw [← hR] at e1
    have e3 : bs (fun y x => (1 - px L y x) + px L y x) 0 L.length 0 (wdt L) = L.length * ((wdt L : Int) * 1) := by
      rw [← bs_const 1 0 L.length 0 (wdt L)]
      exact bs_congr fun i j _ _ => by omega
    rw [bs_add, ← e1, ← e2, Int.mul_one] at e3
    exact_mod_cast e3
end Go.Proofs.Ythpbpdnlnmldeaa
