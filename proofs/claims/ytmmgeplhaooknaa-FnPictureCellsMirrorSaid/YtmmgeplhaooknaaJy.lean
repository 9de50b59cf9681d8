
/- Cells of pictures: their dots, and those of the inverted picture. -/
import Derived.Test.YtmmgeplhaooknaaJs
import Derived.Test.YtmmgeplhaooknaaIf
import Derived.Test.YtmmgeplhaooknaaDotsO
namespace Go.Proofs.Ytmmgeplhaooknaa
open Go.RowKit

theorem nb_bits : ∀ c : Nat, c < 64 → (dotsL c).length = c % 2 + c / 2 % 2 + c / 4 % 2 + c / 8 % 2 + c / 16 % 2 + c / 32 % 2 := by decide +kernel
/-- how many dots a cell has -/
def nbF (f : Nat → Nat → Int) : Nat → Nat → Int := fun i k => f (3 * i) (2 * k) + f (3 * i) (2 * k + 1) + (f (3 * i + 1) (2 * k) + f (3 * i + 1) (2 * k + 1)) + (f (3 * i + 2) (2 * k) + f (3 * i + 2) (2 * k + 1))
theorem nb_pc {f : Nat → Nat → Int} (hf : ∀ y x, f y x = 0 ∨ f y x = 1) (i k : Nat) : (((dotsL (pcF f i k).toNat).length : Nat) : Int) = nbF f i k := by
  have hb := pc_bd hf i k
  rw [nb_bits _ (by omega)]
  have h1 := hf (3 * i) (2 * k); have h2 := hf (3 * i + 1) (2 * k); have h3 := hf (3 * i + 2) (2 * k)
  have h4 := hf (3 * i) (2 * k + 1); have h5 := hf (3 * i + 1) (2 * k + 1); have h6 := hf (3 * i + 2) (2 * k + 1)
  unfold pcF nbF
  generalize f (3 * i) (2 * k) = v1 at *
  generalize f (3 * i + 1) (2 * k) = v2 at *
  generalize f (3 * i + 2) (2 * k) = v3 at *
  generalize f (3 * i) (2 * k + 1) = v4 at *
  generalize f (3 * i + 1) (2 * k + 1) = v5 at *
  generalize f (3 * i + 2) (2 * k + 1) = v6 at *
  omega
theorem rs_three (g : Nat → Int) : ∀ h, rs g 0 (h * 3) = rs (fun i => g (3 * i) + g (3 * i + 1) + g (3 * i + 2)) 0 h := by
  intro h
  induction h with
  | zero => rfl
  | succ h ih =>
    have e : (h + 1) * 3 = h * 3 + 1 + 1 + 1 := by omega
    rw [e]
    simp only [rs]
    rw [ih, show 0 + h * 3 = 3 * h by omega, show 0 + (h * 3 + 1) = 3 * h + 1 by omega, show 0 + (h * 3 + 1 + 1) = 3 * h + 2 by omega, Nat.zero_add]
    omega
theorem rs_two (g : Nat → Int) : ∀ h, rs g 0 (h * 2) = rs (fun i => g (2 * i) + g (2 * i + 1)) 0 h := by
  intro h
  induction h with
  | zero => rfl
  | succ h ih =>
    have e : (h + 1) * 2 = h * 2 + 1 + 1 := by omega
    rw [e]
    simp only [rs]
    rw [ih, show 0 + h * 2 = 2 * h by omega, show 0 + (h * 2 + 1) = 2 * h + 1 by omega, Nat.zero_add]
    omega
theorem nb_all (f : Nat → Nat → Int) (h h2 : Nat) : bs (nbF f) 0 h 0 h2 = bs f 0 (h * 3) 0 (h2 * 2) := by
  unfold bs
  rw [rs_three]
  refine rs_congr fun i _ => ?_
  rw [rs_two, rs_two, rs_two, ← rs_add, ← rs_add, Nat.zero_add]
  exact rs_congr fun k _ => rfl
theorem nb_sum {P R : List (List Int)} (h : PcFx P R) : bs (nbF (px P)) 0 R.length 0 (wdt R) = rai P := by
  have hd := h.ok.bd
  have hl := h.len
  have hw := h.wd
  have e1 : P.length ≤ R.length * 3 := by rw [hl]; unfold ceilD; omega
  have e2 : wdt P ≤ wdt R * 2 := by rw [hw]; unfold ceilD; omega
  rw [nb_all, bs_more (f := px P) e1 e2 (fun y x hy => px_out h.ok.2.2 (.inl hy)) (fun y x hx => px_out h.ok.2.2 (.inr hx)), rai_bs h.ok]
/-- the cells of the inverted picture -/
theorem pc_invert {P R I Q : List (List Int)} (h : PcFx P R) (hi : InvertIs P I) (hq : PicCellsIs I Q) (h3 : P.length % 3 = 0) (h2 : wdt P % 2 = 0) :
    Q.length = R.length ∧ wdt Q = wdt R ∧ BlockOk Q 8 12 63 ∧ ∀ i k, i < R.length → k < wdt R → px R i k + px Q i k = 63 := by
  have hd := h.ok.bd
  have hI := hi.yes h.ok
  have hne : I.length ≠ 0 := by rw [hI, gridOf_len]; omega
  obtain ⟨_, hIok, hIl, hIw, _, _⟩ := invert_back hi hne
  have hQ := hq.yes hIok
  have hQne : Q.length ≠ 0 := by rw [hQ, gridOf_len]; have := ceilD_pos (n := I.length) (k := 3) (by omega) (by omega); omega
  have hx := pc_facts hq hQne
  refine ⟨by rw [hx.len, hIl, h.len], by rw [hx.wd, hIw, h.wd], hx.okR, fun i k hi' hk' => ?_⟩
  rw [h.at' i k hi' hk', hx.at' i k (by rw [hx.len, hIl, ← h.len]; exact hi') (by rw [hx.wd, hIw, ← h.wd]; exact hk')]
  have e3 : ceilD P.length 3 * 3 = P.length := by unfold ceilD; omega
  have e2 : ceilD (wdt P) 2 * 2 = wdt P := by unfold ceilD; omega
  rw [h.len] at hi'
  rw [h.wd] at hk'
  have e : ∀ y x, y < P.length → x < wdt P → px I y x = 1 - px P y x := fun y x hy hx => by
    conv => lhs; rw [hI]
    rw [px_grid, if_pos ⟨hy, hx⟩]
  unfold pcF
  rw [e _ _ (by omega) (by omega), e _ _ (by omega) (by omega), e _ _ (by omega) (by omega), e _ _ (by omega) (by omega), e _ _ (by omega) (by omega), e _ _ (by omega) (by omega)]
  omega
end Go.Proofs.Ytmmgeplhaooknaa
