
/- Thin pictures: what they keep. Pure. -/
import Derived.Test.YthpbpdnlnmldeaaIp
namespace Go.Proofs.Ythpbpdnlnmldeaa

theorem rs_swap (g : Nat → Nat → Int) (h : Nat) : ∀ h2, rs (fun y => rs (g y) 0 h) 0 h2 = rs (fun i => rs (fun y => g y i) 0 h2) 0 h := by
  intro h2
  induction h2 with
  | zero =>
    rw [show rs (fun y => rs (g y) 0 h) 0 0 = 0 from rfl]
    exact (rs_zero _ _ _ fun i _ => rfl).symm
  | succ k ih =>
    show rs (fun y => rs (g y) 0 h) 0 k + rs (g (0 + k)) 0 h = _
    rw [ih]
    have : rs (fun i => rs (fun y => g y i) 0 (k + 1)) 0 h = rs (fun i => rs (fun y => g y i) 0 k + g (0 + k) i) 0 h := rs_congr fun i _ => rfl
    rw [this]
    have h2 : ∀ (a b : Nat → Int) (n : Nat), rs (fun i => a i + b i) 0 n = rs a 0 n + rs b 0 n := by
      intro a b n
      induction n with
      | zero => simp [rs]
      | succ n ih => simp only [rs]; rw [ih]; omega
    rw [h2]
theorem rs_mono {f g : Nat → Int} {a : Nat} : ∀ {n : Nat}, (∀ i, i < n → f (a + i) ≤ g (a + i)) → rs f a n ≤ rs g a n := by
  intro n
  induction n with
  | zero => intro _; simp [rs]
  | succ n ih => intro h; simp only [rs]; have := ih fun i hi => h i (by omega); have := h n (by omega); omega
theorem rs_mul (c : Int) (f : Nat → Int) (a : Nat) : ∀ n, rs (fun i => c * f i) a n = c * rs f a n := by
  intro n
  induction n with
  | zero => simp [rs]
  | succ n ih => simp only [rs]; rw [ih, Int.mul_add]
/-- a part of a sum -/
theorem rs_part (f : Nat → Int) (l c : Nat) : ∀ h, l + c ≤ h → rs (fun i => if l ≤ i ∧ i < l + c then f i else 0) 0 h = rs f l c := by
  intro h
  induction h with
  | zero =>
    intro hh
    obtain rfl : l = 0 := by omega
    obtain rfl : c = 0 := by omega
    rfl
  | succ h ih =>
    intro hh
    show rs _ 0 h + (if l ≤ 0 + h ∧ 0 + h < l + c then f (0 + h) else 0) = _
    rw [Nat.zero_add]
    by_cases e : l + c ≤ h
    · rw [ih e, if_neg (by omega)]; omega
    · by_cases hc : c = 0
      · subst hc
        rw [if_neg (by omega), rs_zero _ _ _ (fun i _ => by rw [if_neg (by omega)])]; rfl
      · obtain ⟨d, rfl⟩ : ∃ d, c = d + 1 := ⟨c - 1, by omega⟩
        have e2 : h = l + d := by omega
        rw [if_pos (by omega)]
        show _ = rs f l d + f (l + d)
        rw [← e2]
        have : rs (fun i => if l ≤ i ∧ i < l + (d + 1) then f i else 0) 0 h = rs (fun i => if l ≤ i ∧ i < l + d then f i else 0) 0 h := rs_congr fun i hi => by
          show (if l ≤ 0 + i ∧ 0 + i < l + (d + 1) then f (0 + i) else 0) = (if l ≤ 0 + i ∧ 0 + i < l + d then f (0 + i) else 0)
          by_cases hx : l ≤ 0 + i ∧ 0 + i < l + d
          · rw [if_pos hx, if_pos (by omega)]
          · rw [if_neg hx, if_neg (by omega)]
        rw [this]
        have key : ∀ h, h = l + d → rs (fun i => if l ≤ i ∧ i < l + d then f i else 0) 0 h = rs f l d := by
          intro h hh
          have := rs_part_aux f l d h hh
          exact this
        rw [key h e2]
where
  rs_part_aux (f : Nat → Int) (l : Nat) : ∀ d h, h = l + d → rs (fun i => if l ≤ i ∧ i < l + d then f i else 0) 0 h = rs f l d := by
    intro d
    induction d with
    | zero =>
      intro h _
      rw [rs_zero _ _ _ (fun i _ => by rw [if_neg (by omega)])]; rfl
    | succ d ih =>
      intro h hh
      obtain ⟨k, rfl⟩ : ∃ k, h = k + 1 := ⟨h - 1, by omega⟩
      show rs _ 0 k + (if l ≤ 0 + k ∧ 0 + k < l + (d + 1) then f (0 + k) else 0) = rs f l d + f (l + d)
      rw [if_pos (by omega), Nat.zero_add, show k = l + d by omega]
      have : rs (fun i => if l ≤ i ∧ i < l + (d + 1) then f i else 0) 0 (l + d) = rs (fun i => if l ≤ i ∧ i < l + d then f i else 0) 0 (l + d) := rs_congr fun i hi => by
        show (if l ≤ 0 + i ∧ 0 + i < l + (d + 1) then f (0 + i) else 0) = (if l ≤ 0 + i ∧ 0 + i < l + d then f (0 + i) else 0)
        by_cases hx : l ≤ 0 + i ∧ 0 + i < l + d
        · rw [if_pos hx, if_pos (by omega)]
        · rw [if_neg hx, if_neg (by omega)]
      rw [this, ih (l + d) rfl]
theorem near_cnt (i F : Nat) (hF : 1 ≤ F) (c : Int) (hc : 0 ≤ c) : ∀ h, rs (fun y => if lo y F ≤ i ∧ i < lo y F + cn y F h then c else 0) 0 h ≤ (2 * F - 1) * c := by
  intro h
  have h1 : rs (fun y => if lo y F ≤ i ∧ i < lo y F + cn y F h then c else 0) 0 h ≤ rs (fun y => if lo i F ≤ y ∧ y < lo i F + cn i F h then c else 0) 0 h := rs_mono fun y hy => by
    show (if lo (0 + y) F ≤ i ∧ i < lo (0 + y) F + cn (0 + y) F h then c else 0) ≤ (if lo i F ≤ 0 + y ∧ 0 + y < lo i F + cn i F h then c else 0)
    by_cases e : lo (0 + y) F ≤ i ∧ i < lo (0 + y) F + cn (0 + y) F h
    · rw [if_pos e, if_pos (by unfold cn lo at *; omega)]; omega
    · rw [if_neg e]; split <;> omega
  by_cases hle : lo i F + cn i F h ≤ h
  · rw [rs_part _ _ _ _ hle] at h1
    have h2 : rs (fun _ => c) (lo i F) (cn i F h) = cn i F h * c := by
      generalize cn i F h = n
      induction n with
      | zero => simp [rs]
      | succ n ih => simp only [rs]; rw [ih, Int.natCast_add, Int.add_mul]; simp
    rw [h2] at h1
    have h3 : ((cn i F h : Nat) : Int) ≤ 2 * F - 1 := by unfold cn lo; omega
    have h4 := Int.mul_le_mul_of_nonneg_right h3 hc
    omega
  · have hz : cn i F h = 0 := by unfold cn lo at *; omega
    have h2 : rs (fun y => if lo i F ≤ y ∧ y < lo i F + cn i F h then c else 0) 0 h = 0 := rs_zero _ _ _ fun y _ => by rw [hz, if_neg (by omega)]
    rw [h2] at h1
    have : 0 ≤ (2 * (F : Int) - 1) * c := Int.mul_nonneg (by omega) hc
    omega
/-- windows of one line -/
theorem win1_le (f : Nat → Int) (F h : Nat) (hF : 1 ≤ F) (hf : ∀ i, 0 ≤ f i) : rs (fun y => rs f (lo y F) (cn y F h)) 0 h ≤ (2 * F - 1) * rs f 0 h := by
  have e : rs (fun y => rs f (lo y F) (cn y F h)) 0 h = rs (fun y => rs (fun i => if lo y F ≤ i ∧ i < lo y F + cn y F h then f i else 0) 0 h) 0 h := rs_congr fun y hy => by
    show rs f (lo (0 + y) F) (cn (0 + y) F h) = rs (fun i => if lo (0 + y) F ≤ i ∧ i < lo (0 + y) F + cn (0 + y) F h then f i else 0) 0 h
    rw [rs_part _ _ _ _ (by unfold cn lo; omega)]
  rw [e, rs_swap, ← rs_mul]
  exact rs_mono fun i _ => near_cnt (0 + i) F hF (f (0 + i)) (hf _) h
theorem rs_nonneg {f : Nat → Int} (hf : ∀ i, 0 ≤ f i) (a : Nat) : ∀ n, 0 ≤ rs f a n := by
  intro n
  induction n with
  | zero => simp [rs]
  | succ n ih => simp only [rs]; have := hf (a + n); omega
/-- all windows together -/
theorem win_all (T : Nat → Nat → Int) (n m F : Nat) (hF : 1 ≤ F) (hT : ∀ y x, 0 ≤ T y x) : bs (fun y x => win T n m y x F) 0 n 0 m ≤ (2 * F - 1) * ((2 * F - 1) * bs T 0 n 0 m) := by
  have e : bs (fun y x => win T n m y x F) 0 n 0 m = rs (fun x => rs (fun y => rs (fun i => rs (T i) (lo x F) (cn x F m)) (lo y F) (cn y F n)) 0 n) 0 m := by
    unfold bs win
    exact rs_swap _ _ _
  rw [e]
  have h1 : rs (fun x => rs (fun y => rs (fun i => rs (T i) (lo x F) (cn x F m)) (lo y F) (cn y F n)) 0 n) 0 m ≤ rs (fun x => (2 * F - 1) * rs (fun i => rs (T i) (lo x F) (cn x F m)) 0 n) 0 m :=
    rs_mono fun x _ => win1_le _ F n hF fun i => rs_nonneg (hT i) _ _
  have h1b : rs (fun x => rs (fun i => rs (T i) (lo x F) (cn x F m)) 0 n) 0 m = rs (fun i => rs (fun x => rs (T i) (lo x F) (cn x F m)) 0 m) 0 n := rs_swap (fun x i => rs (T i) (lo x F) (cn x F m)) n m
  rw [rs_mul, h1b] at h1
  have h2 : rs (fun i => rs (fun x => rs (T i) (lo x F) (cn x F m)) 0 m) 0 n ≤ rs (fun i => (2 * F - 1) * rs (T i) 0 m) 0 n := rs_mono fun i _ => win1_le _ F m hF (hT _)
  rw [rs_mul] at h2
  have h3 := Int.mul_le_mul_of_nonneg_left h2 (by omega : 0 ≤ 2 * (F : Int) - 1)
  show _ ≤ (2 * (F : Int) - 1) * ((2 * F - 1) * rs (fun i => rs (T i) 0 m) 0 n)
  omega
theorem bs_mono {f g : Nat → Nat → Int} {y0 ny x0 nx : Nat} (h : ∀ i j, i < ny → j < nx → f (y0 + i) (x0 + j) ≤ g (y0 + i) (x0 + j)) : bs f y0 ny x0 nx ≤ bs g y0 ny x0 nx :=
  rs_mono fun i hi => rs_mono fun j hj => h i j hi hj
theorem bs_zero_iff {f : Nat → Nat → Int} {n m : Nat} (hf : Bin f n m) : bs f 0 n 0 m = 0 ↔ ∀ y x, y < n → x < m → f y x = 0 := by
  have h := bs_pos (f := f) (y0 := 0) (ny := n) (x0 := 0) (nx := m) (fun i j hi hj => by have := hf (0 + i) (0 + j) (by omega) (by omega); omega)
  have h2 := bs_bd (f := f) (y0 := 0) (ny := n) (x0 := 0) (nx := m) (fun i j hi hj => by have := hf (0 + i) (0 + j) (by omega) (by omega); omega)
  constructor
  · intro e y x hy hx
    rcases hf y x hy hx with h3 | h3
    · exact h3
    · have := h.2 ⟨y, x, hy, hx, by rw [Nat.zero_add, Nat.zero_add, h3]; omega⟩
      omega
  · intro e
    by_cases hp : 0 < bs f 0 n 0 m
    · obtain ⟨i, j, hi, hj, h3⟩ := h.1 hp
      have := e (0 + i) (0 + j) (by omega) (by omega)
      omega
    · omega

/-! the thin picture -/
noncomputable def thE (f : Nat → Nat → Int) (n m F : Nat) : Nat → Nat → Int := thAll f n m F n
def Before (y x k q : Nat) : Prop := y < k ∨ (y = k ∧ x < q)
structure ThInv (f T : Nat → Nat → Int) (n m F k q : Nat) : Prop where
  sub : ∀ y x, T y x = 1 → f y x = 1 ∧ Before y x k q
  apart : ∀ y x, y < n → x < m → T y x = 1 → ¬ NearP T n m y x F
  full : ∀ y x, y < n → x < m → Before y x k q → f y x = 1 → T y x = 1 ∨ NearP T n m y x F
  same : (∀ y x, y < n → x < m → f y x = 1 → ¬ NearP f n m y x F) → ∀ y x, y < n → x < m → f y x = 1 → Before y x k q → T y x = 1
theorem near_mono {f g : Nat → Nat → Int} {n m y x F : Nat} (h : ∀ i j, i < n → j < m → f i j = 1 → g i j = 1) (hn : NearP f n m y x F) : NearP g n m y x F := by
  obtain ⟨i, j, hi, hj, h1, h2, h3, h4⟩ := hn
  exact ⟨i, j, hi, hj, h1, h2, h i j hi hj h3, h4⟩
theorem ThInv.step {f T : Nat → Nat → Int} {n m F k q : Nat} (h : ThInv f T n m F k q) (hk : k < n) (hq : q < m) : ThInv f (thStep f n m F T k q) n m F k (q + 1) := by
  have hb : ∀ {y x}, Before y x k q → Before y x k (q + 1) := fun h => by unfold Before at *; omega
  have hb2 : ∀ {y x}, Before y x k (q + 1) → (y = k ∧ x = q) ∨ Before y x k q := fun h => by unfold Before at *; omega
  by_cases hyes : f k q = 1 ∧ ¬ NearP T n m k q F
  · rw [thStep_yes hyes.1 hyes.2]
    have hu : ∀ y x, upd T k q 1 y x = if y = k ∧ x = q then 1 else T y x := fun _ _ => rfl
    have hle : ∀ i j, i < n → j < m → T i j = 1 → upd T k q 1 i j = 1 := fun i j _ _ e => by rw [hu]; split; rfl; exact e
    have hself : ∀ {y x}, NearP (upd T k q 1) n m y x F → (y = k ∧ x = q → NearP T n m k q F) := by
      rintro y x ⟨i, j, hi, hj, h1, h2, h3, h4⟩ ⟨rfl, rfl⟩
      rw [hu, if_neg (by omega)] at h3
      exact ⟨i, j, hi, hj, h1, h2, h3, h4⟩
    refine ⟨fun y x e => ?_, fun y x hy hx e hn => ?_, fun y x hy hx hbf e => ?_, fun hap y x hy hx e hbf => ?_⟩
    · rw [hu] at e
      by_cases c : y = k ∧ x = q
      · obtain ⟨rfl, rfl⟩ := c; exact ⟨hyes.1, by unfold Before; omega⟩
      · rw [if_neg c] at e; exact ⟨(h.sub y x e).1, hb (h.sub y x e).2⟩
    · by_cases c : y = k ∧ x = q
      · exact hyes.2 (hself hn c)
      · rw [hu, if_neg c] at e
        obtain ⟨i, j, hi, hj, h1, h2, h3, h4⟩ := hn
        rw [hu] at h3
        by_cases d : i = k ∧ j = q
        · obtain ⟨rfl, rfl⟩ := d
          exact hyes.2 ⟨y, x, hy, hx, by omega, by omega, e, by omega⟩
        · rw [if_neg d] at h3
          exact h.apart y x hy hx e ⟨i, j, hi, hj, h1, h2, h3, h4⟩
    · rcases hb2 hbf with ⟨rfl, rfl⟩ | hbf
      · exact .inl (by rw [hu, if_pos ⟨rfl, rfl⟩])
      · rcases h.full y x hy hx hbf e with h5 | h5
        · exact .inl (hle y x hy hx h5)
        · exact .inr (near_mono hle h5)
    · rcases hb2 hbf with ⟨rfl, rfl⟩ | hbf
      · rw [hu, if_pos ⟨rfl, rfl⟩]
      · exact hle y x hy hx (h.same hap y x hy hx e hbf)
  · have hno : f k q ≠ 1 ∨ NearP T n m k q F := by
      by_cases c : f k q = 1
      · exact .inr (Classical.byContradiction fun d => hyes ⟨c, d⟩)
      · exact .inl c
    rw [thStep_no hno]
    refine ⟨fun y x e => ⟨(h.sub y x e).1, hb (h.sub y x e).2⟩, h.apart, fun y x hy hx hbf e => ?_, fun hap y x hy hx e hbf => ?_⟩
    · rcases hb2 hbf with ⟨rfl, rfl⟩ | hbf
      · rcases hno with c | c
        · exact absurd e c
        · exact .inr c
      · exact h.full y x hy hx hbf e
    · rcases hb2 hbf with ⟨rfl, rfl⟩ | hbf
      · rcases hno with c | c
        · exact absurd e c
        · exact absurd (near_mono (fun i j _ _ e => (h.sub i j e).1) c) (hap y x hy hx e)
      · exact h.same hap y x hy hx e hbf
theorem ThInv.row {f T : Nat → Nat → Int} {n m F k : Nat} (h : ThInv f T n m F k 0) (hk : k < n) : ∀ q, q ≤ m → ThInv f (thRow f n m F T k q) n m F k q := by
  intro q
  induction q with
  | zero => intro _; exact h
  | succ q ih => intro hq; exact (ih (by omega)).step hk (by omega)
theorem ThInv.next {f T : Nat → Nat → Int} {n m F k : Nat} (h : ThInv f T n m F k m) : ThInv f T n m F (k + 1) 0 :=
  ⟨fun y x e => ⟨(h.sub y x e).1, by have := (h.sub y x e).2; unfold Before at *; omega⟩, h.apart, fun y x hy hx hbf e => h.full y x hy hx (by unfold Before at *; omega) e, fun hap y x hy hx e hbf => h.same hap y x hy hx e (by unfold Before at *; omega)⟩
theorem th_inv (f : Nat → Nat → Int) (n m F : Nat) : ∀ k, k ≤ n → ThInv f (thAll f n m F k) n m F k 0 := by
  intro k
  induction k with
  | zero =>
    intro _
    exact ⟨fun y x e => absurd (show (0 : Int) = 1 from e) (by decide), fun y x _ _ e => absurd (show (0 : Int) = 1 from e) (by decide), fun y x _ _ hbf => absurd hbf (by unfold Before; omega), fun _ y x _ _ _ hbf => absurd hbf (by unfold Before; omega)⟩
  | succ k ih => intro hk; exact ((ih (by omega)).row (by omega) m (Nat.le_refl _)).next
theorem thE_inv (f : Nat → Nat → Int) (n m F : Nat) : ThInv f (thE f n m F) n m F n 0 := th_inv f n m F n (Nat.le_refl _)
theorem thE_bin (f : Nat → Nat → Int) (n m F : Nat) (y x : Nat) : thE f n m F y x = 0 ∨ thE f n m F y x = 1 := thAll_bin f n m F n y x
theorem thE_le {f : Nat → Nat → Int} {n m F : Nat} (y x : Nat) (hf : f y x = 0 ∨ f y x = 1) : thE f n m F y x ≤ f y x := by
  rcases thE_bin f n m F y x with h | h
  · omega
  · have := ((thE_inv f n m F).sub y x h).1; omega
theorem thE_same {f : Nat → Nat → Int} {n m F : Nat} (hf : Bin f n m) (hap : ∀ y x, y < n → x < m → f y x = 1 → ¬ NearP f n m y x F) {y x : Nat} (hy : y < n) (hx : x < m) : thE f n m F y x = f y x := by
  have h1 := thE_le (n := n) (m := m) (F := F) y x (hf y x hy hx)
  rcases hf y x hy hx with h | h
  · have := thE_bin f n m F y x; omega
  · have := (thE_inv f n m F).same hap y x hy hx h (by unfold Before; omega); omega
theorem thE_full {f : Nat → Nat → Int} {n m F : Nat} {y x : Nat} (hy : y < n) (hx : x < m) (h : f y x = 1) (hF : 1 ≤ F) : 0 < win (thE f n m F) n m y x F := by
  rw [win_pos (fun i j _ _ => thE_bin f n m F i j)]
  rcases (thE_inv f n m F).full y x hy hx (by unfold Before; omega) h with h1 | ⟨i, j, hi, hj, h1, h2, h3, _⟩
  · exact ⟨y, x, hy, hx, by omega, by omega, h1⟩
  · exact ⟨i, j, hi, hj, h1, h2, h3⟩
theorem near_one {f : Nat → Nat → Int} {n m y x : Nat} : ¬ NearP f n m y x 1 := by
  rintro ⟨i, j, _, _, h1, h2, _, h3⟩
  omega
theorem near_less {f : Nat → Nat → Int} {n m y x F F' : Nat} (hF : F' ≤ F) (h : NearP f n m y x F') : NearP f n m y x F := by
  obtain ⟨i, j, hi, hj, h1, h2, h3, h4⟩ := h
  exact ⟨i, j, hi, hj, by omega, by omega, h3, h4⟩
/-- each dot has a dot of the thin picture near -/
theorem thE_many {f : Nat → Nat → Int} {n m F : Nat} (hf : Bin f n m) (hF : 1 ≤ F) : bs f 0 n 0 m ≤ (2 * F - 1) * ((2 * F - 1) * bs (thE f n m F) 0 n 0 m) := by
  have h1 := win_all (thE f n m F) n m F hF (fun y x => by have := thE_bin f n m F y x; omega)
  have h2 : bs f 0 n 0 m ≤ bs (fun y x => win (thE f n m F) n m y x F) 0 n 0 m := bs_mono fun i j hi hj => by
    have hi' : 0 + i < n := by omega
    have hj' : 0 + j < m := by omega
    show f (0 + i) (0 + j) ≤ win (thE f n m F) n m (0 + i) (0 + j) F
    have hb := win_bd (y := 0 + i) (x := 0 + j) (far := F) (fun i j _ _ => thE_bin f n m F i j : Bin (thE f n m F) n m)
    rcases hf _ _ hi' hj' with h | h
    · omega
    · have := thE_full hi' hj' h hF; omega
  omega
theorem grow_bin (f : Nat → Nat → Int) (n m : Nat) (y x : Nat) : growF f n m y x = 0 ∨ growF f n m y x = 1 := by
  unfold growF
  split
  · exact .inr rfl
  · exact .inl rfl
theorem grow_ge {f : Nat → Nat → Int} {n m y x : Nat} (hf : f y x = 0 ∨ f y x = 1) : f y x ≤ growF f n m y x := by
  rcases hf with h | h
  · have := grow_bin f n m y x; omega
  · rw [grow_yes (.inl h)]; omega
theorem grow_nine {f : Nat → Nat → Int} {n m : Nat} (hf : Bin f n m) (hf0 : ∀ y x, 0 ≤ f y x) : bs (growF f n m) 0 n 0 m ≤ 9 * bs f 0 n 0 m := by
  have h1 := win_all f n m 2 (by omega) hf0
  have h2 : bs (growF f n m) 0 n 0 m ≤ bs (fun y x => win f n m y x 2) 0 n 0 m := bs_mono fun i j hi hj => by
    have hi' : 0 + i < n := by omega
    have hj' : 0 + j < m := by omega
    show growF f n m (0 + i) (0 + j) ≤ win f n m (0 + i) (0 + j) 2
    rw [grow_win hf hi' hj']
    have hb := win_bd (y := 0 + i) (x := 0 + j) (far := 2) hf
    split <;> omega
  omega
theorem grow_none {f : Nat → Nat → Int} {n m : Nat} (hf : Bin f n m) : (∀ y x, y < n → x < m → growF f n m y x = 0) ↔ ∀ y x, y < n → x < m → f y x = 0 := by
  constructor
  · intro h y x hy hx
    have h1 := h y x hy hx
    have h2 := grow_ge (n := n) (m := m) (hf y x hy hx)
    have h3 := hf y x hy hx
    omega
  · intro h y x hy hx
    refine grow_no ?_
    rintro (e | ⟨i, j, hi, hj, _, _, e, _⟩)
    · have := h y x hy hx; omega
    · have := h i j hi hj; omega
end Go.Proofs.Ythpbpdnlnmldeaa
