
/- Pictures: rows of the same length, sums over rectangles, dots that are near. Pure. -/
namespace Go.Proofs.Ytfgnckafpnobhaa

/-- the number in row y and column x, 0 outside -/
def px (L : List (List Int)) (y x : Nat) : Int := (L.getD y []).getD x 0
/-- the first k rows have w numbers in 0..M -/
def RowsTo (L : List (List Int)) (w : Nat) (M : Int) (k : Nat) : Prop := ∀ i, i < k → (L.getD i []).length = w ∧ ∀ j, j < w → 0 ≤ px L i j ∧ px L i j ≤ M
theorem RowsTo.zero (L : List (List Int)) (w : Nat) (M : Int) : RowsTo L w M 0 := fun i h => absurd h (by omega)
/-- one row is as it has to be -/
def RowOk (zs : List Int) (w : Nat) (M : Int) : Prop := zs.length = w ∧ ∀ j, j < w → 0 ≤ zs.getD j 0 ∧ zs.getD j 0 ≤ M
theorem RowsTo.succ {L : List (List Int)} {w k : Nat} {M : Int} (h : RowsTo L w M k) (e : RowOk (L.getD k []) w M) : RowsTo L w M (k + 1) := fun i hi => by
  by_cases hik : i = k
  · subst hik; exact e
  · exact h i (by omega)
/-- 1..H rows of the same length in 1..W, of numbers in 0..M -/
def BlockOk (L : List (List Int)) (H W : Nat) (M : Int) : Prop :=
  (1 ≤ L.length ∧ L.length ≤ H) ∧ (1 ≤ (L.getD 0 []).length ∧ (L.getD 0 []).length ≤ W) ∧ RowsTo L (L.getD 0 []).length M L.length
/-- numbers in 0..M, of the first k -/
def InTo (zs : List Int) (M : Int) (k : Nat) : Prop := ∀ j, j < k → 0 ≤ zs.getD j 0 ∧ zs.getD j 0 ≤ M
theorem InTo.zero (zs : List Int) (M : Int) : InTo zs M 0 := fun i h => absurd h (by omega)
theorem InTo.succ {zs : List Int} {k : Nat} {M : Int} (h : InTo zs M k) (e : 0 ≤ zs.getD k 0 ∧ zs.getD k 0 ≤ M) : InTo zs M (k + 1) := fun i hi => by
  by_cases hik : i = k
  · subst hik; exact e
  · exact h i (by omega)

/-- the row of w numbers f 0, f 1 .. -/
def rowOf (w : Nat) (f : Nat → Int) : List Int := (List.range w).map f
theorem rowOf_len (w : Nat) (f : Nat → Int) : (rowOf w f).length = w := by simp [rowOf]
theorem rowOf_get {w x : Nat} (f : Nat → Int) (h : x < w) : (rowOf w f).getD x 0 = f x := by
  simp [rowOf, List.getD_eq_getElem?_getD, h]
theorem rowOf_succ (w : Nat) (f : Nat → Int) : rowOf (w + 1) f = rowOf w f ++ [f w] := by simp [rowOf, List.range_succ]
theorem rowOf_congr {w : Nat} {f g : Nat → Int} (h : ∀ x, x < w → f x = g x) : rowOf w f = rowOf w g := by
  unfold rowOf
  exact List.map_congr_left fun x hx => h x (List.mem_range.1 hx)
theorem rowOf_set {w x : Nat} (f : Nat → Int) (z : Int) : (rowOf w f).set x z = rowOf w (fun j => if j = x then z else f j) := by
  apply List.ext_getElem
  · simp [rowOf]
  · intro i h1 h2
    simp [rowOf, List.getElem_set]
    by_cases e : x = i
    · subst e; simp
    · simp [e, show ¬ i = x from fun h => e h.symm]
/-- the rows of f -/
def gridOf (h w : Nat) (f : Nat → Nat → Int) : List (List Int) := (List.range h).map fun y => rowOf w (f y)
theorem gridOf_len (h w : Nat) (f : Nat → Nat → Int) : (gridOf h w f).length = h := by simp [gridOf]
theorem gridOf_row {h w y : Nat} (f : Nat → Nat → Int) (hy : y < h) : (gridOf h w f).getD y [] = rowOf w (f y) := by
  simp [gridOf, List.getD_eq_getElem?_getD, hy]
theorem gridOf_px {h w y x : Nat} (f : Nat → Nat → Int) (hy : y < h) (hx : x < w) : px (gridOf h w f) y x = f y x := by
  rw [px, gridOf_row f hy, rowOf_get _ hx]
theorem gridOf_succ (h w : Nat) (f : Nat → Nat → Int) : gridOf (h + 1) w f = gridOf h w f ++ [rowOf w (f h)] := by simp [gridOf, List.range_succ]
theorem gridOf_congr {h w : Nat} {f g : Nat → Nat → Int} (e : ∀ y x, y < h → x < w → f y x = g y x) : gridOf h w f = gridOf h w g := by
  unfold gridOf
  exact List.map_congr_left fun y hy => rowOf_congr fun x hx => e y x (List.mem_range.1 hy) hx
def upd (f : Nat → Nat → Int) (y x : Nat) (z : Int) : Nat → Nat → Int := fun i j => if i = y ∧ j = x then z else f i j
theorem gridOf_set {h w y x : Nat} (f : Nat → Nat → Int) (z : Int) (hy : y < h) : (gridOf h w f).set y (((gridOf h w f).getD y []).set x z) = gridOf h w (upd f y x z) := by
  rw [gridOf_row f hy, rowOf_set]
  apply List.ext_getElem
  · simp [gridOf]
  · intro i h1 h2
    simp [gridOf, List.getElem_set]
    by_cases e : y = i
    · subst e
      simp
      exact rowOf_congr fun j _ => by simp [upd]
    · simp only [e, if_false]
      have e' : ¬ i = y := fun h => e h.symm
      unfold upd
      simp [e']
theorem grid_self {L : List (List Int)} {w : Nat} {M : Int} (h : RowsTo L w M L.length) : gridOf L.length w (px L) = L := by
  apply List.ext_getElem
  · simp [gridOf]
  · intro i h1 h2
    have hw := (h i h2).1
    simp only [gridOf, List.getElem_map, List.getElem_range]
    rw [List.getD_eq_getElem?_getD, List.getElem?_eq_getElem h2, Option.getD_some] at hw
    apply List.ext_getElem
    · simp [rowOf, hw]
    · intro j h3 h4
      simp [rowOf, px, List.getD_eq_getElem?_getD, h2, h4]
theorem px_out {L : List (List Int)} {w : Nat} {M : Int} (h : RowsTo L w M L.length) {y x : Nat} (o : L.length ≤ y ∨ w ≤ x) : px L y x = 0 := by
  unfold px
  by_cases hy : y < L.length
  · have hw := (h y hy).1
    rw [List.getD_eq_getElem?_getD (l := L.getD y []), List.getElem?_eq_none (by omega)]; rfl
  · rw [List.getD_eq_getElem?_getD (l := L), List.getElem?_eq_none (by omega)]; rfl
theorem grid_rows {h w : Nat} {f : Nat → Nat → Int} {M : Int} (hf : ∀ y x, y < h → x < w → 0 ≤ f y x ∧ f y x ≤ M) : RowsTo (gridOf h w f) w M h := fun i hi =>
  ⟨by rw [gridOf_row f hi, rowOf_len], fun j hj => by rw [gridOf_px f hi hj]; exact hf i j hi hj⟩
theorem grid_block {h w H W : Nat} {f : Nat → Nat → Int} {M : Int} (hf : ∀ y x, y < h → x < w → 0 ≤ f y x ∧ f y x ≤ M) (h1 : 1 ≤ h) (h2 : h ≤ H) (w1 : 1 ≤ w) (w2 : w ≤ W) : BlockOk (gridOf h w f) H W M := by
  have e : ((gridOf h w f).getD 0 []).length = w := by rw [gridOf_row f (by omega), rowOf_len]
  refine ⟨by rw [gridOf_len]; exact ⟨h1, h2⟩, by rw [e]; exact ⟨w1, w2⟩, ?_⟩
  rw [e, gridOf_len]
  exact grid_rows hf

/-! sums -/
def rs (f : Nat → Int) (a : Nat) : Nat → Int
  | 0 => 0
  | n + 1 => rs f a n + f (a + n)
theorem rs_congr {f g : Nat → Int} {a : Nat} : ∀ {n : Nat}, (∀ i, i < n → f (a + i) = g (a + i)) → rs f a n = rs g a n := by
  intro n
  induction n with
  | zero => intro _; rfl
  | succ n ih => intro h; simp only [rs]; rw [ih fun i hi => h i (by omega), h n (by omega)]
theorem rs_zero (f : Nat → Int) (a : Nat) : ∀ n, (∀ i, i < n → f (a + i) = 0) → rs f a n = 0 := by
  intro n
  induction n with
  | zero => intro _; rfl
  | succ n ih => intro h; simp only [rs]; rw [ih fun i hi => h i (by omega), h n (by omega)]; rfl
theorem rs_bd {f : Nat → Int} {a : Nat} {M : Int} : ∀ {n : Nat}, (∀ i, i < n → 0 ≤ f (a + i) ∧ f (a + i) ≤ M) → 0 ≤ rs f a n ∧ rs f a n ≤ n * M := by
  intro n
  induction n with
  | zero => intro _; simp [rs]
  | succ n ih =>
    intro h
    have h1 := ih fun i hi => h i (by omega)
    have h2 := h n (by omega)
    have e : ((n + 1 : Nat) : Int) * M = n * M + M := by rw [Int.natCast_add, Int.add_mul]; simp
    simp only [rs]; rw [e]; omega
theorem rs_pos {f : Nat → Int} {a : Nat} : ∀ {n : Nat}, (∀ i, i < n → 0 ≤ f (a + i)) → (0 < rs f a n ↔ ∃ i, i < n ∧ 0 < f (a + i)) := by
  intro n
  induction n with
  | zero => intro _; simp [rs]
  | succ n ih =>
    intro h
    have h1 := ih fun i hi => h i (by omega)
    have h2 := h n (by omega)
    have h3 : 0 ≤ rs f a n := by
      clear ih h1 h2
      induction n with
      | zero => simp [rs]
      | succ n ih => simp only [rs]; have := ih fun i hi => h i (by omega); have := h n (by omega); omega
    simp only [rs]
    constructor
    · intro h4
      by_cases h5 : 0 < f (a + n)
      · exact ⟨n, by omega, h5⟩
      · obtain ⟨i, hi, h6⟩ := h1.1 (by omega)
        exact ⟨i, by omega, h6⟩
    · rintro ⟨i, hi, h6⟩
      by_cases e : i = n
      · subst e; omega
      · have := h1.2 ⟨i, by omega, h6⟩; omega
theorem rs_cut {f : Nat → Int} {a : Nat} : ∀ {n k : Nat}, k < n → rs f a n = f (a + k) + rs (fun i => if i = a + k then 0 else f i) a n := by
  intro n
  induction n with
  | zero => intro k h; omega
  | succ n ih =>
    intro k h
    simp only [rs]
    by_cases e : k = n
    · subst e
      have : rs (fun i => if i = a + k then 0 else f i) a k = rs f a k := rs_congr fun i hi => by show (if a + i = a + k then 0 else f (a + i)) = _; rw [if_neg (by omega)]
      rw [this]
      simp; omega
    · rw [ih (k := k) (by omega)]
      simp [show ¬ (n = k) by omega]; omega
/-- the sum over a rectangle -/
def bs (f : Nat → Nat → Int) (y0 ny x0 nx : Nat) : Int := rs (fun y => rs (f y) x0 nx) y0 ny
theorem bs_congr {f g : Nat → Nat → Int} {y0 ny x0 nx : Nat} (h : ∀ i j, i < ny → j < nx → f (y0 + i) (x0 + j) = g (y0 + i) (x0 + j)) : bs f y0 ny x0 nx = bs g y0 ny x0 nx :=
  rs_congr fun i hi => rs_congr fun j hj => h i j hi hj
theorem bs_pos {f : Nat → Nat → Int} {y0 ny x0 nx : Nat} (h : ∀ i j, i < ny → j < nx → 0 ≤ f (y0 + i) (x0 + j)) : 0 < bs f y0 ny x0 nx ↔ ∃ i j, i < ny ∧ j < nx ∧ 0 < f (y0 + i) (x0 + j) := by
  unfold bs
  rw [rs_pos (fun i hi => ?_)]
  · constructor
    · rintro ⟨i, hi, h1⟩
      obtain ⟨j, hj, h2⟩ := (rs_pos (fun j hj => h i j hi hj)).1 h1
      exact ⟨i, j, hi, hj, h2⟩
    · rintro ⟨i, j, hi, hj, h2⟩
      exact ⟨i, hi, (rs_pos (fun j hj => h i j hi hj)).2 ⟨j, hj, h2⟩⟩
  · have : ∀ n, n ≤ nx → 0 ≤ rs (f (y0 + i)) x0 n := by
      intro n
      induction n with
      | zero => intro _; simp [rs]
      | succ n ih => intro hn; simp only [rs]; have := ih (by omega); have := h i n hi (by omega); omega
    exact this nx (Nat.le_refl _)
theorem bs_bd {f : Nat → Nat → Int} {y0 ny x0 nx : Nat} (h : ∀ i j, i < ny → j < nx → 0 ≤ f (y0 + i) (x0 + j) ∧ f (y0 + i) (x0 + j) ≤ 1) : 0 ≤ bs f y0 ny x0 nx ∧ bs f y0 ny x0 nx ≤ ny * nx :=
  rs_bd fun i hi => by
    have := rs_bd (M := 1) (fun j hj => h i j hi hj)
    omega
theorem bs_cut {f : Nat → Nat → Int} {y0 ny x0 nx k l : Nat} (hk : k < ny) (hl : l < nx) : bs f y0 ny x0 nx = f (y0 + k) (x0 + l) + bs (upd f (y0 + k) (x0 + l) 0) y0 ny x0 nx := by
  unfold bs
  rw [rs_cut hk, rs_cut (f := f (y0 + k)) hl]
  rw [rs_cut (f := fun y => rs (upd f (y0 + k) (x0 + l) 0 y) x0 nx) hk]
  have e1 : rs (upd f (y0 + k) (x0 + l) 0 (y0 + k)) x0 nx = rs (fun i => if i = x0 + l then 0 else f (y0 + k) i) x0 nx := rs_congr fun i _ => by simp [upd]
  have e2 : rs (fun i => if i = y0 + k then 0 else rs (upd f (y0 + k) (x0 + l) 0 i) x0 nx) y0 ny = rs (fun i => if i = y0 + k then 0 else rs (f i) x0 nx) y0 ny := rs_congr fun i _ => by
    by_cases e : y0 + i = y0 + k
    · simp [e]
    · simp only [e, if_false]
      exact rs_congr fun j _ => by show (if y0 + i = y0 + k ∧ x0 + j = x0 + l then 0 else f (y0 + i) (x0 + j)) = _; rw [if_neg (fun h => e h.1)]
  rw [e1, e2]; omega

/-! dots that are near -/
def lo (y far : Nat) : Nat := y + 1 - far
def cn (y far h : Nat) : Nat := min h (y + far) - lo y far
/-- the dots near a place, that of the place included -/
def win (f : Nat → Nat → Int) (h m y x far : Nat) : Int := bs f (lo y far) (cn y far h) (lo x far) (cn x far m)
def Bin (f : Nat → Nat → Int) (h m : Nat) : Prop := ∀ y x, y < h → x < m → f y x = 0 ∨ f y x = 1
/-- there is another dot near -/
def NearP (f : Nat → Nat → Int) (h m y x far : Nat) : Prop := ∃ i j, i < h ∧ j < m ∧ (i < y + far ∧ y < i + far) ∧ (j < x + far ∧ x < j + far) ∧ f i j = 1 ∧ (i ≠ y ∨ j ≠ x)
theorem win_pos {f : Nat → Nat → Int} {h m y x far : Nat} (hf : Bin f h m) : 0 < win f h m y x far ↔ ∃ i j, i < h ∧ j < m ∧ (i < y + far ∧ y < i + far) ∧ (j < x + far ∧ x < j + far) ∧ f i j = 1 := by
  unfold win
  rw [bs_pos]
  · constructor
    · rintro ⟨i, j, hi, hj, h1⟩
      unfold cn lo at *
      have hy : y + 1 - far + i < h := by omega
      have hx : x + 1 - far + j < m := by omega
      have := hf _ _ hy hx
      exact ⟨_, _, hy, hx, ⟨by omega, by omega⟩, ⟨by omega, by omega⟩, by omega⟩
    · rintro ⟨i, j, hi, hj, ⟨h1, h2⟩, ⟨h3, h4⟩, h5⟩
      refine ⟨i - lo y far, j - lo x far, by unfold cn lo; omega, by unfold cn lo; omega, ?_⟩
      rw [show lo y far + (i - lo y far) = i by unfold lo; omega, show lo x far + (j - lo x far) = j by unfold lo; omega, h5]; omega
  · intro i j hi hj
    unfold cn lo at *
    have := hf (y + 1 - far + i) (x + 1 - far + j) (by omega) (by omega)
    omega
theorem bin_upd {f : Nat → Nat → Int} {h m y x : Nat} (hf : Bin f h m) (z : Int) (hz : z = 0 ∨ z = 1) : Bin (upd f y x z) h m := fun i j hi hj => by
  unfold upd
  split
  · exact hz
  · exact hf i j hi hj
theorem win_cut {f : Nat → Nat → Int} {h m y x far : Nat} (hy : y < h) (hx : x < m) (h0 : 1 ≤ far) : win f h m y x far = f y x + win (upd f y x 0) h m y x far := by
  unfold win
  have e := bs_cut (f := f) (y0 := lo y far) (ny := cn y far h) (x0 := lo x far) (nx := cn x far m) (k := y - lo y far) (l := x - lo x far) (by unfold cn lo; omega) (by unfold cn lo; omega)
  rw [show lo y far + (y - lo y far) = y by unfold lo; omega, show lo x far + (x - lo x far) = x by unfold lo; omega] at e
  exact e
theorem win_near {f : Nat → Nat → Int} {h m y x far : Nat} (hf : Bin f h m) (hy : y < h) (hx : x < m) (h0 : 1 ≤ far) : f y x < win f h m y x far ↔ NearP f h m y x far := by
  rw [win_cut hy hx h0]
  have := win_pos (y := y) (x := x) (far := far) (bin_upd (y := y) (x := x) hf 0 (.inl rfl))
  constructor
  · intro h1
    obtain ⟨i, j, hi, hj, h2, h3, h4⟩ := this.1 (by omega)
    unfold upd at h4
    split at h4
    · omega
    · exact ⟨i, j, hi, hj, h2, h3, h4, by omega⟩
  · rintro ⟨i, j, hi, hj, h2, h3, h4, h5⟩
    have := this.2 ⟨i, j, hi, hj, h2, h3, by unfold upd; rw [if_neg (by omega)]; exact h4⟩
    omega
theorem win_bd {f : Nat → Nat → Int} {h m y x far : Nat} (hf : Bin f h m) : 0 ≤ win f h m y x far ∧ win f h m y x far ≤ h * m := by
  have := bs_bd (f := f) (y0 := lo y far) (ny := cn y far h) (x0 := lo x far) (nx := cn x far m) (fun i j hi hj => by
    unfold cn lo at *
    have := hf (y + 1 - far + i) (x + 1 - far + j) (by omega) (by omega)
    omega)
  have h1 : cn y far h * cn x far m ≤ h * m := Nat.mul_le_mul (by unfold cn; omega) (by unfold cn; omega)
  unfold win
  omega

/-! thinning -/
open Classical in
/-- one dot is looked at -/
noncomputable def thStep (f : Nat → Nat → Int) (h m far : Nat) (T : Nat → Nat → Int) (y x : Nat) : Nat → Nat → Int :=
  if f y x = 1 ∧ ¬ NearP T h m y x far then upd T y x 1 else T
/-- the first x dots of row y are looked at -/
noncomputable def thRow (f : Nat → Nat → Int) (h m far : Nat) (T : Nat → Nat → Int) (y : Nat) : Nat → Nat → Nat → Int
  | 0 => T
  | x + 1 => thStep f h m far (thRow f h m far T y x) y x
/-- the first y rows are looked at -/
noncomputable def thAll (f : Nat → Nat → Int) (h m far : Nat) : Nat → Nat → Nat → Int
  | 0 => fun _ _ => 0
  | y + 1 => thRow f h m far (thAll f h m far y) y m
theorem thStep_bin {f : Nat → Nat → Int} {h m far : Nat} {T : Nat → Nat → Int} {y x : Nat} (hT : ∀ i j, T i j = 0 ∨ T i j = 1) : ∀ i j, thStep f h m far T y x i j = 0 ∨ thStep f h m far T y x i j = 1 := fun i j => by
  unfold thStep
  split
  · unfold upd
    split
    · exact .inr rfl
    · exact hT i j
  · exact hT i j
theorem thRow_bin {f : Nat → Nat → Int} {h m far : Nat} {T : Nat → Nat → Int} {y : Nat} (hT : ∀ i j, T i j = 0 ∨ T i j = 1) : ∀ x i j, thRow f h m far T y x i j = 0 ∨ thRow f h m far T y x i j = 1 := by
  intro x
  induction x with
  | zero => exact hT
  | succ x ih => exact thStep_bin ih
theorem thAll_bin (f : Nat → Nat → Int) (h m far : Nat) : ∀ y i j, thAll f h m far y i j = 0 ∨ thAll f h m far y i j = 1 := by
  intro y
  induction y with
  | zero => exact fun _ _ => .inl rfl
  | succ y ih => exact thRow_bin ih m
/-- places from row y on that no step has looked at are 0 -/
theorem thRow_later {f : Nat → Nat → Int} {h m far : Nat} {T : Nat → Nat → Int} {y : Nat} : ∀ x i j, (i ≠ y ∨ x ≤ j) → thRow f h m far T y x i j = T i j := by
  intro x
  induction x with
  | zero => intro i j _; rfl
  | succ x ih =>
    intro i j o
    show thStep f h m far (thRow f h m far T y x) y x i j = _
    unfold thStep
    split
    · unfold upd
      rw [if_neg (by omega)]
      exact ih i j (by omega)
    · exact ih i j (by omega)
theorem thAll_later (f : Nat → Nat → Int) (h m far : Nat) : ∀ y i j, y ≤ i → thAll f h m far y i j = 0 := by
  intro y
  induction y with
  | zero => intro i j _; rfl
  | succ y ih =>
    intro i j hi
    show thRow f h m far (thAll f h m far y) y m i j = 0
    rw [thRow_later m i j (by omega)]
    exact ih i j (by omega)
theorem thNow (f : Nat → Nat → Int) (h m far y x : Nat) : thRow f h m far (thAll f h m far y) y x y x = 0 := by
  rw [thRow_later x y x (.inr (Nat.le_refl _))]
  exact thAll_later f h m far y y x (Nat.le_refl _)
theorem thStep_yes {f : Nat → Nat → Int} {h m far : Nat} {T : Nat → Nat → Int} {y x : Nat} (h1 : f y x = 1) (h2 : ¬ NearP T h m y x far) : thStep f h m far T y x = upd T y x 1 := if_pos ⟨h1, h2⟩
theorem thStep_no {f : Nat → Nat → Int} {h m far : Nat} {T : Nat → Nat → Int} {y x : Nat} (h1 : f y x ≠ 1 ∨ NearP T h m y x far) : thStep f h m far T y x = T := if_neg fun h => by
  rcases h1 with h1 | h1
  · exact h1 h.1
  · exact h.2 h1
/-! growing, shrinking, taking apart -/
open Classical in
noncomputable def growF (f : Nat → Nat → Int) (h m : Nat) : Nat → Nat → Int := fun y x => if f y x = 1 ∨ NearP f h m y x 2 then 1 else 0
/-- how many of a length from y on are within h -/
def within (h y k : Nat) : Nat := min h (y + k) - y
def shrF (f : Nat → Nat → Int) (h m k : Nat) : Nat → Nat → Int := fun y x =>
  if (within h (y * k) k * within m (x * k) k : Nat) ≤ 2 * bs f (y * k) (within h (y * k) k) (x * k) (within m (x * k) k) then 1 else 0
def ceilD (n k : Nat) : Nat := (n + k - 1) / k
def pcF (f : Nat → Nat → Int) : Nat → Nat → Int := fun i k =>
  f (3 * i) (2 * k) + 2 * f (3 * i + 1) (2 * k) + 4 * f (3 * i + 2) (2 * k) + 8 * f (3 * i) (2 * k + 1) + 16 * f (3 * i + 1) (2 * k + 1) + 32 * f (3 * i + 2) (2 * k + 1)
/-- the dots before a place alone -/
def upTo (f : Nat → Nat → Int) (Y X : Nat) : Nat → Nat → Int := fun y x => if y < Y ∨ (y = Y ∧ x < X) then f y x else 0
/-- what the dot in row y and column x of a cell is worth -/
def worth (y x : Nat) : Int := if x % 2 = 0 then (if y % 3 = 0 then 1 else if y % 3 = 1 then 2 else 4) else (if y % 3 = 0 then 8 else if y % 3 = 1 then 16 else 32)
theorem upTo_step (f : Nat → Nat → Int) (Y X : Nat) (i j : Nat) : upTo f Y (X + 1) i j = if i = Y ∧ j = X then f Y X else upTo f Y X i j := by
  unfold upTo
  by_cases e : i = Y ∧ j = X
  · obtain ⟨rfl, rfl⟩ := e
    simp
  · rw [if_neg e]
    by_cases h : i < Y ∨ (i = Y ∧ j < X)
    · rw [if_pos h, if_pos (by omega)]
    · rw [if_neg h, if_neg (by omega)]
theorem upTo_here (f : Nat → Nat → Int) (Y X : Nat) : upTo f Y X Y X = 0 := by unfold upTo; rw [if_neg (by omega)]
theorem pc_step (f : Nat → Nat → Int) (Y X i k : Nat) : pcF (upTo f Y (X + 1)) i k = if i = Y / 3 ∧ k = X / 2 then pcF (upTo f Y X) (Y / 3) (X / 2) + f Y X * worth Y X else pcF (upTo f Y X) i k := by
  by_cases e : i = Y / 3 ∧ k = X / 2
  · obtain ⟨rfl, rfl⟩ := e
    rw [if_pos ⟨rfl, rfl⟩]
    have hz := upTo_here f Y X
    unfold pcF
    simp only [upTo_step]
    have h3 : Y % 3 = 0 ∨ Y % 3 = 1 ∨ Y % 3 = 2 := by omega
    have h2 : X % 2 = 0 ∨ X % 2 = 1 := by omega
    unfold worth
    rcases h3 with h3 | h3 | h3 <;> rcases h2 with h2 | h2
    · have e1 : 3 * (Y / 3) = Y := by omega
      have e2 : 2 * (X / 2) = X := by omega
      rw [e1, e2]; simp [h3, h2, hz]; omega
    · have e1 : 3 * (Y / 3) = Y := by omega
      have e2 : 2 * (X / 2) + 1 = X := by omega
      have e3 : ¬ 2 * (X / 2) = X := by omega
      rw [e1, e2]; simp [h3, h2, hz, e3]; omega
    · have e1 : 3 * (Y / 3) + 1 = Y := by omega
      have e4 : ¬ 3 * (Y / 3) = Y := by omega
      have e5 : ¬ 3 * (Y / 3) + 2 = Y := by omega
      have e2 : 2 * (X / 2) = X := by omega
      rw [e1, e2]; simp [h3, h2, hz, e4, e5]; omega
    · have e1 : 3 * (Y / 3) + 1 = Y := by omega
      have e4 : ¬ 3 * (Y / 3) = Y := by omega
      have e5 : ¬ 3 * (Y / 3) + 2 = Y := by omega
      have e2 : 2 * (X / 2) + 1 = X := by omega
      have e3 : ¬ 2 * (X / 2) = X := by omega
      rw [e1, e2]; simp [h3, h2, hz, e3, e4, e5]; omega
    · have e1 : 3 * (Y / 3) + 2 = Y := by omega
      have e4 : ¬ 3 * (Y / 3) = Y := by omega
      have e5 : ¬ 3 * (Y / 3) + 1 = Y := by omega
      have e2 : 2 * (X / 2) = X := by omega
      rw [e1, e2]; simp [h3, h2, hz, e4, e5]; omega
    · have e1 : 3 * (Y / 3) + 2 = Y := by omega
      have e4 : ¬ 3 * (Y / 3) = Y := by omega
      have e5 : ¬ 3 * (Y / 3) + 1 = Y := by omega
      have e2 : 2 * (X / 2) + 1 = X := by omega
      have e3 : ¬ 2 * (X / 2) = X := by omega
      rw [e1, e2]; simp [h3, h2, hz, e3, e4, e5]; omega
  · rw [if_neg e]
    unfold pcF
    simp only [upTo_step]
    rw [if_neg (by omega), if_neg (by omega), if_neg (by omega), if_neg (by omega), if_neg (by omega), if_neg (by omega)]
theorem pc_row (f : Nat → Nat → Int) (Y m i k : Nat) (hf : ∀ y x, m ≤ x → f y x = 0) : pcF (upTo f Y m) i k = pcF (upTo f (Y + 1) 0) i k := by
  have : ∀ y x, upTo f Y m y x = upTo f (Y + 1) 0 y x := fun y x => by
    unfold upTo
    by_cases h : y < Y ∨ (y = Y ∧ x < m)
    · rw [if_pos h, if_pos (by omega)]
    · rw [if_neg h]
      by_cases h2 : y < Y + 1 ∨ (y = Y + 1 ∧ x < 0)
      · rw [if_pos h2, hf y x (by omega)]
      · rw [if_neg h2]
  unfold pcF
  simp only [this]
theorem pc_all (f : Nat → Nat → Int) (n i k : Nat) (hf : ∀ y x, n ≤ y → f y x = 0) : pcF (upTo f n 0) i k = pcF f i k := by
  have : ∀ y x, upTo f n 0 y x = f y x := fun y x => by
    unfold upTo
    by_cases h : y < n ∨ (y = n ∧ x < 0)
    · rw [if_pos h]
    · rw [if_neg h, hf y x (by omega)]
  unfold pcF
  simp only [this]
theorem pc_none (f : Nat → Nat → Int) (i k : Nat) : pcF (upTo f 0 0) i k = 0 := by
  unfold pcF upTo; simp
theorem pc_bd {f : Nat → Nat → Int} (hf : ∀ y x, f y x = 0 ∨ f y x = 1) (i k : Nat) : 0 ≤ pcF f i k ∧ pcF f i k ≤ 63 := by
  unfold pcF
  have h1 := hf (3 * i) (2 * k); have h2 := hf (3 * i + 1) (2 * k); have h3 := hf (3 * i + 2) (2 * k)
  have h4 := hf (3 * i) (2 * k + 1); have h5 := hf (3 * i + 1) (2 * k + 1); have h6 := hf (3 * i + 2) (2 * k + 1)
  omega
theorem upTo_bin {f : Nat → Nat → Int} (hf : ∀ y x, f y x = 0 ∨ f y x = 1) (Y X : Nat) : ∀ y x, upTo f Y X y x = 0 ∨ upTo f Y X y x = 1 := fun y x => by
  unfold upTo
  split
  · exact hf y x
  · exact .inl rfl
theorem up_upd (f : Nat → Nat → Int) (Y X : Nat) : upd (upTo f Y X) Y X (f Y X) = upTo f Y (X + 1) := by
  funext i j
  rw [upTo_step]; rfl
theorem up_row (f : Nat → Nat → Int) (n m Y : Nat) : gridOf n m (upTo f Y m) = gridOf n m (upTo f (Y + 1) 0) := gridOf_congr fun y x _ hx => by
  unfold upTo
  by_cases h : y < Y ∨ (y = Y ∧ x < m)
  · rw [if_pos h, if_pos (by omega)]
  · rw [if_neg h, if_neg (by omega)]
theorem up_all (f : Nat → Nat → Int) (n m : Nat) : gridOf n m (upTo f n 0) = gridOf n m f := gridOf_congr fun y x hy _ => by
  unfold upTo
  rw [if_pos (.inl hy)]
theorem up_none (f : Nat → Nat → Int) (n m : Nat) : gridOf n m (upTo f 0 0) = gridOf n m (fun _ _ => 0) := gridOf_congr fun y x _ _ => by
  unfold upTo
  rw [if_neg (by omega)]
theorem ceilD_lt {n k Y : Nat} (hk : 1 ≤ k) : Y < ceilD n k ↔ Y * k < n := by
  unfold ceilD
  rw [Nat.lt_div_iff_mul_lt hk]
  omega
theorem ceilD_le {n k : Nat} (hk : 1 ≤ k) : ceilD n k ≤ n := by
  by_cases h : ceilD n k = 0
  · omega
  · have := (ceilD_lt (n := n) (Y := ceilD n k - 1) hk).1 (by omega)
    have h2 : ceilD n k - 1 ≤ (ceilD n k - 1) * k := Nat.le_mul_of_pos_right _ hk
    omega
theorem ceilD_pos {n k : Nat} (hk : 1 ≤ k) (hn : 1 ≤ n) : 1 ≤ ceilD n k := by
  have := (ceilD_lt (n := n) (Y := 0) hk).2 (by omega)
  omega
/-- how many rows from top on, side of them at most, lie within n -/
def span (n : Nat) (top side : Int) : Nat := (min (n : Int) (top + side)).toNat - top.toNat
theorem span_le (n : Nat) (top side : Int) : span n top side ≤ n := by unfold span; omega
theorem span_in {n : Nat} {top side : Int} {Y : Nat} (h0 : top.toNat ≤ Y) (h1 : Y < top.toNat + span n top side) : Y < n ∧ (Y : Int) < top + side := by unfold span at h1; omega
theorem span_out {n : Nat} {top side : Int} (h : top.toNat + span n top side < n) : top + side ≤ ((top.toNat + span n top side : Nat) : Int) := by unfold span at h ⊢; omega
theorem span_win {n Y far : Nat} (hY : Y < n) (hf : 1 ≤ far) : ((Y : Int) - far + 1).toNat = lo Y far ∧ span n ((Y : Int) - far + 1) (2 * far - 1) = cn Y far n := by
  unfold span cn lo; omega
theorem span_sq {n k Y : Nat} : (((Y * k : Nat) : Int)).toNat = Y * k ∧ span n ((Y * k : Nat) : Int) k = within n (Y * k) k := by
  unfold span within; omega
theorem rs_succ (f : Nat → Int) (a n : Nat) : rs f a (n + 1) = rs f a n + f (a + n) := rfl
theorem bs_succ (f : Nat → Nat → Int) (y0 ny x0 nx : Nat) : bs f y0 (ny + 1) x0 nx = bs f y0 ny x0 nx + rs (f (y0 + ny)) x0 nx := rfl
theorem grow_win {f : Nat → Nat → Int} {h m y x : Nat} (hf : Bin f h m) (hy : y < h) (hx : x < m) : growF f h m y x = if 0 < win f h m y x 2 then 1 else 0 := by
  have h1 := win_near (far := 2) hf hy hx (by omega)
  have h2 := win_cut (f := f) (far := 2) hy hx (by omega)
  have h3 := win_bd (y := y) (x := x) (far := 2) (bin_upd (y := y) (x := x) hf 0 (.inl rfl))
  have h4 := hf y x hy hx
  unfold growF
  by_cases hw : 0 < win f h m y x 2
  · rw [if_pos hw, if_pos]
    by_cases e : f y x = 1
    · exact .inl e
    · exact .inr (h1.1 (by omega))
  · rw [if_neg hw, if_neg]
    rintro (e | e)
    · omega
    · have := h1.2 e; omega
theorem grow_yes {f : Nat → Nat → Int} {h m y x : Nat} (e : f y x = 1 ∨ NearP f h m y x 2) : growF f h m y x = 1 := if_pos e
theorem grow_no {f : Nat → Nat → Int} {h m y x : Nat} (e : ¬ (f y x = 1 ∨ NearP f h m y x 2)) : growF f h m y x = 0 := if_neg e
theorem up_skip {f : Nat → Nat → Int} {Y X : Nat} (h : f Y X = 0) : upTo f Y (X + 1) = upTo f Y X := by
  funext i j
  rw [upTo_step]
  by_cases e : i = Y ∧ j = X
  · rw [if_pos e, e.1, e.2, upTo_here, h]
  · rw [if_neg e]
theorem span_nat (n YK K : Nat) : span n (YK : Int) (K : Int) = within n YK K := by unfold span within; omega
theorem within_le (n y k : Nat) : within n y k ≤ k := by unfold within; omega
end Go.Proofs.Ytfgnckafpnobhaa
