
/- Proofreading: costs of ways from cells to cells, the least one, faults. Pure. -/
namespace Go.Proofs.Ytekchmbbafjmmaa

/-- 1 if the dot k is in one of both cells alone -/
def bd (x y k : Nat) : Nat := if x / 2 ^ k % 2 = y / 2 ^ k % 2 then 0 else 1
theorem bd_tri (x z y k : Nat) : bd x y k ≤ bd x z k + bd z y k := by
  unfold bd; split <;> split <;> split <;> omega
theorem bd_comm (x y k : Nat) : bd x y k = bd y x k := by
  unfold bd; split <;> split <;> omega
theorem bd_self (x k : Nat) : bd x x k = 0 := by simp [bd]
/-- the number of dots that only one of two cells has -/
def sw (x y : Int) : Nat := bd x.toNat y.toNat 0 + bd x.toNat y.toNat 1 + bd x.toNat y.toNat 2 + bd x.toNat y.toNat 3 + bd x.toNat y.toNat 4 + bd x.toNat y.toNat 5
theorem sw_tri (x z y : Int) : sw x y ≤ sw x z + sw z y := by
  have h := fun k => bd_tri x.toNat z.toNat y.toNat k
  have := h 0; have := h 1; have := h 2; have := h 3; have := h 4; have := h 5
  unfold sw; omega
theorem sw_comm (x y : Int) : sw x y = sw y x := by
  have h := fun k => bd_comm x.toNat y.toNat k
  unfold sw; rw [h 0, h 1, h 2, h 3, h 4, h 5]
theorem sw_self (x : Int) : sw x x = 0 := by simp [sw, bd_self]
theorem bd_le (x y k : Nat) : bd x y k ≤ 1 := by unfold bd; split <;> omega
theorem sw_le (x y : Int) : sw x y ≤ 6 := by
  have h := fun k => bd_le x.toNat y.toNat k
  have := h 0; have := h 1; have := h 2; have := h 3; have := h 4; have := h 5
  unfold sw; omega
theorem bd_zero {x y k : Nat} (h : bd x y k = 0) : x / 2 ^ k % 2 = y / 2 ^ k % 2 := by
  unfold bd at h; split at h
  · assumption
  · cases h
abbrev Cl (x : Int) : Prop := 0 ≤ x ∧ x < 64
theorem sw_zero {x y : Int} (hx : Cl x) (hy : Cl y) (h : sw x y = 0) : x = y := by
  unfold sw at h
  obtain ⟨m, rfl⟩ : ∃ m : Nat, x = m := ⟨x.toNat, by omega⟩
  obtain ⟨n, rfl⟩ : ∃ n : Nat, y = n := ⟨y.toNat, by omega⟩
  simp only [Int.toNat_natCast] at h
  have h0 := bd_zero (show bd m n 0 = 0 by omega)
  have h1 := bd_zero (show bd m n 1 = 0 by omega)
  have h2 := bd_zero (show bd m n 2 = 0 by omega)
  have h3 := bd_zero (show bd m n 3 = 0 by omega)
  have h4 := bd_zero (show bd m n 4 = 0 by omega)
  have h5 := bd_zero (show bd m n 5 = 0 by omega)
  simp at h0 h1 h2 h3 h4 h5
  omega

/-- a way from cells to cells, with its cost -/
inductive Way : List Int → List Int → Nat → Prop
  | nil : Way [] [] 0
  | cut {a b n} (x : Int) : Way a b n → Way (x :: a) b (4 + n)
  | put {a b n} (y : Int) : Way a b n → Way a (y :: b) (4 + n)
  | swap {a b n} (x y : Int) : Way a b n → Way (x :: a) (y :: b) (sw x y + n)

/-- the least cost -/
def dist : List Int → List Int → Nat
  | [], b => 4 * b.length
  | x :: a, [] => 4 * (a.length + 1)
  | x :: a, y :: b => min (4 + min (dist a (y :: b)) (dist (x :: a) b)) (sw x y + dist a b)
termination_by a b => a.length + b.length
theorem dist_nil (b : List Int) : dist [] b = 4 * b.length := by rw [dist]
theorem dist_nil' (a : List Int) : dist a [] = 4 * a.length := by
  cases a with
  | nil => rw [dist]
  | cons x a => rw [dist]; simp
theorem dist_cons (x : Int) (a : List Int) (y : Int) (b : List Int) : dist (x :: a) (y :: b) = min (4 + min (dist a (y :: b)) (dist (x :: a) b)) (sw x y + dist a b) := by rw [dist]

theorem Way.puts : ∀ b : List Int, Way [] b (4 * b.length)
  | [] => .nil
  | y :: b => by
    have := Way.put y (Way.puts b)
    rw [show 4 + 4 * b.length = 4 * (y :: b).length from by simp; omega] at this
    exact this
theorem Way.cuts : ∀ a : List Int, Way a [] (4 * a.length)
  | [] => .nil
  | x :: a => by
    have := Way.cut x (Way.cuts a)
    rw [show 4 + 4 * a.length = 4 * (x :: a).length from by simp; omega] at this
    exact this
theorem way_dist (a b : List Int) : Way a b (dist a b) := by
  match a, b with
  | [], b => rw [dist_nil]; exact Way.puts b
  | x :: a, [] => rw [dist_nil']; exact Way.cuts _
  | x :: a, y :: b =>
    have h1 := way_dist a (y :: b)
    have h2 := way_dist (x :: a) b
    have h3 := way_dist a b
    rw [dist_cons]
    by_cases c1 : 4 + min (dist a (y :: b)) (dist (x :: a) b) ≤ sw x y + dist a b
    · rw [Nat.min_eq_left c1]
      by_cases c2 : dist a (y :: b) ≤ dist (x :: a) b
      · rw [Nat.min_eq_left c2]; exact Way.cut x h1
      · rw [Nat.min_eq_right (by omega)]; exact Way.put y h2
    · rw [Nat.min_eq_right (by omega)]; exact Way.swap x y h3
termination_by a.length + b.length
theorem dist_cut (x : Int) (a b : List Int) : dist (x :: a) b ≤ 4 + dist a b := by
  cases b with
  | nil => rw [dist_nil', dist_nil']; simp; omega
  | cons y b => rw [dist_cons]; omega
theorem dist_put (y : Int) (a b : List Int) : dist a (y :: b) ≤ 4 + dist a b := by
  cases a with
  | nil => rw [dist_nil, dist_nil]; simp; omega
  | cons x a => rw [dist_cons]; omega
theorem dist_swap (x y : Int) (a b : List Int) : dist (x :: a) (y :: b) ≤ sw x y + dist a b := by
  rw [dist_cons]; omega
theorem dist_le {a b : List Int} {n : Nat} (h : Way a b n) : dist a b ≤ n := by
  induction h with
  | nil => simp [dist_nil]
  | @cut a b n x _ ih => have := dist_cut x a b; omega
  | @put a b n y _ ih => have := dist_put y a b; omega
  | @swap a b n x y _ ih => have := dist_swap x y a b; omega
theorem Way.symm {a b : List Int} {n : Nat} (h : Way a b n) : Way b a n := by
  induction h with
  | nil => exact .nil
  | cut x _ ih => exact .put x ih
  | put y _ ih => exact .cut y ih
  | swap x y _ ih => rw [sw_comm]; exact .swap y x ih
theorem dist_comm (a b : List Int) : dist a b = dist b a := Nat.le_antisymm (dist_le (way_dist b a).symm) (dist_le (way_dist a b).symm)
theorem Way.app {a b : List Int} {n : Nat} (h : Way a b n) {a' b' : List Int} {m : Nat} (k : Way a' b' m) : Way (a ++ a') (b ++ b') (n + m) := by
  induction h with
  | nil => rw [Nat.zero_add]; exact k
  | cut x _ ih => rw [Nat.add_assoc]; exact .cut x ih
  | put y _ ih => rw [Nat.add_assoc]; exact .put y ih
  | swap x y _ ih => rw [Nat.add_assoc]; exact .swap x y ih
theorem dist_app (a b a' b' : List Int) : dist (a ++ a') (b ++ b') ≤ dist a b + dist a' b' := dist_le ((way_dist a b).app (way_dist a' b'))
theorem Way.rev {a b : List Int} {n : Nat} (h : Way a b n) : Way a.reverse b.reverse n := by
  induction h with
  | nil => exact .nil
  | cut x _ ih =>
    rw [List.reverse_cons, Nat.add_comm]
    have := ih.app (.cut x .nil)
    rw [List.append_nil] at this
    exact this
  | put y _ ih =>
    rw [List.reverse_cons, Nat.add_comm]
    have := ih.app (.put y .nil)
    rw [List.append_nil] at this
    exact this
  | swap x y _ ih =>
    rw [List.reverse_cons, List.reverse_cons, Nat.add_comm]
    exact ih.app (.swap x y .nil)
theorem Way.map {f : Int → Int} (hf : ∀ x y, Cl x → Cl y → sw (f x) (f y) = sw x y) {a b : List Int} {n : Nat} (h : Way a b n) (ha : ∀ x ∈ a, Cl x) (hb : ∀ x ∈ b, Cl x) : Way (a.map f) (b.map f) n := by
  induction h with
  | nil => exact .nil
  | cut x _ ih => exact .cut _ (ih (fun z hz => ha z (List.mem_cons_of_mem _ hz)) hb)
  | put y _ ih => exact .put _ (ih ha (fun z hz => hb z (List.mem_cons_of_mem _ hz)))
  | swap x y _ ih =>
    have := Way.swap (f x) (f y) (ih (fun z hz => ha z (List.mem_cons_of_mem _ hz)) (fun z hz => hb z (List.mem_cons_of_mem _ hz)))
    rw [hf x y (ha x List.mem_cons_self) (hb y List.mem_cons_self)] at this
    exact this
theorem dist_map {f : Int → Int} (hf : ∀ x y, Cl x → Cl y → sw (f x) (f y) = sw x y) (hl : ∀ x, Cl x → Cl (f x)) (hi : ∀ x, Cl x → f (f x) = x) {a b : List Int} (ha : ∀ x ∈ a, Cl x) (hb : ∀ x ∈ b, Cl x) :
    dist ((a.map f).reverse) ((b.map f).reverse) = dist a b := by
  refine Nat.le_antisymm (dist_le ((way_dist a b).map hf ha hb).rev) ?_
  have h1 := (way_dist ((a.map f).reverse) ((b.map f).reverse)).rev
  rw [List.reverse_reverse, List.reverse_reverse] at h1
  have h2 := h1.map (f := f) hf (fun x hx => by obtain ⟨y, hy, rfl⟩ := List.mem_map.1 hx; exact hl y (ha y hy)) (fun x hx => by obtain ⟨y, hy, rfl⟩ := List.mem_map.1 hx; exact hl y (hb y hy))
  rw [List.map_map, List.map_map] at h2
  have e1 : a.map (f ∘ f) = a := by
    rw [List.map_congr_left (f := f ∘ f) (g := id) (fun x hx => hi x (ha x hx))]; simp
  have e2 : b.map (f ∘ f) = b := by
    rw [List.map_congr_left (f := f ∘ f) (g := id) (fun x hx => hi x (hb x hx))]; simp
  rw [e1, e2] at h2
  exact dist_le h2
theorem way_comp : ∀ (k : Nat) (a c b : List Int) (n m : Nat), a.length + c.length + b.length ≤ k → Way a c n → Way c b m → ∃ q, q ≤ n + m ∧ Way a b q
  | 0, a, c, b, n, m, hk, h1, h2 => by
    obtain rfl : a = [] := List.length_eq_zero_iff.1 (by omega)
    obtain rfl : b = [] := List.length_eq_zero_iff.1 (by omega)
    exact ⟨0, by omega, .nil⟩
  | k + 1, a, c, b, n, m, hk, h1, h2 => by
    cases h1 with
    | nil => exact ⟨m, by omega, h2⟩
    | cut x h1 =>
      simp only [List.length_cons] at hk
      obtain ⟨q, hq, hw⟩ := way_comp k _ _ _ _ _ (by omega) h1 h2
      exact ⟨4 + q, by omega, .cut x hw⟩
    | put z h1 =>
      cases h2 with
      | put y h2 =>
        simp only [List.length_cons] at hk
        obtain ⟨q, hq, hw⟩ := way_comp k _ _ _ _ _ (by simp only [List.length_cons]; omega) (.put z h1) h2
        exact ⟨4 + q, by omega, .put y hw⟩
      | cut _ h2 =>
        simp only [List.length_cons] at hk
        obtain ⟨q, hq, hw⟩ := way_comp k _ _ _ _ _ (by omega) h1 h2
        exact ⟨q, by omega, hw⟩
      | swap _ y h2 =>
        simp only [List.length_cons] at hk
        obtain ⟨q, hq, hw⟩ := way_comp k _ _ _ _ _ (by omega) h1 h2
        exact ⟨4 + q, by omega, .put y hw⟩
    | swap x z h1 =>
      cases h2 with
      | put y h2 =>
        simp only [List.length_cons] at hk
        obtain ⟨q, hq, hw⟩ := way_comp k _ _ _ _ _ (by simp only [List.length_cons]; omega) (.swap x z h1) h2
        exact ⟨4 + q, by omega, .put y hw⟩
      | cut _ h2 =>
        simp only [List.length_cons] at hk
        obtain ⟨q, hq, hw⟩ := way_comp k _ _ _ _ _ (by omega) h1 h2
        exact ⟨4 + q, by omega, .cut x hw⟩
      | swap _ y h2 =>
        simp only [List.length_cons] at hk
        obtain ⟨q, hq, hw⟩ := way_comp k _ _ _ _ _ (by omega) h1 h2
        have := sw_tri x z y
        exact ⟨sw x y + q, by omega, .swap x y hw⟩
theorem dist_tri (a c b : List Int) : dist a b ≤ dist a c + dist c b := by
  obtain ⟨q, hq, hw⟩ := way_comp _ a c b _ _ (Nat.le_refl _) (way_dist a c) (way_dist c b)
  exact Nat.le_trans (dist_le hw) hq
theorem dist_self : ∀ a : List Int, dist a a = 0
  | [] => by rw [dist_nil]; rfl
  | x :: a => by have := dist_swap x x a a; rw [sw_self, dist_self a] at this; omega
theorem way_zero {a b : List Int} {n : Nat} (h : Way a b n) (hn : n = 0) (ha : ∀ x ∈ a, Cl x) (hb : ∀ x ∈ b, Cl x) : a = b := by
  induction h with
  | nil => rfl
  | cut x _ ih => omega
  | put y _ ih => omega
  | swap x y _ ih =>
    rw [sw_zero (ha x List.mem_cons_self) (hb y List.mem_cons_self) (by omega), ih (by omega) (fun z hz => ha z (List.mem_cons_of_mem _ hz)) (fun z hz => hb z (List.mem_cons_of_mem _ hz))]
theorem way_len {a b : List Int} {n : Nat} (h : Way a b n) : 4 * a.length ≤ n + 4 * b.length ∧ 4 * b.length ≤ n + 4 * a.length := by
  induction h with
  | nil => simp
  | cut x _ ih => simp only [List.length_cons]; omega
  | put y _ ih => simp only [List.length_cons]; omega
  | swap x y _ ih => simp only [List.length_cons]; omega

/-- a fault: kind, place, cell -/
structure PF where
  k : Int
  i : Int
  c : Int
/-- the faults from the place i on, of the cells a and those due b -/
def stepsL : List Int → List Int → Nat → List PF
  | [], [], _ => []
  | [], y :: b, i => ⟨2, i, y⟩ :: stepsL [] b i
  | x :: a, [], i => if dist (x :: a) [] = 4 + dist a [] then ⟨1, i, x⟩ :: stepsL a [] (i + 1) else []
  | x :: a, y :: b, i =>
    if dist (x :: a) (y :: b) = sw x y + dist a b then (if x ≠ y then [⟨0, i, y⟩] else []) ++ stepsL a b (i + 1)
    else if dist (x :: a) (y :: b) = 4 + dist a (y :: b) then ⟨1, i, x⟩ :: stepsL a (y :: b) (i + 1)
    else ⟨2, i, y⟩ :: stepsL (x :: a) b i
termination_by a b _ => a.length + b.length
end Go.Proofs.Ytekchmbbafjmmaa
