
/- Proofreading: faults that are put right. Pure. -/
import Derived.Test.YtekchmbbafjmmaaPda
namespace Go.Proofs.Ytekchmbbafjmmaa

/-- the fault can be put right in A, where the cells before the place j are done with -/
def FixOk (A : List Int) (f : PF) (j : Nat) : Prop :=
  Cl f.c ∧ ((j : Int) ≤ f.i ∧ f.i ≤ (A.length : Int)) ∧ (f.k = 2 ∨ (f.i < (A.length : Int) ∧ ((f.k = 0 ∧ A.getD f.i.toNat 0 ≠ f.c) ∨ (f.k = 1 ∧ A.getD f.i.toNat 0 = f.c))))
instance (A : List Int) (f : PF) (j : Nat) : Decidable (FixOk A f j) := inferInstanceAs (Decidable (_ ∧ _))
/-- where to go on behind the fault -/
def fixN (f : PF) : Nat := if f.k = 2 then f.i.toNat else f.i.toNat + 1
/-- what the fault puts -/
def fixC (f : PF) : List Int := if f.k = 1 then [] else [f.c]
def fixP (A : List Int) (f : PF) (j : Nat) : List Int := (A.drop j).take (f.i.toNat - j)
def fixL (A : List Int) : List PF → Nat → Option (List Int)
  | [], j => some (A.drop j)
  | f :: fs, j => if FixOk A f j then (fixL A fs (fixN f)).map (fun r => fixP A f j ++ fixC f ++ r) else none
theorem take_more {A : List Int} {j i : Nat} (hj : j ≤ i) (hi : i < A.length) : (A.drop j).take (i + 1 - j) = (A.drop j).take (i - j) ++ [A.getD i 0] := by
  rw [show i + 1 - j = (i - j) + 1 from by omega, List.take_add_one, List.getElem?_drop, show j + (i - j) = i from by omega]
  simp [List.getD_eq_getElem?_getD, List.getElem?_eq_getElem hi]
theorem dropP_cons {A : List Int} {i : Nat} {x : Int} {a : List Int} (h : A.drop i = x :: a) : i < A.length ∧ A.getD i 0 = x ∧ A.drop (i + 1) = a := by
  have hl := congrArg List.length h
  rw [List.length_drop, List.length_cons] at hl
  have hi : i < A.length := by omega
  rw [List.drop_eq_getElem_cons hi] at h
  injection h with h1 h2
  exact ⟨hi, by rw [List.getD_eq_getElem?_getD, List.getElem?_eq_getElem hi]; exact h1, h2⟩
theorem fix_steps : ∀ (n : Nat) (A a b : List Int) (i j : Nat), a.length + b.length ≤ n → j ≤ i → i ≤ A.length → A.drop i = a → (∀ x ∈ a, Cl x) → (∀ x ∈ b, Cl x) →
    fixL A (stepsL a b i) j = some ((A.drop j).take (i - j) ++ b) := by
  intro n
  induction n with
  | zero =>
    intro A a b i j hn hj hi hd _ _
    obtain rfl : a = [] := List.length_eq_zero_iff.1 (by omega)
    obtain rfl : b = [] := List.length_eq_zero_iff.1 (by omega)
    rw [stepsL, fixL, List.append_nil, List.take_of_length_le]
    have := congrArg List.length hd
    rw [List.length_drop] at this ⊢
    simp at this; omega
  | succ n ih =>
    intro A a b i j hn hj hi hd ha hb
    have hput : ∀ (y : Int) (b' : List Int), (∀ x ∈ y :: b', Cl x) → a.length + b'.length ≤ n → fixL A (⟨2, i, y⟩ :: stepsL a b' i) j = some ((A.drop j).take (i - j) ++ (y :: b')) := by
      intro y b' hb' hl
      have hc : Cl y := hb' y List.mem_cons_self
      rw [fixL, if_pos ⟨hc, ⟨by show (j : Int) ≤ (i : Int); omega, by show (i : Int) ≤ _; omega⟩, .inl rfl⟩]
      have := ih A a b' i i hl (Nat.le_refl _) hi hd ha (fun x hx => hb' x (List.mem_cons_of_mem _ hx))
      rw [show fixN ⟨2, (i : Int), y⟩ = i from rfl, this, Nat.sub_self, List.take_zero, List.nil_append]
      simp [fixP, fixC]
    have hcut : ∀ (x : Int) (a' : List Int), a = x :: a' → a'.length + b.length ≤ n → fixL A (⟨1, i, x⟩ :: stepsL a' b (i + 1)) j = some ((A.drop j).take (i - j) ++ b) := by
      intro x a' he hl
      subst he
      obtain ⟨hi', hx, hd'⟩ := dropP_cons hd
      have hc : Cl x := ha x List.mem_cons_self
      rw [fixL, if_pos ⟨hc, ⟨by show (j : Int) ≤ (i : Int); omega, by show (i : Int) ≤ _; omega⟩, .inr ⟨by show (i : Int) < _; omega, .inr ⟨rfl, by show A.getD (i : Int).toNat 0 = x; rw [Int.toNat_natCast]; exact hx⟩⟩⟩]
      have := ih A a' b (i + 1) (i + 1) hl (Nat.le_refl _) hi' hd' (fun z hz => ha z (List.mem_cons_of_mem _ hz)) hb
      rw [show fixN ⟨1, (i : Int), x⟩ = i + 1 from rfl, this, Nat.sub_self, List.take_zero, List.nil_append]
      simp [fixP, fixC]
    match a, b, hd, ha, hb, hn, hput, hcut with
    | [], [], hd, _, _, _, _, _ =>
      rw [stepsL, fixL, List.append_nil, List.take_of_length_le]
      have := congrArg List.length hd
      rw [List.length_drop] at this ⊢
      simp at this; omega
    | [], y :: b', hd, ha, hb, hn, hput, _ =>
      rw [stepsL]
      exact hput y b' hb (by simp at hn ⊢; omega)
    | x :: a', [], hd, ha, hb, hn, _, hcut =>
      rw [stepsL, if_pos (by rw [dist_nil', dist_nil']; simp; omega)]
      exact hcut x a' rfl (by simp at hn ⊢; omega)
    | x :: a', y :: b', hd, ha, hb, hn, hput, hcut =>
      rw [stepsL]
      by_cases h1 : dist (x :: a') (y :: b') = sw x y + dist a' b'
      · rw [if_pos h1]
        obtain ⟨hi', hx, hd'⟩ := dropP_cons hd
        simp only [List.length_cons] at hn
        by_cases hxy : x = y
        · subst hxy
          rw [if_neg (by simp), List.nil_append]
          have := ih A a' b' (i + 1) j (by omega) (by omega) hi' hd' (fun z hz => ha z (List.mem_cons_of_mem _ hz)) (fun z hz => hb z (List.mem_cons_of_mem _ hz))
          rw [this, take_more hj hi', hx]; simp
        · rw [if_pos hxy]
          have hc : Cl y := hb y List.mem_cons_self
          show fixL A (⟨0, i, y⟩ :: stepsL a' b' (i + 1)) j = _
          rw [fixL, if_pos ⟨hc, ⟨by show (j : Int) ≤ (i : Int); omega, by show (i : Int) ≤ _; omega⟩, .inr ⟨by show (i : Int) < _; omega, .inl ⟨rfl, by show A.getD (i : Int).toNat 0 ≠ y; rw [Int.toNat_natCast, hx]; exact hxy⟩⟩⟩]
          have := ih A a' b' (i + 1) (i + 1) (by omega) (Nat.le_refl _) hi' hd' (fun z hz => ha z (List.mem_cons_of_mem _ hz)) (fun z hz => hb z (List.mem_cons_of_mem _ hz))
          rw [show fixN ⟨0, (i : Int), y⟩ = i + 1 from rfl, this, Nat.sub_self, List.take_zero, List.nil_append]
          simp [fixP, fixC]
      · rw [if_neg h1]
        by_cases h2 : dist (x :: a') (y :: b') = 4 + dist a' (y :: b')
        · rw [if_pos h2]
          exact hcut x a' rfl (by simp at hn ⊢; omega)
        · rw [if_neg h2]
          exact hput y b' hb (by simp at hn ⊢; omega)
/-- the cost of a fault of the cells A -/
def costPF (A : List Int) (f : PF) : Nat := if f.k = 0 then sw (A.getD f.i.toNat 0) f.c else 4
def costPL (A : List Int) : List PF → Nat
  | [] => 0
  | f :: fs => costPF A f + costPL A fs
theorem costPL_append (A : List Int) (f g : List PF) : costPL A (f ++ g) = costPL A f + costPL A g := by
  induction f with
  | nil => simp [costPL]
  | cons x f ih => simp only [List.cons_append, costPL, ih]; omega
theorem cost_steps : ∀ (n : Nat) (A a b : List Int) (i : Nat), a.length + b.length ≤ n → A.drop i = a → costPL A (stepsL a b i) = dist a b := by
  intro n
  induction n with
  | zero =>
    intro A a b i hn hd
    obtain rfl : a = [] := List.length_eq_zero_iff.1 (by omega)
    obtain rfl : b = [] := List.length_eq_zero_iff.1 (by omega)
    rw [stepsL, dist_nil]; rfl
  | succ n ih =>
    intro A a b i hn hd
    match a, b, hd, hn with
    | [], [], hd, _ => rw [stepsL, dist_nil]; rfl
    | [], y :: b', hd, hn =>
      simp only [List.length_cons] at hn
      rw [stepsL, costPL, ih A [] b' i (by simp at hn ⊢; omega) hd, dist_nil, dist_nil]
      simp [costPF]; omega
    | x :: a', [], hd, hn =>
      obtain ⟨hi', hx, hd'⟩ := dropP_cons hd
      simp only [List.length_cons] at hn
      rw [stepsL, if_pos (by rw [dist_nil', dist_nil']; simp; omega), costPL, ih A a' [] (i + 1) (by simp at hn ⊢; omega) hd', dist_nil', dist_nil']
      simp [costPF]; omega
    | x :: a', y :: b', hd, hn =>
      obtain ⟨hi', hx, hd'⟩ := dropP_cons hd
      simp only [List.length_cons] at hn
      rw [stepsL]
      by_cases h1 : dist (x :: a') (y :: b') = sw x y + dist a' b'
      · rw [if_pos h1, costPL_append, ih A a' b' (i + 1) (by omega) hd', h1]
        by_cases hxy : x = y
        · subst hxy
          rw [if_neg (by simp), sw_self]; simp [costPL]
        · rw [if_pos hxy]
          simp [costPL, costPF, Int.toNat_natCast]
          rw [← List.getD_eq_getElem?_getD, hx]
      · rw [if_neg h1]
        by_cases h2 : dist (x :: a') (y :: b') = 4 + dist a' (y :: b')
        · rw [if_pos h2, costPL, ih A a' (y :: b') (i + 1) (by simp; omega) hd', h2]
          simp [costPF]
        · rw [if_neg h2, costPL, ih A (x :: a') b' i (by simp; omega) hd]
          have := dist_cons x a' y b'
          simp [costPF]
          have h3 := dist_put y (x :: a') b'
          omega
theorem steps_len : ∀ (n : Nat) (a b : List Int) (i : Nat), a.length + b.length ≤ n → (stepsL a b i).length ≤ a.length + b.length := by
  intro n
  induction n with
  | zero =>
    intro a b i hn
    obtain rfl : a = [] := List.length_eq_zero_iff.1 (by omega)
    obtain rfl : b = [] := List.length_eq_zero_iff.1 (by omega)
    rw [stepsL]; simp
  | succ n ih =>
    intro a b i hn
    match a, b, hn with
    | [], [], _ => rw [stepsL]; simp
    | [], y :: b', hn =>
      have := ih [] b' i (by simp at hn ⊢; omega)
      rw [stepsL]; simp at this ⊢; omega
    | x :: a', [], hn =>
      have := ih a' [] (i + 1) (by simp at hn ⊢; omega)
      rw [stepsL]; split <;> simp at this ⊢; omega
    | x :: a', y :: b', hn =>
      simp only [List.length_cons] at hn
      have h1 := ih a' b' (i + 1) (by omega)
      have h2 := ih a' (y :: b') (i + 1) (by simp; omega)
      have h3 := ih (x :: a') b' i (by simp; omega)
      rw [stepsL]
      simp only [List.length_cons] at h2 h3 ⊢
      split
      · split <;> simp <;> omega
      · split <;> simp <;> omega
theorem fix_dist : ∀ (fs : List PF) (A : List Int) (j : Nat) (r : List Int), fixL A fs j = some r → dist (A.drop j) r ≤ 6 * fs.length
  | [], A, j, r, h => by
    rw [fixL] at h; injection h with h; subst h
    rw [dist_self]; simp
  | f :: fs, A, j, r, h => by
    rw [fixL] at h
    by_cases hf : FixOk A f j
    · rw [if_pos hf] at h
      obtain ⟨r', hr', rfl⟩ := Option.map_eq_some_iff.1 h
      have ih := fix_dist fs A (fixN f) r' hr'
      obtain ⟨_, ⟨h1, h2⟩, h3⟩ := hf
      obtain ⟨i, hi⟩ : ∃ i : Nat, f.i = i := ⟨f.i.toNat, by omega⟩
      have hd : A.drop j = fixP A f j ++ A.drop i := by
        unfold fixP
        rw [hi, Int.toNat_natCast]
        have := List.take_append_drop (i - j) (A.drop j)
        rw [List.drop_drop, show j + (i - j) = i from by omega] at this
        exact this.symm
      have h5 : dist (A.drop i) (fixC f ++ r') ≤ 6 + dist (A.drop (fixN f)) r' := by
        unfold fixN fixC
        rcases h3 with h3 | ⟨h3, h4 | h4⟩
        · rw [h3, hi, Int.toNat_natCast]
          have := dist_put f.c (A.drop i) r'
          simp; omega
        · obtain ⟨h4, _⟩ := h4
          rw [h4, hi, Int.toNat_natCast]
          have hil : i < A.length := by omega
          have h7 : dist (A.drop i) (f.c :: r') ≤ 6 + dist (A.drop (i + 1)) r' := by
            rw [List.drop_eq_getElem_cons hil]
            have := dist_swap A[i] f.c (A.drop (i + 1)) r'
            have := sw_le A[i] f.c
            omega
          simpa using h7
        · obtain ⟨h4, _⟩ := h4
          rw [h4, hi, Int.toNat_natCast]
          have hil : i < A.length := by omega
          have h7 : dist (A.drop i) r' ≤ 6 + dist (A.drop (i + 1)) r' := by
            rw [List.drop_eq_getElem_cons hil]
            have := dist_cut A[i] (A.drop (i + 1)) r'
            omega
          simpa using h7
      have h6 := dist_app (fixP A f j) (fixP A f j) (A.drop i) (fixC f ++ r')
      rw [dist_self, ← hd, ← List.append_assoc] at h6
      simp only [List.length_cons]
      omega
    · rw [if_neg hf] at h; cases h
/-- how the faults change the number of cells -/
def cntPF (f : PF) : Int := if f.k = 2 then 1 else if f.k = 1 then -1 else 0
def cntPL : List PF → Int
  | [] => 0
  | f :: fs => cntPF f + cntPL fs
theorem fix_count : ∀ (fs : List PF) (A : List Int) (j : Nat) (r : List Int), j ≤ A.length → fixL A fs j = some r → (r.length : Int) = (A.length : Int) - j + cntPL fs
  | [], A, j, r, hj, h => by
    rw [fixL] at h; injection h with h; subst h
    rw [List.length_drop]; simp [cntPL]; omega
  | f :: fs, A, j, r, hj, h => by
    rw [fixL] at h
    by_cases hf : FixOk A f j
    · rw [if_pos hf] at h
      obtain ⟨r', hr', rfl⟩ := Option.map_eq_some_iff.1 h
      obtain ⟨_, ⟨h1, h2⟩, h3⟩ := hf
      obtain ⟨i, hi⟩ : ∃ i : Nat, f.i = i := ⟨f.i.toNat, by omega⟩
      have hN : fixN f ≤ A.length := by
        unfold fixN; rw [hi, Int.toNat_natCast]
        rcases h3 with h3 | ⟨h3, _⟩
        · rw [if_pos h3]; omega
        · split <;> omega
      have ih := fix_count fs A (fixN f) r' hN hr'
      have hP : (fixP A f j).length = i - j := by
        unfold fixP; rw [hi, Int.toNat_natCast, List.length_take, List.length_drop]; omega
      rw [List.length_append, List.length_append, hP, cntPL]
      unfold fixN at ih
      unfold fixC cntPF
      rw [hi, Int.toNat_natCast] at ih
      rcases h3 with h3 | ⟨h3, h4 | h4⟩
      · rw [h3] at ih ⊢; simp at ih ⊢; omega
      · rw [h4.1] at ih ⊢; simp at ih ⊢; omega
      · rw [h4.1] at ih ⊢; simp at ih ⊢; omega
    · rw [if_neg hf] at h; cases h
end Go.Proofs.Ytekchmbbafjmmaa
