
/- Parts of a picture: what is reached from a dot, and what is left without it. Pure. -/
import Derived.Test.YthpbpdnlnmldeaaJm
namespace Go.Proofs.Ythpbpdnlnmldeaa

/-- the places at a place or around it -/
def Adj (a b i j : Nat) : Prop := i ≤ a + 1 ∧ a ≤ i + 1 ∧ j ≤ b + 1 ∧ b ≤ j + 1
/-- dots that are reached from a place -/
inductive Reach (f : Nat → Nat → Int) (y x : Nat) : Nat → Nat → Prop
  | here : Reach f y x y x
  | step {i j i' j' : Nat} : Reach f y x i j → Adj i j i' j' → f i' j' = 1 → Reach f y x i' j'
theorem Reach.trans {f : Nat → Nat → Int} {y x a b i j : Nat} (h : Reach f y x a b) (k : Reach f a b i j) : Reach f y x i j := by
  induction k with
  | here => exact h
  | step _ h2 h3 ih => exact ih.step h2 h3
theorem Reach.mono {f g : Nat → Nat → Int} {y x i j : Nat} (e : ∀ a b, g a b = 1 → f a b = 1) (h : Reach g y x i j) : Reach f y x i j := by
  induction h with
  | here => exact .here
  | step _ h2 h3 ih => exact ih.step h2 (e _ _ h3)
theorem Reach.one {f : Nat → Nat → Int} {y x i j : Nat} (h1 : f y x = 1) (h : Reach f y x i j) : f i j = 1 := by
  cases h with
  | here => exact h1
  | step _ _ h3 => exact h3
/-- g is f without the part of a dot -/
structure CutIs (f g : Nat → Nat → Int) (y x : Nat) : Prop where
  only : ∀ i j, g i j = f i j ∨ (g i j = 0 ∧ f i j = 1 ∧ Reach f y x i j)
  start : g y x = 0
  shut : ∀ i j i' j', f i j = 1 → g i j ≠ 1 → Adj i j i' j' → g i' j' ≠ 1
theorem CutIs.all {f g : Nat → Nat → Int} {y x i j : Nat} (h : CutIs f g y x) (h1 : f y x = 1) (k : Reach f y x i j) : g i j ≠ 1 := by
  induction k with
  | here => rw [h.start]; omega
  | step k2 h2 h3 ih => exact h.shut _ _ _ _ (k2.one h1) ih h2
theorem CutIs.one {f g g' : Nat → Nat → Int} {y x : Nat} (h : CutIs f g y x) (h' : CutIs f g' y x) (h1 : f y x = 1) : g = g' := by
  funext i j
  rcases h.only i j with e | ⟨e, e1, er⟩
  · rcases h'.only i j with k | ⟨k, k1, kr⟩
    · rw [e, k]
    · exact absurd (e.trans k1) (h.all h1 kr)
  · rcases h'.only i j with k | ⟨k, k1, kr⟩
    · exact absurd (k.trans e1) (h'.all h1 er)
    · rw [e, k]
theorem CutIs.le {f g : Nat → Nat → Int} {y x : Nat} (h : CutIs f g y x) (i j : Nat) (e : g i j = 1) : f i j = 1 := by
  rcases h.only i j with k | ⟨k, k1, _⟩
  · rw [← k]; exact e
  · exact k1
theorem CutIs.bin {f g : Nat → Nat → Int} {y x : Nat} (h : CutIs f g y x) (hb : ∀ i j, f i j = 0 ∨ f i j = 1) (i j : Nat) : g i j = 0 ∨ g i j = 1 := by
  rcases h.only i j with k | ⟨k, _, _⟩
  · rw [k]; exact hb i j
  · exact .inl k
theorem CutIs.zero {f g : Nat → Nat → Int} {y x i j : Nat} (h : CutIs f g y x) (e : f i j = 0) : g i j = 0 := by
  rcases h.only i j with k | ⟨k, _, _⟩
  · rw [k]; exact e
  · exact k
/-- the part of a dot, half taken away: D are the places around it that have been looked at -/
structure Dfs (f g : Nat → Nat → Int) (y x : Nat) (D : Nat → Nat → Prop) : Prop where
  only : ∀ i j, g i j = f i j ∨ (g i j = 0 ∧ f i j = 1 ∧ Reach f y x i j)
  start : g y x = 0
  shut : ∀ i j i' j', f i j = 1 → g i j ≠ 1 → (i ≠ y ∨ j ≠ x) → Adj i j i' j' → g i' j' ≠ 1
  done : ∀ i j, D i j → g i j ≠ 1
theorem Dfs.init {f : Nat → Nat → Int} {y x : Nat} (h1 : f y x = 1) {D : Nat → Nat → Prop} (hD : ∀ i j, ¬ D i j) : Dfs f (upd f y x 0) y x D := by
  refine ⟨fun i j => ?_, by unfold upd; rw [if_pos ⟨rfl, rfl⟩], fun i j i' j' e1 e2 e3 _ => ?_, fun i j h => absurd h (hD i j)⟩
  · unfold upd
    by_cases h : i = y ∧ j = x
    · obtain ⟨rfl, rfl⟩ := h
      rw [if_pos ⟨rfl, rfl⟩]
      exact .inr ⟨rfl, h1, .here⟩
    · rw [if_neg h]; exact .inl rfl
  · unfold upd at e2
    rw [if_neg (by omega)] at e2
    exact absurd e1 e2
theorem Dfs.skip {f g : Nat → Nat → Int} {y x a b : Nat} {D D' : Nat → Nat → Prop} (h : Dfs f g y x D) (h1 : g a b ≠ 1) (hD : ∀ i j, D' i j → D i j ∨ (i = a ∧ j = b)) : Dfs f g y x D' :=
  ⟨h.only, h.start, h.shut, fun i j k => by
    rcases hD i j k with k | ⟨rfl, rfl⟩
    · exact h.done i j k
    · exact h1⟩
theorem Dfs.cut {f g g' : Nat → Nat → Int} {y x a b : Nat} {D D' : Nat → Nat → Prop} (h : Dfs f g y x D) (ha : Adj y x a b) (h1 : g a b = 1) (hc : CutIs g g' a b) (hD : ∀ i j, D' i j → D i j ∨ (i = a ∧ j = b)) : Dfs f g' y x D' := by
  have hle : ∀ i j, g i j = 1 → f i j = 1 := fun i j e => by
    rcases h.only i j with k | ⟨k, k1, _⟩
    · rw [← k]; exact e
    · exact k1
  have hra : Reach f y x a b := Reach.here.step ha (hle a b h1)
  refine ⟨fun i j => ?_, ?_, fun i j i' j' e1 e2 e3 e4 => ?_, fun i j k => ?_⟩
  · rcases hc.only i j with k | ⟨k, k1, kr⟩
    · rw [k]; exact h.only i j
    · exact .inr ⟨k, hle i j k1, hra.trans (kr.mono hle)⟩
  · exact hc.zero h.start
  · by_cases eg : g i j = 1
    · exact hc.shut i j i' j' eg e2 e4
    · have := h.shut i j i' j' e1 eg e3 e4
      exact fun c => this (hc.le _ _ c)
  · rcases hD i j k with k | ⟨rfl, rfl⟩
    · have := h.done i j k
      exact fun c => this (hc.le _ _ c)
    · rw [hc.start]; omega
theorem Dfs.fin {f g : Nat → Nat → Int} {y x : Nat} {D : Nat → Nat → Prop} (h : Dfs f g y x D) (hD : ∀ i j, Adj y x i j → D i j ∨ g i j ≠ 1) : CutIs f g y x :=
  ⟨h.only, h.start, fun i j i' j' e1 e2 e3 => by
    by_cases e : i ≠ y ∨ j ≠ x
    · exact h.shut i j i' j' e1 e2 e e3
    · have ei : i = y := by omega
      have ej : j = x := by omega
      subst ei ej
      rcases hD i' j' e3 with k | k
      · exact h.done i' j' k
      · exact k⟩
theorem Dfs.bin {f g : Nat → Nat → Int} {y x : Nat} {D : Nat → Nat → Prop} (h : Dfs f g y x D) (hb : ∀ i j, f i j = 0 ∨ f i j = 1) (i j : Nat) : g i j = 0 ∨ g i j = 1 := by
  rcases h.only i j with k | ⟨k, _, _⟩
  · rw [k]; exact hb i j
  · exact .inl k
theorem Dfs.zero {f g : Nat → Nat → Int} {y x i j : Nat} {D : Nat → Nat → Prop} (h : Dfs f g y x D) (e : f i j = 0) : g i j = 0 := by
  rcases h.only i j with k | ⟨k, _, _⟩
  · rw [k]; exact e
  · exact k
/-- a part taken away leaves fewer dots -/
theorem Dfs.fewer {f g : Nat → Nat → Int} {y x n m : Nat} {D : Nat → Nat → Prop} (h : Dfs f g y x D) (hb : ∀ i j, f i j = 0 ∨ f i j = 1) (h1 : f y x = 1) (hy : y < n) (hx : x < m) : bs g 0 n 0 m + 1 ≤ bs f 0 n 0 m := by
  have e := bs_cut (f := f) (y0 := 0) (ny := n) (x0 := 0) (nx := m) hy hx
  rw [Nat.zero_add, Nat.zero_add, h1] at e
  have k : bs g 0 n 0 m ≤ bs (upd f y x 0) 0 n 0 m := bs_mono fun i j _ _ => by
    rw [Nat.zero_add, Nat.zero_add]
    unfold upd
    by_cases c : i = y ∧ j = x
    · obtain ⟨rfl, rfl⟩ := c
      rw [if_pos ⟨rfl, rfl⟩, h.start]; omega
    · rw [if_neg c]
      rcases h.only i j with k | ⟨k, _, _⟩ <;> have := hb i j <;> omega
  omega
/-- f is nowhere raised outside -/
def OutF (f : Nat → Nat → Int) (n m : Nat) : Prop := ∀ i j, n ≤ i ∨ m ≤ j → f i j = 0
end Go.Proofs.Ythpbpdnlnmldeaa
