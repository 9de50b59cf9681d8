
/- The parts of a picture are counted. Pure. -/
import Derived.Test.YthpbpdnlnmldeaaKm7
import Derived.Test.YthpbpdnlnmldeaaJh
namespace Go.Proofs.Ythpbpdnlnmldeaa

/-- the places of a picture are gone through, row by row; at a dot its part is taken away, and counted -/
inductive Scan (f : Nat → Nat → Int) (m : Nat) : Nat → Nat → (Nat → Nat → Int) → Nat → Prop
  | zero : Scan f m 0 0 f 0
  | skip {k q : Nat} {g : Nat → Nat → Int} {T : Nat} : Scan f m k q g T → q < m → g k q ≠ 1 → Scan f m k (q + 1) g T
  | cut {k q : Nat} {g g' : Nat → Nat → Int} {T : Nat} : Scan f m k q g T → q < m → g k q = 1 → CutIs g g' k q → Scan f m k (q + 1) g' (T + 1)
  | row {k : Nat} {g : Nat → Nat → Int} {T : Nat} : Scan f m k m g T → Scan f m (k + 1) 0 g T
theorem Scan.same {f : Nat → Nat → Int} {m k q : Nat} {g g' : Nat → Nat → Int} {T T' : Nat} (h : Scan f m k q g T) : Scan f m k q g' T' → g = g' ∧ T = T' := by
  induction h generalizing g' T' with
  | zero => intro h'; cases h'; exact ⟨rfl, rfl⟩
  | skip h1 h2 h3 ih =>
    intro h'
    cases h' with
    | skip k1 k2 k3 => exact ih k1
    | cut k1 k2 k3 k4 =>
      obtain ⟨e1, _⟩ := ih k1
      rw [e1] at h3
      exact absurd k3 h3
  | cut h1 h2 h3 h4 ih =>
    intro h'
    cases h' with
    | skip k1 k2 k3 =>
      obtain ⟨e1, _⟩ := ih k1
      rw [e1] at h3
      exact absurd h3 k3
    | cut k1 k2 k3 k4 =>
      obtain ⟨e1, e2⟩ := ih k1
      subst e1 e2
      exact ⟨h4.one k4 h3, rfl⟩
  | row h1 ih =>
    intro h'
    cases h' with
    | row k1 => exact ih k1
theorem Scan.le {f : Nat → Nat → Int} {m k q : Nat} {g : Nat → Nat → Int} {T : Nat} (h : Scan f m k q g T) : ∀ i j, g i j = f i j ∨ g i j = 0 := by
  induction h with
  | zero => exact fun i j => .inl rfl
  | skip h1 h2 h3 ih => exact ih
  | cut h1 h2 h3 h4 ih =>
    intro i j
    rcases h4.only i j with k | ⟨k, _⟩
    · rw [k]; exact ih i j
    · exact .inr k
  | row h1 ih => exact ih
theorem Scan.bin {f : Nat → Nat → Int} {m k q : Nat} {g : Nat → Nat → Int} {T : Nat} (h : Scan f m k q g T) (hb : ∀ i j, f i j = 0 ∨ f i j = 1) (i j : Nat) : g i j = 0 ∨ g i j = 1 := by
  rcases h.le i j with e | e
  · rw [e]; exact hb i j
  · exact .inl e
theorem Scan.out {f : Nat → Nat → Int} {n m k q : Nat} {g : Nat → Nat → Int} {T : Nat} (h : Scan f m k q g T) (ho : OutF f n m) : OutF g n m := fun i j c => by
  rcases h.le i j with e | e
  · rw [e]; exact ho i j c
  · exact e
theorem Scan.few {f : Nat → Nat → Int} {m k q : Nat} {g : Nat → Nat → Int} {T : Nat} (h : Scan f m k q g T) (hm : m ≤ 24) : T ≤ 24 * k + q := by
  induction h with
  | zero => omega
  | skip h1 h2 h3 ih => omega
  | cut h1 h2 h3 h4 ih => omega
  | row h1 ih => omega
/-- how many parts a picture has; -1 for what is no picture -/
def RegsIs (P : List (List Int)) (r : Int) : Prop := (BlockOk P 24 24 1 ∧ ∃ (g : Nat → Nat → Int) (T : Nat), Scan (px P) (wdt P) P.length 0 g T ∧ r = (T : Int)) ∨ (¬ BlockOk P 24 24 1 ∧ r = -1)
theorem RegsIs.same {P : List (List Int)} {r r' : Int} (h : RegsIs P r) (h' : RegsIs P r') : r = r' := by
  rcases h with ⟨h1, g, T, h2, rfl⟩ | ⟨h1, rfl⟩
  · rcases h' with ⟨k1, g', T', k2, rfl⟩ | ⟨k1, rfl⟩
    · rw [(h2.same k2).2]
    · exact absurd h1 k1
  · rcases h' with ⟨k1, _⟩ | ⟨k1, rfl⟩
    · exact absurd k1 h1
    · rfl
end Go.Proofs.Ythpbpdnlnmldeaa
