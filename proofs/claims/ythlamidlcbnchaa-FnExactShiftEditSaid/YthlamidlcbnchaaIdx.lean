
/- The first place of a number in a list. -/
import Derived.Test.YthlamidlcbnchaaRows
import Derived.WalkKit
import Derived.WalkSpells
import Derived.WalkLawsBesides
import Derived.RowKit3
import Derived.Below
import Derived.Lib.Hide
namespace Go.Proofs.Ythlamidlcbnchaa
open Go.RowKit

/-- the first place of a number in a list; -1 if there is none -/
def idxFrom (c : Int) : List Int → Int → Int
  | [], _ => -1
  | x :: l, k => if x = c then k else idxFrom c l (k + 1)
def idx (l : List Int) (c : Int) : Int := idxFrom c l 0
theorem idxFrom_hit (c : Int) : ∀ (l : List Int) (s : Int) (k : Nat), k < l.length → (∀ j, j < k → l.getD j 0 ≠ c) → l.getD k 0 = c → idxFrom c l s = s + k := by
  intro l
  induction l with
  | nil => intro s k h; simp at h
  | cons x l ih =>
    intro s k hk hj hc
    match k with
    | 0 => simp at hc; simp [idxFrom, hc]
    | k + 1 =>
      have h0 := hj 0 (by omega)
      simp at h0
      have := ih (s + 1) k (by simpa using hk) (fun j h => by have := hj (j + 1) (by omega); simpa using this) (by simpa using hc)
      simp [idxFrom, h0, this]; omega
theorem idxFrom_none (c : Int) : ∀ (l : List Int) (s : Int), (∀ j, j < l.length → l.getD j 0 ≠ c) → idxFrom c l s = -1 := by
  intro l
  induction l with
  | nil => intro s _; rfl
  | cons x l ih =>
    intro s hj
    have h0 := hj 0 (by simp)
    simp at h0
    simp only [idxFrom, h0, if_false]
    exact ih (s + 1) (fun j h => by have := hj (j + 1) (by simpa using h); simpa using this)
theorem idx_hit {l : List Int} {c : Int} {k : Nat} (h : k < l.length) (hj : ∀ j, j < k → l.getD j 0 ≠ c) (hc : l.getD k 0 = c) : idx l c = k := by
  have := idxFrom_hit c l 0 k h hj hc; simpa [idx] using this
theorem idx_none {l : List Int} {c : Int} (hj : ∀ j, j < l.length → l.getD j 0 ≠ c) : idx l c = -1 := idxFrom_none c l 0 hj

/-- none of the first k numbers of the list is c -/
def NotIn (l : List Int) (c : Int) (k : Nat) : Prop := ∀ j, j < k → l.getD j 0 ≠ c
theorem NotIn.zero (l : List Int) (c : Int) : NotIn l c 0 := fun j h => absurd h (by omega)
theorem NotIn.succ {l : List Int} {c : Int} {k : Nat} (h : NotIn l c k) (e : l.getD k 0 ≠ c) : NotIn l c (k + 1) := fun j hj => by
  by_cases hjk : j = k
  · subst hjk; exact e
  · exact h j (by omega)
end Go.Proofs.Ythlamidlcbnchaa
