/- Letters and digits: plain lists and the contracts of the functions that compute them. -/
import Derived.Test.YtjffppabpdimkaaRows
import Derived.WalkKit
import Derived.WalkSpells
import Derived.WalkLawsBesides
import Derived.RowKit3
import Derived.Below
import Derived.Lib.Hide
namespace Go.Proofs.Ytjffppabpdimkaa
open Go.RowKit

def letL : List Int := [1, 3, 9, 25, 17, 11, 27, 19, 10, 26, 5, 7, 13, 29, 21, 15, 31, 23, 14, 30, 37, 39, 58, 45, 61, 53]
def digL : List Int := [26, 1, 3, 9, 25, 17, 11, 27, 19, 10]
/-- the first place of a number in a list; -1 if there is none -/
def idxFrom (c : Int) : List Int → Int → Int
  | [], _ => -1
  | x :: l, k => if x = c then k else idxFrom c l (k + 1)
def idx (l : List Int) (c : Int) : Int := idxFrom c l 0
theorem idxFrom_hit (c : Int) : ∀ (l : List Int) (s : Int) (k : Nat), k < l.length → (∀ j, j < k → l.getD j 0 ≠ c) → l.getD k 0 = c → idxFrom c l s = s + k := by
  intro l
  induction l with
  | nil => intro s k h; simp at h
  | cons x l ih =>
    intro s k hk hj hc
    match k with
    | 0 => simp at hc; simp [idxFrom, hc]
    | k + 1 =>
      have h0 := hj 0 (by omega)
      simp at h0
      have := ih (s + 1) k (by simpa using hk) (fun j h => by have := hj (j + 1) (by omega); simpa using this) (by simpa using hc)
      simp [idxFrom, h0, this]; omega
theorem idxFrom_none (c : Int) : ∀ (l : List Int) (s : Int), (∀ j, j < l.length → l.getD j 0 ≠ c) → idxFrom c l s = -1 := by
  intro l
  induction l with
  | nil => intro s _; rfl
  | cons x l ih =>
    intro s hj
    have h0 := hj 0 (by simp)
    simp at h0
    simp only [idxFrom, h0, if_false]
    exact ih (s + 1) (fun j h => by have := hj (j + 1) (by simpa using h); simpa using this)
theorem idx_hit {l : List Int} {c : Int} {k : Nat} (h : k < l.length) (hj : ∀ j, j < k → l.getD j 0 ≠ c) (hc : l.getD k 0 = c) : idx l c = k := by
  have := idxFrom_hit c l 0 k h hj hc; simpa [idx] using this
theorem idx_none {l : List Int} {c : Int} (hj : ∀ j, j < l.length → l.getD j 0 ≠ c) : idx l c = -1 := idxFrom_none c l 0 hj

theorem cases26 {n : Int} (h0 : 0 ≤ n) (h1 : n < 26) : n = 0 ∨ n = 1 ∨ n = 2 ∨ n = 3 ∨ n = 4 ∨ n = 5 ∨ n = 6 ∨ n = 7 ∨ n = 8 ∨ n = 9 ∨ n = 10 ∨ n = 11 ∨ n = 12 ∨ n = 13 ∨ n = 14 ∨ n = 15 ∨ n = 16 ∨ n = 17 ∨ n = 18 ∨ n = 19 ∨ n = 20 ∨ n = 21 ∨ n = 22 ∨ n = 23 ∨ n = 24 ∨ n = 25 := by omega
theorem cases10 {n : Int} (h0 : 0 ≤ n) (h1 : n < 10) : n = 0 ∨ n = 1 ∨ n = 2 ∨ n = 3 ∨ n = 4 ∨ n = 5 ∨ n = 6 ∨ n = 7 ∨ n = 8 ∨ n = 9 := by omega

set_option maxHeartbeats 4000000 in
theorem i_letterCell (n : Int) (w : World) (h0 : 0 ≤ n) (h1 : n < 26) :
    Calls Try.prog 37 #[.int .i64 n] w fun e w' => e = .returned (.int .i64 (letL.getD n.toNat 0)) ∧ w = w' := by
  rcases cases26 h0 h1 with rfl | rfl | rfl | rfl | rfl | rfl | rfl | rfl | rfl | rfl | rfl | rfl | rfl | rfl | rfl | rfl | rfl | rfl | rfl | rfl | rfl | rfl | rfl | rfl | rfl | rfl
  all_goals
    clear h0 h1
    go_enter Try.func37, Try.ntmps37
    go_wp2
    go_ret
    exact ⟨rfl, rfl⟩
theorem i_letterCell_no (n : Int) (w : World) (h : n < 0 ∨ 26 ≤ n) :
    Calls Try.prog 37 #[.int .i64 n] w fun e w' => e = .returned (.int .i64 (-1)) ∧ w = w' := by
  rcases h with h | h
  · have d0 : decide (n < 0) = true := decide_eq_true h
    go_enter Try.func37, Try.ntmps37
    go_wp2
    go_ret
    exact ⟨rfl, rfl⟩
  · have d0 : decide (n < 0) = false := decide_eq_false (by omega)
    have d1 : decide (26 ≤ n) = true := decide_eq_true h
    go_enter Try.func37, Try.ntmps37
    go_wp2
    go_ret
    exact ⟨rfl, rfl⟩

set_option maxHeartbeats 4000000 in
theorem s_letterCell (n : Int) (w : World) (h0 : 0 ≤ n) (h1 : n < 26) :
    Calls Try.prog 69 #[.int .i64 n] w fun e w' => e = .returned (.int .i64 (letL.getD n.toNat 0)) ∧ Below w.heap.size w w' := by
  rcases cases26 h0 h1 with rfl | rfl | rfl | rfl | rfl | rfl | rfl | rfl | rfl | rfl | rfl | rfl | rfl | rfl | rfl | rfl | rfl | rfl | rfl | rfl | rfl | rfl | rfl | rfl | rfl | rfl
  all_goals
    clear h0 h1
    go_enter Try.func69, Try.ntmps69
    go_wp2
    go_ret
    exact ⟨rfl, (Below.refl _ _).alloc (Nat.le_refl _) _⟩
end Go.Proofs.Ytjffppabpdimkaa
