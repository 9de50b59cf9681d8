
/- FnDigitCell, FnDigitOf, FnLetterOf: their walks. -/
import Derived.Test.YtekchmbbafjmmaaDrC
import Derived.Test.YtekchmbbafjmmaaLetB
namespace Go.Proofs.Ytekchmbbafjmmaa
open Go.RowKit

theorem digL_facts : ∀ k, k < 10 → 0 ≤ digL.getD k 0 ∧ idx digL (digL.getD k 0) = k ∧ letL.getD ((k + 9) % 10) 0 = digL.getD k 0 := by decide

theorem digOf_facts : ∀ c : Nat, c < 66 → 0 ≤ idx digL ((c : Int) - 1) → (∃ k, k < 10 ∧ idx digL ((c : Int) - 1) = (k : Nat) ∧ digL.getD k 0 = (c : Int) - 1) ∧ 0 ≤ idx letL ((c : Int) - 1) ∧ idx letL ((c : Int) - 1) ≤ 9 := by
  have h : ∀ c : Nat, c < 66 → 0 ≤ idx digL ((c : Int) - 1) → (idx digL ((c : Int) - 1)).toNat < 10 ∧ idx digL ((c : Int) - 1) = ((idx digL ((c : Int) - 1)).toNat : Nat) ∧ digL.getD (idx digL ((c : Int) - 1)).toNat 0 = (c : Int) - 1 ∧ 0 ≤ idx letL ((c : Int) - 1) ∧ idx letL ((c : Int) - 1) ≤ 9 := by decide
  intro c hc h0
  obtain ⟨a, b, d, e⟩ := h c hc h0
  exact ⟨⟨_, a, b, d⟩, e⟩
theorem letOf_facts : ∀ c : Nat, c < 66 → 0 ≤ idx letL ((c : Int) - 1) → (∃ k, k < 26 ∧ idx letL ((c : Int) - 1) = (k : Nat) ∧ letL.getD k 0 = (c : Int) - 1) := by
  have h : ∀ c : Nat, c < 66 → 0 ≤ idx letL ((c : Int) - 1) → (idx letL ((c : Int) - 1)).toNat < 26 ∧ idx letL ((c : Int) - 1) = ((idx letL ((c : Int) - 1)).toNat : Nat) ∧ letL.getD (idx letL ((c : Int) - 1)).toNat 0 = (c : Int) - 1 := by decide
  intro c hc h0
  obtain ⟨a, b, d⟩ := h c hc h0
  exact ⟨_, a, b, d⟩

def cntL : Nat → Nat
  | 0 => 0
  | k + 1 => cntL k + if 0 ≤ idx letL (k : Int) then 1 else 0
theorem cntL_end : cntL 64 = 26 := by decide
theorem cntL_le (k : Nat) : cntL k ≤ k := by
  induction k with
  | zero => simp [cntL]
  | succ k ih => simp only [cntL]; split <;> omega

end Go.Proofs.Ytekchmbbafjmmaa
