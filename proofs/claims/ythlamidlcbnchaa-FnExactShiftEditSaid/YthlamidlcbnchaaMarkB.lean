
/- The texts that are marks, by their bytes. -/
import Derived.Test.YthlamidlcbnchaaMark
namespace Go.Proofs.Ythlamidlcbnchaa
open Go.RowKit

theorem mark_cases : ∀ c : Nat, c < 256 → (∃ k : Nat, k < 8 ∧ idx markL (c : Int) = (k : Int) ∧ markL.getD k 0 = (c : Int)) ∨ (idx markL (c : Int) = -1 ∧ ∀ k : Nat, k < 8 → markL.getD k 0 ≠ (c : Int)) := by
  have h : ∀ c : Nat, c < 256 → ((idx markL (c : Int)).toNat < 8 ∧ idx markL (c : Int) = ((idx markL (c : Int)).toNat : Int) ∧ markL.getD (idx markL (c : Int)).toNat 0 = (c : Int)) ∨ (idx markL (c : Int) = -1 ∧ ∀ k : Nat, k < 8 → markL.getD k 0 ≠ (c : Int)) := by decide +kernel
  intro c hc
  rcases h c hc with h | h
  · exact .inl ⟨_, h⟩
  · exact .inr h
theorem markS_eq (b : UInt8) (k : Nat) (h : markL.getD k 0 = (b.toNat : Int)) : (⟨#[b]⟩ : ByteArray) = markS k := by
  unfold markS
  rw [h]
  simp
theorem noMark_long {s : ByteArray} (h : s.size ≠ 1) : NoMark s := by
  rintro k _ rfl
  exact h rfl
theorem noMark_one {b : UInt8} (h : ∀ k : Nat, k < 8 → markL.getD k 0 ≠ (b.toNat : Int)) : NoMark ⟨#[b]⟩ := by
  intro k hk e
  apply h k hk
  unfold markS at e
  have e' : b = UInt8.ofNat (markL.getD k 0).toNat := by
    have := congrArg (fun t : ByteArray => t.data.toList) e
    simpa using this
  rw [e']
  rcases (show k = 0 ∨ k = 1 ∨ k = 2 ∨ k = 3 ∨ k = 4 ∨ k = 5 ∨ k = 6 ∨ k = 7 from by omega) with rfl | rfl | rfl | rfl | rfl | rfl | rfl | rfl <;> rfl
theorem one_byte {s : ByteArray} (h : s.size = 1) : ∃ b, s = ⟨#[b]⟩ := by
  obtain ⟨d⟩ := s
  obtain ⟨l⟩ := d
  have hl : l.length = 1 := by simpa [ByteArray.size] using h
  obtain ⟨b, rfl⟩ := List.length_eq_one_iff.1 hl
  exact ⟨b, rfl⟩

end Go.Proofs.Ythlamidlcbnchaa
