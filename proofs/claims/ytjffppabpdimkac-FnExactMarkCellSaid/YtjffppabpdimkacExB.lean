/- FnExactMarkCell: its walk. -/
import Derived.Test.YtjffppabpdimkacMark
namespace Go.Proofs.Ytjffppabpdimkac
open Go.RowKit

theorem mark_cases : ∀ c : Nat, c < 256 → (∃ k : Nat, k < 8 ∧ idx markL (c : Int) = (k : Int) ∧ markL.getD k 0 = (c : Int)) ∨ (idx markL (c : Int) = -1 ∧ ∀ k : Nat, k < 8 → markL.getD k 0 ≠ (c : Int)) := by
  have h : ∀ c : Nat, c < 256 → ((idx markL (c : Int)).toNat < 8 ∧ idx markL (c : Int) = ((idx markL (c : Int)).toNat : Int) ∧ markL.getD (idx markL (c : Int)).toNat 0 = (c : Int)) ∨ (idx markL (c : Int) = -1 ∧ ∀ k : Nat, k < 8 → markL.getD k 0 ≠ (c : Int)) := by decide +kernel
  intro c hc
  rcases h c hc with h | h
  · exact .inl ⟨_, h⟩
  · exact .inr h
theorem markS_eq (b : UInt8) (k : Nat) (h : markL.getD k 0 = (b.toNat : Int)) : (⟨#[b]⟩ : ByteArray) = markS k := by
  unfold markS
  rw [h]
  simp
theorem noMark_long {s : ByteArray} (h : s.size ≠ 1) : NoMark s := by
  rintro k _ rfl
  exact h rfl
theorem noMark_one {b : UInt8} (h : ∀ k : Nat, k < 8 → markL.getD k 0 ≠ (b.toNat : Int)) : NoMark ⟨#[b]⟩ := by
  intro k hk e
  apply h k hk
  unfold markS at e
  have e' : b = UInt8.ofNat (markL.getD k 0).toNat := by
    have := congrArg (fun t : ByteArray => t.data.toList) e
    simpa using this
  rw [e']
  rcases (show k = 0 ∨ k = 1 ∨ k = 2 ∨ k = 3 ∨ k = 4 ∨ k = 5 ∨ k = 6 ∨ k = 7 from by omega) with rfl | rfl | rfl | rfl | rfl | rfl | rfl | rfl <;> rfl
theorem one_byte {s : ByteArray} (h : s.size = 1) : ∃ b, s = ⟨#[b]⟩ := by
  obtain ⟨d⟩ := s
  obtain ⟨l⟩ := d
  have hl : l.length = 1 := by simpa [ByteArray.size] using h
  obtain ⟨b, rfl⟩ := List.length_eq_one_iff.1 hl
  exact ⟨b, rfl⟩

set_option maxHeartbeats 1000000 in
theorem exMarkCell_walk (s : ByteArray) (w0 : s.size ≤ maxLen) (w : World) :
    Calls Try.prog 10 #[.string s] w fun e w' => e = .returned (.bool true) ∧ Below w.heap.size w w' := by
  unfold maxLen at w0
  by_cases hbig : s.size ≤ 1048576
  · by_cases h1 : s.size = 1
    · obtain ⟨b, rfl⟩ := one_byte h1
      clear h1 hbig w0
      rcases mark_cases b.toNat (by have := b.toNat_lt; omega) with ⟨k, hk, hr, hc⟩ | ⟨hr, hc⟩
      · have HS : Hid ((⟨#[b]⟩ : ByteArray) = markS k) := markS_eq b k hc
        obtain ⟨v, hv⟩ : ∃ v, markC.getD k 0 = v := ⟨_, rfl⟩
        have HV := Lib.hid hv
        have HR := Lib.hid hr
        clear hv hr hc
        go_enter Try.func10, Try.ntmps10
        go_wp2_with fail
        refine (s_MarkCell_yes b k v _ hk HR HV).mono ?_
        rintro e w1 ⟨rfl, hb1⟩
        go_wp2_with fail
        refine (i_MarkCell_yes k _ v _ hk HS HV).mono ?_
        rintro e w' ⟨rfl, rfl⟩
        go_wp2
        go_ret
        exact ⟨rfl, hb1⟩
      · have HN : Hid (NoMark ⟨#[b]⟩) := noMark_one hc
        have HR := Lib.hid hr
        clear hr hc
        go_enter Try.func10, Try.ntmps10
        go_wp2_with fail
        refine (s_MarkCell_no b _ HR).mono ?_
        rintro e w' ⟨rfl, rfl⟩
        go_wp2_with fail
        refine (i_MarkCell_no _ _ HN.out).mono ?_
        rintro e w' ⟨rfl, rfl⟩
        go_wp2
        go_ret
        exact ⟨rfl, Below.refl _ _⟩
    · have HN : Hid (NoMark s) := noMark_long h1
      go_enter Try.func10, Try.ntmps10
      go_wp2_with fail
      refine (s_MarkCell_long s _ h1).mono ?_
      rintro e w' ⟨rfl, rfl⟩
      go_wp2_with fail
      refine (i_MarkCell_no _ _ HN.out).mono ?_
      rintro e w' ⟨rfl, rfl⟩
      go_wp2
      go_ret
      exact ⟨rfl, Below.refl _ _⟩
  · have hbig' : 1048576 < s.size := by omega
    go_enter Try.func10, Try.ntmps10
    go_wp2
    go_ret
    exact ⟨rfl, Below.refl _ _⟩
end Go.Proofs.Ytjffppabpdimkac
