
/- Words, signs and marks: the small functions that a rule is tested by. -/
import Derived.Test.YtpohkeenfbaklaaChr
import Derived.Test.YtpohkeenfbaklaaMarkB
import Derived.Test.YtpohkeenfbaklaaRange
import Derived.Test.YtpohkeenfbaklaaIsCell
import Derived.Laws.IdiomStrings
namespace Go.Proofs.Ytpohkeenfbaklaa
open Go.RowKit

def smallN (c : Nat) : Bool := decide (97 ≤ c ∧ c ≤ 122)
/-- one to n small letters -/
def WordB (n : Nat) (l : List UInt8) : Prop := 1 ≤ l.length ∧ l.length ≤ n ∧ ∀ b ∈ l, smallN b.toNat = true
instance (n : Nat) (l : List UInt8) : Decidable (WordB n l) := inferInstanceAs (Decidable (_ ∧ _))
/-- small letters alone, at least one -/
def SmallB (l : List UInt8) : Prop := 1 ≤ l.length ∧ ∀ b ∈ l, smallN b.toNat = true
instance (l : List UInt8) : Decidable (SmallB l) := inferInstanceAs (Decidable (_ ∧ _))
def SmUp (l : List UInt8) (k : Nat) : Prop := ∀ i (h : i < l.length), i < k → smallN (l[i]).toNat = true
theorem SmUp.zero (l : List UInt8) : SmUp l 0 := fun i _ h => absurd h (by omega)
theorem SmUp.succ {l : List UInt8} {k : Nat} (h : SmUp l k) (hk : k < l.length) (e : smallN (l[k]).toNat = true) : SmUp l (k + 1) := fun i hi hik => by
  by_cases hek : i = k
  · subst hek; exact e
  · exact h i hi (by omega)
theorem SmUp.all {l : List UInt8} (h : SmUp l l.length) : ∀ b ∈ l, smallN b.toNat = true := by
  intro b hb
  obtain ⟨i, hi, rfl⟩ := List.getElem_of_mem hb
  exact h i hi hi
theorem not_small {l : List UInt8} {k : Nat} (hk : k < l.length) (e : smallN (l[k]).toNat = false) : ¬ ∀ b ∈ l, smallN b.toNat = true := by
  intro h
  have := h l[k] (List.getElem_mem _)
  rw [e] at this; cases this
theorem wd_byte {s : ByteArray} {k : Nat} (h : k < s.size) (h2 : k < s.data.toList.length) : s.data.toList[k]'h2 = s[k]'h := rfl
theorem wd_size (s : ByteArray) : s.data.toList.length = s.size := by rw [Array.length_toList]; rfl

set_option maxHeartbeats 2000000 in
theorem i_onlySmall (s : ByteArray) (n : Nat) (w : World) (hs : s.size ≤ 9223372036854775807) (hn : n ≤ 1000) :
    Calls Try.prog 59 #[.string s, .int .i64 n] w fun e w' => e = .returned (.bool (decide (WordB n s.data.toList))) ∧ w = w' := by
  have hl := wd_size s
  obtain ⟨l, hL⟩ : ∃ l, s.data.toList = l := ⟨_, rfl⟩
  have HE : ∀ k (h : k < s.size), ∃ h2 : k < l.length, l[k] = s[k] := fun k h => ⟨by rw [← hL, hl]; exact h, by subst hL; exact wd_byte h _⟩
  rw [hL] at hl ⊢
  have HL := Lib.hid hl
  have HHE := Lib.hid HE
  clear hl hL HE
  by_cases h1 : s.size < 1
  · have HN : Hid (¬ WordB n l) := fun h => by have := h.1; have := HL.out; omega
    go_enter Try.func59, Try.ntmps59
    go_wp2
    go_ret
    exact ⟨ret_bool (decide_eq_false HN.out).symm, rfl⟩
  · by_cases h2 : n < s.size
    · have HN : Hid (¬ WordB n l) := fun h => by have := h.2.1; have := HL.out; omega
      go_enter Try.func59, Try.ntmps59
      go_wp2
      go_ret
      exact ⟨ret_bool (decide_eq_false HN.out).symm, rfl⟩
    · go_enter Try.func59, Try.ntmps59
      go_wp2
      go_loop [5] (fun i => ∃ k : Nat, k ≤ s.size ∧ i = .int .i64 k ∧ SmUp l k) (fun i => s.size - (intOf i).toNat)
      case atStart => exact ⟨0, by omega, rfl, SmUp.zero _⟩
      case round =>
        obtain ⟨k, hk, rfl, hok⟩ := hrel
        by_cases hlt : k < s.size
        · obtain ⟨h3, hbk⟩ := HHE.out k hlt
          cases hlet : smallN (s[k]).toNat with
          | true =>
            have HLt : Hid (decide (97 ≤ (s[k]).toNat ∧ (s[k]).toNat ≤ 122) = true) := hlet
            have hok' : SmUp l (k + 1) := hok.succ h3 (by rw [hbk]; exact hlet)
            clear hlet hbk hok
            go_wp2_with (go_at_call 66; refine (i_isSmall_b _ true _ HLt).mono ?_; rintro e w' ⟨rfl, rfl⟩)
            go_round
            case rel => exact ⟨k + 1, by omega, by go_num, hok'⟩
            case measure => simp [intOf]; omega
          | false =>
            have HLt : Hid (decide (97 ≤ (s[k]).toNat ∧ (s[k]).toNat ≤ 122) = false) := hlet
            have HN : Hid (¬ WordB n l) := fun h => not_small h3 (by rw [hbk]; exact hlet) h.2.2
            clear hlet hbk hok
            go_wp2_with (go_at_call 66; refine (i_isSmall_b _ false _ HLt).mono ?_; rintro e w' ⟨rfl, rfl⟩)
            go_ret
            exact ⟨ret_bool (decide_eq_false HN.out).symm, rfl⟩
        · have HY : Hid (WordB n l) := ⟨by have := HL.out; omega, by have := HL.out; omega, SmUp.all (by rw [HL.out, show s.size = k from by omega]; exact hok)⟩
          go_wp2
          go_ret
          exact ⟨ret_bool (decide_eq_true HY.out).symm, rfl⟩
theorem i_isWord (s : ByteArray) (w : World) (hs : s.size ≤ 9223372036854775807) :
    Calls Try.prog 45 #[.string s] w fun e w' => e = .returned (.bool (decide (WordB 16 s.data.toList))) ∧ w = w' := by
  have H : Hid (Calls Try.prog 59 #[.string s, .int .i64 16] w fun e w' => e = .returned (.bool (decide (WordB 16 s.data.toList))) ∧ w = w') := i_onlySmall s 16 w hs (by omega)
  go_enter Try.func45, Try.ntmps45
  go_wp2_with (go_at_call 59; refine H.out.mono ?_; rintro e w' ⟨rfl, rfl⟩)
  go_ret
  exact ⟨rfl, rfl⟩

set_option maxHeartbeats 2000000 in
theorem s_isWord (s : ByteArray) (w : World) (hs : s.size ≤ 9223372036854775807) :
    Calls Try.prog 63 #[.string s] w fun e w' => e = .returned (.bool (decide (SmallB s.data.toList))) ∧ w = w' := by
  have hl := wd_size s
  obtain ⟨l, hL⟩ : ∃ l, s.data.toList = l := ⟨_, rfl⟩
  have HE : ∀ k (h : k < s.size), ∃ h2 : k < l.length, l[k] = s[k] := fun k h => ⟨by rw [← hL, hl]; exact h, by subst hL; exact wd_byte h _⟩
  rw [hL] at hl ⊢
  have HL := Lib.hid hl
  have HHE := Lib.hid HE
  clear hl hL HE
  go_enter Try.func63, Try.ntmps63
  go_wp2
  go_loop [3] (fun i => ∃ k : Nat, k ≤ s.size ∧ i = .int .i64 k ∧ SmUp l k) (fun i => s.size - (intOf i).toNat)
  case atStart => exact ⟨0, by omega, rfl, SmUp.zero _⟩
  case round =>
    obtain ⟨k, hk, rfl, hok⟩ := hrel
    by_cases hlt : k < s.size
    · obtain ⟨h3, hbk⟩ := HHE.out k hlt
      cases hlet : smallN (s[k]).toNat with
      | true =>
        have HLt : Hid (decide (97 ≤ (s[k]).toNat ∧ (s[k]).toNat ≤ 122) = true) := hlet
        have hok' : SmUp l (k + 1) := hok.succ h3 (by rw [hbk]; exact hlet)
        clear hlet hbk hok
        go_wp2_with (go_at_call 68; refine (s_isLower_b _ true _ HLt).mono ?_; rintro e w' ⟨rfl, rfl⟩)
        go_round
        case rel => exact ⟨k + 1, by omega, by go_num, hok'⟩
        case measure => simp [intOf]; omega
      | false =>
        have HLt : Hid (decide (97 ≤ (s[k]).toNat ∧ (s[k]).toNat ≤ 122) = false) := hlet
        have HN : Hid (¬ SmallB l) := fun h => not_small h3 (by rw [hbk]; exact hlet) h.2
        clear hlet hbk hok
        go_wp2_with (go_at_call 68; refine (s_isLower_b _ false _ HLt).mono ?_; rintro e w' ⟨rfl, rfl⟩)
        go_ret
        exact ⟨ret_bool (decide_eq_false HN.out).symm, rfl⟩
    · have hk0 : k = s.size := by omega
      subst hk0
      by_cases h0 : 0 < s.size
      · have HY : Hid (SmallB l) := ⟨by have := HL.out; omega, SmUp.all (by rw [HL.out]; exact hok)⟩
        have d1 : decide ((0 : Int) < (s.size : Int)) = true := decide_eq_true (by omega)
        go_wp2
        go_ret
        exact ⟨ret_bool (decide_eq_true HY.out).symm, rfl⟩
      · have HN : Hid (¬ SmallB l) := fun h => by have := h.1; have := HL.out; omega
        have d1 : decide ((0 : Int) < (s.size : Int)) = false := decide_eq_false (by omega)
        go_wp2
        go_ret
        exact ⟨ret_bool (decide_eq_false HN.out).symm, rfl⟩

/-- the mark whose cell it is, 0 if there is none -/
def markOfC (z : Int) : Nat := if idx markC z = -1 then 0 else (markL.getD (idx markC z).toNat 0).toNat
theorem mark_sub (k : Nat) (hk : k < 8) : (⟨#[46, 44, 59, 58, 33, 63, 39, 45]⟩ : ByteArray).extract k (k + 1) = markS k := by
  rcases (show k = 0 ∨ k = 1 ∨ k = 2 ∨ k = 3 ∨ k = 4 ∨ k = 5 ∨ k = 6 ∨ k = 7 from by omega) with rfl | rfl | rfl | rfl | rfl | rfl | rfl | rfl <;> rfl
theorem markL_nat (k : Nat) : ((markL.getD k 0).toNat : Int) = markL.getD k 0 := by
  by_cases h : k < 8
  · rcases (show k = 0 ∨ k = 1 ∨ k = 2 ∨ k = 3 ∨ k = 4 ∨ k = 5 ∨ k = 6 ∨ k = 7 from by omega) with rfl | rfl | rfl | rfl | rfl | rfl | rfl | rfl <;> rfl
  · rw [List.getD_eq_getElem?_getD, List.getElem?_eq_none (by simp [markL]; omega)]; rfl
end Go.Proofs.Ytpohkeenfbaklaa
