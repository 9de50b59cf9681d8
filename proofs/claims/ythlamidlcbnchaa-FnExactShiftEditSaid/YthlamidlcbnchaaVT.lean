
/- ValidText, in the program and in its model. -/
import Derived.Test.YthlamidlcbnchaaChar
import Derived.Test.YthlamidlcbnchaaParI
namespace Go.Proofs.Ythlamidlcbnchaa
open Go.RowKit

/-- the byte may stand in a text -/
def okB (c : Nat) : Bool := letB c || decide (0 ≤ charZ c)
def ValidT (l : List UInt8) : Prop := l.length ≤ 60 ∧ ∀ b ∈ l, okB b.toNat = true
instance (l : List UInt8) : Decidable (ValidT l) := inferInstanceAs (Decidable (_ ∧ _))
theorem ok_spec : ∀ c : Nat, c < 256 → okB c = (letB c || decide (48 ≤ c ∧ c ≤ 57) || decide (c = 32) || decide (0 ≤ idx markL (c : Int))) ∧ -1 ≤ idx markL (c : Int) := by decide +kernel
def OkUp (l : List UInt8) (k : Nat) : Prop := ∀ i (h : i < l.length), i < k → okB (l[i]).toNat = true
theorem OkUp.zero (l : List UInt8) : OkUp l 0 := fun i _ h => absurd h (by omega)
theorem OkUp.succ {l : List UInt8} {k : Nat} (h : OkUp l k) (hk : k < l.length) (e : okB (l[k]).toNat = true) : OkUp l (k + 1) := fun i hi hik => by
  by_cases hh : i = k
  · subst hh; exact e
  · exact h i hi (by omega)
theorem OkUp.all {l : List UInt8} (h : OkUp l l.length) : ∀ b ∈ l, okB b.toNat = true := by
  intro b hb
  obtain ⟨i, hi, rfl⟩ := List.getElem_of_mem hb
  exact h i hi hi
theorem not_ok {l : List UInt8} {k : Nat} (hk : k < l.length) (e : okB (l[k]).toNat = false) : ¬ ValidT l := by
  rintro ⟨_, h⟩
  have := h l[k] (List.getElem_mem _)
  rw [e] at this; cases this

set_option maxHeartbeats 2000000 in
theorem i_ValidText (s : ByteArray) (w : World) (hs : s.size ≤ 9223372036854775000) :
    Calls Try.prog 17 #[.string s] w fun e w' => e = .returned (.bool (decide (ValidT s.data.toList))) ∧ Below w.heap.size w w' := by
  have hl := size_data s
  obtain ⟨l, hL⟩ : ∃ l, s.data.toList = l := ⟨_, rfl⟩
  have HE : ∀ k (h : k < s.size), ∃ h2 : k < l.length, l[k] = s[k] := fun k h => ⟨by rw [← hL, hl]; exact h, by subst hL; exact byte_eq h _⟩
  rw [hL] at hl ⊢
  have HL := Lib.hid hl
  have HHE := Lib.hid HE
  clear hl hL HE
  by_cases hbig : s.size ≤ 60
  · go_enter Try.func17, Try.ntmps17
    go_wp2
    go_loopw [3] (fun i wr => ∃ k : Nat, k ≤ s.size ∧ i = .int .i64 k ∧ OkUp l k ∧ Below w.heap.size w wr) (fun i _ => s.size - (intOf i).toNat)
    case atStart => exact ⟨0, by omega, rfl, OkUp.zero _, Below.refl _ _⟩
    case round =>
      obtain ⟨k, hk, rfl, hok, hb⟩ := hrel
      have hsw := hb.size
      by_cases hlt : k < s.size
      · obtain ⟨h2, hbk⟩ := HHE.out k hlt
        cases hlet : letB (s[k]).toNat with
        | true =>
          have HLt := Lib.hid hlet
          have hok' : OkUp l (k + 1) := hok.succ h2 (by rw [hbk, okB, hlet]; rfl)
          clear hlet hbk hok
          go_wp2_with (go_at_call 39; refine (i_isLetter_b _ true _ HLt).mono ?_; rintro e w' ⟨rfl, rfl⟩)
          go_roundw
          case rel => exact ⟨k + 1, by omega, by go_num, hok', hb⟩
          case measure => simp [intOf]; omega
        | false =>
          have HLt := Lib.hid hlet
          obtain ⟨v, hv⟩ : ∃ v, charZ (s[k]).toNat = v := ⟨_, rfl⟩
          have HV := Lib.hid hv
          by_cases h0 : 0 ≤ v
          · have hok' : OkUp l (k + 1) := hok.succ h2 (by rw [hbk, okB, hlet, hv]; simpa using h0)
            clear hlet hbk hok hv
            go_wp2_with (first | (go_at_call 39; refine (i_isLetter_b _ false _ HLt).mono ?_; rintro e w' ⟨rfl, rfl⟩) | (go_at_call 40; refine (i_charCell _ v _ HV).mono ?_; rintro e w2 ⟨rfl, hb2⟩))
            go_roundw
            case rel => exact ⟨k + 1, by omega, by go_num, hok', hb.trans (hb2.mono hsw)⟩
            case measure => simp [intOf]; omega
          · have h0' : v < 0 := by omega
            have HN : Hid (¬ ValidT l) := not_ok h2 (by rw [hbk, okB, hlet, hv]; simpa using h0')
            clear hlet hbk hok hv h0
            go_wp2_with (first | (go_at_call 39; refine (i_isLetter_b _ false _ HLt).mono ?_; rintro e w' ⟨rfl, rfl⟩) | (go_at_call 40; refine (i_charCell _ v _ HV).mono ?_; rintro e w2 ⟨rfl, hb2⟩))
            go_ret
            exact ⟨ret_bool (decide_eq_false HN.out).symm, hb.trans (hb2.mono hsw)⟩
      · have HY : Hid (ValidT l) := ⟨by have := HL.out; omega, OkUp.all (by rw [HL.out, show s.size = k from by omega]; exact hok)⟩
        go_wp2
        go_ret
        exact ⟨ret_bool (decide_eq_true HY.out).symm, hb⟩
  · have hbig' : 60 < s.size := by omega
    have HN : Hid (¬ ValidT l) := fun h => by have := h.1; have := HL.out; omega
    go_enter Try.func17, Try.ntmps17
    go_wp2
    go_ret
    exact ⟨ret_bool (decide_eq_false HN.out).symm, Below.refl _ _⟩

set_option maxHeartbeats 4000000 in
theorem s_validText (s : ByteArray) (w : World) (hs : s.size ≤ 9223372036854775000) :
    Calls Try.prog 36 #[.string s] w fun e w' => e = .returned (.bool (decide (ValidT s.data.toList))) ∧ w = w' := by
  have hl := size_data s
  obtain ⟨l, hL⟩ : ∃ l, s.data.toList = l := ⟨_, rfl⟩
  have HE : ∀ k (h : k < s.size), ∃ h2 : k < l.length, l[k] = s[k] := fun k h => ⟨by rw [← hL, hl]; exact h, by subst hL; exact byte_eq h _⟩
  rw [hL] at hl ⊢
  have HL := Lib.hid hl
  have HHE := Lib.hid HE
  clear hl hL HE
  go_enter Try.func36, Try.ntmps36
  go_wp2
  go_loop [3] (fun i => ∃ k : Nat, k ≤ s.size ∧ i = .int .i64 k ∧ OkUp l k) (fun i => s.size - (intOf i).toNat)
  case atStart => exact ⟨0, by omega, rfl, OkUp.zero _⟩
  case round =>
    obtain ⟨k, hk, rfl, hok⟩ := hrel
    by_cases hlt : k < s.size
    · obtain ⟨h2, hbk⟩ := HHE.out k hlt
      have hb256 := (s[k]).toNat_lt
      obtain ⟨hsp, hge⟩ := ok_spec (s[k]).toNat (by omega)
      obtain ⟨r, hr⟩ : ∃ r, idx markL ((s[k]).toNat : Int) = r := ⟨_, rfl⟩
      have HR := Lib.hid hr
      rw [hr] at hsp hge
      clear hr
      cases hlet : letB (s[k]).toNat with
      | true =>
        have HLt := Lib.hid hlet
        have hok' : OkUp l (k + 1) := hok.succ h2 (by rw [hbk, hsp, hlet]; rfl)
        clear hlet hbk hok hsp
        go_wp2_with (go_at_call 51; refine (s_isLetter_b _ true _ HLt).mono ?_; rintro e w' ⟨rfl, rfl⟩)
        go_round
        case rel => exact ⟨k + 1, by omega, by go_num, hok'⟩
        case measure => simp [intOf]; omega
      | false =>
        have HLt := Lib.hid hlet
        cases hdig : decide (48 ≤ (s[k]).toNat ∧ (s[k]).toNat ≤ 57) with
        | true =>
          have HD := Lib.hid hdig
          have hok' : OkUp l (k + 1) := hok.succ h2 (by rw [hbk, hsp, hdig]; simp)
          clear hlet hbk hok hsp hdig
          go_wp2_with (first | (go_at_call 51; refine (s_isLetter_b _ false _ HLt).mono ?_; rintro e w' ⟨rfl, rfl⟩) | (go_at_call 52; refine (s_isDigit_b _ true _ HD).mono ?_; rintro e w' ⟨rfl, rfl⟩))
          go_round
          case rel => exact ⟨k + 1, by omega, by go_num, hok'⟩
          case measure => simp [intOf]; omega
        | false =>
          have HD := Lib.hid hdig
          by_cases h32 : (s[k]).toNat = 32
          · have hok' : OkUp l (k + 1) := hok.succ h2 (by rw [hbk, hsp, h32]; simp)
            have e1 : ((((s[k]'hlt).toNat : Nat) : Int) != 32) = false := by rw [h32]; rfl
            clear hlet hbk hok hsp hdig h32
            go_wp2_with (first | (go_at_call 51; refine (s_isLetter_b _ false _ HLt).mono ?_; rintro e w' ⟨rfl, rfl⟩) | (go_at_call 52; refine (s_isDigit_b _ false _ HD).mono ?_; rintro e w' ⟨rfl, rfl⟩))
            go_round
            case rel => exact ⟨k + 1, by omega, by go_num, hok'⟩
            case measure => simp [intOf]; omega
          · have e1 : ((((s[k]'hlt).toNat : Nat) : Int) != 32) = true := by simp; omega
            by_cases h0 : 0 ≤ r
            · have hok' : OkUp l (k + 1) := hok.succ h2 (by rw [hbk, hsp, decide_eq_true h0]; simp)
              clear hlet hbk hok hsp hdig h32
              go_wp2_with (first | (go_at_call 51; refine (s_isLetter_b _ false _ HLt).mono ?_; rintro e w' ⟨rfl, rfl⟩) | (go_at_call 52; refine (s_isDigit_b _ false _ HD).mono ?_; rintro e w' ⟨rfl, rfl⟩) | (go_at_call 53; refine (s_markOf_v _ r _ HR).mono ?_; rintro e w' ⟨rfl, rfl⟩))
              go_round
              case rel => exact ⟨k + 1, by omega, by go_num, hok'⟩
              case measure => simp [intOf]; omega
            · have h0' : r < 0 := by omega
              have HN : Hid (¬ ValidT l) := not_ok h2 (by rw [hbk, hsp, hlet, hdig, decide_eq_false h32, decide_eq_false h0]; rfl)
              clear hlet hbk hok hsp hdig h32 h0
              go_wp2_with (first | (go_at_call 51; refine (s_isLetter_b _ false _ HLt).mono ?_; rintro e w' ⟨rfl, rfl⟩) | (go_at_call 52; refine (s_isDigit_b _ false _ HD).mono ?_; rintro e w' ⟨rfl, rfl⟩) | (go_at_call 53; refine (s_markOf_v _ r _ HR).mono ?_; rintro e w' ⟨rfl, rfl⟩))
              go_ret
              exact ⟨ret_bool (decide_eq_false HN.out).symm, rfl⟩
    · by_cases hbig : s.size ≤ 60
      · have d1 : decide ((s.size : Int) ≤ 60) = true := decide_eq_true (by omega)
        have HY : Hid (ValidT l) := ⟨by have := HL.out; omega, OkUp.all (by rw [HL.out, show s.size = k from by omega]; exact hok)⟩
        go_wp2
        go_ret
        exact ⟨ret_bool (decide_eq_true HY.out).symm, rfl⟩
      · have d1 : decide ((s.size : Int) ≤ 60) = false := decide_eq_false (by omega)
        have HN : Hid (¬ ValidT l) := fun h => by have := h.1; have := HL.out; omega
        go_wp2
        go_ret
        exact ⟨ret_bool (decide_eq_false HN.out).symm, rfl⟩
end Go.Proofs.Ythlamidlcbnchaa
