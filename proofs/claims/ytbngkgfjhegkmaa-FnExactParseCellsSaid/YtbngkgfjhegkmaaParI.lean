
/- ParseCells in the program. -/
import Derived.Test.YtbngkgfjhegkmaaPar
namespace Go.Proofs.Ytbngkgfjhegkmaa
open Go.RowKit

theorem toList_data (s : ByteArray) : s.toList = s.data.toList := ByteArray.toList_eq s
theorem byte_eq {s : ByteArray} {k : Nat} (h : k < s.size) (h2 : k < s.data.toList.length) : s.data.toList[k]'h2 = s[k]'h := rfl
theorem size_data (s : ByteArray) : s.data.toList.length = s.size := by rw [Array.length_toList]; rfl
theorem extract_list (s : ByteArray) (a b : Nat) : (s.extract a b).data.toList = sub s.data.toList a b := by
  rw [ByteArray.data_extract, Array.toList_extract]; rfl
theorem u8_ne {b c : UInt8} (h : b ≠ c) : b.toNat ≠ c.toNat := fun e => h (UInt8.toNat_inj.1 e)

set_option maxHeartbeats 1000000 in
theorem i_hyphenAt (s : ByteArray) (k0 : Nat) (w : World) (hs : s.size ≤ 9223372036854775000) (h0 : k0 ≤ s.size) :
    Calls Try.prog 24 #[.string s, .int .i64 k0, .int .u8 45] w fun e w' => e = .returned (.int .i64 (tw s.data.toList k0)) ∧ w = w' := by
  have hl := size_data s
  obtain ⟨l, hL⟩ : ∃ l, s.data.toList = l := ⟨_, rfl⟩
  have HE : ∀ k (h : k < s.size), ∃ h2 : k < l.length, l[k] = s[k] := fun k h => ⟨by rw [← hL, hl]; exact h, by subst hL; exact byte_eq h _⟩
  rw [hL] at hl ⊢
  have HL := Lib.hid hl
  have HHE := Lib.hid HE
  clear hl hL HE
  go_enter Try.func24, Try.ntmps24
  go_wp2
  go_loop [7] (fun i => ∃ k : Nat, k ≤ s.size ∧ i = .int .i64 k ∧ Hid (tw l k0 = tw l k)) (fun i => s.size - (intOf i).toNat)
  case atStart => exact ⟨k0, h0, rfl, rfl⟩
  case round =>
    obtain ⟨k, hk, rfl, ht⟩ := hrel
    by_cases hlt : k < s.size
    · obtain ⟨h2, hb⟩ := HHE.out k hlt
      by_cases e : s[k] = 45
      · have e1 : ((((s[k]'hlt).toNat : Nat) : Int) != 45) = false := by rw [e]; rfl
        have hT : Hid (tw l k = k) := tw_stop h2 (hb.trans e)
        clear e hb
        go_wp2
        go_ret
        exact ⟨ret_i64' (by rw [ht.out, hT.out]), rfl⟩
      · have e1 : ((((s[k]'hlt).toNat : Nat) : Int) != 45) = true := by
          have := u8_ne e
          simp at this ⊢
          omega
        have hT : Hid (tw l k = tw l (k + 1)) := tw_go h2 (by rw [hb]; exact e)
        clear e hb
        go_wp2
        go_round
        case rel => exact ⟨k + 1, by omega, by go_num, ht.out.trans hT.out⟩
        case measure => simp [intOf]; omega
    · go_wp2
      go_ret
      exact ⟨ret_i64' (by rw [ht.out, tw_end (by have := HL.out; omega)]), rfl⟩

theorem pc_zero : pc [48] = 0 := pc_of (c := 0) (by omega) rfl
theorem pc_short {p : List UInt8} (h : p = [] ∨ 6 < p.length) : pc p = -1 := by
  apply pc_none
  rintro c hc rfl
  have := cellT_len c hc
  rcases h with h | h
  · rw [h] at this; simp at this
  · omega
theorem dotsOfB_getD {p : List UInt8} {k : Nat} (h : k < p.length) : (dotsOfB p).getD k 0 = (p[k].toNat : Int) - 48 := by
  simp [dotsOfB, List.getD_eq_getElem?_getD, h]
theorem dotsOfB_length (p : List UInt8) : (dotsOfB p).length = p.length := by simp [dotsOfB]

set_option maxHeartbeats 1000000 in
theorem i_cellOfText (p : ByteArray) (w : World) (hs : p.size ≤ 9223372036854775000) :
    Calls Try.prog 25 #[.string p] w fun e w' => e = .returned (.int .i64 (pc p.data.toList)) ∧ Below w.heap.size w w' := by
  obtain ⟨i0, hi, hz0, hz1, hz2⟩ := info_parts infoInt
  have hl := size_data p
  obtain ⟨l, hL⟩ : ∃ l, p.data.toList = l := ⟨_, rfl⟩
  have HE : ∀ k (h : k < p.size), ∃ h2 : k < l.length, l[k] = p[k] := fun k h => ⟨by rw [← hL, hl]; exact h, by subst hL; exact byte_eq h _⟩
  have HQ : p.toList = l := by rw [toList_data, hL]
  rw [hL] at hl ⊢
  have HL := Lib.hid hl
  have HHE := Lib.hid HE
  clear hL HE
  by_cases hA : l = [48]
  · have e1 : (p.toList == [48]) = true := by rw [HQ, hA]; rfl
    have HP : Hid (pc l = 0) := by rw [hA]; exact pc_zero
    clear hA HQ hl
    go_enter Try.func25, Try.ntmps25
    go_wp2
    go_ret
    exact ⟨ret_i64' HP.out.symm, Below.refl _ _⟩
  · have e1 : (p.toList == [48]) = false := by rw [HQ]; simpa using hA
    by_cases hB : l = []
    · have e2 : p.toList.isEmpty = true := by rw [HQ, hB]; rfl
      have HP : Hid (pc l = -1) := pc_short (.inl hB)
      clear hA hB HQ hl
      go_enter Try.func25, Try.ntmps25
      go_wp2
      go_ret
      exact ⟨ret_i64' HP.out.symm, Below.refl _ _⟩
    · have e2 : p.toList.isEmpty = false := by rw [HQ]; simpa using hB
      by_cases hC : 6 < p.size
      · have d1 : decide ((6 : Int) < (p.size : Int)) = true := decide_eq_true (by omega)
        have HP : Hid (pc l = -1) := pc_short (.inr (by omega))
        clear hA hB HQ hl
        go_enter Try.func25, Try.ntmps25
        go_wp2
        go_ret
        exact ⟨ret_i64' HP.out.symm, Below.refl _ _⟩
      · have d1 : decide ((6 : Int) < (p.size : Int)) = false := decide_eq_false (by omega)
        have HP : Hid (cellL (dotsOfB l) = pc l) := cellOf_pc hA hB
        have hDl : Hid ((dotsOfB l).length = p.size) := (dotsOfB_length l).trans hl
        clear hA hB HQ hl
        go_enter Try.func25, Try.ntmps25
        go_wp2
        go_loopw [3, 4] (fun v i wr => ∃ k : Nat, k ≤ p.size ∧ i = .int .i64 k ∧ OwnInts wr w.heap.size v ((dotsOfB l).take k) ∧ Below w.heap.size w wr) (fun _ i _ => p.size - (intOf i).toNat)
        case atStart => exact ⟨0, Nat.zero_le _, rfl, OwnInts.nil _ _, Below.refl _ _⟩
        case round =>
          obtain ⟨k, hk, rfl, hown, hb⟩ := hrel
          have hsw := hb.size
          by_cases hlt : k < p.size
          · obtain ⟨h2, hbk⟩ := HHE.out k hlt
            have hS : Hid ((dotsOfB l).take (k + 1) = (dotsOfB l).take k ++ [((p[k].toNat : Nat) : Int) - 48]) := by
              show _ = _
              rw [take_succ' hDl.out hlt, dotsOfB_getD h2, hbk]
            have hb255 : p[k].toNat ≤ 255 := by have := p[k].toNat_lt; omega
            have hlz : ((dotsOfB l).take k).length ≤ 6 := by simp; omega
            obtain ⟨D, hD⟩ : ∃ D, (dotsOfB l).take k = D := ⟨_, rfl⟩
            rw [hD] at hown hS hlz
            clear hD hbk
            go_wp2_with (at_builtin; go_loud (refine wpList_append_own _ rfl _ _ 23 rfl w.heap.size 3 i0 (.int .i64 0) 1 8 Try.underlying23 hi hz0 hz1 hz2 rfl (by decide) _ _ _ rfl (hown.alloc _) ⟨wr.heap.size, 0, none⟩ 1 1 [.int .i64 (((p[k].toNat : Nat) : Int) - 48)] rfl rfl new_one one_cell (by unfold maxLen; omega) (by omega) (by simp; omega) ?_))
            intro v' w1 hown' hgrow _
            have R1 := OwnInts.snoc hown'
            have R2 := below_append hb hsw hown hgrow
            clear hown' hgrow hown hb
            go_wp2
            go_roundw
            case rel => exact ⟨k + 1, by omega, by go_num, by rw [hS.out]; exact R1, R2⟩
            case measure => simp [intOf]; omega
          · rw [List.take_of_length_le (by have := hDl.out; omega)] at hown
            have hx := hown.at
            obtain ⟨_, _, hv, _⟩ := id hx
            rw [hv] at hx
            subst hv
            clear hown
            go_wp2_with (go_at_call 36; refine (i_cellOf _ _ (dotsOfB l) hx).mono ?_; rintro e w' ⟨rfl, rfl⟩)
            go_ret
            exact ⟨ret_i64' HP.out, hb⟩
end Go.Proofs.Ytbngkgfjhegkmaa
