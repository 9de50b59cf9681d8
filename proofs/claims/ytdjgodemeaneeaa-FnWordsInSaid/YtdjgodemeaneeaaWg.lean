
/- P55: its walk. -/
import Derived.Test.YtdjgodemeaneeaaWf
namespace Go.Proofs.Ytdjgodemeaneeaa
open Go.RowKit

set_option maxHeartbeats 2000000 in
theorem wordsIn_walk (a : Option Addr) (len cap : Nat) (zs : List Int) (w : World) (h : RowIn .u8 w a len cap zs) :
    Calls Try.prog 6 #[.slice a len cap] w fun e w' => e = .returned (.bool true) ∧ Below w.heap.size w w' := by
  have hlen : len ≤ 9223372036854775807 := by
    obtain ⟨_, h2, h3⟩ := bytesAt_of_row h; unfold maxLen at h3; omega
  by_cases hbig : len ≤ 1048576
  · go_enter Try.func6, Try.ntmps6
    go_wp2_with fail
    refine (drawWordsIn_any w a len cap zs h).mono ?_
    rintro e w1 ⟨s, rfl, hs, hb1⟩
    clear h
    obtain ⟨P, hP⟩ : ∃ P, wordsL s.data.toList = P := ⟨_, rfl⟩
    have hP60 : P.length ≤ 60 := by rw [← hP]; exact wordsL_len _
    have HSZ : Hid (szs P ≤ nsp s.data.toList) := by rw [← hP]; exact wordsL_szs _
    have HME : Hid (∀ t ∈ P, WordB 16 t.data.toList) := by rw [← hP]; exact fun t ht => wordsL_mem ht
    have HNS : Hid (nsp s.data.toList ≤ 520) := by
      show _ ≤ _
      have h1 : nsp s.data.toList ≤ s.data.toList.length := List.countP_le_length
      rw [size_data] at h1
      omega
    have HS : Hid (∀ wx, Calls Try.prog 18 #[.string s] wx fun e w' => TextsMade P wx e w') := fun wx => by rw [← hP]; exact s_WordsIn s _ wx rfl (by omega)
    have HI : Hid (∀ wx, Calls Try.prog 19 #[.string s] wx fun e w' => TextsMade P wx e w') := fun wx => by rw [← hP]; exact i_WordsIn s _ wx rfl (by omega)
    have HB1 := keptS hb1
    clear hP hb1
    go_wp2_with fail
    refine (HI.out w1).mono ?_
    rintro e w2 ⟨v0, rfl, hO0, hb2⟩
    obtain ⟨a0, n0, c0, rfl⟩ := hO0.isSlice
    have HLN := keptS hO0.len
    have HO2 := keptS hO0
    have HB2 := keptS (below_st HB1.out hb2)
    clear hO0 hb2
    go_wp2_with fail
    refine (HS.out w2).mono ?_
    rintro e w3 ⟨v1, rfl, hO1, hb3⟩
    obtain ⟨a1, n1, c1, rfl⟩ := hO1.isSlice
    have HO3 := keptS (HO2.out.below hb3)
    have HO1 := keptS hO1
    have HB3 := keptS (below_st HB2.out hb3)
    clear hO1 hb3
    go_wp2_with fail
    refine (equalTexts_same w3 _ _ _ _ _ _ _ _ P HO3.out HO1.out).mono ?_
    rintro e w4 ⟨rfl, hb4⟩
    have HO4 := keptS (HO3.out.below hb4)
    have HB4 := keptS (below_st HB3.out hb4)
    clear hb4
    obtain ⟨b, hb⟩ : ∃ b, decide (ValidT s.data.toList) = b := ⟨_, rfl⟩
    have HB := keptS hb
    clear hb
    go_wp2_with fail
    refine (i_ValidText_v s b _ (by omega) HB).mono ?_
    rintro e w5 ⟨rfl, hb5⟩
    have HO5 := keptS (HO4.out.below hb5)
    have HB5 := keptS (below_st HB4.out hb5)
    clear hb5
    cases b with
    | false =>
      go_wp2_with fail
      refine (HS.out w5).mono ?_
      rintro e w6 ⟨v1, rfl, hO1, hb6⟩
      obtain ⟨a1, n1, c1, rfl⟩ := hO1.isSlice
      have HO6 := keptS (HO5.out.below hb6)
      have HO1 := keptS hO1
      have HB6 := keptS (below_st HB5.out hb6)
      clear hO1 hb6
      go_wp2_with fail
      refine (equalTexts_same w6 _ _ _ _ _ _ _ _ P HO6.out HO1.out).mono ?_
      rintro e w7 ⟨rfl, hb7⟩
      have HB7 := keptS (below_st HB6.out hb7)
      clear hb7
      go_wp2
      go_ret
      exact ⟨rfl, HB7.out⟩
    | true =>
      have hn0 : n0 ≤ 60 := by have := HLN.out; omega
      have H0 : Hid ((0 : Nat) = szs (P.take 0)) := rfl
      go_wp2
      go_loopw [5, 6] (fun n i wr => ∃ (k m : Nat), k ≤ n0 ∧ i = .int .i64 k ∧ n = .int .i64 m ∧ m ≤ 520 ∧ Hid (m = szs (P.take k)) ∧ Below w5.heap.size w5 wr) (fun _ i _ => n0 - (intOf i).toNat)
      case atStart => exact ⟨0, 0, by omega, rfl, rfl, by omega, H0, Below.refl _ _⟩
      case round =>
        obtain ⟨k, m, hk, rfl, rfl, hm5, hm, hbr⟩ := hrel
        by_cases hlt : k < n0
        · have hlP : k < P.length := by have := HLN.out; omega
          obtain ⟨g, rfl, _, _, d0⟩ := (HO5.out.below hbr).nth hlt
          have HBR := keptS hbr
          obtain ⟨t, ht⟩ : ∃ t, P.getD k ⟨#[]⟩ = t := ⟨_, rfl⟩
          have hst := szs_take P k hlP
          have hle := szs_take_le P (k + 1)
          rw [ht] at d0 hst
          have htm : t ∈ P := by
            rw [← ht, List.getD_eq_getElem?_getD, List.getElem?_eq_getElem hlP]
            exact List.getElem_mem hlP
          have hw := HME.out t htm
          have hts : t.size ≤ 16 := by have := hw.2.1; rw [size_data] at this; exact this
          have HW : Hid (decide (WordB 16 t.data.toList) = true) := decide_eq_true hw
          have hmt : m + t.size ≤ 520 := by have := hm.out; have := HSZ.out; have := HNS.out; omega
          have HM2 : Hid (m + t.size = szs (P.take (k + 1))) := by show _ = _; rw [hst, ← hm.out]
          have b1 : (0 : Int) ≤ (k : Int) := by omega
          have b2 : (k : Int) < (n0 : Int) := by omega
          clear hst hle htm hw hm hbr ht hlP
          go_wp2_with fail
          refine (l_isWord_wb t true _ (by omega) HW).mono ?_
          rintro e w' ⟨rfl, rfl⟩
          go_wp2
          go_roundw
          case rel => exact ⟨k + 1, m + t.size, by omega, by go_num, by go_num, hmt, HM2, HBR.out⟩
          case measure => simp [intOf]; omega
        · have HT : Hid (Txt s s.data.toList) := Txt.of s
          obtain ⟨N, hN⟩ : ∃ N, nsp s.data.toList = N := ⟨_, rfl⟩
          have HC : Hid (Calls Try.prog 27 #[.string s] wr fun e w' => e = .returned (.int .i64 N) ∧ wr = w') := by
            rw [← hN]; exact l_nonSpaces s _ wr HT.out (by omega)
          have hmN : m ≤ N := by
            have h1 := hm.out
            have h2 := HSZ.out
            have h3 := szs_take_le P k
            omega
          have HMN := Lib.hid hmN
          have FIN := keptS (below_st HB5.out hbr)
          clear hN hmN hm hbr
          go_wp2_with fail
          refine HC.out.mono ?_
          rintro e w' ⟨rfl, rfl⟩
          go_wp2
          go_ret
          exact ⟨ret_bool (decide_eq_true HMN.out), FIN.out⟩
  · go_enter Try.func6, Try.ntmps6
    go_wp2
    go_ret
    exact ⟨rfl, Below.refl _ _⟩
end Go.Proofs.Ytdjgodemeaneeaa
