
/- Each code has its own events. -/
import Derived.Test.YtjedkmhmkipkdaaBr
namespace Go.Proofs.Ytjedkmhmkipkdaa
open Go.RowKit

set_option maxHeartbeats 1000000 in
theorem keysOfEach_walk (a : Option Addr) (len cap : Nat) (zs : List Int) (w : World) (h : RowIn .u8 w a len cap zs) :
    Calls Try.prog 8 #[.slice a len cap] w fun e w' => e = .returned (.bool true) ∧ Below w.heap.size w w' := by
  have hlen : len ≤ 9223372036854775807 := by
    obtain ⟨_, h2, h3⟩ := bytesAt_of_row h; unfold maxLen at h3; omega
  by_cases hbig : len ≤ 1048576
  · go_enter Try.func8, Try.ntmps8
    go_wp2_with fail
    refine (drawKeysOf_any w a len cap zs h).mono ?_
    rintro e w1 ⟨a1, n1, c1, E, rfl, hO, hn, hm, hbt, hB⟩
    clear h
    have HN := keptE hn
    have HF := keptE (hbt.fits (by omega) (by omega))
    have HE1 := keptE hO.sh
    have HB1 := keptE hB
    obtain ⟨L, hr⟩ : ∃ L, keysL E = L := ⟨_, rfl⟩
    have HR := keptE hr
    clear hr hn hbt hO hB
    go_wp2_with fail
    refine (i_KeysOf w1 _ E L HE1.out.1 HF.out HR).mono ?_
    rintro e w2 ⟨a2, n2, c2, rfl, hO2, hb2⟩
    have HN2 := keptE hO2.lenB
    have HO2 := keptE hO2.sh
    have HE2 := keptE (HE1.out.below hb2)
    have HB2 := keptE (below_next HB1.out hb2)
    have hcap2 : n2 ≤ 9223372036854775807 := by
      obtain ⟨_, _, e, e1, e2, _⟩ := hO2.at
      injection e with _ e3 e4
      omega
    clear hO2 hb2 HE1 HB1
    go_wp2_with fail
    refine (s_KeysOf w2 _ E L HE2.out.1 HF.out HR).mono ?_
    rintro e w3 ⟨a3, n3, c3, rfl, hO3, hb3⟩
    have HS3 := keptE hO3.at
    have HO3 := keptE (HO2.out.below hb3)
    have HE3 := keptE (HE2.out.below hb3)
    have HB3 := keptE (below_next HB2.out hb3)
    clear hO3 hb3 HE2 HB2 HO2
    go_wp2_with fail
    refine (equalInts_sameB w3 _ _ L HO3.out.1 HS3.out).mono ?_
    rintro e w4 ⟨rfl, hb4⟩
    have HS4 := keptE (HS3.out.below hb4)
    have HO4 := keptE (HO3.out.below hb4)
    have HE4 := keptE (HE3.out.below hb4)
    have HB4 := keptE (below_next HB3.out hb4)
    clear hb4 HE3 HB3 HO3 HS3
    by_cases h0 : n2 = 0
    · subst h0
      go_wp2_with fail
      refine (s_KeysOf w4 _ E L HE4.out.1 HF.out HR).mono ?_
      rintro e w5 ⟨a5, n5, c5, rfl, hO5, hb5⟩
      have HS5 := keptE hO5.at
      have HO5 := keptE (HO4.out.below hb5)
      have HB5 := keptE (below_next HB4.out hb5)
      clear hO5 hb5
      go_wp2_with fail
      refine (equalInts_sameB w5 _ _ L HO5.out.1 HS5.out).mono ?_
      rintro e w6 ⟨rfl, hb6⟩
      have HB6 := keptE (below_next HB5.out hb6)
      clear hb6
      go_wp2
      go_ret
      exact ⟨rfl, HB6.out⟩
    · have e0 : ((n2 : Int) == 0) = false := by simp; omega
      have hce := keysL_ne (zs := E) (by rw [HR.out]; intro e; rw [e] at HN2; exact h0 HN2.out.symm)
      rw [HR.out] at hce
      obtain ⟨hc, hLe⟩ := hce
      have HC := keptE hc
      have HLE := keptE hLe
      clear hc hLe h0
      have hn1 : 1 ≤ n1 := by
        rcases Nat.eq_zero_or_pos n1 with h | h
        · have hE : E = [] := List.length_eq_zero_iff.1 (by rw [HN.out]; exact h)
          have hl := HN2.out
          rw [HLE.out, hE] at hl
          have : n2 = 0 := by rw [← hl]; rfl
          subst this
          simp at e0
        · exact h
      obtain ⟨g, off, c1', hga, hcs, hnc⟩ : ∃ g off, ∃ c1' : Nat, a1 = some ⟨g, off, none⟩ ∧ Hid (∀ wx, Below w4.heap.size w4 wx → ∀ i, i < n1 → wx.cell? ⟨g, off + i, none⟩ = some (.int .i64 (E.getD i 0))) ∧ n1 ≤ c1 ∧ c1 ≤ 9223372036854775807 := by
        obtain ⟨a', c', e, e3, e4, h5⟩ := HE4.out.1
        injection e with e1 e2 e5
        rcases h5 with h0' | ⟨g', off', e6, h6⟩
        · have := HN.out; rw [h0'] at this; simp at this; omega
        · refine ⟨g', off', 0, by rw [e1, e6], fun wx hb i hi => ?_, by omega, by omega⟩
          have h7 := h6 i (by rw [HN.out]; exact hi)
          exact (hb.cell (World.block_lt_of_cell? w4 _ h7)).trans h7
      subst hga
      clear c1'
      obtain ⟨hnc1, hnc2⟩ := hnc
      have HI1 : Hid (∀ wx, Below w4.heap.size w4 wx → IntsAt wx (.slice (some ⟨g, off, none⟩) 1 c1) (E.take 1)) := fun wx hb => by
        have hl : (E.take 1).length = 1 := by rw [List.length_take, HN.out]; omega
        refine ⟨_, c1, by rw [hl], by omega, hnc2, .inr ⟨g, off, rfl, fun i hi => ?_⟩⟩
        rw [hl] at hi
        rw [hcs.out wx hb i (by omega), List.getD_eq_getElem?_getD, List.getD_eq_getElem?_getD, List.getElem?_take, if_pos hi]
      obtain ⟨ad, had, hdr⟩ : ∃ ad, (if c1 = 1 then some (⟨g, off, none⟩ : Addr) else some ⟨g, off + 1, none⟩) = some ad ∧ Hid (∀ wx, Below w4.heap.size w4 wx → IntsAt wx (.slice (some ad) (n1 - 1) (c1 - 1)) (E.drop 1)) := by
        have hl : (E.drop 1).length = n1 - 1 := by rw [List.length_drop, HN.out]
        by_cases hc : c1 = 1
        · refine ⟨_, if_pos hc, fun wx hb => ⟨_, c1 - 1, by rw [hl], by omega, by omega, .inl (List.drop_eq_nil_of_le (by rw [HN.out]; omega))⟩⟩
        · refine ⟨_, if_neg hc, fun wx hb => ⟨_, c1 - 1, by rw [hl], by omega, by omega, .inr ⟨g, off + 1, rfl, fun i hi => ?_⟩⟩⟩
          rw [hl] at hi
          have := hcs.out wx hb (1 + i) (by omega)
          rw [show off + 1 + i = off + (1 + i) from by omega, this, List.getD_eq_getElem?_getD, List.getD_eq_getElem?_getD, List.getElem?_drop]
      have HF1 : Hid (Fits (E.take 1)) := fun z hz => HF.out z (List.mem_of_mem_take hz)
      have HF2 : Hid (Fits (E.drop 1)) := fun z hz => HF.out z (List.mem_of_mem_drop hz)
      obtain ⟨L1, hL1⟩ : ∃ L1, keysL (E.take 1) = L1 := ⟨_, rfl⟩
      obtain ⟨L2, hL2⟩ : ∃ L2, keysL (E.drop 1) = L2 := ⟨_, rfl⟩
      have hc1' : CodesOk (E.take 1) := ⟨by have := HC.out.1; rw [List.length_take]; omega, fun z hz => HC.out.2 z (List.mem_of_mem_take hz)⟩
      have hc2' : CodesOk (E.drop 1) := ⟨by have := HC.out.1; rw [List.length_drop]; omega, fun z hz => HC.out.2 z (List.mem_of_mem_drop hz)⟩
      have HLL : Hid (L1 ++ L2 = L) := by
        show _ = _
        rw [← hL1, ← hL2, HLE.out, keysL, keysL, if_pos hc1', if_pos hc2', ← evL_append, List.take_append_drop]
      have HLN : Hid (L1.length + L2.length ≤ 1000) := by
        show _ ≤ _
        rw [← List.length_append, HLL.out, HLE.out]
        have := evL_le E
        have := HC.out.1
        omega
      have H1 := keptE hL1
      have H2 := keptE hL2
      have HB0 : Hid (Below w4.heap.size w4 w4.drew) := (Below.refl _ _).drew
      have b1 : (1 : Int) ≤ (c1 : Int) := by omega
      have b2 : (1 : Int) ≤ (n1 : Int) := by omega
      have b3 : (n1 : Int) ≤ (c1 : Int) := by omega
      have HC1 : Hid (Calls Try.prog 25 #[.slice (some ⟨g, off, none⟩) 1 c1] w4.drew fun e w' => ∃ a n c, e = .returned (.slice a n c) ∧ OwnInts w' w4.drew.heap.size (.slice a n c) L1 ∧ Below w4.drew.heap.size w4.drew w') := i_KeysOf _ _ (E.take 1) L1 (HI1.out _ HB0.out) HF1.out H1
      have HC2 : Hid (∀ wx, Below w4.heap.size w4 wx → Calls Try.prog 25 #[.slice (some ad) (n1 - 1) (c1 - 1)] wx fun e w' => ∃ a n c, e = .returned (.slice a n c) ∧ OwnInts w' wx.heap.size (.slice a n c) L2 ∧ Below wx.heap.size wx w') := fun wx hb => i_KeysOf _ _ (E.drop 1) L2 (hdr.out _ hb) HF2.out H2
      clear hL1 hL2 hc1' hc2' hcs
      go_wp2_with fail
      go_region_held3 (fun wy => True) (exact trivial) (first | (go_at_call 25; (with_reducible refine HC1.out.mono ?_); rintro e w5 ⟨a5, n5, c5, rfl, hO5, hb5⟩; have HB5 : Hid (Below w4.heap.size w4 w5) := below_next HB0.out hb5; have HK5 := keptE hO5.sh; clear hO5 hb5) | (go_at_call 25; (with_reducible refine (HC2.out _ HB5.out).mono ?_); rintro e w6 ⟨a6, n6, c6, rfl, hO6, hb6⟩; have HB6 : Hid (Below w4.heap.size w4 w6) := below_next HB5.out hb6; have HK6 := keptE (HK5.out.below hb6); have HM6 := keptE hO6.sh; clear hO6 hb6) | (go_at_call 18; refine (join_sh _ _ _ L1 L2 HK6.out HM6.out HLN.out).mono ?_; rintro e w7 ⟨a7, n7, c7, rfl, hO7, hb7⟩; have HB7 : Hid (Below w4.heap.size w4 w7) := below_next HB6.out hb7; have HJ7 := keptE hO7.at; clear hO7 hb7) | (go_at_call 21; refine (equalInts_sameB _ _ _ (L1 ++ L2) HJ7.out (by rw [HLL.out]; exact (HO4.out.below HB7.out).1)).mono ?_; rintro e w8 ⟨rfl, hb8⟩; have HB8 : Hid (Below w.heap.size w w8) := below_next HB4.out (below_next HB7.out hb8); clear hb8))
      all_goals
        go_wp2
        go_ret
        exact ⟨rfl, HB8.out⟩
  · go_enter Try.func8, Try.ntmps8
    go_wp2
    go_ret
    exact ⟨rfl, Below.refl _ _⟩
end Go.Proofs.Ytjedkmhmkipkdaa
