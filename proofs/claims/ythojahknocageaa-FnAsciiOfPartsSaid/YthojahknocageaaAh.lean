
/- Characters stand side by side. -/
import Derived.Test.YthojahknocageaaAg
namespace Go.Proofs.Ythojahknocageaa
open Go.RowKit

set_option maxHeartbeats 1000000 in
theorem asciiOfParts_walk (a : Option Addr) (len cap : Nat) (zs : List Int) (w : World) (h : RowIn .u8 w a len cap zs) :
    Calls Try.prog 6 #[.slice a len cap] w fun e w' => e = .returned (.bool true) ∧ Below w.heap.size w w' := by
  have hlen : len ≤ 9223372036854775807 := by
    obtain ⟨_, h2, h3⟩ := bytesAt_of_row h; unfold maxLen at h3; omega
  by_cases hbig : len ≤ 1048576
  · go_enter Try.func6, Try.ntmps6
    go_wp2_with fail
    refine (drawAsciiOf_any w a len cap zs h).mono ?_
    rintro e w1 ⟨a1, n1, c1, E, rfl, hO, hn, hm, hbt, hB⟩
    clear h
    have HN := keptE hn
    have HE1 := keptE hO.sh
    have HB1 := keptE hB
    have HOW : Hid ((a1 = none ∧ c1 = 0) ∨ ∃ g, a1 = some (⟨g, 0, none⟩ : Addr)) := by
      rcases hO.2 with ⟨h, _⟩ | ⟨g, cap, _, h, _⟩
      · injection h with e1 _ e2; exact .inl ⟨e1, e2⟩
      · injection h with e1 _ _; exact .inr ⟨g, e1⟩
    obtain ⟨t, ht⟩ : ∃ t, bs (ascL E) = t := ⟨_, rfl⟩
    have HT := keptE ht
    clear ht hn hbt hO hB
    go_wp2_with fail
    refine (i_AsciiOf_t w1 _ E t HE1.out.1 HT).mono ?_
    rintro e w2 ⟨rfl, hb2⟩
    have HE2 := keptE (HE1.out.below hb2)
    have HB2 := keptE (below_next HB1.out hb2)
    clear hb2 HE1 HB1
    go_wp2_with fail
    refine (s_AsciiOf_t w2 _ E t HE2.out.1 HT).mono ?_
    rintro e w3 ⟨rfl, hb3⟩
    have HE3 := keptE (HE2.out.below hb3)
    have HB3 := keptE (below_next HB2.out hb3)
    clear hb3 HE2 HB2
    obtain ⟨b, hb⟩ : ∃ b, decide (ValidL E) = b := ⟨_, rfl⟩
    have HK := keptE hb
    clear hb
    go_wp2_with fail
    refine (i_ValidCells_a w3 _ E b HE3.out.1 HK).mono ?_
    rintro e w' ⟨rfl, rfl⟩
    cases b with
    | false =>
      go_wp2_with fail
      refine (s_AsciiOf_t w3 _ E t HE3.out.1 HT).mono ?_
      rintro e w4 ⟨rfl, hb4⟩
      have HB4 := keptE (below_next HB3.out hb4)
      clear hb4
      go_wp2
      go_ret
      exact ⟨rfl, HB4.out⟩
    | true =>
      have hv : ValidL E := of_decide_eq_true HK.out
      have hta : t = bs (asL E) := by rw [← HT.out, ascL, if_pos hv]
      obtain ⟨k, hk⟩ : ∃ k, n1 / 2 = k := ⟨_, rfl⟩
      have hkn : k ≤ n1 := by omega
      have t1 : ((n1 : Int)).tdiv 2 = (k : Int) := by rw [Int.tdiv_eq_ediv_of_nonneg (by omega), ← hk]; simp
      have w1' : IntKind.i64.wrap (k : Int) = k := IntWalk.i64_in _ (by omega)
      have v1 : ValidL (E.take k) := ⟨by have := hv.1; rw [List.length_take]; omega, fun z hz => hv.2 z (List.mem_of_mem_take hz)⟩
      have v2 : ValidL (E.drop k) := ⟨by have := hv.1; rw [List.length_drop]; omega, fun z hz => hv.2 z (List.mem_of_mem_drop hz)⟩
      obtain ⟨p1, hp1⟩ : ∃ p, bs (ascL (E.take k)) = p := ⟨_, rfl⟩
      obtain ⟨p2, hp2⟩ : ∃ p, bs (ascL (E.drop k)) = p := ⟨_, rfl⟩
      have hs1 : p1.size ≤ 12 := by rw [← hp1, ascL, if_pos v1, bs_size, asL_length, List.length_take, HN.out]; omega
      have hs2 : p2.size ≤ 12 := by rw [← hp2, ascL, if_pos v2, bs_size, asL_length, List.length_drop, HN.out]; omega
      have hsum : p1 ++ p2 = t := by
        rw [← hp1, ← hp2, ascL, ascL, if_pos v1, if_pos v2, bs_append, ← asL_append, List.take_append_drop, hta]
      have HP1 := keptE hp1
      have HP2 := keptE hp2
      have r1 := fun (wx : World) => run_string_add_sum (P := Try.prog) wx p1 p2 (by omega)
      rw [hsum] at r1
      have k0 : (0 : Int) ≤ (k : Int) := by omega
      have k1 : (k : Int) ≤ (n1 : Int) := by omega
      have HB0 : Hid (Below w3.heap.size w3 w3.drew) := (Below.refl _ _).drew
      clear hk hv hta v1 v2 hp1 hp2 hsum
      obtain ⟨s1, s2, hcut⟩ : ∃ s1 s2, ((a1 = none ∧ c1 = 0 ∧ n1 = 0 ∧ s1 = Value.slice none 0 0 ∧ s2 = Value.slice none 0 0) ∨ ∃ g ad, a1 = some (⟨g, 0, none⟩ : Addr) ∧ n1 ≤ c1 ∧ s1 = Value.slice (some ⟨g, 0, none⟩) k c1 ∧ s2 = Value.slice (some ad) (n1 - k) (c1 - k) ∧ (if c1 = k then (some ⟨g, 0, none⟩ : Option Addr) else some ⟨g, k, none⟩) = some ad) ∧ Hid (∀ wx, Below w3.heap.size w3 wx → IntsAt wx s1 (E.take k) ∧ IntsAt wx s2 (E.drop k)) := by
        obtain ⟨_, c', e, e3, e4, h5⟩ := HE3.out.1
        injection e with e1 e2 e5
        subst e1 e5
        rcases HOW.out with ⟨ha, hc⟩ | ⟨g, ha⟩
        · have hn0 : n1 = 0 := by rw [hc] at e3; have := HN.out; omega
          refine ⟨_, _, .inl ⟨ha, hc, hn0, rfl, rfl⟩, fun wx _ => ?_⟩
          have hE : E = [] := List.length_eq_zero_iff.1 (by rw [HN.out]; exact hn0)
          subst hE
          simp only [List.take_nil, List.drop_nil]
          exact ⟨IntsAt.nil _, IntsAt.nil _⟩
        · subst ha
          have hl1 : (E.take k).length = k := by rw [List.length_take, HN.out]; omega
          have hl2 : (E.drop k).length = n1 - k := by rw [List.length_drop, HN.out]
          have hnc : n1 ≤ c1 := by have := HN.out; omega
          have hcell : ∀ wx, Below w3.heap.size w3 wx → ∀ i, i < n1 → wx.cell? ⟨g, 0 + i, none⟩ = some (.int .i64 (E.getD i 0)) := fun wx hb i hi => by
            rcases h5 with h0 | ⟨g', off', e6, h6⟩
            · have := HN.out; rw [h0] at this; simp at this; omega
            · injection e6 with e6
              injection e6 with e7 e8 _
              subst e7 e8
              have h7 := h6 i (by rw [HN.out]; exact hi)
              exact (hb.cell (World.block_lt_of_cell? w3 _ h7)).trans h7
          have hT : ∀ wx, Below w3.heap.size w3 wx → IntsAt wx (.slice (some ⟨g, 0, none⟩) k c1) (E.take k) := fun wx hb => ⟨_, c1, by rw [hl1], by omega, e4, .inr ⟨g, 0, rfl, fun i hi => by
            rw [hl1] at hi
            rw [hcell wx hb i (by omega), List.getD_eq_getElem?_getD, List.getD_eq_getElem?_getD, List.getElem?_take, if_pos hi]⟩⟩
          by_cases hck : c1 = k
          · refine ⟨_, _, .inr ⟨g, ⟨g, 0, none⟩, rfl, hnc, rfl, rfl, if_pos hck⟩, fun wx hb => ⟨hT wx hb, _, c1 - k, by rw [hl2], by omega, by omega, .inl (List.drop_eq_nil_of_le (by rw [HN.out]; omega))⟩⟩
          · refine ⟨_, _, .inr ⟨g, ⟨g, k, none⟩, rfl, hnc, rfl, rfl, if_neg hck⟩, fun wx hb => ⟨hT wx hb, _, c1 - k, by rw [hl2], by omega, by omega, .inr ⟨g, k, rfl, fun i hi => ?_⟩⟩⟩
            rw [hl2] at hi
            have := hcell wx hb (k + i) (by omega)
            rw [Nat.zero_add] at this
            rw [this, List.getD_eq_getElem?_getD, List.getD_eq_getElem?_getD, List.getElem?_drop]
      obtain ⟨hsh, hcut⟩ := hcut
      have HC1 : Hid (Calls Try.prog 10 #[s1] w3.drew fun e w' => e = .returned (.string p1) ∧ Below w3.drew.heap.size w3.drew w') := i_AsciiOf_t _ _ (E.take k) p1 (hcut.out _ HB0.out).1 HP1
      have HC2 : Hid (∀ wx, Below w3.heap.size w3 wx → Calls Try.prog 10 #[s2] wx fun e w' => e = .returned (.string p2) ∧ Below wx.heap.size wx w') := fun wx hb => i_AsciiOf_t _ _ (E.drop k) p2 (hcut.out _ hb).2 HP2
      clear hcut HP1 HP2 HE3 HOW
      rcases hsh with ⟨rfl, rfl, rfl, rfl, rfl⟩ | ⟨g, ad, rfl, hnc, rfl, rfl, had⟩
      · obtain rfl : k = 0 := by omega
        clear t1 w1' k0 k1
        go_wp2_with fail
        go_region_held3 (fun wy => True) (exact trivial) (first | (go_at_call 10; (with_reducible refine HC1.out.mono ?_); rintro e w5 ⟨rfl, hb5⟩; have HB5 : Hid (Below w3.heap.size w3 w5) := below_next HB0.out hb5; clear hb5 HC1) | (go_at_call 10; (with_reducible refine (HC2.out _ HB5.out).mono ?_); rintro e w6 ⟨rfl, hb6⟩; have HB6 : Hid (Below w3.heap.size w3 w6) := below_next HB5.out hb6; clear hb6))
        all_goals
          go_wp2
          go_ret
          exact ⟨rfl, below_next HB3.out HB6.out⟩
      · have k2 : (k : Int) ≤ (c1 : Int) := by omega
        have k3 : (n1 : Int) ≤ (c1 : Int) := by omega
        go_wp2_with fail
        go_region_held3 (fun wy => True) (exact trivial) (first | (go_at_call 10; (with_reducible refine HC1.out.mono ?_); rintro e w5 ⟨rfl, hb5⟩; have HB5 : Hid (Below w3.heap.size w3 w5) := below_next HB0.out hb5; clear hb5 HC1) | (go_at_call 10; (with_reducible refine (HC2.out _ HB5.out).mono ?_); rintro e w6 ⟨rfl, hb6⟩; have HB6 : Hid (Below w3.heap.size w3 w6) := below_next HB5.out hb6; clear hb6))
        all_goals
          go_wp2
          go_ret
          exact ⟨rfl, below_next HB3.out HB6.out⟩
  · go_enter Try.func6, Try.ntmps6
    go_wp2
    go_ret
    exact ⟨rfl, Below.refl _ _⟩
end Go.Proofs.Ythojahknocageaa
