
/- Laws of played events: backwards, and with the space bar behind them. -/
import Derived.Test.YtjedkmhmkipkdaaBk
namespace Go.Proofs.Ytjedkmhmkipkdaa
open Go.RowKit

theorem IntsAt.addrE {w : World} {a : Option Addr} {n c : Nat} {zs : List Int} (h : IntsAt w (.slice a n c) zs) (hn : 0 < n) : ∃ g off, a = some ⟨g, off, none⟩ := by
  obtain ⟨a', cap, e, _, _, hc⟩ := h
  injection e with e1 e2 _
  subst e1
  rcases hc with rfl | ⟨g, off, e, _⟩
  · simp at e2; omega
  · exact ⟨g, off, e⟩
set_option maxHeartbeats 1000000 in
theorem backwards_B (w : World) (u : Value) (zs : List Int) (hx : IntsAt w u zs) (hl : zs.length ≤ 1000) :
    Calls Try.prog 23 #[u] w fun e w' => ∃ a n c, e = .returned (.slice a n c) ∧ OwnInts w' w.heap.size (.slice a n c) zs.reverse ∧ Below w.heap.size w w' := by
  obtain ⟨i0, hi, hz0, hz1, hz2⟩ := info_parts infoInt
  have HX := keptE hx
  obtain ⟨a, c, rfl, x1, x2, _⟩ := hx
  obtain ⟨n, hn⟩ : ∃ n, zs.length = n := ⟨_, rfl⟩
  rw [hn] at x1 HX hl ⊢
  have HN := keptE hn
  clear hn
  have hO0 : OwnInts (w.alloc (.cells #[] 3)) w.heap.size (.slice (some ⟨w.heap.size, 0, none⟩) 0 0) [] := OwnInts.made w w.heap.size (Nat.le_refl _)
  have hB0 : Below w.heap.size w (w.alloc (.cells #[] 3)) := (Below.refl _ _).alloc (Nat.le_refl _) _
  have u1 : IntKind.i64.wrap ((n : Int) - 1) = (n : Int) - 1 := IntWalk.i64_in _ (by omega)
  go_enter Try.func23, Try.ntmps23
  go_wp2_with fail
  generalize (w.alloc (.cells #[] 3)) = wA at hO0 hB0 ⊢
  go_loopw [3, 4] (fun v y wr => ∃ (k : Nat) (x : Int), k ≤ n ∧ y = .int .i64 x ∧ x = (k : Int) - 1 ∧ OwnInts wr w.heap.size v (zs.drop k).reverse ∧ Below w.heap.size w wr) (fun _ y _ => (intOf y + 1).toNat)
  case atStart => exact ⟨n, _, Nat.le_refl _, rfl, rfl, by rw [List.drop_eq_nil_of_le (by rw [HN.out]; exact Nat.le_refl _)]; exact hO0, hB0⟩
  case round =>
    clear hO0 hB0 u1
    obtain ⟨k, x, hk, rfl, hxk, hO, hB⟩ := hrel
    obtain ⟨ao, no, co, hoo⟩ : ∃ a n c, _ = Value.slice a n c := by
      obtain ⟨a, c, h, _⟩ := hO.at
      exact ⟨a, _, c, h⟩
    subst hoo
    have hs := hB.size
    by_cases hk0 : k = 0
    · subst hk0
      obtain rfl : x = -1 := by omega
      rw [List.drop_zero] at hO
      have HO := keptE hO
      have HB := keptE hB
      clear hO hB hxk
      go_wp2
      go_ret
      exact ⟨_, _, _, rfl, HO.out, HB.out⟩
    · obtain ⟨j, rfl⟩ : ∃ j, k = j + 1 := ⟨k - 1, by omega⟩
      obtain rfl : x = (j : Int) := by omega
      obtain ⟨g, off, rfl⟩ := HX.out.addrE (by omega)
      have hc : wr.cell? ⟨g, off + j, none⟩ = some (.int .i64 (zs.getD j 0)) := by
        obtain ⟨a', c', e, _, _, h5⟩ := HX.out.below hB
        injection e with e1 _ _
        rcases h5 with rfl | ⟨g', off', e5, h6⟩
        · have := HN.out; simp at this; omega
        · rw [← e1] at e5
          injection e5 with e5
          injection e5 with e6 e7 _
          subst e6 e7
          exact h6 j (by rw [HN.out]; omega)
      obtain ⟨z, hz⟩ : ∃ z, zs.getD j 0 = z := ⟨_, rfl⟩
      rw [hz] at hc
      have HST : Hid ((zs.drop j).reverse = (zs.drop (j + 1)).reverse ++ [z]) := by
        show _ = _
        rw [List.drop_eq_getElem_cons (by rw [HN.out]; omega : j < zs.length), List.reverse_cons, ← hz, List.getD_eq_getElem?_getD, List.getElem?_eq_getElem (by rw [HN.out]; omega), Option.getD_some]
      have hol : ((zs.drop (j + 1)).reverse).length ≤ 1000 := by rw [List.length_reverse, List.length_drop, HN.out]; omega
      obtain ⟨Z, hZ⟩ : ∃ Z, (zs.drop (j + 1)).reverse = Z := ⟨_, rfl⟩
      rw [hZ] at hO hol HST
      have u2 : IntKind.i64.wrap ((j : Int) - 1) = (j : Int) - 1 := IntWalk.i64_in _ (by omega)
      have dj : decide ((j : Int) < 0) = false := decide_eq_false (by omega)
      have b1 : (0 : Int) ≤ (j : Int) := by omega
      have b2 : (j : Int) < (n : Int) := by omega
      have HO := keptE hO
      have HB := keptE hB
      clear hz hZ hxk hk0 hB
      go_wp2_with (at_builtin; refine wpList_append_own _ rfl _ _ 23 rfl w.heap.size 3 i0 (.int .i64 0) 1 8 Try.underlying23 hi hz0 hz1 hz2 rfl (by decide) _ _ _ rfl (hO.alloc _) ⟨wr.heap.size, 0, none⟩ 1 1 [.int .i64 z] rfl rfl new_one one_cell (by unfold maxLen; omega) (by omega) (by simp; omega) ?_)
      intro v' w6 hown' hgrow _
      have HO6 := keptE (OwnInts.snoc hown')
      have HB6 := keptE (below_append HB.out hs HO.out hgrow)
      clear hown' hgrow hO
      go_wp2
      go_roundw
      case rel => exact ⟨j, _, by omega, rfl, rfl, by rw [HST.out]; exact HO6.out, HB6.out⟩
      case measure => first | (simp [intOf]; omega) | simp [intOf]
theorem rv_cons (z : Int) (zs : List Int) : rv (z :: zs) = rv zs ++ [-z] := by simp [rv]
theorem okB_back {zs : List Int} (hk : okB zs = true) : okB (rv zs) = true := by
  obtain ⟨h1, x, hx⟩ := (okB_iff zs).1 hk
  exact (okB_iff _).2 ⟨by simpa [rv] using h1, _, hx.back⟩
theorem playL_back {zs : List Int} (hk : okB zs = true) : playL (rv zs) = (playL zs).reverse := by
  obtain ⟨h1, x, hx⟩ := (okB_iff zs).1 hk
  rw [playL_runs h1 hx, playL_runs (by simpa [rv] using h1) hx.back]
theorem fits_rv {zs : List Int} (_ : Fits zs) (hb : Between (-8) 8 zs) : Fits (rv zs) := fun z hz => by
  unfold rv at hz
  rw [List.mem_reverse, List.mem_map] at hz
  obtain ⟨y, hy, rfl⟩ := hz
  have := hb y hy
  omega
theorem space_runs : Runs [7, -7] [64] := by
  have h := codeEv_runs (c := 64) (by omega) (by omega)
  have e : codeEv 64 = [7, -7] := by decide
  rw [e] at h
  exact h
theorem playL_space {zs : List Int} (hk : okB zs = true) (hl : zs.length + 2 ≤ 280) : playL (zs ++ [7, -7]) = playL zs ++ [64] := by
  obtain ⟨h1, x, hx⟩ := (okB_iff zs).1 hk
  rw [playL_runs h1 hx, playL_runs (by simp; omega) (hx.append space_runs)]
set_option maxHeartbeats 2000000 in
theorem playKeysSpace_walk (a : Option Addr) (len cap : Nat) (zs : List Int) (w : World) (h : RowIn .u8 w a len cap zs) :
    Calls Try.prog 10 #[.slice a len cap] w fun e w' => e = .returned (.bool true) ∧ Below w.heap.size w w' := by
  have hlen : len ≤ 9223372036854775807 := by
    obtain ⟨_, h2, h3⟩ := bytesAt_of_row h; unfold maxLen at h3; omega
  by_cases hbig : len ≤ 1048576
  · go_enter Try.func10, Try.ntmps10
    go_wp2_with fail
    refine (drawPlayKeys_any w a len cap zs h).mono ?_
    rintro e w1 ⟨a1, n1, c1, E, rfl, hO, hn, hm, hbt, hB⟩
    clear h
    have HN := keptE hn
    have HF := keptE (hbt.fits (by omega) (by omega))
    have HE1 := keptE hO.sh
    have HB1 := keptE hB
    obtain ⟨L, hr⟩ : ∃ L, playL E = L := ⟨_, rfl⟩
    have HR := keptE hr
    have HLL : Hid (L.length ≤ 20) := by show _ ≤ _; have := (playL_bounds E).2; rw [hr, hn] at this; omega
    clear hr hn hbt hO hB
    go_wp2_with fail
    refine (i_PlayKeys w1 _ E L HE1.out.1 HF.out HR).mono ?_
    rintro e w2 ⟨a2, n2, c2, rfl, hO2, hb2⟩
    have HO2 := keptE hO2.sh
    have HE2 := keptE (HE1.out.below hb2)
    have HB2 := keptE (below_next HB1.out hb2)
    clear hO2 hb2 HE1 HB1
    go_wp2_with fail
    refine (s_PlayKeys w2 _ E L HE2.out.1 HF.out HR).mono ?_
    rintro e w3 ⟨a3, n3, c3, rfl, hO3, hb3⟩
    have HS3 := keptE hO3.at
    have HO3 := keptE (HO2.out.below hb3)
    have HE3 := keptE (HE2.out.below hb3)
    have HB3 := keptE (below_next HB2.out hb3)
    clear hO3 hb3 HE2 HB2 HO2
    go_wp2_with fail
    refine (equalInts_sameB w3 _ _ L HO3.out.1 HS3.out).mono ?_
    rintro e w4 ⟨rfl, hb4⟩
    have HS4 := keptE (HS3.out.below hb4)
    have HO4 := keptE (HO3.out.below hb4)
    have HE4 := keptE (HE3.out.below hb4)
    have HB4 := keptE (below_next HB3.out hb4)
    clear hb4 HE3 HB3 HO3 HS3
    obtain ⟨b, hb⟩ : ∃ b, okB E = b := ⟨_, rfl⟩
    have HK := keptE hb
    clear hb
    go_wp2_with fail
    refine (i_ValidKeys w4 _ E b HE4.out.1 HF.out HK).mono ?_
    rintro e w' ⟨rfl, rfl⟩
    cases b with
    | false =>
      go_wp2_with fail
      refine (s_PlayKeys w4 _ E L HE4.out.1 HF.out HR).mono ?_
      rintro e w5 ⟨a5, n5, c5, rfl, hO5, hb5⟩
      have HS5 := keptE hO5.at
      have HO5 := keptE (HO4.out.below hb5)
      have HB5 := keptE (below_next HB4.out hb5)
      clear hO5 hb5
      go_wp2_with fail
      refine (equalInts_sameB w5 _ _ L HO5.out.1 HS5.out).mono ?_
      rintro e w6 ⟨rfl, hb6⟩
      have HB6 := keptE (below_next HB5.out hb6)
      clear hb6
      go_wp2
      go_ret
      exact ⟨rfl, HB6.out⟩
    | true =>
      have d1 : decide (280 < (n1 : Int) + 2) = false := decide_eq_false (by omega)
      have u1 : IntKind.i64.wrap ((n1 : Int) + 2) = (n1 : Int) + 2 := IntWalk.i64_in _ (by omega)
      have hOl : OwnInts (w4.alloc (.cells #[.int .i64 7, .int .i64 (-7)] 3)) w4.heap.size (.slice (some ⟨w4.heap.size, 0, none⟩) 2 2) [7, -7] :=
        ⟨rfl, .inr ⟨w4.heap.size, 2, #[.int .i64 7, .int .i64 (-7)], rfl, Nat.le_refl _, by show (w4.heap.push _)[w4.heap.size]? = _; simp, Nat.le_refl _, by unfold maxLen; omega, rfl, rfl⟩⟩
      have hal : Below w4.heap.size w4 (w4.alloc (.cells #[.int .i64 7, .int .i64 (-7)] 3)) := (Below.refl _ _).alloc (Nat.le_refl _) _
      have HOL := keptE hOl.sh
      have HE5 := keptE (HE4.out.below hal)
      have HO5 := keptE (HO4.out.below hal)
      have HB5 := keptE (below_next HB4.out hal)
      clear hOl hal HO4 HB4
      go_wp2_with fail
      refine (join_sh _ _ _ E [7, -7] HE5.out HOL.out (by have := HN.out; simp; omega)).mono ?_
      rintro e w6 ⟨a6, n6, c6, rfl, hO6, hb6⟩
      have HJ6 := keptE hO6.at
      have HO6 := keptE (HO5.out.below hb6)
      have HB6 := keptE (below_next HB5.out hb6)
      have HF2 : Hid (Fits (E ++ [7, -7])) := fun z hz => by
        rcases List.mem_append.1 hz with h | h
        · exact HF.out z h
        · simp at h; omega
      have HR2 : Hid (playL (E ++ [7, -7]) = L ++ [64]) := by
        show _ = _
        rw [playL_space HK.out (by have := HN.out; omega), HR.out]
      clear hO6 hb6 HO5 HB5 HOL
      go_wp2_with fail
      refine (i_PlayKeys w6 _ (E ++ [7, -7]) (L ++ [64]) HJ6.out HF2.out HR2).mono ?_
      rintro e w7 ⟨a7, n7, c7, rfl, hO7, hb7⟩
      have HP7 := keptE hO7.at
      have HO7 := keptE (HO6.out.below hb7)
      have HB7 := keptE (below_next HB6.out hb7)
      clear hO7 hb7 HO6 HB6
      have hOl : OwnInts (w7.alloc (.cells #[.int .i64 64] 3)) w7.heap.size (.slice (some ⟨w7.heap.size, 0, none⟩) 1 1) [64] := own_litB w7 64
      have hal : Below w7.heap.size w7 (w7.alloc (.cells #[.int .i64 64] 3)) := (Below.refl _ _).alloc (Nat.le_refl _) _
      have HOL := keptE hOl.sh
      have HP8 := keptE (HP7.out.below hal)
      have HO8 := keptE (HO7.out.below hal)
      have HB8 := keptE (below_next HB7.out hal)
      clear hOl hal HO7 HB7
      go_wp2_with fail
      refine (join_sh _ _ _ L [64] HO8.out HOL.out (by have := HLL.out; simp; omega)).mono ?_
      rintro e w9 ⟨a9, n9, c9, rfl, hO9, hb9⟩
      have HJ9 := keptE hO9.at
      have HP9 := keptE (HP8.out.below hb9)
      have HB9 := keptE (below_next HB8.out hb9)
      clear hO9 hb9
      go_wp2_with fail
      refine (equalInts_sameB w9 _ _ (L ++ [64]) HP9.out HJ9.out).mono ?_
      rintro e w10 ⟨rfl, hb10⟩
      have HBX := keptE (below_next HB9.out hb10)
      clear hb10
      go_wp2
      go_ret
      exact ⟨rfl, HBX.out⟩
  · go_enter Try.func10, Try.ntmps10
    go_wp2
    go_ret
    exact ⟨rfl, Below.refl _ _⟩
set_option maxHeartbeats 2000000 in
theorem playKeysBack_walk (a : Option Addr) (len cap : Nat) (zs : List Int) (w : World) (h : RowIn .u8 w a len cap zs) :
    Calls Try.prog 6 #[.slice a len cap] w fun e w' => e = .returned (.bool true) ∧ Below w.heap.size w w' := by
  have hlen : len ≤ 9223372036854775807 := by
    obtain ⟨_, h2, h3⟩ := bytesAt_of_row h; unfold maxLen at h3; omega
  by_cases hbig : len ≤ 1048576
  · go_enter Try.func6, Try.ntmps6
    go_wp2_with fail
    refine (drawPlayKeys_any w a len cap zs h).mono ?_
    rintro e w1 ⟨a1, n1, c1, E, rfl, hO, hn, hm, hbt, hB⟩
    clear h
    have HN := keptE hn
    have HBT := keptE hbt
    have HF := keptE (hbt.fits (by omega) (by omega))
    have HE1 := keptE hO.sh
    have HB1 := keptE hB
    obtain ⟨L, hr⟩ : ∃ L, playL E = L := ⟨_, rfl⟩
    have HR := keptE hr
    have HLL : Hid (L.length ≤ 20) := by show _ ≤ _; have := (playL_bounds E).2; rw [hr, hn] at this; omega
    clear hr hn hbt hO hB
    go_wp2_with fail
    refine (i_PlayKeys w1 _ E L HE1.out.1 HF.out HR).mono ?_
    rintro e w2 ⟨a2, n2, c2, rfl, hO2, hb2⟩
    have HO2 := keptE hO2.sh
    have HE2 := keptE (HE1.out.below hb2)
    have HB2 := keptE (below_next HB1.out hb2)
    clear hO2 hb2 HE1 HB1
    go_wp2_with fail
    refine (s_PlayKeys w2 _ E L HE2.out.1 HF.out HR).mono ?_
    rintro e w3 ⟨a3, n3, c3, rfl, hO3, hb3⟩
    have HS3 := keptE hO3.at
    have HO3 := keptE (HO2.out.below hb3)
    have HE3 := keptE (HE2.out.below hb3)
    have HB3 := keptE (below_next HB2.out hb3)
    clear hO3 hb3 HE2 HB2 HO2
    go_wp2_with fail
    refine (equalInts_sameB w3 _ _ L HO3.out.1 HS3.out).mono ?_
    rintro e w4 ⟨rfl, hb4⟩
    have HS4 := keptE (HS3.out.below hb4)
    have HO4 := keptE (HO3.out.below hb4)
    have HE4 := keptE (HE3.out.below hb4)
    have HB4 := keptE (below_next HB3.out hb4)
    clear hb4 HE3 HB3 HO3 HS3
    obtain ⟨b, hb⟩ : ∃ b, okB E = b := ⟨_, rfl⟩
    have HK := keptE hb
    clear hb
    go_wp2_with fail
    refine (i_ValidKeys w4 _ E b HE4.out.1 HF.out HK).mono ?_
    rintro e w' ⟨rfl, rfl⟩
    cases b with
    | false =>
      go_wp2_with fail
      refine (s_PlayKeys w4 _ E L HE4.out.1 HF.out HR).mono ?_
      rintro e w5 ⟨a5, n5, c5, rfl, hO5, hb5⟩
      have HS5 := keptE hO5.at
      have HO5 := keptE (HO4.out.below hb5)
      have HB5 := keptE (below_next HB4.out hb5)
      clear hO5 hb5
      go_wp2_with fail
      refine (equalInts_sameB w5 _ _ L HO5.out.1 HS5.out).mono ?_
      rintro e w6 ⟨rfl, hb6⟩
      have HB6 := keptE (below_next HB5.out hb6)
      clear hb6
      go_wp2
      go_ret
      exact ⟨rfl, HB6.out⟩
    | true =>
      have hO0 : OwnInts (w4.alloc (.cells #[] 3)) w4.heap.size (.slice (some ⟨w4.heap.size, 0, none⟩) 0 0) [] := OwnInts.made w4 w4.heap.size (Nat.le_refl _)
      have hB0 : Below w4.heap.size w4 (w4.alloc (.cells #[] 3)) := (Below.refl _ _).alloc (Nat.le_refl _) _
      have u1 : IntKind.i64.wrap ((n1 : Int) - 1) = (n1 : Int) - 1 := IntWalk.i64_in _ (by omega)
      go_wp2_with fail
      generalize (w4.alloc (.cells #[] 3)) = wA at hO0 hB0 ⊢
      obtain ⟨i0, hi, hz0, hz1, hz2⟩ := info_parts infoInt
      go_loopw [5, 6] (fun v y wr => ∃ (k : Nat) (x : Int), k ≤ n1 ∧ y = .int .i64 x ∧ x = (k : Int) - 1 ∧ Hid (OwnInts wr w4.heap.size v (rv (E.drop k))) ∧ Hid (Below w4.heap.size w4 wr)) (fun _ y _ => (intOf y + 1).toNat)
      case atStart => exact ⟨n1, _, Nat.le_refl _, rfl, rfl, keptE (by rw [List.drop_eq_nil_of_le (by rw [HN.out]; exact Nat.le_refl _)]; exact hO0), hB0⟩
      case round =>
        clear hO0 hB0 u1
        obtain ⟨k, x, hk, rfl, hxk, hO, hB⟩ := hrel
        obtain ⟨ao, no, co, hoo⟩ := hO.out.isSliceB
        subst hoo
        have hs := hB.out.size
        by_cases hk0 : k = 0
        · subst hk0
          obtain rfl : x = -1 := by omega
          have HJ : Hid (IntsAt wr (.slice ao no co) (rv E)) := by have := hO.out.at; rw [List.drop_zero] at this; exact this
          have HO5 := keptE (HO4.out.below hB.out)
          have HB5 := keptE (below_next HB4.out hB.out)
          have HFR : Hid (Fits (rv E)) := fits_rv HF.out HBT.out
          have HKR : Hid (okB (rv E) = true) := okB_back HK.out
          have HRR : Hid (playL (rv E) = L.reverse) := by show _ = _; rw [playL_back HK.out, HR.out]
          clear hO hB hxk HO4 HB4
          go_wp2_with fail
          refine (i_ValidKeys wr _ (rv E) true HJ.out HFR.out HKR).mono ?_
          rintro e w' ⟨rfl, rfl⟩
          go_wp2_with fail
          refine (i_PlayKeys wr _ (rv E) L.reverse HJ.out HFR.out HRR).mono ?_
          rintro e w6 ⟨a6, n6, c6, rfl, hO6, hb6⟩
          have HP6 := keptE hO6.at
          have HO6 := keptE (HO5.out.below hb6)
          have HB6 := keptE (below_next HB5.out hb6)
          clear hO6 hb6 HO5 HB5
          go_wp2_with fail
          refine (backwards_B w6 _ L HO6.out.1 (by have := HLL.out; omega)).mono ?_
          rintro e w7 ⟨a7, n7, c7, rfl, hO7, hb7⟩
          have HJ7 := keptE hO7.at
          have HP7 := keptE (HP6.out.below hb7)
          have HB7 := keptE (below_next HB6.out hb7)
          clear hO7 hb7
          go_wp2_with fail
          refine (equalInts_sameB w7 _ _ L.reverse HP7.out HJ7.out).mono ?_
          rintro e w8 ⟨rfl, hb8⟩
          have HB8 := keptE (below_next HB7.out hb8)
          clear hb8
          go_wp2
          go_ret
          exact ⟨rfl, HB8.out⟩
        · obtain ⟨j, rfl⟩ : ∃ j, k = j + 1 := ⟨k - 1, by omega⟩
          obtain rfl : x = (j : Int) := by omega
          have HER := HE4.out.below hB.out
          obtain ⟨g, off, hga, hc⟩ : ∃ g off, a1 = some ⟨g, off, none⟩ ∧ wr.cell? ⟨g, off + j, none⟩ = some (.int .i64 (E.getD j 0)) := by
            obtain ⟨a', c', e, _, _, h5⟩ := HER.1
            injection e with e1 _ _
            rcases h5 with h0 | ⟨g', off', e5, h6⟩
            · have := HN.out; rw [h0] at this; simp at this; omega
            · exact ⟨g', off', by rw [e1, e5], h6 j (by rw [HN.out]; omega)⟩
          subst hga
          obtain ⟨z, hz⟩ : ∃ z, E.getD j 0 = z := ⟨_, rfl⟩
          have hzb := HBT.out z (by rw [← hz]; exact mem_atB (by rw [HN.out]; omega))
          rw [hz] at hc
          have HST : Hid (rv (E.drop j) = rv (E.drop (j + 1)) ++ [-z]) := by
            show _ = _
            rw [List.drop_eq_getElem_cons (by rw [HN.out]; omega : j < E.length), ← hz, List.getD_eq_getElem?_getD, List.getElem?_eq_getElem (by rw [HN.out]; omega), Option.getD_some, rv_cons]
          have hol : (rv (E.drop (j + 1))).length ≤ 1000 := by unfold rv; rw [List.length_reverse, List.length_map, List.length_drop, HN.out]; omega
          obtain ⟨Z, hZ⟩ : ∃ Z, rv (E.drop (j + 1)) = Z := ⟨_, rfl⟩
          rw [hZ] at hO hol HST
          have u2 : IntKind.i64.wrap ((j : Int) - 1) = (j : Int) - 1 := IntWalk.i64_in _ (by omega)
          have u3 : IntKind.i64.wrap (-z) = -z := IntWalk.i64_in _ (by omega)
          have dj : decide ((j : Int) < 0) = false := decide_eq_false (by omega)
          have b1 : (0 : Int) ≤ (j : Int) := by omega
          have b2 : (j : Int) < (n1 : Int) := by omega
          have hO' := hO.out
          clear hz hZ hxk hk0
          go_wp2_with (at_builtin; refine wpList_append_own _ rfl _ _ 23 rfl w4.heap.size 3 i0 (.int .i64 0) 1 8 Try.underlying23 hi hz0 hz1 hz2 rfl (by decide) _ _ _ rfl (hO'.alloc _) ⟨wr.heap.size, 0, none⟩ 1 1 [.int .i64 (-z)] rfl rfl new_one one_cell (by unfold maxLen; omega) (by omega) (by simp; omega) ?_)
          intro v' w6 hown' hgrow _
          have HO6 := keptE (OwnInts.snoc hown')
          have HB6 := keptE (below_append hB.out hs hO.out hgrow)
          clear hown' hgrow hO' hO hB
          go_wp2
          go_roundw
          case rel => exact ⟨j, _, by omega, rfl, rfl, by rw [HST.out]; exact HO6, HB6⟩
          case measure => first | (simp [intOf]; omega) | simp [intOf]
  · go_enter Try.func6, Try.ntmps6
    go_wp2
    go_ret
    exact ⟨rfl, Below.refl _ _⟩
end Go.Proofs.Ytjedkmhmkipkdaa
