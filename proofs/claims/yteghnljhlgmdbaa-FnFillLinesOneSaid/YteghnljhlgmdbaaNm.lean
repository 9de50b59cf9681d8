
/- Few words fit on one line. -/
import Derived.Test.YteghnljhlgmdbaaNj
namespace Go.Proofs.Yteghnljhlgmdbaa
open Go.RowKit

set_option maxHeartbeats 2000000 in
theorem flatten_any (w : World) (v : Value) (M : List (List Int)) (hx : ListsAt w v M) (h30 : M.length ≤ 30) (h40 : Hid (Len40 M)) (h1 : Hid (MinL M)) :
    Calls Try.prog 30 #[v] w fun e w' => IntsMade (pack M) w e w' := by
  obtain ⟨i0, hi, hz0, hz1, hz2⟩ := info_parts infoInt
  have HX := keptL hx
  obtain ⟨a, cp, rfl, x1, x2, _⟩ := hx
  obtain ⟨n, hn⟩ : ∃ n, M.length = n := ⟨_, rfl⟩
  rw [hn] at x1 HX h30 ⊢
  have HN := Lib.hid hn
  clear hn
  have hO0 := OwnInts.made w w.heap.size (Nat.le_refl _)
  have hB0 : Below w.heap.size w (w.alloc (.cells #[] 3)) := (Below.refl _ _).alloc (Nat.le_refl _) _
  go_enter Try.func30, Try.ntmps30
  go_wp2
  go_loopw [3, 4] (fun o i wr => ∃ k : Nat, k ≤ n ∧ i = .int .i64 k ∧ OwnInts wr w.heap.size o (pack (M.take k)) ∧ Below w.heap.size w wr) (fun _ i _ => n - (intOf i).toNat)
  case atStart => exact ⟨0, Nat.zero_le _, rfl, hO0, hB0⟩
  case round =>
    clear hO0 hB0
    obtain ⟨k, hk, rfl, hO, hB⟩ := hrel
    by_cases hlt : k < n
    · have HO := keptL hO
      have hsz := hB.size
      have HB := keptL hB
      have hlen : (pack (M.take k)).length ≤ 41 * k := pack_le h40.out k (by rw [HN.out]; exact hk)
      obtain ⟨g, off, u, rfl, c0, hu⟩ := HX.out.someNth hlt
      have c1 := (hB.cell (World.block_lt_of_cell? w _ c0)).trans c0
      obtain ⟨zs, hzs⟩ : ∃ zs, M.getD k [] = zs := ⟨_, rfl⟩
      rw [hzs] at hu
      have C0 := keptL c0
      clear c0
      have hz0' : 0 < zs.length := by rw [← hzs]; exact h1.out k (by rw [HN.out]; exact hlt)
      have hz40 : zs.length ≤ 40 := by rw [← hzs]; exact h40.out k
      have HU := keptL hu
      obtain ⟨a3, c3, rfl, y1, y2, _⟩ := hu
      obtain ⟨ao, co, hoo⟩ := hO.isSliceL
      subst hoo
      have b1 : (0 : Int) ≤ (k : Int) := by omega
      have b2 : (k : Int) < (n : Int) := by omega
      by_cases k0 : k = 0
      · subst k0
        rw [Nat.add_zero] at c1
        have HUr := keptL (HU.out.below HB.out)
        have HP : Hid (pack (M.take 0) ++ zs = pack (M.take 1)) := by
          show _ = _
          rw [pack_one (by rw [HN.out]; exact hlt), hzs]
          simp [pack]
        clear hzs hO hB
        go_wp2_with (at_builtin; go_loud (refine wpList_append_ints rfl _ _ rfl w.heap.size rfl rfl HO.out HUr.out hz0' (by omega) hsz ?_))
        intro v' w5 hown' hgrow
        have HO5 : Hid (OwnInts w5 w.heap.size v' (pack (M.take 1))) := by rw [← HP.out]; exact hown'
        have HB5 := keptL (HB.out.grown hgrow hsz (fun x hx => (HO.out.lt x hx).1))
        clear hown' hgrow
        go_wp2
        go_roundw
        case rel => exact ⟨1, by omega, by go_num, HO5.out, HB5.out⟩
        case measure => simp [intOf]; omega
      · have HP : Hid (pack (M.take k) ++ 0 :: zs = pack (M.take (k + 1))) := by
          show _ = _
          rw [pack_more (by rw [HN.out]; exact hlt) (by omega), hzs]
        have d0 : decide (0 < (k : Int)) = true := decide_eq_true (by omega)
        clear hzs hO hB
        go_wp2_with (at_builtin; go_loud (refine wpList_append_own _ rfl _ _ 28 rfl w.heap.size 3 i0 (.int .i64 0) 1 8 Try.underlying28 hi hz0 hz1 hz2 rfl (by decide) _ _ _ rfl (HO.out.alloc _) ⟨wr.heap.size, 0, none⟩ 1 1 [.int .i64 0] rfl rfl new_one one_cell (by unfold maxLen; omega) (by omega) (by simp; omega) ?_))
        intro v5 w5 hown5 hgrow5 hnil5
        have HO5 := keptL (OwnInts.snoc hown5)
        have HB5 := keptL (below_append HB.out hsz HO.out hgrow5)
        have HU5 := keptL (HU.out.below HB5.out)
        have hsz5 := HB5.out.size
        have c5 := (HB5.out.cell (World.block_lt_of_cell? w _ C0.out)).trans C0.out
        have hl5 : (pack (M.take k) ++ [0]).length + zs.length ≤ 1000000 := by rw [List.length_append, List.length_singleton]; omega
        clear hown5 hgrow5 hnil5
        go_wp2_with (at_builtin; go_loud (refine wpList_append_ints rfl _ _ rfl w.heap.size rfl rfl HO5.out HU5.out hz0' hl5 hsz5 ?_))
        intro v' w6 hown' hgrow
        have HO6 : Hid (OwnInts w6 w.heap.size v' (pack (M.take (k + 1)))) := by rw [← HP.out]; exact hown'
        have HB6 := keptL (HB5.out.grown hgrow hsz5 (fun x hx => (HO5.out.lt x hx).1))
        clear hown' hgrow
        go_wp2
        go_roundw
        case rel => exact ⟨k + 1, by omega, by go_num, HO6.out, HB6.out⟩
        case measure => simp [intOf]; omega
    · obtain rfl : k = n := by omega
      have HP : Hid (pack (M.take k) = pack M) := by show _ = _; rw [← HN.out, List.take_length]
      have HO := keptL hO
      have HB := keptL hB
      obtain ⟨ao, co, hoo⟩ := hO.isSliceL
      subst hoo
      clear hO hB
      go_wp2
      go_ret
      exact ⟨_, _, _, rfl, by rw [← HP.out]; exact HO.out, HB.out⟩
set_option maxRecDepth 20000 in
set_option maxHeartbeats 4000000 in
theorem fillOne_walk (a : Option Addr) (len cap : Nat) (zs : List Int) (w : World) (h : RowIn .u8 w a len cap zs) :
    Calls Try.prog 10 #[.slice a len cap] w fun e w' => e = .returned (.bool true) ∧ Below w.heap.size w w' := by
  have hlen : len ≤ 9223372036854775807 := by
    obtain ⟨_, h2, h3⟩ := bytesAt_of_row h; unfold maxLen at h3; omega
  by_cases hbig : len ≤ 1048576
  · go_enter Try.func10, Try.ntmps10
    go_wp2_with fail
    refine (drawFillLines_any w a len cap zs h).mono ?_
    rintro e w1 ⟨S, a1, n1, c1, P, W, rfl, hO, hP, hW, hb1⟩
    clear h
    have HX1 := keptL hO.at
    have HB1 := keptL hb1
    clear hO hb1 hP
    obtain ⟨b, hb⟩ := boolOf (FillOk P W)
    have HBB : Hid (b = true ↔ FillOk P W) := hb
    clear hb
    go_wp2_with fail
    refine (i_FillLines w1 _ P W b HX1.out HBB).mono ?_
    rintro e w2 ⟨R, hR, a2, n2, c2, rfl, hO2, hb2⟩
    have HR := keptL hR
    have HO2 := keptL hO2
    have HX2 := keptL (HX1.out.below hb2)
    have HB2 := keptL (below_next HB1.out hb2)
    have hn2 : n2 = R.length := by
      obtain ⟨_, _, e, _⟩ := hO2.at
      injection e with _ e2 _
    have HN2 := keptL hn2
    clear hR hO2 hb2 hn2
    go_wp2_with fail
    refine (s_FillLines w2 _ P W b HX2.out HBB).mono ?_
    rintro e w3 ⟨R', hR', a3, n3, c3, rfl, hO3, hb3⟩
    obtain rfl := HR.out.same hR'
    have HO23 := keptL (HO2.out.below hb3)
    have HO3 := keptL hO3.at
    have HX3 := keptL (HX2.out.below hb3)
    have HB3 := keptL (below_next HB2.out hb3)
    clear hR' hO3 hb3 HO2 HX2 HB2
    go_wp2_with fail
    refine (equalLists_same w3 _ _ R HO23.out.at HO3.out).mono ?_
    rintro e w4 ⟨rfl, hb4⟩
    have HO4 := keptL (HO23.out.below hb4)
    have HX4 := keptL (HX3.out.below hb4)
    have HB4 := keptL (below_next HB3.out hb4)
    clear hb4 HO23 HX3 HB3 HO3
    by_cases h0 : n2 = 0
    · subst h0
      go_wp2_with fail
      refine (s_FillLines w4 _ P W b HX4.out HBB).mono ?_
      rintro e w5 ⟨R', hR', a5, n5, c5, rfl, hO5, hb5⟩
      obtain rfl := HR.out.same hR'
      have HO45 := keptL (HO4.out.at.below hb5)
      have HO5 := keptL hO5.at
      have HB5 := keptL (below_next HB4.out hb5)
      clear hR' hO5 hb5
      go_wp2_with fail
      refine (equalLists_same w5 _ _ R HO45.out HO5.out).mono ?_
      rintro e w6 ⟨rfl, hb6⟩
      have HB6 := keptL (below_next HB5.out hb6)
      clear hb6
      go_wp2
      go_ret
      exact ⟨rfl, HB6.out⟩
    · have q0 : ((n2 : Int) == 0) = false := by simp; omega
      have HT : Hid (b = true) := by
        show b = true
        cases b
        · have : R = [] := HR.out
          have h2 := HN2.out
          rw [this] at h2
          exact absurd h2 h0
        · rfl
      have HOK : Hid (FillOk P W) := HBB.out.1 HT.out
      have HFF : Hid (FillFrom W P R) := by
        have := HR.out
        rw [HT.out] at this
        exact this
      have hW1 := HOK.out.2.1.1
      have hW2 := HOK.out.2.1.2
      have HG : Hid (∀ r ∈ R, GoodLine W r) := fill_good HFF.out HOK.out.2.2.all
      have HGA : Hid (∀ k, k < n2 → GoodLine W (R.getD k [])) := fun k hk => HG.out _ (getD_memL (by rw [← HN2.out]; exact hk))
      have hn30 : n2 ≤ 30 := by have := HFF.out.le; have := HOK.out.1; have := HN2.out; omega
      clear HR
      have hP0 : 0 < P.length := by
        have h1 := HFF.out.le
        have h2 := HN2.out
        omega
      have hP30 := HOK.out.1
      go_wp2_with fail
      refine (flatten_any w4 _ P HX4.out hP30 HOK.out.len HOK.out.min).mono ?_
      rintro e w5 ⟨a5, n5, c5, rfl, hI5, hb5⟩
      have hn5 : (pack P).length = n5 := by
        obtain ⟨_, _, e, _⟩ := hI5.at
        injection e with _ e2 _
        exact e2.symm
      have HX5 := keptL (HX4.out.below hb5)
      have HO5 := keptL (HO4.out.below hb5)
      have HB5 := keptL (below_next HB4.out hb5)
      have HI5 := keptL hI5
      clear hI5 hb5
      by_cases hroom : W < (n5 : Int)
      · have d5 : decide (W < (n5 : Int)) = true := decide_eq_true hroom
        have hR1 : 1 < n2 := by
          have h1 := fill_two HFF.out HOK.out.2.2.all hP0 (by rw [hn5]; exact hroom)
          have h2 := HN2.out
          omega
        have d6 : decide ((1 : Int) < (n2 : Int)) = true := decide_eq_true (by omega)
        clear hn5 HFF HGA HG
        go_wp2
        go_ret
        exact ⟨rfl, HB5.out⟩
      · have d5 : decide (W < (n5 : Int)) = false := decide_eq_false hroom
        obtain ⟨hF, hR⟩ := fill_one HFF.out hP0 (by rw [hn5]; omega)
        have HFU := keptL hF
        have HR1 := keptL hR
        have one : ∀ (wx : World), OwnInts wx w4.heap.size (.slice a5 n5 c5) (pack P) → ListsAt (wx.alloc (.cells #[.slice a5 n5 c5] 28)) (.slice (some ⟨wx.heap.size, 0, none⟩) 1 1) [pack P] := fun wx h => by
          refine ⟨_, 1, rfl, Nat.le_refl _, by omega, .inr ⟨wx.heap.size, 0, rfl, fun i hi => ?_⟩⟩
          obtain rfl : i = 0 := by simp at hi; omega
          exact ⟨_, by rw [Nat.add_zero, cell_of_row _ wx.heap.size 0 _ _ _ (heap_alloc_new wx _)]; rfl, (h.below ((Below.refl _ _).alloc (Nat.le_refl _) _)).at⟩
        have ONE := keptL one
        have al : ∀ (x : World) (o : Obj), Below x.heap.size x (x.alloc o) := fun x o => (Below.refl _ _).alloc (Nat.le_refl _) _
        have AL := keptL al
        have HE5 : Hid (ListsAt (w5.alloc (.cells #[.slice a5 n5 c5] 28)) (.slice a2 n2 c2) [pack P]) := by
          show ListsAt _ _ _
          have h9 := HO5.out.at.below (al w5 (.cells #[.slice a5 n5 c5] 28))
          rw [hR] at h9
          exact h9
        have HS5 := keptL (ONE.out w5 HI5.out)
        clear hn5 HFF HGA HG hF hR one al
        go_wp2_with fail
        refine (equalLists_same _ _ _ [pack P] HE5.out HS5.out).mono ?_
        rintro e w6 ⟨rfl, hb6⟩
        have HB56 := keptL (below_next (AL.out w5 (.cells #[.slice a5 n5 c5] 28)) hb6)
        have HX6 := keptL (HX5.out.below HB56.out)
        have HI6 := keptL (HI5.out.below HB56.out)
        have HB6 := keptL (below_next HB5.out HB56.out)
        clear hb6 HE5 HS5 HB56
        go_wp2_with fail
        refine (i_BestLines w6 _ P W true HX6.out (show _ ↔ _ from ⟨fun _ => HOK.out, fun _ => rfl⟩)).mono ?_
        rintro e w7 ⟨Rb, hRb, a7, n7, c7, rfl, hO7, hb7⟩
        obtain ⟨A, hCA, hBF⟩ := hRb
        have hRb1 : Rb = [pack P] := best_one hBF hCA HOK.out.2.2.all hW2 hP0 HFU.out
        rw [hRb1] at hO7
        have HO7 := keptL (hO7.at.below (AL.out w7 (.cells #[.slice a5 n5 c5] 28)))
        have HS7 := keptL (ONE.out w7 (HI6.out.below hb7))
        have HB7 := keptL (below_next (below_next HB6.out hb7) (AL.out w7 (.cells #[.slice a5 n5 c5] 28)))
        clear hO7 hb7 hBF hCA hRb1
        go_wp2_with fail
        refine (equalLists_same _ _ _ [pack P] HO7.out HS7.out).mono ?_
        rintro e w8 ⟨rfl, hb8⟩
        have HB8 := keptL (below_next HB7.out hb8)
        clear hb8
        go_wp2
        go_ret
        exact ⟨rfl, HB8.out⟩
  · have hbig' : 1048576 < len := by omega
    go_enter Try.func10, Try.ntmps10
    go_wp2
    go_ret
    exact ⟨rfl, Below.refl _ _⟩
end Go.Proofs.Yteghnljhlgmdbaa
