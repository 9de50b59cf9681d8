
/- P44: unique codes are unique backwards. -/
import Derived.Test.YtdjgodemeaneeaaKk
namespace Go.Proofs.Ytdjgodemeaneeaa
open Go.RowKit

set_option maxHeartbeats 1000000 in
theorem backwards_any (w : World) (u : Value) (zs : List Int) (hx : IntsAt w u zs) (hl : zs.length ≤ 1000) :
    Calls Try.prog 34 #[u] w fun e w' => ∃ a n c, e = .returned (.slice a n c) ∧ OwnInts w' w.heap.size (.slice a n c) zs.reverse ∧ Below w.heap.size w w' := by
  obtain ⟨i0, hi, hz0, hz1, hz2⟩ := info_parts infoInt
  have HX := keptC hx
  obtain ⟨a, c, rfl, x1, x2, _⟩ := hx
  obtain ⟨n, hn⟩ : ∃ n, zs.length = n := ⟨_, rfl⟩
  rw [hn] at x1 HX hl ⊢
  have HN := keptC hn
  clear hn
  have hO0 : OwnInts (w.alloc (.cells #[] 3)) w.heap.size (.slice (some ⟨w.heap.size, 0, none⟩) 0 0) [] := OwnInts.made w w.heap.size (Nat.le_refl _)
  have hB0 : Below w.heap.size w (w.alloc (.cells #[] 3)) := (Below.refl _ _).alloc (Nat.le_refl _) _
  have u1 : IntKind.i64.wrap ((n : Int) - 1) = (n : Int) - 1 := IntWalk.i64_in _ (by omega)
  go_enter Try.func34, Try.ntmps34
  go_wp2_with fail
  generalize (w.alloc (.cells #[] 3)) = wA at hO0 hB0 ⊢
  go_loopw [3, 4] (fun v y wr => ∃ (k : Nat) (x : Int), k ≤ n ∧ y = .int .i64 x ∧ x = (k : Int) - 1 ∧ OwnInts wr w.heap.size v (zs.drop k).reverse ∧ Below w.heap.size w wr) (fun _ y _ => (intOf y + 1).toNat)
  case atStart => exact ⟨n, _, Nat.le_refl _, rfl, rfl, by rw [List.drop_eq_nil_of_le (by rw [HN.out]; exact Nat.le_refl _)]; exact hO0, hB0⟩
  case round =>
    clear hO0 hB0 u1
    obtain ⟨k, x, hk, rfl, hxk, hO, hB⟩ := hrel
    obtain ⟨ao, no, co, hoo⟩ : ∃ a n c, _ = Value.slice a n c := by
      obtain ⟨a, c, h, _⟩ := hO.at
      exact ⟨a, _, c, h⟩
    subst hoo
    have hs := hB.size
    by_cases hk0 : k = 0
    · subst hk0
      obtain rfl : x = -1 := by omega
      rw [List.drop_zero] at hO
      have HO := keptC hO
      have HB := keptC hB
      clear hO hB hxk
      go_wp2
      go_ret
      exact ⟨_, _, _, rfl, HO.out, HB.out⟩
    · obtain ⟨j, rfl⟩ : ∃ j, k = j + 1 := ⟨k - 1, by omega⟩
      obtain rfl : x = (j : Int) := by omega
      obtain ⟨g, off, rfl⟩ := HX.out.addrC (by omega)
      have hc : wr.cell? ⟨g, off + j, none⟩ = some (.int .i64 (zs.getD j 0)) := by
        obtain ⟨a', c', e, _, _, h5⟩ := HX.out.below hB
        injection e with e1 _ _
        rcases h5 with rfl | ⟨g', off', e5, h6⟩
        · have := HN.out; simp at this; omega
        · rw [← e1] at e5
          injection e5 with e5
          injection e5 with e6 e7 _
          subst e6 e7
          exact h6 j (by rw [HN.out]; omega)
      obtain ⟨z, hz⟩ : ∃ z, zs.getD j 0 = z := ⟨_, rfl⟩
      rw [hz] at hc
      have HST : Hid ((zs.drop j).reverse = (zs.drop (j + 1)).reverse ++ [z]) := by
        show _ = _
        rw [List.drop_eq_getElem_cons (by rw [HN.out]; omega : j < zs.length), List.reverse_cons, ← hz, List.getD_eq_getElem?_getD, List.getElem?_eq_getElem (by rw [HN.out]; omega), Option.getD_some]
      have hol : ((zs.drop (j + 1)).reverse).length ≤ 1000 := by rw [List.length_reverse, List.length_drop, HN.out]; omega
      obtain ⟨Z, hZ⟩ : ∃ Z, (zs.drop (j + 1)).reverse = Z := ⟨_, rfl⟩
      rw [hZ] at hO hol HST
      have u2 : IntKind.i64.wrap ((j : Int) - 1) = (j : Int) - 1 := IntWalk.i64_in _ (by omega)
      have dj : decide ((j : Int) < 0) = false := decide_eq_false (by omega)
      have b1 : (0 : Int) ≤ (j : Int) := by omega
      have b2 : (j : Int) < (n : Int) := by omega
      have HO := keptC hO
      have HB := keptC hB
      clear hz hZ hxk hk0 hB
      go_wp2_with (at_builtin; refine wpList_append_own _ rfl _ _ 31 rfl w.heap.size 3 i0 (.int .i64 0) 1 8 Try.underlying31 hi hz0 hz1 hz2 rfl (by decide) _ _ _ rfl (hO.alloc _) ⟨wr.heap.size, 0, none⟩ 1 1 [.int .i64 z] rfl rfl new_one one_cell (by unfold maxLen; omega) (by omega) (by simp; omega) ?_)
      intro v' w6 hown' hgrow _
      have HO6 := keptC (OwnInts.snoc hown')
      have HB6 := keptC (below_append HB.out hs HO.out hgrow)
      clear hown' hgrow hO
      go_wp2
      go_roundw
      case rel => exact ⟨j, _, by omega, rfl, rfl, by rw [HST.out]; exact HO6.out, HB6.out⟩
      case measure => first | (simp [intOf]; omega) | simp [intOf]
set_option maxHeartbeats 2000000 in
theorem isUniqueBack_walk (a : Option Addr) (len cap : Nat) (zs : List Int) (w : World) (h : RowIn .u8 w a len cap zs) :
    Calls Try.prog 9 #[.slice a len cap] w fun e w' => e = .returned (.bool true) ∧ Below w.heap.size w w' := by
  have hlen : len ≤ 9223372036854775807 := by
    obtain ⟨_, h2, h3⟩ := bytesAt_of_row h; unfold maxLen at h3; omega
  by_cases hbig : len ≤ 1048576
  · go_enter Try.func9, Try.ntmps9
    go_wp2_with fail
    refine (drawIsUnique_any w a len cap zs h).mono ?_
    rintro e w1 ⟨S, a1, n1, c1, P, rfl, hO, hP, hL3, hb1⟩
    clear h
    have HX1 := keptC hO
    have HB1 := keptC hb1
    have HPN : Hid (P.length = n1) := by
      obtain ⟨_, _, e⟩ := listOf hO.at
      injection e with _ e2 _
      exact e2.symm
    have hn9 : n1 ≤ 9 := by have := HPN.out; omega
    clear hO hb1 hP hL3
    obtain ⟨b, hb⟩ := ValidCd.b P
    obtain ⟨u, hu⟩ := Uniq.b P
    have HB := keptC hb
    have HU := keptC hu
    clear hb hu
    obtain ⟨q, hq⟩ : ∃ q, (b && u) = q := ⟨_, rfl⟩
    have HI : Hid (∀ wx v, ListsAt wx v P → Calls Try.prog 29 #[v] wx fun e w' => e = .returned (.bool q) ∧ Below wx.heap.size wx w') := fun wx v h => by rw [← hq]; exact i_IsUnique wx v P b u h HB HU
    have HS : Hid (∀ wx v, ListsAt wx v P → Calls Try.prog 30 #[v] wx fun e w' => e = .returned (.bool q) ∧ Below wx.heap.size wx w') := fun wx v h => by rw [← hq]; exact s_IsUnique wx v P b u h HB HU
    have HQ := keptC hq
    clear hq
    go_wp2_with fail
    refine (HI.out w1 _ HX1.out.at).mono ?_
    rintro e w2 ⟨rfl, hb2⟩
    have HX2 := keptC (HX1.out.below hb2)
    have HB2 := keptC (below_next HB1.out hb2)
    clear hb2
    go_wp2_with fail
    refine (HS.out w2 _ HX2.out.at).mono ?_
    rintro e w3 ⟨rfl, hb3⟩
    have HX3 := keptC (HX2.out.below hb3)
    have HB3 := keptC (below_next HB2.out hb3)
    clear hb3
    go_wp2_with fail
    refine (i_ValidCode w3 _ P b HX3.out.at HB).mono ?_
    rintro e w4 ⟨rfl, hb4⟩
    have HX4 := keptC (HX3.out.below hb4)
    have HB4 := keptC (below_next HB3.out hb4)
    clear hb4
    cases b with
    | false =>
      go_wp2_with fail
      refine (HS.out w4 _ HX4.out.at).mono ?_
      rintro e w5 ⟨rfl, hb5⟩
      have FIN := keptC (below_next HB4.out hb5)
      clear hb5
      go_wp2
      go_ret
      exact ⟨by simp, FIN.out⟩
    | true =>
      have HVV : Hid (ValidCd P) := HB.out.1 rfl
      obtain rfl : u = q := by have := HQ.out; simpa using this
      clear HB HI HS HQ
      have hO0 := OwnLs.made w4 w4.heap.size 0 (Nat.zero_le _) (Nat.le_refl _)
      have hal0 : Below w4.heap.size w4 (w4.alloc (.cells #[] 31)) := (Below.refl _ _).alloc (Nat.le_refl _) _
      go_wp2_with fail
      generalize (w4.alloc (.cells #[] 31)) = wA at hO0 hal0 ⊢
      go_loopw [5, 6] (fun o y wx => ∃ i : Nat, i ≤ n1 ∧ y = .int .i64 i ∧ OwnLs wx w4.heap.size 0 o ((P.take i).map List.reverse) ∧ Below w4.heap.size w4 wx) (fun _ y _ => n1 - (intOf y).toNat)
      case atStart => exact ⟨0, Nat.zero_le _, rfl, by simpa using hO0, hal0⟩
      case round =>
        clear hO0 hal0
        obtain ⟨i, hi, rfl, hO, hB⟩ := hrel
        obtain ⟨ao, no, co, hoo⟩ := hO.isSlice
        subst hoo
        have HO := keptC hO
        have HB := keptC hB
        have hs := hB.size
        by_cases hlt : i < n1
        · obtain ⟨g, u3, rfl, c1, hE3, hnx⟩ := (HX4.out.below hB).nth hlt
          clear hnx
          obtain ⟨wd, hwd⟩ : ∃ wd, P.getD i [] = wd := ⟨_, rfl⟩
          have hw4 := (HVV.out.2.1 i (by rw [HPN.out]; exact hlt)).1.2
          rw [hwd] at hE3 hw4
          have HE3 : Hid (IntsAt wr _ wd) := keptC hE3.1
          obtain ⟨a3, c3, hu3, _⟩ := id hE3.1
          obtain ⟨l, hl⟩ : ∃ l, wd.length = l := ⟨_, rfl⟩
          rw [hl] at hu3
          subst hu3
          have HST : Hid ((P.take (i + 1)).map List.reverse = (P.take i).map List.reverse ++ [wd.reverse]) := by
            show _ = _
            rw [take_succJ (by rw [HPN.out]; exact hlt), List.map_append, hwd]; rfl
          have HLN : Hid (((P.take i).map List.reverse).length ≤ 100000) := by
            show _ ≤ _
            rw [List.length_map, List.length_take]; omega
          have b1 : (0 : Int) ≤ (i : Int) := by omega
          have b2 : (i : Int) < (n1 : Int) := by omega
          clear hO hB hE3 hwd hl
          go_wp2_with fail
          refine (backwards_any wr _ wd HE3.out (by omega)).mono ?_
          rintro e w6 ⟨a6, n6, c6, rfl, hO6, hb6⟩
          have hB6 := below_next HB.out hb6
          have hala : Below w6.heap.size w6 (w6.alloc (.cells #[.slice a6 n6 c6] 31)) := (Below.refl _ _).alloc (Nat.le_refl _) _
          have HO8 := keptC ((HO.out.below hb6).below hala)
          have HE8 : Hid (ElOk (w6.alloc (.cells #[.slice a6 n6 c6] 31)) 0 (.slice a6 n6 c6) wd.reverse) := ElOk.of_own (hO6.below hala)
          have HC8 : Hid ((w6.alloc (.cells #[.slice a6 n6 c6] 31)).cell? ⟨w6.heap.size, 0, none⟩ = some (.slice a6 n6 c6)) := by
            show _ = _
            rw [cell_of_row _ w6.heap.size 0 _ _ _ (heap_alloc_new w6 _)]; rfl
          have HS8 : Hid (w4.heap.size ≤ (w6.alloc (.cells #[.slice a6 n6 c6] 31)).heap.size) := Nat.le_trans hB6.size hala.size
          have HO6 := keptC (HO.out.below hb6)
          have hs6 := hB6.size
          have HB6 := keptC hB6
          clear hala hb6 hB6 hO6 c1
          go_wp2_with (at_builtin; go_loud (refine wpList_append_ls rfl _ _ rfl w4.heap.size 0 w6.heap.size wd.reverse rfl rfl HO8.out HC8.out HE8.out rfl HLN.out HS8.out ?_))
          intro v9 w9 hown9 hgrow9
          have HO9 := keptC hown9
          have HB9 := keptC (grown_ls HB6.out hs6 HO6.out hgrow9)
          clear hown9 hgrow9
          go_wp2
          go_roundw
          case rel => exact ⟨i + 1, by omega, by go_num, by rw [HST.out]; first | exact HO9.out | (rw [List.map_take]; exact HO9.out), HB9.out⟩
          case measure => simp [intOf]; omega
        · obtain rfl : n1 = i := by omega
          have HVR : Hid (ValidCd ((P.take n1).map List.reverse)) := by
            rw [List.take_of_length_le (by rw [HPN.out]; exact Nat.le_refl _)]; exact valid_rev HVV.out
          have HUR : Hid (u = true ↔ Uniq ((P.take n1).map List.reverse)) := by
            rw [List.take_of_length_le (by rw [HPN.out]; exact Nat.le_refl _)]
            show _ ↔ _
            rw [uniq_amb (valid_rev HVV.out), amb_rev_iff, ← uniq_amb HVV.out]
            exact HU.out
          clear hO hB
          go_wp2_with fail
          refine (i_IsUnique wr _ _ true u HO.out.at (show _ ↔ _ from ⟨fun _ => HVR.out, fun _ => rfl⟩) HUR).mono ?_
          rintro e w7 ⟨rfl, hb7⟩
          have FIN := keptC (below_next HB4.out (below_next HB.out hb7))
          clear hb7
          go_wp2
          go_ret
          exact ⟨by simp, FIN.out⟩
  · have hbig' : 1048576 < len := by omega
    go_enter Try.func9, Try.ntmps9
    go_wp2
    go_ret
    exact ⟨rfl, Below.refl _ _⟩
end Go.Proofs.Ytdjgodemeaneeaa
