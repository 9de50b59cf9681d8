
/- P163: ways round cost no less. -/
import Derived.Test.YtekchmbbafjmmaaPdk
import Derived.Test.YtekchmbbafjmmaaReg
import Derived.Deep.RegionHeld3
namespace Go.Proofs.Ytekchmbbafjmmaa
open Go.RowKit

set_option maxHeartbeats 1000000 in
theorem backwards_P (w : World) (u : Value) (zs : List Int) (hx : IntsAt w u zs) (hl : zs.length ≤ 1000) :
    Calls Try.prog 27 #[u] w fun e w' => ∃ a n c, e = .returned (.slice a n c) ∧ OwnInts w' w.heap.size (.slice a n c) zs.reverse ∧ Below w.heap.size w w' := by
  obtain ⟨i0, hi, hz0, hz1, hz2⟩ := info_parts infoInt
  have HX := keptI hx
  obtain ⟨a, c, rfl, x1, x2, _⟩ := hx
  obtain ⟨n, hn⟩ : ∃ n, zs.length = n := ⟨_, rfl⟩
  rw [hn] at x1 HX hl ⊢
  have HN := keptI hn
  clear hn
  have hO0 : OwnInts (w.alloc (.cells #[] 3)) w.heap.size (.slice (some ⟨w.heap.size, 0, none⟩) 0 0) [] := OwnInts.made w w.heap.size (Nat.le_refl _)
  have hB0 : Below w.heap.size w (w.alloc (.cells #[] 3)) := (Below.refl _ _).alloc (Nat.le_refl _) _
  have u1 : IntKind.i64.wrap ((n : Int) - 1) = (n : Int) - 1 := IntWalk.i64_in _ (by omega)
  go_enter Try.func27, Try.ntmps27
  go_wp2_with fail
  generalize (w.alloc (.cells #[] 3)) = wA at hO0 hB0 ⊢
  go_loopw [3, 4] (fun v y wr => ∃ (k : Nat) (x : Int), k ≤ n ∧ y = .int .i64 x ∧ x = (k : Int) - 1 ∧ OwnInts wr w.heap.size v (zs.drop k).reverse ∧ Below w.heap.size w wr) (fun _ y _ => (intOf y + 1).toNat)
  case atStart => exact ⟨n, _, Nat.le_refl _, rfl, rfl, by rw [List.drop_eq_nil_of_le (by rw [HN.out]; exact Nat.le_refl _)]; exact hO0, hB0⟩
  case round =>
    clear hO0 hB0 u1
    obtain ⟨k, x, hk, rfl, hxk, hO, hB⟩ := hrel
    obtain ⟨ao, no, co, hoo⟩ : ∃ a n c, _ = Value.slice a n c := by
      obtain ⟨a, c, h, _⟩ := hO.at
      exact ⟨a, _, c, h⟩
    subst hoo
    have hs := hB.size
    by_cases hk0 : k = 0
    · subst hk0
      obtain rfl : x = -1 := by omega
      rw [List.drop_zero] at hO
      have HO := keptI hO
      have HB := keptI hB
      clear hO hB hxk
      go_wp2
      go_ret
      exact ⟨_, _, _, rfl, HO.out, HB.out⟩
    · obtain ⟨j, rfl⟩ : ∃ j, k = j + 1 := ⟨k - 1, by omega⟩
      obtain rfl : x = (j : Int) := by omega
      obtain ⟨g, off, rfl⟩ := HX.out.addrC (by omega)
      have hc : wr.cell? ⟨g, off + j, none⟩ = some (.int .i64 (zs.getD j 0)) := by
        obtain ⟨a', c', e, _, _, h5⟩ := HX.out.below hB
        injection e with e1 _ _
        rcases h5 with rfl | ⟨g', off', e5, h6⟩
        · have := HN.out; simp at this; omega
        · rw [← e1] at e5
          injection e5 with e5
          injection e5 with e6 e7 _
          subst e6 e7
          exact h6 j (by rw [HN.out]; omega)
      obtain ⟨z, hz⟩ : ∃ z, zs.getD j 0 = z := ⟨_, rfl⟩
      rw [hz] at hc
      have HST : Hid ((zs.drop j).reverse = (zs.drop (j + 1)).reverse ++ [z]) := by
        show _ = _
        rw [List.drop_eq_getElem_cons (by rw [HN.out]; omega : j < zs.length), List.reverse_cons, ← hz, List.getD_eq_getElem?_getD, List.getElem?_eq_getElem (by rw [HN.out]; omega), Option.getD_some]
      have hol : ((zs.drop (j + 1)).reverse).length ≤ 1000 := by rw [List.length_reverse, List.length_drop, HN.out]; omega
      obtain ⟨Z, hZ⟩ : ∃ Z, (zs.drop (j + 1)).reverse = Z := ⟨_, rfl⟩
      rw [hZ] at hO hol HST
      have u2 : IntKind.i64.wrap ((j : Int) - 1) = (j : Int) - 1 := IntWalk.i64_in _ (by omega)
      have dj : decide ((j : Int) < 0) = false := decide_eq_false (by omega)
      have b1 : (0 : Int) ≤ (j : Int) := by omega
      have b2 : (j : Int) < (n : Int) := by omega
      have HO := keptI hO
      have HB := keptI hB
      clear hz hZ hxk hk0 hB
      go_wp2_with (at_builtin; refine wpList_append_own _ rfl _ _ 28 rfl w.heap.size 3 i0 (.int .i64 0) 1 8 Try.underlying28 hi hz0 hz1 hz2 rfl (by decide) _ _ _ rfl (hO.alloc _) ⟨wr.heap.size, 0, none⟩ 1 1 [.int .i64 z] rfl rfl new_one one_cell (by unfold maxLen; omega) (by omega) (by simp; omega) ?_)
      intro v' w6 hown' hgrow _
      have HO6 := keptI (OwnInts.snoc hown')
      have HB6 := keptI (below_append HB.out hs HO.out hgrow)
      clear hown' hgrow hO
      go_wp2
      go_roundw
      case rel => exact ⟨j, _, by omega, rfl, rfl, by rw [HST.out]; exact HO6.out, HB6.out⟩
      case measure => first | (simp [intOf]; omega) | simp [intOf]
theorem costA_okP {A B : List Int} (h : OkP A ∧ OkP B) {D : Nat} (hD : dist A B = D) : costA A B = (D : Int) := by rw [costA, if_pos h, hD]
theorem lit139 (w : World) : IntsAt (w.alloc (.cells #[.int .i64 1, .int .i64 3, .int .i64 9] 3)) (.slice (some ⟨w.heap.size, 0, none⟩) 3 3) [1, 3, 9] := by
  refine ⟨_, _, rfl, Nat.le_refl _, by decide, .inr ⟨w.heap.size, 0, rfl, fun i hi => ?_⟩⟩
  rw [cell_of_row _ w.heap.size _ _ _ _ (heap_alloc_new w _)]
  match i, hi with
  | 0, _ => rfl
  | 1, _ => rfl
  | 2, _ => rfl
theorem lists4 {w : World} {s0 s1 s2 s3 : Value} {l0 l1 l2 l3 : List Int} (h0 : IntsAt w s0 l0) (h1 : IntsAt w s1 l1) (h2 : IntsAt w s2 l2) (h3 : IntsAt w s3 l3) :
    ListsAt (w.alloc (.cells #[s0, s1, s2, s3] 28)) (.slice (some ⟨w.heap.size, 0, none⟩) 4 4) [l0, l1, l2, l3] := by
  have hb : Below w.heap.size w (w.alloc (.cells #[s0, s1, s2, s3] 28)) := (Below.refl _ _).alloc (Nat.le_refl _) _
  refine ⟨_, _, rfl, Nat.le_refl _, by decide, .inr ⟨w.heap.size, 0, rfl, fun i hi => ?_⟩⟩
  match i, hi with
  | 0, _ => exact ⟨s0, by rw [cell_of_row _ w.heap.size _ _ _ _ (heap_alloc_new w _)]; rfl, h0.below hb⟩
  | 1, _ => exact ⟨s1, by rw [cell_of_row _ w.heap.size _ _ _ _ (heap_alloc_new w _)]; rfl, h1.below hb⟩
  | 2, _ => exact ⟨s2, by rw [cell_of_row _ w.heap.size _ _ _ _ (heap_alloc_new w _)]; rfl, h2.below hb⟩
  | 3, _ => exact ⟨s3, by rw [cell_of_row _ w.heap.size _ _ _ _ (heap_alloc_new w _)]; rfl, h3.below hb⟩
theorem row4 {w : World} {g : Nat} {A B : List Int} {D k j : Nat} (h : ListsAt w (.slice (some ⟨g, 0, none⟩) 4 4) [[], [1, 3, 9], A.reverse, B.take k]) (hok : OkP A ∧ OkP B) (hD : dist A B = D) (hj : j < 4) :
    ∃ u, w.cell? ⟨g, j, none⟩ = some u ∧ (∃ a n c, u = .slice a n c) ∧ IntsAt w u ([[], [1, 3, 9], A.reverse, B.take k].getD j []) ∧ OkP ([[], [1, 3, 9], A.reverse, B.take k].getD j []) ∧
      ∃ D1 D2 : Nat, Hid (costA A ([[], [1, 3, 9], A.reverse, B.take k].getD j []) = (D1 : Int)) ∧ Hid (costA ([[], [1, 3, 9], A.reverse, B.take k].getD j []) B = (D2 : Int)) ∧ D ≤ D1 + D2 ∧ D1 ≤ 240 ∧ D2 ≤ 240 := by
  obtain ⟨a, c, e, _, _, h3⟩ := h
  injection e with e1 _ _
  rcases h3 with h3 | ⟨g', off, e4, h3⟩
  · simp at h3
  rw [← e1] at e4
  injection e4 with e4
  injection e4 with e5 e6 _
  subst e5 e6
  obtain ⟨u, c1, hu⟩ := h3 j hj
  rw [Nat.zero_add] at c1
  obtain ⟨LL, hLL⟩ : ∃ LL, [[], [1, 3, 9], A.reverse, B.take k].getD j [] = LL := ⟨_, rfl⟩
  rw [hLL] at hu ⊢
  have hO : OkP LL := by
    subst hLL
    match j, hj with
    | 0, _ => exact (by decide : OkP [])
    | 1, _ => exact (by decide : OkP [1, 3, 9])
    | 2, _ => exact ⟨by show A.reverse.length ≤ 30; rw [List.length_reverse]; exact hok.1.1, by show A.reverse.length ≤ 200; rw [List.length_reverse]; exact hok.1.2.1, fun z hz => hok.1.2.2 z (List.mem_reverse.1 hz)⟩
    | 3, _ => exact ⟨by show (B.take k).length ≤ 30; have := hok.2.1; rw [List.length_take]; omega, by show (B.take k).length ≤ 200; have := hok.2.2.1; rw [List.length_take]; omega, fun z hz => hok.2.2.2 z (List.mem_of_mem_take hz)⟩
  have b1 := dist_bd A LL
  have b2 := dist_bd LL B
  have := hO.1
  have := hok.1.1
  have := hok.2.1
  have ht := dist_tri A LL B
  refine ⟨u, c1, ?_, hu, hO, dist A LL, dist LL B, costA_okP ⟨hok.1, hO⟩ rfl, costA_okP ⟨hO, hok.2⟩ rfl, by omega, by omega, by omega⟩
  obtain ⟨a, c, e, _⟩ := hu
  exact ⟨a, _, c, e⟩
set_option maxHeartbeats 4000000 in
theorem proofCostWay_walk (a : Option Addr) (len cap : Nat) (zs : List Int) (w : World) (h : RowIn .u8 w a len cap zs) :
    Calls Try.prog 7 #[.slice a len cap] w fun e w' => e = .returned (.bool true) ∧ Below w.heap.size w w' := by
  have hlen : len ≤ 9223372036854775807 := by
    obtain ⟨_, h2, h3⟩ := bytesAt_of_row h; unfold maxLen at h3; omega
  by_cases hbig : len ≤ 1048576
  · go_enter Try.func7, Try.ntmps7
    go_wp2_with fail
    refine (drawProofCost_any w a len cap zs h).mono ?_
    rintro e w1 ⟨a1, n, ca, b1, m, cb, A, B, rfl, hA, hB, hAl, hBl, hFA, hFB, HB⟩
    clear h
    have hn : A.length = n := by obtain ⟨_, _, e, _⟩ := hA; injection e with _ e2 _; exact e2.symm
    have hm : B.length = m := by obtain ⟨_, _, e, _⟩ := hB; injection e with _ e2 _; exact e2.symm
    obtain ⟨c, hc⟩ : ∃ c, costA A B = c := ⟨_, rfl⟩
    have HC := Lib.hid hc
    have HN := Lib.hid hn
    have HM := Lib.hid hm
    rw [hn] at hAl
    rw [hm] at hBl
    clear hn hm
    go_wp2_with fail
    refine (i_ProofCost _ _ _ A B c hA hB HC).mono ?_
    rintro e w2 ⟨rfl, hbn⟩
    replace hA := hA.below hbn
    replace hB := hB.below hbn
    replace HB := below_next HB hbn
    clear hbn
    go_wp2_with fail
    refine (s_ProofCost _ _ _ A B c hA hB HC).mono ?_
    rintro e w3 ⟨rfl, hbn⟩
    replace hA := hA.below hbn
    replace hB := hB.below hbn
    replace HB := below_next HB hbn
    clear hbn
    by_cases hok : OkP A ∧ OkP B
    · obtain ⟨D, hD⟩ : ∃ D, dist A B = D := ⟨_, rfl⟩
      have hcD : c = (D : Int) := by rw [← hc, costA, if_pos hok, hD]
      have hDb := dist_bd A B
      rw [hD, HN.out, HM.out] at hDb
      subst hcD
      have HOK := Lib.hid hok
      have HD := Lib.hid hD
      clear hc hok hD
      obtain ⟨k, hk⟩ : ∃ k, m / 2 = k := ⟨_, rfl⟩
      have hkm : k ≤ m := by omega
      have hmc : m ≤ cb := by obtain ⟨_, _, e, h, _⟩ := hB; injection e with _ e2 e3; omega
      have t2 : (m : Int) / 2 = (k : Int) := by omega
      have c3 : (k : Int) ≤ (cb : Int) := by omega
      have c4 : k ≤ cb := by omega
      have t3 : IntKind.i64.wrap (k : Int) = (k : Int) := IntWalk.i64_in _ (by omega)
      clear hk hFA hFB
      go_wp2_with fail
      refine wp_region_held_drew (S := fun wy => True) (by kernel_rfl) trivial (fun hHeld => ?_)
      refine reg_take (i := 2) (d := 35) (.slice a1 n ca) rfl rfl (by kernel_rfl) (by kernel_rfl) (by kernel_rfl) (fun _ _ _ h => h) (by rfl) (by intro wq hq; go_simp) (by assumption) ?_
      simp only [Act.put, List.setIfInBounds_toArray, List.set_cons_zero, List.set_cons_succ]
      refine reg_take (i := 4) (d := 37) (.slice b1 m cb) rfl rfl (by kernel_rfl) (by kernel_rfl) (by kernel_rfl) (fun _ _ _ h => h) (by rfl) (by intro wq hq; go_simp) (by assumption) ?_
      simp only [Act.put, List.setIfInBounds_toArray, List.set_cons_zero, List.set_cons_succ]
      refine reg_take (i := 5) (d := 38) (.slice b1 m cb) rfl rfl (by kernel_rfl) (by kernel_rfl) (by kernel_rfl) (fun _ _ _ h => h) (by rfl) (by intro wq hq; go_simp) (by assumption) ?_
      simp only [Act.put, List.setIfInBounds_toArray, List.set_cons_zero, List.set_cons_succ]
      refine reg_take (i := 6) (d := 39) (.int .i64 (m : Int)) rfl rfl (by kernel_rfl) (by kernel_rfl) (by kernel_rfl) (fun _ _ _ h => h) (by rfl) (by intro wq hq; go_simp) (by assumption) ?_
      simp only [Act.put, List.setIfInBounds_toArray, List.set_cons_zero, List.set_cons_succ]
      refine reg_take (i := 7) (d := 40) (.int .i64 (k : Int)) rfl rfl (by kernel_rfl) (by kernel_rfl) (by kernel_rfl) (fun _ _ _ h => h) (by rfl) (by intro wq hq; go_simp) (by assumption) ?_
      simp only [Act.put, List.setIfInBounds_toArray, List.set_cons_zero, List.set_cons_succ]
      refine reg_take (i := 8) (d := 41) (.slice b1 k cb) rfl rfl (by kernel_rfl) (by kernel_rfl) (by kernel_rfl) (fun _ _ _ h => h) (by rfl) (by intro wq hq; go_simp) (by assumption) ?_
      simp only [Act.put, List.setIfInBounds_toArray, List.set_cons_zero, List.set_cons_succ]
      replace hA : IntsAt w3.drew _ A := hA
      replace hB : IntsAt w3.drew _ B := hB
      replace HB : Below w.heap.size w w3.drew := HB.drew
      generalize w3.drew = v0 at hA hB HB ⊢
      refine wpAnyH_ready (rs := [0, 1, 3]) (by kernel_rfl) (by simp) ?_
      refine AllReadyH.cons rfl (fun K hK => ?_) (AllReadyH.cons rfl (fun K hK => ?_) (AllReadyH.cons rfl (fun K hK => ?_) AllReadyH.nil))
      · skip
        go_simp
        have hbn : Below v0.heap.size v0 (v0.alloc (.cells #[] 3)) := (Below.refl _ _).alloc (Nat.le_refl _) _
        replace hA := hA.below hbn
        replace hB := hB.below hbn
        replace HB := below_next HB hbn
        clear hbn
        have fE : IntsAt (v0.alloc (.cells #[] 3)) (.slice (some ⟨v0.heap.size, 0, none⟩) 0 0) [] := ⟨_, _, rfl, Nat.le_refl _, by decide, .inl rfl⟩
        generalize (v0.alloc (.cells #[] 3)) = v1 at hA hB fE HB ⊢
        generalize v0.heap.size = G2 at fE ⊢
        refine hK.out _ _ trivial (fun hHeld2 => ?_)
        clear hK hHeld
        have hHeld := hHeld2
        clear hHeld2
        refine wpAnyH_ready (rs := [1, 3]) (by kernel_rfl) (by simp) ?_
        refine AllReadyH.cons rfl (fun K hK => ?_) (AllReadyH.cons rfl (fun K hK => ?_) AllReadyH.nil)
        · skip
          go_simp
          have hbn : Below v1.heap.size v1 (v1.alloc (.cells #[.int .i64 1, .int .i64 3, .int .i64 9] 3)) := (Below.refl _ _).alloc (Nat.le_refl _) _
          replace hA := hA.below hbn
          replace hB := hB.below hbn
          replace fE := fE.below hbn
          replace HB := below_next HB hbn
          clear hbn
          have fO : IntsAt (v1.alloc (.cells #[.int .i64 1, .int .i64 3, .int .i64 9] 3)) (.slice (some ⟨v1.heap.size, 0, none⟩) 3 3) [1, 3, 9] := lit139 v1
          generalize (v1.alloc (.cells #[.int .i64 1, .int .i64 3, .int .i64 9] 3)) = v3 at hA hB fE fO HB ⊢
          generalize v1.heap.size = G4 at fO ⊢
          refine hK.out _ _ trivial (fun hHeld2 => ?_)
          clear hK hHeld
          have hHeld := hHeld2
          clear hHeld2
          refine wpAnyH_ready (rs := [3]) (by kernel_rfl) (by simp) ?_
          refine AllReadyH.cons rfl (fun K hK => ?_) AllReadyH.nil
          go_simp
          refine (backwards_P v3 _ A hA (by rw [HN.out]; omega)).mono ?_
          rintro e v5 ⟨ar, nr, cr, rfl, hOr, hbn⟩
          replace hA := hA.below hbn
          replace hB := hB.below hbn
          replace fE := fE.below hbn
          replace fO := fO.below hbn
          replace HB := below_next HB hbn
          clear hbn
          have fR := hOr.at
          clear hOr
          refine hK.out _ _ trivial (fun hHeld2 => ?_)
          clear hK hHeld
          have hHeld := hHeld2
          clear hHeld2
          refine wpAnyH_ready (rs := [9]) (by kernel_rfl) (by simp) ?_
          refine AllReadyH.cons rfl (fun K hK => ?_) AllReadyH.nil
          go_simp
          have hbn : Below v5.heap.size v5 (v5.alloc (.cells #[.slice (some ⟨G2, 0, none⟩) 0 0, .slice (some ⟨G4, 0, none⟩) 3 3, .slice ar nr cr, .slice b1 k cb] 28)) := (Below.refl _ _).alloc (Nat.le_refl _) _
          have hL : ListsAt (v5.alloc (.cells #[.slice (some ⟨G2, 0, none⟩) 0 0, .slice (some ⟨G4, 0, none⟩) 3 3, .slice ar nr cr, .slice b1 k cb] 28)) (.slice (some ⟨v5.heap.size, 0, none⟩) 4 4) [[], [1, 3, 9], A.reverse, B.take k] := lists4 fE fO fR (hB.takeC k hkm)
          replace hA := hA.below hbn
          replace hB := hB.below hbn
          replace HB := below_next HB hbn
          clear hbn
          generalize (v5.alloc (.cells #[.slice (some ⟨G2, 0, none⟩) 0 0, .slice (some ⟨G4, 0, none⟩) 3 3, .slice ar nr cr, .slice b1 k cb] 28)) = v7 at hA hB hL HB ⊢
          generalize v5.heap.size = G8 at hL ⊢
          refine hK.out _ _ trivial (fun hHeld2 => ?_)
          clear hK hHeld
          have hHeld := hHeld2
          clear hHeld2
          clear fE fO fR
          refine reg_take (i := 10) (d := 6) (.slice (some ⟨G8, 0, none⟩) 4 4) rfl rfl (by kernel_rfl) (by kernel_rfl) (by kernel_rfl) (fun _ _ _ h => h) (by rfl) (by intro wq hq; go_simp) (by assumption) ?_
          simp only [Act.put, List.setIfInBounds_toArray, List.set_cons_zero, List.set_cons_succ]
          refine wpAnyH_done (by kernel_rfl) ?_ _
          clear hHeld
          go_wp2
          have HBx := Lib.hid HB
          have HL := Lib.hid hL
          have HAx := Lib.hid hA
          have HBy := Lib.hid hB
          clear HB hL hA hB
          go_loopw [7] (fun i wr => ∃ j : Nat, j ≤ 4 ∧ i = .int .i64 j ∧ Below v7.heap.size v7 wr) (fun i _ => 4 - (intOf i).toNat)
          case atStart => exact ⟨0, by omega, rfl, Below.refl _ _⟩
          case round =>
            obtain ⟨j, hj, rfl, hBr⟩ := hrel
            by_cases hlt : j < 4
            · obtain ⟨u, e1, e2, e3, hok, D1, D2, hD1, hD2, htri⟩ := row4 (HL.out.below hBr) HOK.out HD.out hlt (k := k)
              obtain ⟨su, nu, cu, rfl⟩ := e2
              have hA := HAx.out.below hBr
              have hB := HBy.out.below hBr
              have HP1 : Hid (Calls Try.prog 24 #[.slice a1 n ca, .slice su nu cu] wr.drew fun e w' => KInt (D1 : Int) wr.drew e w') := i_ProofCost wr.drew _ _ _ _ _ (hA.below (Below.refl _ _).drew) (e3.below (Below.refl _ _).drew) hD1
              have HP2 : Hid (∀ wy, Below wr.heap.size wr wy → Calls Try.prog 24 #[.slice su nu cu, .slice b1 m cb] wy fun e w' => KInt (D2 : Int) wy e w') := fun wy hb => i_ProofCost wy _ _ _ _ _ (e3.below hb) (hB.below hb) hD2
              have HC4 : Hid (∀ wy, Below wr.heap.size wr wy → wy.cell? ⟨G8, j, none⟩ = some (.slice su nu cu)) := fun wy hb => (hb.cell (World.block_lt_of_cell? wr _ e1)).trans e1
              have HR := Lib.hid hBr
              have u1 : IntKind.i64.wrap ((D1 : Int) + (D2 : Int)) = (D1 : Int) + (D2 : Int) := IntWalk.i64_in _ (by omega)
              have dd : decide ((D1 : Int) + (D2 : Int) < (D : Int)) = false := decide_eq_false (by omega)
              have dq : decide (D1 + D2 < D) = false := decide_eq_false (by omega)
              have q1 : (0 : Int) ≤ (j : Int) := by omega
              have q2 : (j : Int) < 4 := by omega
              clear hA hB e1 e3 hD1 hD2 hBr
              go_wp2_with fail
              go_region_held3 (fun wy => wy.cell? ⟨G8, j, none⟩ = some (.slice su nu cu)) (first | assumption | exact HC4.out _ (Below.refl _ _).drew | exact HC4.out _ HX4.out | exact HC4.out _ HX5.out) (first | (go_at_call 24; (with_reducible refine HP1.out.mono ?_); rintro e x4 ⟨rfl, hb4⟩; have HX4 : Hid (Below wr.heap.size wr x4) := (Below.refl _ _).drew.trans hb4; clear hb4) | (go_at_call 24; (with_reducible refine (HP2.out _ HX4.out).mono ?_); rintro e x5 ⟨rfl, hb5⟩; have HX5 : Hid (Below wr.heap.size wr x5) := below_next HX4.out hb5; clear hb5))
              all_goals
                go_wp2
                go_roundw
                case rel => exact ⟨j + 1, by omega, by go_num, below_next HR.out HX5.out⟩
                case measure => simp [intOf]; omega
            · obtain rfl : j = 4 := by omega
              go_wp2
              go_ret
              exact ⟨rfl, below_next HBx.out hBr⟩
        · skip
          go_simp
          refine (backwards_P v1 _ A hA (by rw [HN.out]; omega)).mono ?_
          rintro e v9 ⟨ar, nr, cr, rfl, hOr, hbn⟩
          replace hA := hA.below hbn
          replace hB := hB.below hbn
          replace fE := fE.below hbn
          replace HB := below_next HB hbn
          clear hbn
          have fR := hOr.at
          clear hOr
          refine hK.out _ _ trivial (fun hHeld2 => ?_)
          clear hK hHeld
          have hHeld := hHeld2
          clear hHeld2
          refine wpAnyH_ready (rs := [1]) (by kernel_rfl) (by simp) ?_
          refine AllReadyH.cons rfl (fun K hK => ?_) AllReadyH.nil
          go_simp
          have hbn : Below v9.heap.size v9 (v9.alloc (.cells #[.int .i64 1, .int .i64 3, .int .i64 9] 3)) := (Below.refl _ _).alloc (Nat.le_refl _) _
          replace hA := hA.below hbn
          replace hB := hB.below hbn
          replace fE := fE.below hbn
          replace fR := fR.below hbn
          replace HB := below_next HB hbn
          clear hbn
          have fO : IntsAt (v9.alloc (.cells #[.int .i64 1, .int .i64 3, .int .i64 9] 3)) (.slice (some ⟨v9.heap.size, 0, none⟩) 3 3) [1, 3, 9] := lit139 v9
          generalize (v9.alloc (.cells #[.int .i64 1, .int .i64 3, .int .i64 9] 3)) = v11 at hA hB fE fR fO HB ⊢
          generalize v9.heap.size = G12 at fO ⊢
          refine hK.out _ _ trivial (fun hHeld2 => ?_)
          clear hK hHeld
          have hHeld := hHeld2
          clear hHeld2
          refine wpAnyH_ready (rs := [9]) (by kernel_rfl) (by simp) ?_
          refine AllReadyH.cons rfl (fun K hK => ?_) AllReadyH.nil
          go_simp
          have hbn : Below v11.heap.size v11 (v11.alloc (.cells #[.slice (some ⟨G2, 0, none⟩) 0 0, .slice (some ⟨G12, 0, none⟩) 3 3, .slice ar nr cr, .slice b1 k cb] 28)) := (Below.refl _ _).alloc (Nat.le_refl _) _
          have hL : ListsAt (v11.alloc (.cells #[.slice (some ⟨G2, 0, none⟩) 0 0, .slice (some ⟨G12, 0, none⟩) 3 3, .slice ar nr cr, .slice b1 k cb] 28)) (.slice (some ⟨v11.heap.size, 0, none⟩) 4 4) [[], [1, 3, 9], A.reverse, B.take k] := lists4 fE fO fR (hB.takeC k hkm)
          replace hA := hA.below hbn
          replace hB := hB.below hbn
          replace HB := below_next HB hbn
          clear hbn
          generalize (v11.alloc (.cells #[.slice (some ⟨G2, 0, none⟩) 0 0, .slice (some ⟨G12, 0, none⟩) 3 3, .slice ar nr cr, .slice b1 k cb] 28)) = v13 at hA hB hL HB ⊢
          generalize v11.heap.size = G14 at hL ⊢
          refine hK.out _ _ trivial (fun hHeld2 => ?_)
          clear hK hHeld
          have hHeld := hHeld2
          clear hHeld2
          clear fE fO fR
          refine reg_take (i := 10) (d := 6) (.slice (some ⟨G14, 0, none⟩) 4 4) rfl rfl (by kernel_rfl) (by kernel_rfl) (by kernel_rfl) (fun _ _ _ h => h) (by rfl) (by intro wq hq; go_simp) (by assumption) ?_
          simp only [Act.put, List.setIfInBounds_toArray, List.set_cons_zero, List.set_cons_succ]
          refine wpAnyH_done (by kernel_rfl) ?_ _
          clear hHeld
          go_wp2
          have HBx := Lib.hid HB
          have HL := Lib.hid hL
          have HAx := Lib.hid hA
          have HBy := Lib.hid hB
          clear HB hL hA hB
          go_loopw [7] (fun i wr => ∃ j : Nat, j ≤ 4 ∧ i = .int .i64 j ∧ Below v13.heap.size v13 wr) (fun i _ => 4 - (intOf i).toNat)
          case atStart => exact ⟨0, by omega, rfl, Below.refl _ _⟩
          case round =>
            obtain ⟨j, hj, rfl, hBr⟩ := hrel
            by_cases hlt : j < 4
            · obtain ⟨u, e1, e2, e3, hok, D1, D2, hD1, hD2, htri⟩ := row4 (HL.out.below hBr) HOK.out HD.out hlt (k := k)
              obtain ⟨su, nu, cu, rfl⟩ := e2
              have hA := HAx.out.below hBr
              have hB := HBy.out.below hBr
              have HP1 : Hid (Calls Try.prog 24 #[.slice a1 n ca, .slice su nu cu] wr.drew fun e w' => KInt (D1 : Int) wr.drew e w') := i_ProofCost wr.drew _ _ _ _ _ (hA.below (Below.refl _ _).drew) (e3.below (Below.refl _ _).drew) hD1
              have HP2 : Hid (∀ wy, Below wr.heap.size wr wy → Calls Try.prog 24 #[.slice su nu cu, .slice b1 m cb] wy fun e w' => KInt (D2 : Int) wy e w') := fun wy hb => i_ProofCost wy _ _ _ _ _ (e3.below hb) (hB.below hb) hD2
              have HC4 : Hid (∀ wy, Below wr.heap.size wr wy → wy.cell? ⟨G14, j, none⟩ = some (.slice su nu cu)) := fun wy hb => (hb.cell (World.block_lt_of_cell? wr _ e1)).trans e1
              have HR := Lib.hid hBr
              have u1 : IntKind.i64.wrap ((D1 : Int) + (D2 : Int)) = (D1 : Int) + (D2 : Int) := IntWalk.i64_in _ (by omega)
              have dd : decide ((D1 : Int) + (D2 : Int) < (D : Int)) = false := decide_eq_false (by omega)
              have dq : decide (D1 + D2 < D) = false := decide_eq_false (by omega)
              have q1 : (0 : Int) ≤ (j : Int) := by omega
              have q2 : (j : Int) < 4 := by omega
              clear hA hB e1 e3 hD1 hD2 hBr
              go_wp2_with fail
              go_region_held3 (fun wy => wy.cell? ⟨G14, j, none⟩ = some (.slice su nu cu)) (first | assumption | exact HC4.out _ (Below.refl _ _).drew | exact HC4.out _ HX4.out | exact HC4.out _ HX5.out) (first | (go_at_call 24; (with_reducible refine HP1.out.mono ?_); rintro e x4 ⟨rfl, hb4⟩; have HX4 : Hid (Below wr.heap.size wr x4) := (Below.refl _ _).drew.trans hb4; clear hb4) | (go_at_call 24; (with_reducible refine (HP2.out _ HX4.out).mono ?_); rintro e x5 ⟨rfl, hb5⟩; have HX5 : Hid (Below wr.heap.size wr x5) := below_next HX4.out hb5; clear hb5))
              all_goals
                go_wp2
                go_roundw
                case rel => exact ⟨j + 1, by omega, by go_num, below_next HR.out HX5.out⟩
                case measure => simp [intOf]; omega
            · obtain rfl : j = 4 := by omega
              go_wp2
              go_ret
              exact ⟨rfl, below_next HBx.out hBr⟩
      · skip
        go_simp
        have hbn : Below v0.heap.size v0 (v0.alloc (.cells #[.int .i64 1, .int .i64 3, .int .i64 9] 3)) := (Below.refl _ _).alloc (Nat.le_refl _) _
        replace hA := hA.below hbn
        replace hB := hB.below hbn
        replace HB := below_next HB hbn
        clear hbn
        have fO : IntsAt (v0.alloc (.cells #[.int .i64 1, .int .i64 3, .int .i64 9] 3)) (.slice (some ⟨v0.heap.size, 0, none⟩) 3 3) [1, 3, 9] := lit139 v0
        generalize (v0.alloc (.cells #[.int .i64 1, .int .i64 3, .int .i64 9] 3)) = v15 at hA hB fO HB ⊢
        generalize v0.heap.size = G16 at fO ⊢
        refine hK.out _ _ trivial (fun hHeld2 => ?_)
        clear hK hHeld
        have hHeld := hHeld2
        clear hHeld2
        refine wpAnyH_ready (rs := [0, 3]) (by kernel_rfl) (by simp) ?_
        refine AllReadyH.cons rfl (fun K hK => ?_) (AllReadyH.cons rfl (fun K hK => ?_) AllReadyH.nil)
        · skip
          go_simp
          have hbn : Below v15.heap.size v15 (v15.alloc (.cells #[] 3)) := (Below.refl _ _).alloc (Nat.le_refl _) _
          replace hA := hA.below hbn
          replace hB := hB.below hbn
          replace fO := fO.below hbn
          replace HB := below_next HB hbn
          clear hbn
          have fE : IntsAt (v15.alloc (.cells #[] 3)) (.slice (some ⟨v15.heap.size, 0, none⟩) 0 0) [] := ⟨_, _, rfl, Nat.le_refl _, by decide, .inl rfl⟩
          generalize (v15.alloc (.cells #[] 3)) = v17 at hA hB fO fE HB ⊢
          generalize v15.heap.size = G18 at fE ⊢
          refine hK.out _ _ trivial (fun hHeld2 => ?_)
          clear hK hHeld
          have hHeld := hHeld2
          clear hHeld2
          refine wpAnyH_ready (rs := [3]) (by kernel_rfl) (by simp) ?_
          refine AllReadyH.cons rfl (fun K hK => ?_) AllReadyH.nil
          go_simp
          refine (backwards_P v17 _ A hA (by rw [HN.out]; omega)).mono ?_
          rintro e v19 ⟨ar, nr, cr, rfl, hOr, hbn⟩
          replace hA := hA.below hbn
          replace hB := hB.below hbn
          replace fO := fO.below hbn
          replace fE := fE.below hbn
          replace HB := below_next HB hbn
          clear hbn
          have fR := hOr.at
          clear hOr
          refine hK.out _ _ trivial (fun hHeld2 => ?_)
          clear hK hHeld
          have hHeld := hHeld2
          clear hHeld2
          refine wpAnyH_ready (rs := [9]) (by kernel_rfl) (by simp) ?_
          refine AllReadyH.cons rfl (fun K hK => ?_) AllReadyH.nil
          go_simp
          have hbn : Below v19.heap.size v19 (v19.alloc (.cells #[.slice (some ⟨G18, 0, none⟩) 0 0, .slice (some ⟨G16, 0, none⟩) 3 3, .slice ar nr cr, .slice b1 k cb] 28)) := (Below.refl _ _).alloc (Nat.le_refl _) _
          have hL : ListsAt (v19.alloc (.cells #[.slice (some ⟨G18, 0, none⟩) 0 0, .slice (some ⟨G16, 0, none⟩) 3 3, .slice ar nr cr, .slice b1 k cb] 28)) (.slice (some ⟨v19.heap.size, 0, none⟩) 4 4) [[], [1, 3, 9], A.reverse, B.take k] := lists4 fE fO fR (hB.takeC k hkm)
          replace hA := hA.below hbn
          replace hB := hB.below hbn
          replace HB := below_next HB hbn
          clear hbn
          generalize (v19.alloc (.cells #[.slice (some ⟨G18, 0, none⟩) 0 0, .slice (some ⟨G16, 0, none⟩) 3 3, .slice ar nr cr, .slice b1 k cb] 28)) = v21 at hA hB hL HB ⊢
          generalize v19.heap.size = G22 at hL ⊢
          refine hK.out _ _ trivial (fun hHeld2 => ?_)
          clear hK hHeld
          have hHeld := hHeld2
          clear hHeld2
          clear fE fO fR
          refine reg_take (i := 10) (d := 6) (.slice (some ⟨G22, 0, none⟩) 4 4) rfl rfl (by kernel_rfl) (by kernel_rfl) (by kernel_rfl) (fun _ _ _ h => h) (by rfl) (by intro wq hq; go_simp) (by assumption) ?_
          simp only [Act.put, List.setIfInBounds_toArray, List.set_cons_zero, List.set_cons_succ]
          refine wpAnyH_done (by kernel_rfl) ?_ _
          clear hHeld
          go_wp2
          have HBx := Lib.hid HB
          have HL := Lib.hid hL
          have HAx := Lib.hid hA
          have HBy := Lib.hid hB
          clear HB hL hA hB
          go_loopw [7] (fun i wr => ∃ j : Nat, j ≤ 4 ∧ i = .int .i64 j ∧ Below v21.heap.size v21 wr) (fun i _ => 4 - (intOf i).toNat)
          case atStart => exact ⟨0, by omega, rfl, Below.refl _ _⟩
          case round =>
            obtain ⟨j, hj, rfl, hBr⟩ := hrel
            by_cases hlt : j < 4
            · obtain ⟨u, e1, e2, e3, hok, D1, D2, hD1, hD2, htri⟩ := row4 (HL.out.below hBr) HOK.out HD.out hlt (k := k)
              obtain ⟨su, nu, cu, rfl⟩ := e2
              have hA := HAx.out.below hBr
              have hB := HBy.out.below hBr
              have HP1 : Hid (Calls Try.prog 24 #[.slice a1 n ca, .slice su nu cu] wr.drew fun e w' => KInt (D1 : Int) wr.drew e w') := i_ProofCost wr.drew _ _ _ _ _ (hA.below (Below.refl _ _).drew) (e3.below (Below.refl _ _).drew) hD1
              have HP2 : Hid (∀ wy, Below wr.heap.size wr wy → Calls Try.prog 24 #[.slice su nu cu, .slice b1 m cb] wy fun e w' => KInt (D2 : Int) wy e w') := fun wy hb => i_ProofCost wy _ _ _ _ _ (e3.below hb) (hB.below hb) hD2
              have HC4 : Hid (∀ wy, Below wr.heap.size wr wy → wy.cell? ⟨G22, j, none⟩ = some (.slice su nu cu)) := fun wy hb => (hb.cell (World.block_lt_of_cell? wr _ e1)).trans e1
              have HR := Lib.hid hBr
              have u1 : IntKind.i64.wrap ((D1 : Int) + (D2 : Int)) = (D1 : Int) + (D2 : Int) := IntWalk.i64_in _ (by omega)
              have dd : decide ((D1 : Int) + (D2 : Int) < (D : Int)) = false := decide_eq_false (by omega)
              have dq : decide (D1 + D2 < D) = false := decide_eq_false (by omega)
              have q1 : (0 : Int) ≤ (j : Int) := by omega
              have q2 : (j : Int) < 4 := by omega
              clear hA hB e1 e3 hD1 hD2 hBr
              go_wp2_with fail
              go_region_held3 (fun wy => wy.cell? ⟨G22, j, none⟩ = some (.slice su nu cu)) (first | assumption | exact HC4.out _ (Below.refl _ _).drew | exact HC4.out _ HX4.out | exact HC4.out _ HX5.out) (first | (go_at_call 24; (with_reducible refine HP1.out.mono ?_); rintro e x4 ⟨rfl, hb4⟩; have HX4 : Hid (Below wr.heap.size wr x4) := (Below.refl _ _).drew.trans hb4; clear hb4) | (go_at_call 24; (with_reducible refine (HP2.out _ HX4.out).mono ?_); rintro e x5 ⟨rfl, hb5⟩; have HX5 : Hid (Below wr.heap.size wr x5) := below_next HX4.out hb5; clear hb5))
              all_goals
                go_wp2
                go_roundw
                case rel => exact ⟨j + 1, by omega, by go_num, below_next HR.out HX5.out⟩
                case measure => simp [intOf]; omega
            · obtain rfl : j = 4 := by omega
              go_wp2
              go_ret
              exact ⟨rfl, below_next HBx.out hBr⟩
        · skip
          go_simp
          refine (backwards_P v15 _ A hA (by rw [HN.out]; omega)).mono ?_
          rintro e v23 ⟨ar, nr, cr, rfl, hOr, hbn⟩
          replace hA := hA.below hbn
          replace hB := hB.below hbn
          replace fO := fO.below hbn
          replace HB := below_next HB hbn
          clear hbn
          have fR := hOr.at
          clear hOr
          refine hK.out _ _ trivial (fun hHeld2 => ?_)
          clear hK hHeld
          have hHeld := hHeld2
          clear hHeld2
          refine wpAnyH_ready (rs := [0]) (by kernel_rfl) (by simp) ?_
          refine AllReadyH.cons rfl (fun K hK => ?_) AllReadyH.nil
          go_simp
          have hbn : Below v23.heap.size v23 (v23.alloc (.cells #[] 3)) := (Below.refl _ _).alloc (Nat.le_refl _) _
          replace hA := hA.below hbn
          replace hB := hB.below hbn
          replace fO := fO.below hbn
          replace fR := fR.below hbn
          replace HB := below_next HB hbn
          clear hbn
          have fE : IntsAt (v23.alloc (.cells #[] 3)) (.slice (some ⟨v23.heap.size, 0, none⟩) 0 0) [] := ⟨_, _, rfl, Nat.le_refl _, by decide, .inl rfl⟩
          generalize (v23.alloc (.cells #[] 3)) = v25 at hA hB fO fR fE HB ⊢
          generalize v23.heap.size = G26 at fE ⊢
          refine hK.out _ _ trivial (fun hHeld2 => ?_)
          clear hK hHeld
          have hHeld := hHeld2
          clear hHeld2
          refine wpAnyH_ready (rs := [9]) (by kernel_rfl) (by simp) ?_
          refine AllReadyH.cons rfl (fun K hK => ?_) AllReadyH.nil
          go_simp
          have hbn : Below v25.heap.size v25 (v25.alloc (.cells #[.slice (some ⟨G26, 0, none⟩) 0 0, .slice (some ⟨G16, 0, none⟩) 3 3, .slice ar nr cr, .slice b1 k cb] 28)) := (Below.refl _ _).alloc (Nat.le_refl _) _
          have hL : ListsAt (v25.alloc (.cells #[.slice (some ⟨G26, 0, none⟩) 0 0, .slice (some ⟨G16, 0, none⟩) 3 3, .slice ar nr cr, .slice b1 k cb] 28)) (.slice (some ⟨v25.heap.size, 0, none⟩) 4 4) [[], [1, 3, 9], A.reverse, B.take k] := lists4 fE fO fR (hB.takeC k hkm)
          replace hA := hA.below hbn
          replace hB := hB.below hbn
          replace HB := below_next HB hbn
          clear hbn
          generalize (v25.alloc (.cells #[.slice (some ⟨G26, 0, none⟩) 0 0, .slice (some ⟨G16, 0, none⟩) 3 3, .slice ar nr cr, .slice b1 k cb] 28)) = v27 at hA hB hL HB ⊢
          generalize v25.heap.size = G28 at hL ⊢
          refine hK.out _ _ trivial (fun hHeld2 => ?_)
          clear hK hHeld
          have hHeld := hHeld2
          clear hHeld2
          clear fE fO fR
          refine reg_take (i := 10) (d := 6) (.slice (some ⟨G28, 0, none⟩) 4 4) rfl rfl (by kernel_rfl) (by kernel_rfl) (by kernel_rfl) (fun _ _ _ h => h) (by rfl) (by intro wq hq; go_simp) (by assumption) ?_
          simp only [Act.put, List.setIfInBounds_toArray, List.set_cons_zero, List.set_cons_succ]
          refine wpAnyH_done (by kernel_rfl) ?_ _
          clear hHeld
          go_wp2
          have HBx := Lib.hid HB
          have HL := Lib.hid hL
          have HAx := Lib.hid hA
          have HBy := Lib.hid hB
          clear HB hL hA hB
          go_loopw [7] (fun i wr => ∃ j : Nat, j ≤ 4 ∧ i = .int .i64 j ∧ Below v27.heap.size v27 wr) (fun i _ => 4 - (intOf i).toNat)
          case atStart => exact ⟨0, by omega, rfl, Below.refl _ _⟩
          case round =>
            obtain ⟨j, hj, rfl, hBr⟩ := hrel
            by_cases hlt : j < 4
            · obtain ⟨u, e1, e2, e3, hok, D1, D2, hD1, hD2, htri⟩ := row4 (HL.out.below hBr) HOK.out HD.out hlt (k := k)
              obtain ⟨su, nu, cu, rfl⟩ := e2
              have hA := HAx.out.below hBr
              have hB := HBy.out.below hBr
              have HP1 : Hid (Calls Try.prog 24 #[.slice a1 n ca, .slice su nu cu] wr.drew fun e w' => KInt (D1 : Int) wr.drew e w') := i_ProofCost wr.drew _ _ _ _ _ (hA.below (Below.refl _ _).drew) (e3.below (Below.refl _ _).drew) hD1
              have HP2 : Hid (∀ wy, Below wr.heap.size wr wy → Calls Try.prog 24 #[.slice su nu cu, .slice b1 m cb] wy fun e w' => KInt (D2 : Int) wy e w') := fun wy hb => i_ProofCost wy _ _ _ _ _ (e3.below hb) (hB.below hb) hD2
              have HC4 : Hid (∀ wy, Below wr.heap.size wr wy → wy.cell? ⟨G28, j, none⟩ = some (.slice su nu cu)) := fun wy hb => (hb.cell (World.block_lt_of_cell? wr _ e1)).trans e1
              have HR := Lib.hid hBr
              have u1 : IntKind.i64.wrap ((D1 : Int) + (D2 : Int)) = (D1 : Int) + (D2 : Int) := IntWalk.i64_in _ (by omega)
              have dd : decide ((D1 : Int) + (D2 : Int) < (D : Int)) = false := decide_eq_false (by omega)
              have dq : decide (D1 + D2 < D) = false := decide_eq_false (by omega)
              have q1 : (0 : Int) ≤ (j : Int) := by omega
              have q2 : (j : Int) < 4 := by omega
              clear hA hB e1 e3 hD1 hD2 hBr
              go_wp2_with fail
              go_region_held3 (fun wy => wy.cell? ⟨G28, j, none⟩ = some (.slice su nu cu)) (first | assumption | exact HC4.out _ (Below.refl _ _).drew | exact HC4.out _ HX4.out | exact HC4.out _ HX5.out) (first | (go_at_call 24; (with_reducible refine HP1.out.mono ?_); rintro e x4 ⟨rfl, hb4⟩; have HX4 : Hid (Below wr.heap.size wr x4) := (Below.refl _ _).drew.trans hb4; clear hb4) | (go_at_call 24; (with_reducible refine (HP2.out _ HX4.out).mono ?_); rintro e x5 ⟨rfl, hb5⟩; have HX5 : Hid (Below wr.heap.size wr x5) := below_next HX4.out hb5; clear hb5))
              all_goals
                go_wp2
                go_roundw
                case rel => exact ⟨j + 1, by omega, by go_num, below_next HR.out HX5.out⟩
                case measure => simp [intOf]; omega
            · obtain rfl : j = 4 := by omega
              go_wp2
              go_ret
              exact ⟨rfl, below_next HBx.out hBr⟩
      · skip
        go_simp
        refine (backwards_P v0 _ A hA (by rw [HN.out]; omega)).mono ?_
        rintro e v29 ⟨ar, nr, cr, rfl, hOr, hbn⟩
        replace hA := hA.below hbn
        replace hB := hB.below hbn
        replace HB := below_next HB hbn
        clear hbn
        have fR := hOr.at
        clear hOr
        refine hK.out _ _ trivial (fun hHeld2 => ?_)
        clear hK hHeld
        have hHeld := hHeld2
        clear hHeld2
        refine wpAnyH_ready (rs := [0, 1]) (by kernel_rfl) (by simp) ?_
        refine AllReadyH.cons rfl (fun K hK => ?_) (AllReadyH.cons rfl (fun K hK => ?_) AllReadyH.nil)
        · skip
          go_simp
          have hbn : Below v29.heap.size v29 (v29.alloc (.cells #[] 3)) := (Below.refl _ _).alloc (Nat.le_refl _) _
          replace hA := hA.below hbn
          replace hB := hB.below hbn
          replace fR := fR.below hbn
          replace HB := below_next HB hbn
          clear hbn
          have fE : IntsAt (v29.alloc (.cells #[] 3)) (.slice (some ⟨v29.heap.size, 0, none⟩) 0 0) [] := ⟨_, _, rfl, Nat.le_refl _, by decide, .inl rfl⟩
          generalize (v29.alloc (.cells #[] 3)) = v31 at hA hB fR fE HB ⊢
          generalize v29.heap.size = G32 at fE ⊢
          refine hK.out _ _ trivial (fun hHeld2 => ?_)
          clear hK hHeld
          have hHeld := hHeld2
          clear hHeld2
          refine wpAnyH_ready (rs := [1]) (by kernel_rfl) (by simp) ?_
          refine AllReadyH.cons rfl (fun K hK => ?_) AllReadyH.nil
          go_simp
          have hbn : Below v31.heap.size v31 (v31.alloc (.cells #[.int .i64 1, .int .i64 3, .int .i64 9] 3)) := (Below.refl _ _).alloc (Nat.le_refl _) _
          replace hA := hA.below hbn
          replace hB := hB.below hbn
          replace fR := fR.below hbn
          replace fE := fE.below hbn
          replace HB := below_next HB hbn
          clear hbn
          have fO : IntsAt (v31.alloc (.cells #[.int .i64 1, .int .i64 3, .int .i64 9] 3)) (.slice (some ⟨v31.heap.size, 0, none⟩) 3 3) [1, 3, 9] := lit139 v31
          generalize (v31.alloc (.cells #[.int .i64 1, .int .i64 3, .int .i64 9] 3)) = v33 at hA hB fR fE fO HB ⊢
          generalize v31.heap.size = G34 at fO ⊢
          refine hK.out _ _ trivial (fun hHeld2 => ?_)
          clear hK hHeld
          have hHeld := hHeld2
          clear hHeld2
          refine wpAnyH_ready (rs := [9]) (by kernel_rfl) (by simp) ?_
          refine AllReadyH.cons rfl (fun K hK => ?_) AllReadyH.nil
          go_simp
          have hbn : Below v33.heap.size v33 (v33.alloc (.cells #[.slice (some ⟨G32, 0, none⟩) 0 0, .slice (some ⟨G34, 0, none⟩) 3 3, .slice ar nr cr, .slice b1 k cb] 28)) := (Below.refl _ _).alloc (Nat.le_refl _) _
          have hL : ListsAt (v33.alloc (.cells #[.slice (some ⟨G32, 0, none⟩) 0 0, .slice (some ⟨G34, 0, none⟩) 3 3, .slice ar nr cr, .slice b1 k cb] 28)) (.slice (some ⟨v33.heap.size, 0, none⟩) 4 4) [[], [1, 3, 9], A.reverse, B.take k] := lists4 fE fO fR (hB.takeC k hkm)
          replace hA := hA.below hbn
          replace hB := hB.below hbn
          replace HB := below_next HB hbn
          clear hbn
          generalize (v33.alloc (.cells #[.slice (some ⟨G32, 0, none⟩) 0 0, .slice (some ⟨G34, 0, none⟩) 3 3, .slice ar nr cr, .slice b1 k cb] 28)) = v35 at hA hB hL HB ⊢
          generalize v33.heap.size = G36 at hL ⊢
          refine hK.out _ _ trivial (fun hHeld2 => ?_)
          clear hK hHeld
          have hHeld := hHeld2
          clear hHeld2
          clear fE fO fR
          refine reg_take (i := 10) (d := 6) (.slice (some ⟨G36, 0, none⟩) 4 4) rfl rfl (by kernel_rfl) (by kernel_rfl) (by kernel_rfl) (fun _ _ _ h => h) (by rfl) (by intro wq hq; go_simp) (by assumption) ?_
          simp only [Act.put, List.setIfInBounds_toArray, List.set_cons_zero, List.set_cons_succ]
          refine wpAnyH_done (by kernel_rfl) ?_ _
          clear hHeld
          go_wp2
          have HBx := Lib.hid HB
          have HL := Lib.hid hL
          have HAx := Lib.hid hA
          have HBy := Lib.hid hB
          clear HB hL hA hB
          go_loopw [7] (fun i wr => ∃ j : Nat, j ≤ 4 ∧ i = .int .i64 j ∧ Below v35.heap.size v35 wr) (fun i _ => 4 - (intOf i).toNat)
          case atStart => exact ⟨0, by omega, rfl, Below.refl _ _⟩
          case round =>
            obtain ⟨j, hj, rfl, hBr⟩ := hrel
            by_cases hlt : j < 4
            · obtain ⟨u, e1, e2, e3, hok, D1, D2, hD1, hD2, htri⟩ := row4 (HL.out.below hBr) HOK.out HD.out hlt (k := k)
              obtain ⟨su, nu, cu, rfl⟩ := e2
              have hA := HAx.out.below hBr
              have hB := HBy.out.below hBr
              have HP1 : Hid (Calls Try.prog 24 #[.slice a1 n ca, .slice su nu cu] wr.drew fun e w' => KInt (D1 : Int) wr.drew e w') := i_ProofCost wr.drew _ _ _ _ _ (hA.below (Below.refl _ _).drew) (e3.below (Below.refl _ _).drew) hD1
              have HP2 : Hid (∀ wy, Below wr.heap.size wr wy → Calls Try.prog 24 #[.slice su nu cu, .slice b1 m cb] wy fun e w' => KInt (D2 : Int) wy e w') := fun wy hb => i_ProofCost wy _ _ _ _ _ (e3.below hb) (hB.below hb) hD2
              have HC4 : Hid (∀ wy, Below wr.heap.size wr wy → wy.cell? ⟨G36, j, none⟩ = some (.slice su nu cu)) := fun wy hb => (hb.cell (World.block_lt_of_cell? wr _ e1)).trans e1
              have HR := Lib.hid hBr
              have u1 : IntKind.i64.wrap ((D1 : Int) + (D2 : Int)) = (D1 : Int) + (D2 : Int) := IntWalk.i64_in _ (by omega)
              have dd : decide ((D1 : Int) + (D2 : Int) < (D : Int)) = false := decide_eq_false (by omega)
              have dq : decide (D1 + D2 < D) = false := decide_eq_false (by omega)
              have q1 : (0 : Int) ≤ (j : Int) := by omega
              have q2 : (j : Int) < 4 := by omega
              clear hA hB e1 e3 hD1 hD2 hBr
              go_wp2_with fail
              go_region_held3 (fun wy => wy.cell? ⟨G36, j, none⟩ = some (.slice su nu cu)) (first | assumption | exact HC4.out _ (Below.refl _ _).drew | exact HC4.out _ HX4.out | exact HC4.out _ HX5.out) (first | (go_at_call 24; (with_reducible refine HP1.out.mono ?_); rintro e x4 ⟨rfl, hb4⟩; have HX4 : Hid (Below wr.heap.size wr x4) := (Below.refl _ _).drew.trans hb4; clear hb4) | (go_at_call 24; (with_reducible refine (HP2.out _ HX4.out).mono ?_); rintro e x5 ⟨rfl, hb5⟩; have HX5 : Hid (Below wr.heap.size wr x5) := below_next HX4.out hb5; clear hb5))
              all_goals
                go_wp2
                go_roundw
                case rel => exact ⟨j + 1, by omega, by go_num, below_next HR.out HX5.out⟩
                case measure => simp [intOf]; omega
            · obtain rfl : j = 4 := by omega
              go_wp2
              go_ret
              exact ⟨rfl, below_next HBx.out hBr⟩
        · skip
          go_simp
          have hbn : Below v29.heap.size v29 (v29.alloc (.cells #[.int .i64 1, .int .i64 3, .int .i64 9] 3)) := (Below.refl _ _).alloc (Nat.le_refl _) _
          replace hA := hA.below hbn
          replace hB := hB.below hbn
          replace fR := fR.below hbn
          replace HB := below_next HB hbn
          clear hbn
          have fO : IntsAt (v29.alloc (.cells #[.int .i64 1, .int .i64 3, .int .i64 9] 3)) (.slice (some ⟨v29.heap.size, 0, none⟩) 3 3) [1, 3, 9] := lit139 v29
          generalize (v29.alloc (.cells #[.int .i64 1, .int .i64 3, .int .i64 9] 3)) = v37 at hA hB fR fO HB ⊢
          generalize v29.heap.size = G38 at fO ⊢
          refine hK.out _ _ trivial (fun hHeld2 => ?_)
          clear hK hHeld
          have hHeld := hHeld2
          clear hHeld2
          refine wpAnyH_ready (rs := [0]) (by kernel_rfl) (by simp) ?_
          refine AllReadyH.cons rfl (fun K hK => ?_) AllReadyH.nil
          go_simp
          have hbn : Below v37.heap.size v37 (v37.alloc (.cells #[] 3)) := (Below.refl _ _).alloc (Nat.le_refl _) _
          replace hA := hA.below hbn
          replace hB := hB.below hbn
          replace fR := fR.below hbn
          replace fO := fO.below hbn
          replace HB := below_next HB hbn
          clear hbn
          have fE : IntsAt (v37.alloc (.cells #[] 3)) (.slice (some ⟨v37.heap.size, 0, none⟩) 0 0) [] := ⟨_, _, rfl, Nat.le_refl _, by decide, .inl rfl⟩
          generalize (v37.alloc (.cells #[] 3)) = v39 at hA hB fR fO fE HB ⊢
          generalize v37.heap.size = G40 at fE ⊢
          refine hK.out _ _ trivial (fun hHeld2 => ?_)
          clear hK hHeld
          have hHeld := hHeld2
          clear hHeld2
          refine wpAnyH_ready (rs := [9]) (by kernel_rfl) (by simp) ?_
          refine AllReadyH.cons rfl (fun K hK => ?_) AllReadyH.nil
          go_simp
          have hbn : Below v39.heap.size v39 (v39.alloc (.cells #[.slice (some ⟨G40, 0, none⟩) 0 0, .slice (some ⟨G38, 0, none⟩) 3 3, .slice ar nr cr, .slice b1 k cb] 28)) := (Below.refl _ _).alloc (Nat.le_refl _) _
          have hL : ListsAt (v39.alloc (.cells #[.slice (some ⟨G40, 0, none⟩) 0 0, .slice (some ⟨G38, 0, none⟩) 3 3, .slice ar nr cr, .slice b1 k cb] 28)) (.slice (some ⟨v39.heap.size, 0, none⟩) 4 4) [[], [1, 3, 9], A.reverse, B.take k] := lists4 fE fO fR (hB.takeC k hkm)
          replace hA := hA.below hbn
          replace hB := hB.below hbn
          replace HB := below_next HB hbn
          clear hbn
          generalize (v39.alloc (.cells #[.slice (some ⟨G40, 0, none⟩) 0 0, .slice (some ⟨G38, 0, none⟩) 3 3, .slice ar nr cr, .slice b1 k cb] 28)) = v41 at hA hB hL HB ⊢
          generalize v39.heap.size = G42 at hL ⊢
          refine hK.out _ _ trivial (fun hHeld2 => ?_)
          clear hK hHeld
          have hHeld := hHeld2
          clear hHeld2
          clear fE fO fR
          refine reg_take (i := 10) (d := 6) (.slice (some ⟨G42, 0, none⟩) 4 4) rfl rfl (by kernel_rfl) (by kernel_rfl) (by kernel_rfl) (fun _ _ _ h => h) (by rfl) (by intro wq hq; go_simp) (by assumption) ?_
          simp only [Act.put, List.setIfInBounds_toArray, List.set_cons_zero, List.set_cons_succ]
          refine wpAnyH_done (by kernel_rfl) ?_ _
          clear hHeld
          go_wp2
          have HBx := Lib.hid HB
          have HL := Lib.hid hL
          have HAx := Lib.hid hA
          have HBy := Lib.hid hB
          clear HB hL hA hB
          go_loopw [7] (fun i wr => ∃ j : Nat, j ≤ 4 ∧ i = .int .i64 j ∧ Below v41.heap.size v41 wr) (fun i _ => 4 - (intOf i).toNat)
          case atStart => exact ⟨0, by omega, rfl, Below.refl _ _⟩
          case round =>
            obtain ⟨j, hj, rfl, hBr⟩ := hrel
            by_cases hlt : j < 4
            · obtain ⟨u, e1, e2, e3, hok, D1, D2, hD1, hD2, htri⟩ := row4 (HL.out.below hBr) HOK.out HD.out hlt (k := k)
              obtain ⟨su, nu, cu, rfl⟩ := e2
              have hA := HAx.out.below hBr
              have hB := HBy.out.below hBr
              have HP1 : Hid (Calls Try.prog 24 #[.slice a1 n ca, .slice su nu cu] wr.drew fun e w' => KInt (D1 : Int) wr.drew e w') := i_ProofCost wr.drew _ _ _ _ _ (hA.below (Below.refl _ _).drew) (e3.below (Below.refl _ _).drew) hD1
              have HP2 : Hid (∀ wy, Below wr.heap.size wr wy → Calls Try.prog 24 #[.slice su nu cu, .slice b1 m cb] wy fun e w' => KInt (D2 : Int) wy e w') := fun wy hb => i_ProofCost wy _ _ _ _ _ (e3.below hb) (hB.below hb) hD2
              have HC4 : Hid (∀ wy, Below wr.heap.size wr wy → wy.cell? ⟨G42, j, none⟩ = some (.slice su nu cu)) := fun wy hb => (hb.cell (World.block_lt_of_cell? wr _ e1)).trans e1
              have HR := Lib.hid hBr
              have u1 : IntKind.i64.wrap ((D1 : Int) + (D2 : Int)) = (D1 : Int) + (D2 : Int) := IntWalk.i64_in _ (by omega)
              have dd : decide ((D1 : Int) + (D2 : Int) < (D : Int)) = false := decide_eq_false (by omega)
              have dq : decide (D1 + D2 < D) = false := decide_eq_false (by omega)
              have q1 : (0 : Int) ≤ (j : Int) := by omega
              have q2 : (j : Int) < 4 := by omega
              clear hA hB e1 e3 hD1 hD2 hBr
              go_wp2_with fail
              go_region_held3 (fun wy => wy.cell? ⟨G42, j, none⟩ = some (.slice su nu cu)) (first | assumption | exact HC4.out _ (Below.refl _ _).drew | exact HC4.out _ HX4.out | exact HC4.out _ HX5.out) (first | (go_at_call 24; (with_reducible refine HP1.out.mono ?_); rintro e x4 ⟨rfl, hb4⟩; have HX4 : Hid (Below wr.heap.size wr x4) := (Below.refl _ _).drew.trans hb4; clear hb4) | (go_at_call 24; (with_reducible refine (HP2.out _ HX4.out).mono ?_); rintro e x5 ⟨rfl, hb5⟩; have HX5 : Hid (Below wr.heap.size wr x5) := below_next HX4.out hb5; clear hb5))
              all_goals
                go_wp2
                go_roundw
                case rel => exact ⟨j + 1, by omega, by go_num, below_next HR.out HX5.out⟩
                case measure => simp [intOf]; omega
            · obtain rfl : j = 4 := by omega
              go_wp2
              go_ret
              exact ⟨rfl, below_next HBx.out hBr⟩
    · have hc1 : c = -1 := by rw [← hc, costA, if_neg hok]
      subst hc1
      clear hc hok
      go_wp2_with fail
      refine (s_ProofCost _ _ _ A B _ hA hB HC).mono ?_
      rintro e w4 ⟨rfl, hbn⟩
      go_wp2
      go_ret
      exact ⟨rfl, below_next HB hbn⟩
  · have d : decide (len ≤ 1048576) = false := decide_eq_false hbig
    have hl : (1048576 : Int) < len := by omega
    clear h
    go_enter Try.func7, Try.ntmps7
    go_wp2
    go_ret
    exact ⟨rfl, Below.refl _ _⟩
end Go.Proofs.Ytekchmbbafjmmaa
