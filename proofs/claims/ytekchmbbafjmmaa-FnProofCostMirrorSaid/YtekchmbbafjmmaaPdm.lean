
/- P164: costs are the same from behind. -/
import Derived.Test.YtekchmbbafjmmaaPdk
namespace Go.Proofs.Ytekchmbbafjmmaa
open Go.RowKit

theorem costA_okM {A B : List Int} (h : OkP A ∧ OkP B) {D : Nat} (hD : dist A B = D) : costA A B = (D : Int) := by rw [costA, if_pos h, hD]
theorem ret_i64M {a b : Int} (h : a = b) : Ending.returned (.int .i64 a) = .returned (.int .i64 b) := by rw [h]
theorem i_MirrorM (c m : Nat) (w : World) (hc : c < 64) (hm : Hid (c % 8 * 8 + c / 8 = m)) :
    Calls Try.prog 21 #[.int .i64 c] w fun e w' => e = .returned (.int .i64 m) ∧ w = w' := by
  go_enter Try.func21, Try.ntmps21
  go_wp2_with (go_at_call 49; refine (i_isCell_yes _ _ (by omega) (by omega)).mono ?_; rintro e w' ⟨rfl, rfl⟩)
  go_ret
  exact ⟨ret_i64M (by have := hm.out; omega), rfl⟩
/-- a cell from behind -/
def mirI (z : Int) : Int := ((z.toNat % 8 * 8 + z.toNat / 8 : Nat) : Int)
theorem mir_table : ∀ x : Nat, x < 64 → ∀ y : Nat, y < 64 → sw ((x % 8 * 8 + x / 8 : Nat) : Int) ((y % 8 * 8 + y / 8 : Nat) : Int) = sw (x : Int) (y : Int) := by decide +kernel
theorem mir_sw (x y : Int) (hx : Cl x) (hy : Cl y) : sw (mirI x) (mirI y) = sw x y := by
  obtain ⟨m, rfl⟩ : ∃ m : Nat, x = m := ⟨x.toNat, by have := hx.1; omega⟩
  obtain ⟨n, rfl⟩ : ∃ n : Nat, y = n := ⟨y.toNat, by have := hy.1; omega⟩
  unfold mirI
  rw [Int.toNat_natCast, Int.toNat_natCast]
  exact mir_table m (by have := hx.2; omega) n (by have := hy.2; omega)
theorem mir_cl (x : Int) (hx : Cl x) : Cl (mirI x) := by
  obtain ⟨h1, h2⟩ := hx
  unfold mirI Cl; omega
theorem mir_back (x : Int) (hx : Cl x) : mirI (mirI x) = x := by
  obtain ⟨h1, h2⟩ := hx
  unfold mirI; omega
theorem OkP.mir {zs : List Int} (h : OkP zs) : OkP (zs.map mirI).reverse := by
  obtain ⟨h1, h2, h3⟩ := h
  refine ⟨by rw [List.length_reverse, List.length_map]; exact h1, by rw [List.length_reverse, List.length_map]; exact h2, fun z hz => ?_⟩
  rw [List.mem_reverse] at hz
  obtain ⟨y, hy, rfl⟩ := List.mem_map.1 hz
  exact mir_cl y (h3 y hy)
set_option maxHeartbeats 4000000 in
theorem proofCostMirror_walk (a : Option Addr) (len cap : Nat) (zs : List Int) (w : World) (h : RowIn .u8 w a len cap zs) :
    Calls Try.prog 8 #[.slice a len cap] w fun e w' => e = .returned (.bool true) ∧ Below w.heap.size w w' := by
  have hlen : len ≤ 9223372036854775807 := by
    obtain ⟨_, h2, h3⟩ := bytesAt_of_row h; unfold maxLen at h3; omega
  by_cases hbig : len ≤ 1048576
  · go_enter Try.func8, Try.ntmps8
    go_wp2_with fail
    refine (drawProofCost_any w a len cap zs h).mono ?_
    rintro e w1 ⟨a1, n, ca, b1, m, cb, A, B, rfl, hA, hB, hAl, hBl, hFA, hFB, HB⟩
    clear h
    have hn : A.length = n := by obtain ⟨_, _, e, _⟩ := hA; injection e with _ e2 _; exact e2.symm
    have hm : B.length = m := by obtain ⟨_, _, e, _⟩ := hB; injection e with _ e2 _; exact e2.symm
    obtain ⟨c, hc⟩ : ∃ c, costA A B = c := ⟨_, rfl⟩
    have HC := Lib.hid hc
    have HN := Lib.hid hn
    have HM := Lib.hid hm
    rw [hn] at hAl
    rw [hm] at hBl
    clear hn hm
    go_wp2_with fail
    refine (i_ProofCost _ _ _ A B c hA hB HC).mono ?_
    rintro e w2 ⟨rfl, hbn⟩
    replace hA := hA.below hbn
    replace hB := hB.below hbn
    replace HB := below_next HB hbn
    clear hbn
    go_wp2_with fail
    refine (s_ProofCost _ _ _ A B c hA hB HC).mono ?_
    rintro e w3 ⟨rfl, hbn⟩
    replace hA := hA.below hbn
    replace hB := hB.below hbn
    replace HB := below_next HB hbn
    clear hbn
    by_cases hok : OkP A ∧ OkP B
    · obtain ⟨D, hD⟩ : ∃ D, dist A B = D := ⟨_, rfl⟩
      have hcD : c = (D : Int) := by rw [← hc, costA, if_pos hok, hD]
      have hDb := dist_bd A B
      rw [hD, HN.out, HM.out] at hDb
      subst hcD
      have HOK := Lib.hid hok
      have HD := Lib.hid hD
      clear hc hok hD
      obtain ⟨i0, hi, hz0, hz1, hz2⟩ := info_parts infoInt
      have HLEN1 := HN
      have HLEN2 := HM
      have HCL1 := keptI HOK.out.1.cl
      have HCL2 := keptI HOK.out.2.cl
      have hO01 : OwnInts (w3.alloc (.cells #[] 3)) w3.heap.size (.slice (some ⟨w3.heap.size, 0, none⟩) 0 0) [] := OwnInts.made w3 w3.heap.size (Nat.le_refl _)
      have hB01 : Below w3.heap.size w3 (w3.alloc (.cells #[] 3)) := (Below.refl _ _).alloc (Nat.le_refl _) _
      have v11 : IntKind.i64.wrap ((n : Int) - 1) = (n : Int) - 1 := IntWalk.i64_in _ (by omega)
      go_wp2_with fail
      generalize (w3.alloc (.cells #[] 3)) = wA1 at hO01 hB01 ⊢
      go_loopw [6, 7] (fun v y wr => ∃ (k : Nat) (x : Int), k ≤ n ∧ y = .int .i64 x ∧ Hid (x = (k : Int) - 1) ∧ OwnInts wr w3.heap.size v ((A.map mirI).drop k).reverse ∧ Below w3.heap.size w3 wr) (fun _ y _ => (intOf y + 1).toNat)
      case atStart => exact ⟨n, _, Nat.le_refl _, rfl, rfl, by rw [List.drop_eq_nil_of_le (by rw [List.length_map, HLEN1.out]; exact Nat.le_refl _)]; exact hO01, hB01⟩
      case round =>
        clear hO01 hB01 v11
        obtain ⟨k, x, hk, rfl, hxk, hO, hBr⟩ := hrel
        obtain ⟨ao, no, co, hoo⟩ : ∃ a n c, _ = Value.slice a n c := by
          obtain ⟨a, c, h, _⟩ := hO.at
          exact ⟨a, _, c, h⟩
        subst hoo
        have hs := hBr.size
        have hAr := (hA).below hBr
        have hBr_B := (hB).below hBr
        by_cases hk0 : k = 0
        · subst hk0
          have dx : decide (0 ≤ x) = false := decide_eq_false (by have := hxk.out; omega)
          rw [List.drop_zero] at hO
          rename World => wL1
          have hX := hO
          have hB1 := hBr
          have hBb := hBr_B
          clear hO hxk
          have hO02 : OwnInts (wL1.alloc (.cells #[] 3)) wL1.heap.size (.slice (some ⟨wL1.heap.size, 0, none⟩) 0 0) [] := OwnInts.made wL1 wL1.heap.size (Nat.le_refl _)
          have hB02 : Below wL1.heap.size wL1 (wL1.alloc (.cells #[] 3)) := (Below.refl _ _).alloc (Nat.le_refl _) _
          have v12 : IntKind.i64.wrap ((m : Int) - 1) = (m : Int) - 1 := IntWalk.i64_in _ (by omega)
          go_wp2_with fail
          generalize (wL1.alloc (.cells #[] 3)) = wA2 at hO02 hB02 ⊢
          go_loopw [8, 9] (fun v y wr => ∃ (k : Nat) (x : Int), k ≤ m ∧ y = .int .i64 x ∧ Hid (x = (k : Int) - 1) ∧ OwnInts wr wL1.heap.size v ((B.map mirI).drop k).reverse ∧ Below wL1.heap.size wL1 wr) (fun _ y _ => (intOf y + 1).toNat)
          case atStart => exact ⟨m, _, Nat.le_refl _, rfl, rfl, by rw [List.drop_eq_nil_of_le (by rw [List.length_map, HLEN2.out]; exact Nat.le_refl _)]; exact hO02, hB02⟩
          case round =>
            clear hO02 hB02 v12
            obtain ⟨k, x, hk, rfl, hxk, hO, hBr⟩ := hrel
            obtain ⟨ao, no, co, hoo⟩ : ∃ a n c, _ = Value.slice a n c := by
              obtain ⟨a, c, h, _⟩ := hO.at
              exact ⟨a, _, c, h⟩
            subst hoo
            have hs := hBr.size
            have hBbr := (hBb).below hBr
            by_cases hk0 : k = 0
            · subst hk0
              have dx : decide (0 ≤ x) = false := decide_eq_false (by have := hxk.out; omega)
              rw [List.drop_zero] at hO
              rename World => wL2
              have HBy := below_next HB (hB1.trans (hBr.mono hB1.size))
              have hOx := hX.at.below hBr
              have hOy := hO.at
              have HC2 : Hid (costA (A.map mirI).reverse (B.map mirI).reverse = (D : Int)) := costA_okM ⟨HOK.out.1.mir, HOK.out.2.mir⟩ (by rw [dist_map mir_sw mir_cl mir_back HOK.out.1.cl HOK.out.2.cl]; exact HD.out)
              clear hO hX hAr hBb hBbr hBr hB1
              go_wp2_with fail
              refine (i_ProofCost _ _ _ _ _ _ hOx hOy HC2).mono ?_
              rintro e w9 ⟨rfl, hbn⟩
              go_wp2
              go_ret
              exact ⟨rfl, below_next HBy hbn⟩
            · obtain ⟨j, rfl⟩ : ∃ j, k = j + 1 := ⟨k - 1, by omega⟩
              obtain rfl : x = (j : Int) := by have := hxk.out; omega
              obtain ⟨g, off, haddr⟩ := hBbr.addrC (show 0 < m by omega)
              have hc := ints_cell hBbr haddr (k := j) (by rw [HLEN2.out]; omega)
              subst haddr
              have hcl : Cl (B.getD j 0) := HCL2.out _ (by rw [List.getD_eq_getElem?_getD, List.getElem?_eq_getElem (by rw [HLEN2.out]; omega)]; exact List.getElem_mem _)
              obtain ⟨p, hp⟩ : ∃ p : Nat, B.getD j 0 = p := ⟨(B.getD j 0).toNat, by have := hcl.1; omega⟩
              have hp64 : p < 64 := by have := hcl.2; omega
              obtain ⟨z, hz⟩ : ∃ z, p % 8 * 8 + p / 8 = z := ⟨_, rfl⟩
              have HZ := Lib.hid hz
              rw [hp] at hc
              have HST : Hid (((B.map mirI).drop j).reverse = ((B.map mirI).drop (j + 1)).reverse ++ [(z : Int)]) := by
                show _ = _
                have hj : j < B.length := by rw [HLEN2.out]; omega
                rw [List.drop_eq_getElem_cons (by rw [List.length_map]; exact hj : j < (B.map mirI).length), List.reverse_cons, List.getElem_map]
                have e : B[j] = (p : Int) := by rw [← hp, List.getD_eq_getElem?_getD, List.getElem?_eq_getElem hj]; rfl
                rw [e, mirI, Int.toNat_natCast, hz]
              have hol : (((B.map mirI).drop (j + 1)).reverse).length ≤ 1000 := by rw [List.length_reverse, List.length_drop, List.length_map, HLEN2.out]; omega
              obtain ⟨Z, hZ⟩ : ∃ Z, ((B.map mirI).drop (j + 1)).reverse = Z := ⟨_, rfl⟩
              rw [hZ] at hO hol HST
              have u2 : IntKind.i64.wrap ((j : Int) - 1) = (j : Int) - 1 := IntWalk.i64_in _ (by omega)
              have b1 : (0 : Int) ≤ (j : Int) := by omega
              have b2 : (j : Int) < (m : Int) := by omega
              have HO := keptI hO
              have HBr := keptI hBr
              clear hz hZ hxk hk0 hBr hp hcl
              go_wp2_with fail
              refine (i_MirrorM p z _ hp64 HZ).mono ?_
              rintro e w' ⟨rfl, rfl⟩
              go_wp2_with (at_builtin; refine wpList_append_own _ rfl _ _ 28 rfl wL1.heap.size 3 i0 (.int .i64 0) 1 8 Try.underlying28 hi hz0 hz1 hz2 rfl (by decide) _ _ _ rfl (hO.alloc _) ⟨wr.heap.size, 0, none⟩ 1 1 [.int .i64 (z : Int)] rfl rfl new_one one_cell (by unfold maxLen; omega) (by omega) (by simp; omega) ?_)
              intro v' w6 hown' hgrow _
              have HO6 := keptI (OwnInts.snoc hown')
              have HB6 := keptI (below_append HBr.out hs HO.out hgrow)
              clear hown' hgrow hO
              go_wp2
              go_roundw
              case rel => exact ⟨j, _, by omega, rfl, rfl, by rw [HST.out]; exact HO6.out, HB6.out⟩
              case measure => first | (simp [intOf]; omega) | simp [intOf]
        · obtain ⟨j, rfl⟩ : ∃ j, k = j + 1 := ⟨k - 1, by omega⟩
          obtain rfl : x = (j : Int) := by have := hxk.out; omega
          obtain ⟨g, off, haddr⟩ := hAr.addrC (show 0 < n by omega)
          have hc := ints_cell hAr haddr (k := j) (by rw [HLEN1.out]; omega)
          subst haddr
          have hcl : Cl (A.getD j 0) := HCL1.out _ (by rw [List.getD_eq_getElem?_getD, List.getElem?_eq_getElem (by rw [HLEN1.out]; omega)]; exact List.getElem_mem _)
          obtain ⟨p, hp⟩ : ∃ p : Nat, A.getD j 0 = p := ⟨(A.getD j 0).toNat, by have := hcl.1; omega⟩
          have hp64 : p < 64 := by have := hcl.2; omega
          obtain ⟨z, hz⟩ : ∃ z, p % 8 * 8 + p / 8 = z := ⟨_, rfl⟩
          have HZ := Lib.hid hz
          rw [hp] at hc
          have HST : Hid (((A.map mirI).drop j).reverse = ((A.map mirI).drop (j + 1)).reverse ++ [(z : Int)]) := by
            show _ = _
            have hj : j < A.length := by rw [HLEN1.out]; omega
            rw [List.drop_eq_getElem_cons (by rw [List.length_map]; exact hj : j < (A.map mirI).length), List.reverse_cons, List.getElem_map]
            have e : A[j] = (p : Int) := by rw [← hp, List.getD_eq_getElem?_getD, List.getElem?_eq_getElem hj]; rfl
            rw [e, mirI, Int.toNat_natCast, hz]
          have hol : (((A.map mirI).drop (j + 1)).reverse).length ≤ 1000 := by rw [List.length_reverse, List.length_drop, List.length_map, HLEN1.out]; omega
          obtain ⟨Z, hZ⟩ : ∃ Z, ((A.map mirI).drop (j + 1)).reverse = Z := ⟨_, rfl⟩
          rw [hZ] at hO hol HST
          have u2 : IntKind.i64.wrap ((j : Int) - 1) = (j : Int) - 1 := IntWalk.i64_in _ (by omega)
          have b1 : (0 : Int) ≤ (j : Int) := by omega
          have b2 : (j : Int) < (n : Int) := by omega
          have HO := keptI hO
          have HBr := keptI hBr
          clear hz hZ hxk hk0 hBr hp hcl
          go_wp2_with fail
          refine (i_MirrorM p z _ hp64 HZ).mono ?_
          rintro e w' ⟨rfl, rfl⟩
          go_wp2_with (at_builtin; refine wpList_append_own _ rfl _ _ 28 rfl w3.heap.size 3 i0 (.int .i64 0) 1 8 Try.underlying28 hi hz0 hz1 hz2 rfl (by decide) _ _ _ rfl (hO.alloc _) ⟨wr.heap.size, 0, none⟩ 1 1 [.int .i64 (z : Int)] rfl rfl new_one one_cell (by unfold maxLen; omega) (by omega) (by simp; omega) ?_)
          intro v' w6 hown' hgrow _
          have HO6 := keptI (OwnInts.snoc hown')
          have HB6 := keptI (below_append HBr.out hs HO.out hgrow)
          clear hown' hgrow hO
          go_wp2
          go_roundw
          case rel => exact ⟨j, _, by omega, rfl, rfl, by rw [HST.out]; exact HO6.out, HB6.out⟩
          case measure => first | (simp [intOf]; omega) | simp [intOf]
    · have hc1 : c = -1 := by rw [← hc, costA, if_neg hok]
      subst hc1
      clear hc hok
      go_wp2_with fail
      refine (s_ProofCost _ _ _ A B _ hA hB HC).mono ?_
      rintro e w4 ⟨rfl, hbn⟩
      go_wp2
      go_ret
      exact ⟨rfl, below_next HB hbn⟩
  · have d : decide (len ≤ 1048576) = false := decide_eq_false hbig
    have hl : (1048576 : Int) < len := by omega
    clear h
    go_enter Try.func8, Try.ntmps8
    go_wp2
    go_ret
    exact ⟨rfl, Below.refl _ _⟩
end Go.Proofs.Ytekchmbbafjmmaa
