
/- Drawn pictures and distances. -/
import Derived.Test.YthpbpdnlnmldeaaJn
import Derived.Test.YthpbpdnlnmldeaaJc
import Derived.Test.YthpbpdnlnmldeaaIc
namespace Go.Proofs.Ythpbpdnlnmldeaa
open Go.RowKit

theorem grown_below {a b : World} (h : Below a.heap.size a b) (row : Option Nat) : a.grownBy b row := ⟨h.os, h.tape, h.output, h.size, fun k hk _ => h.block k hk⟩
theorem PicBd.grid {h w : Nat} (f : Nat → Nat → Int) (h1 : h ≤ 12) (h2 : w ≤ 13) : PicBd (gridOf h w f) := ⟨by rw [gridOf_len]; exact h1, fun zs hz => by
  obtain ⟨y, _, rfl⟩ := List.mem_map.1 hz
  rw [rowOf_len]; exact h2⟩
set_option maxHeartbeats 2000000 in
theorem drawDotsApart_any (w : World) (a : Option Addr) (len cap : Nat) (zs : List Int) (h : RowIn .u8 w a len cap zs) :
    Calls Try.prog 17 #[.slice a len cap] w fun e w' => PicDrawn2 w e w' := by
  obtain ⟨h1, h2, h3⟩ := bytesAt_of_row h
  clear h
  go_enter Try.func17, Try.ntmps17
  go_wp2_with fail
  refine (newReader_any w _ a len cap h1 (Nat.le_refl _) h2 h3).mono ?_
  rintro e w1 ⟨L, rfl, hrd, hgr⟩
  obtain ⟨R, hRq⟩ : ∃ R, w.heap.size = R := ⟨_, rfl⟩
  rw [hRq] at hrd ⊢
  have HRq := Lib.hid hRq
  have HG1 := keptI hgr
  have hlt1 := hrd.lt
  clear hgr hRq h1 h2 h3
  go_wp2_with fail
  refine (anyPicture_any w1 _ _ L 0 hrd (by omega)).mono ?_
  rintro e w2 ⟨a2, n2, c2, P, q, rfl, hP, hbd, hrd2, hq, hgr2⟩
  have HP := keptI hP
  have HBD := keptI hbd
  have HG2 := keptI hgr2
  have hlt := hrd2.lt
  clear hP hbd hgr2 hrd
  go_wp2_with fail
  refine (one_any _ _ _ L q w2.heap.size 7 7 [2, 3, 1, 4, 24, 0, 25] (hrd2.alloc _) (heap_alloc_new w2 _) (by omega) (Lib.hid rfl) (by omega) (by omega) (by omega)).mono ?_
  rintro e w3 ⟨z3, rfl, hz, hrd3, hgr3⟩
  obtain ⟨k, rfl, hk⟩ : ∃ k : Nat, z3 = k ∧ k ≤ 25 := by refine ⟨z3.toNat, ?_, ?_⟩ <;> (simp at hz; omega)
  have HG23 := keptI (grown_trans (World.grownBy_alloc w2 _ _) hgr3)
  have HP3 := keptI (HP.out w3 HG23.out)
  have HRD3 := keptI hrd3
  have hlt3 := hrd3.lt
  clear hz hgr3 hrd2 hrd3
  go_wp2_with fail
  refine (s_validPicture w3 _ P HP3.out).mono ?_
  rintro e w4 ⟨b, rfl, hb4, hbb⟩
  have HG24 := keptI (grown_trans HG23.out (grown_below hb4 (some R)))
  have HP4 := keptI (HP.out w4 HG24.out)
  have HRD4 := keptI (HRD3.out.below hb4 hlt3)
  have hrs : w.heap.size ≤ R := by rw [HRq.out]; omega
  have HE : Hid (∀ wx, w2.grownBy wx (some R) → Below w.heap.size w wx) := fun wx hx => below_of_grown (grown_new HG1.out (grown_trans HG2.out hx) hrs)
  cases b with
  | false =>
    have HB4 := keptI (HE.out w4 HG24.out)
    clear hbb hb4
    go_wp2
    go_ret2
    exact ⟨_, _, _, P, k, hk, rfl, HP4.out, HBD.out, HB4.out⟩
  | true =>
    have HOK : Hid (BlockOk P 24 24 1) := hbb.1 rfl
    clear hbb hb4
    go_wp2_with fail
    refine (pick_any w4 R R L _ _ HRD4.out (by omega) (by omega) (by omega)).mono ?_
    rintro e w5 ⟨c, rfl, hc, hrd5, hgr5⟩
    have HG25 := keptI (grown_trans HG24.out hgr5)
    have HP5 := keptI (HP.out w5 HG25.out)
    have HB5 := keptI (HE.out w5 HG25.out)
    clear hrd5 hgr5
    by_cases hc0 : c = 0
    · subst hc0
      by_cases hK : 1 ≤ k ∧ k ≤ 24
      · obtain ⟨R2, hR2, _⟩ := Thin_ex P (k : Int)
        have hval := hR2.yes ⟨HOK.out, by omega, by omega⟩
        have HR2 := keptI hR2
        have HBD2 : Hid (PicBd R2) := by
          show PicBd R2
          rw [hval]
          refine PicBd.grid _ HBD.out.1 ?_
          exact HBD.out.2 _ (by rw [List.getD_eq_getElem?_getD, List.getElem?_eq_getElem (by have := HOK.out.bd; omega), Option.getD_some]; exact List.getElem_mem _)
        obtain ⟨hK1, hK2⟩ := hK
        clear hR2 hval
        go_wp2_with fail
        refine (inRange_yes (k : Int) 1 24 w5 (by omega) (by omega)).mono ?_
        rintro e w' ⟨rfl, rfl⟩
        go_wp2_with fail
        refine (sl_Thin w5 _ P (k : Int) R2 HP5.out HR2.out).mono ?_
        rintro e w6 ⟨a6, n6, c6, rfl, hO6, hb6⟩
        have HO6 := keptI hO6.ls.at
        have HB6 := keptI (below_next HB5.out hb6)
        clear hO6 hb6
        go_wp2
        go_ret2
        exact ⟨_, _, _, R2, k, hk, rfl, HO6.out, HBD2.out, HB6.out⟩
      · have hK' : (k : Int) < 1 ∨ 24 < (k : Int) := by omega
        clear hK
        go_wp2_with fail
        refine (inRange_no (k : Int) 1 24 w5 hK').mono ?_
        rintro e w' ⟨rfl, rfl⟩
        go_wp2
        go_ret2
        exact ⟨_, _, _, P, k, hk, rfl, HP5.out, HBD.out, HB5.out⟩
    · have e0 : ((c : Int) == 0) = false := by simp; omega
      go_wp2
      go_ret2
      exact ⟨_, _, _, P, k, hk, rfl, HP5.out, HBD.out, HB5.out⟩
set_option maxHeartbeats 4000000 in
theorem dotsApart_walk (a : Option Addr) (len cap : Nat) (zs : List Int) (w : World) (h : RowIn .u8 w a len cap zs) :
    Calls Try.prog 3 #[.slice a len cap] w fun e w' => e = .returned (.bool true) ∧ Below w.heap.size w w' := by
  have hlen : len ≤ 9223372036854775807 := by
    obtain ⟨_, h2, h3⟩ := bytesAt_of_row h; unfold maxLen at h3; omega
  by_cases hbig : len ≤ 1048576
  · go_enter Try.func3, Try.ntmps3
    go_wp2_with fail
    refine (drawDotsApart_any w a len cap zs h).mono ?_
    rintro e w1 ⟨a1, n1, c1, P, k, hk25, rfl, hP1, hbd, hB1⟩
    clear h
    have HP1 := keptI hP1
    have HB1 := keptI hB1
    obtain ⟨b, hb⟩ := boolOfI (ApartOk P k)
    have HI : Hid (Calls Try.prog 18 #[.slice a1 n1 c1, .int .i64 (k : Int)] w1 fun e w' => e = .returned (.bool b) ∧ w1 = w') := (i_DotsApart w1 _ P k HP1.out).mono fun _ _ ⟨b', h1, h2, h3⟩ => ⟨by rw [h1, bool_same h3 hb], h2⟩
    have HS : Hid (∀ wy, Below w1.heap.size w1 wy → Calls Try.prog 19 #[.slice a1 n1 c1, .int .i64 (k : Int)] wy fun e w' => e = .returned (.bool b) ∧ Below wy.heap.size wy w') := fun wy hby => (s_DotsApart wy _ P k (HP1.out.below hby)).mono fun _ _ ⟨b', h1, h2, h3⟩ => ⟨by rw [h1, bool_same h3 hb], h2⟩
    have HBB := keptI hb
    have db : (b != b) = false := by simp
    have db2 : (b == b) = true := by simp
    clear hP1 hbd hB1 hb
    go_wp2_with fail
    refine HI.out.mono ?_
    rintro e w' ⟨rfl, rfl⟩
    go_wp2_with fail
    refine (HS.out w1 (Below.refl _ _)).mono ?_
    rintro e w2 ⟨rfl, hb2⟩
    have HB2 := keptI hb2
    have HB12 := keptI (below_next HB1.out hb2)
    clear hb2
    cases b with
    | false =>
      clear db db2
      go_wp2_with fail
      refine (HS.out w2 HB2.out).mono ?_
      rintro e w3 ⟨rfl, hb3⟩
      have HB3 := keptI (below_next HB12.out hb3)
      clear hb3
      go_wp2
      go_ret
      exact ⟨rfl, HB3.out⟩
    | true =>
      clear db db2
      have HOK : Hid (ApartOk P k) := HBB.out.1 rfl
      have hk1 : 1 ≤ k := by have := HOK.out.1.2; omega
      have HD : Hid (∀ j : Nat, 1 ≤ j → j ≤ k → Calls Try.prog 18 #[.slice a1 n1 c1, .int .i64 (j : Int)] w2 fun e w' => e = .returned (.bool true) ∧ w2 = w') := fun j h1 h2 => (i_DotsApart w2 _ P j (HP1.out.below HB2.out)).mono fun _ _ ⟨b', g1, g2, g3⟩ => ⟨by rw [g1, g3.2 (apart_less HOK.out h1 h2)], g2⟩
      go_wp2
      go_loop [6] (fun i => ∃ j : Nat, 1 ≤ j ∧ j ≤ k ∧ i = .int .i64 j) (fun i => k - (intOf i).toNat)
      case atStart => exact ⟨1, Nat.le_refl _, hk1, rfl⟩
      case round =>
        obtain ⟨j, hj1, hj2, rfl⟩ := hrel
        by_cases hlt : j < k
        · go_wp2_with fail
          refine (HD.out j hj1 hj2).mono ?_
          rintro e w' ⟨rfl, rfl⟩
          go_wp2
          go_round
          case rel => exact ⟨j + 1, by omega, by omega, by go_num⟩
          case measure => simp [intOf]; omega
        · obtain rfl : j = k := by omega
          have HD1 := keptI (HD.out 1 (Nat.le_refl _) hj1)
          go_wp2_with fail
          refine HD1.out.mono ?_
          rintro e w' ⟨rfl, rfl⟩
          go_wp2
          go_ret
          exact ⟨rfl, HB12.out⟩
  · have d : decide (len ≤ 1048576) = false := decide_eq_false hbig
    have hl : (1048576 : Int) < len := by omega
    clear h
    go_enter Try.func3, Try.ntmps3
    go_wp2
    go_ret
    exact ⟨rfl, Below.refl _ _⟩
end Go.Proofs.Ythpbpdnlnmldeaa
