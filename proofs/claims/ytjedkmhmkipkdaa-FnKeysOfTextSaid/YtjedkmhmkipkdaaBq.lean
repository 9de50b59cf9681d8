
/- The draw of codes, and laws of their events. -/
import Derived.Test.YtjedkmhmkipkdaaBp
import Derived.Test.YtjedkmhmkipkdaaBk
namespace Go.Proofs.Ytjedkmhmkipkdaa
open Go.RowKit

set_option maxHeartbeats 1000000 in
theorem drawKeysOf_any (w : World) (a : Option Addr) (len cap : Nat) (zs0 : List Int) (h : RowIn .u8 w a len cap zs0) :
    Calls Try.prog 24 #[.slice a len cap] w fun e w' => DrawnInts (-1) 128 21 w e w' := by
  obtain ⟨i0, hi, hz0, hz1, hz2⟩ := info_parts infoInt
  obtain ⟨h1, h2, h3⟩ := bytesAt_of_row h
  clear h
  go_enter Try.func24, Try.ntmps24
  go_wp2_with fail
  refine (newReader_any w _ a len cap h1 (Nat.le_refl _) h2 h3).mono ?_
  rintro e w0 ⟨L, rfl, hrd, hgr⟩
  obtain ⟨R, hRR⟩ : ∃ R, w.heap.size = R := ⟨_, rfl⟩
  rw [hRR] at hrd ⊢
  have HRR := keptE hRR
  clear h1 h2 h3
  have hR := hrd.lt
  have hm0 : OwnInts (w0.alloc (.cells #[] 3)) w0.heap.size (.slice (some ⟨w0.heap.size, 0, none⟩) 0 0) [] := OwnInts.made w0 w0.heap.size (Nat.le_refl _)
  have hg0 : w0.grownBy (w0.alloc (.cells #[] 3)) (some R) := World.grownBy_alloc w0 _ _
  have hrd0 : RD (w0.alloc (.cells #[] 3)) R R L 0 := hrd.alloc _
  have hs0 : Hid ((w0.alloc (.cells #[] 3)).heap.size = w0.heap.size + 1) := World.size_alloc _ _
  clear hrd hRR
  go_wp2_with fail
  generalize (w0.alloc (.cells #[] 3)) = wA at hm0 hg0 hrd0 hs0 ⊢
  refine (one_any _ R R L 0 (w0.heap.size + 1) 7 7 [4, 6, 2, 1, 0, 20, 21] (hrd0.alloc _) (by rw [← hs0.out]; exact heap_alloc_new wA _) (by omega) (Lib.hid rfl) (by omega) (by omega) (by omega)).mono ?_
  rintro e w1 ⟨z1, rfl, hz, hrd1, hgr1⟩
  obtain ⟨N, rfl⟩ : ∃ N : Nat, z1 = N := ⟨z1.toNat, by simp at hz; omega⟩
  have hN : N ≤ 21 := by simp at hz; omega
  have hg1 : w0.grownBy w1 (some R) := grown_trans hg0 (grown_trans (World.grownBy_alloc wA _ _) hgr1)
  have hO1 : OwnInts w1 w0.heap.size (.slice (some ⟨w0.heap.size, 0, none⟩) 0 0) [] := OwnInts.overR (hm0.alloc _) hgr1 hR
  clear hz hm0 hg0 hrd0 hgr1 hs0
  go_wp2_with fail
  go_loopw [4, 5] (fun v i wr => ∃ (k : Nat) (zs : List Int) (q : Nat), i = .int .i64 k ∧ k + zs.length ≤ 21 ∧ OwnInts wr w0.heap.size v zs ∧ Between 1 127 zs ∧ RD wr R R L q ∧ q ≤ 1 + 3 * zs.length ∧ w0.grownBy wr (some R)) (fun _ i _ => (intOf i).toNat)
  case atStart => exact ⟨N, [], 1, rfl, by simp; omega, hO1, Between.nil _ _, hrd1, by simp, hg1⟩
  case round =>
    clear hO1 hg1 hrd1
    obtain ⟨k, zs, q, rfl, hk, hown, hbt, hrd, hq, hg⟩ := hrel
    have hsz := hg.size
    by_cases hlt : 0 < k
    · go_wp2_with fail
      refine (pick_any _ R R L q _ hrd (by omega) (by omega) (by omega)).mono ?_
      rintro e w2 ⟨k2, rfl, hk2, hrd2, hgr2⟩
      have u2 : IntKind.i64.wrap (1 + (k2 : Int)) = 1 + (k2 : Int) := IntWalk.i64_in _ (by omega)
      go_wp2_with fail
      refine (pick_any _ R R L (q + 1) _ hrd2 (by omega) (by omega) (by omega)).mono ?_
      rintro e w3 ⟨k3, rfl, hk3, hrd3, hgr3⟩
      have u3 : IntKind.i64.wrap (1 + (k3 : Int)) = 1 + (k3 : Int) := IntWalk.i64_in _ (by omega)
      go_wp2_with fail
      have hlt3 := hrd3.lt
      refine (one_any _ R R L (q + 2) w3.heap.size 5 5 [1 + (k2 : Int), 64, 1 + (k3 : Int), 127, 1] (hrd3.alloc _) (heap_alloc_new w3 _) (by omega) (Lib.hid rfl) (by omega) (by omega) (by omega)).mono ?_
      rintro e w4 ⟨z, rfl, hz, hrd4, hgr4⟩
      have hz' : 1 ≤ z ∧ z ≤ 127 := by simp at hz; omega
      have hgx : wr.grownBy w4 (some R) := grown_trans (grown_trans hgr2 hgr3) (grown_trans (World.grownBy_alloc w3 _ _) hgr4)
      have hown4 := hown.overR hgx hR
      have hg4 := grown_trans hg hgx
      have hsz4 := hg4.size
      clear hz hgr2 hgr3 hgr4 hrd hrd2 hrd3 hown hgx hg
      go_wp2_with (at_builtin; refine wpList_append_own _ rfl _ _ 23 rfl w0.heap.size 3 i0 (.int .i64 0) 1 8 Try.underlying23 hi hz0 hz1 hz2 rfl (by decide) _ _ _ rfl (hown4.alloc _) ⟨w4.heap.size, 0, none⟩ 1 1 [.int .i64 z] rfl rfl new_one one_cell (by unfold maxLen; omega) (by omega) (by simp; omega) ?_)
      intro v' w5 hown' hgrow _
      obtain ⟨R1, R2, R3⟩ := snoc_step hR hown4 hrd4 hg4 hown' hgrow
      clear hown' hgrow hown4 hrd4 hg4
      go_wp2
      go_roundw
      case rel => exact ⟨k - 1, zs ++ [z], q + 3, by go_num, by simp; omega, R1, hbt.snoc hz'.1 hz'.2, R2, by simp; omega, R3⟩
      case measure => simp [intOf]; omega
    · obtain ⟨ao, no, co, hoo⟩ := hown.isSliceB
      subst hoo
      have HNO := keptE hown.lenB
      have hno : no ≤ 21 := by rw [← HNO.out]; omega
      have HBT : Hid (Between (-1) 128 zs) := hbt.wide (by omega) (by omega)
      have hwl : w.heap.size ≤ w0.heap.size := hgr.size
      by_cases h0 : 0 < no
      · go_wp2_with fail
        refine (pick_any _ R R L q _ hrd (by omega) (by omega) (by omega)).mono ?_
        rintro e w2 ⟨k2, rfl, hk2, hrd2, hgr2⟩
        have hown2 := hown.overR hgr2 hR
        have hg2 := grown_trans hg hgr2
        clear hown hg hrd hgr2
        by_cases hk0 : k2 = 0
        · subst hk0
          obtain ⟨g, c', hg', _⟩ := hown2.shape (by rw [HNO.out]; exact h0)
          injection hg' with e1 e2 e3
          subst e1 e3
          clear e2
          go_wp2_with fail
          have hlt2 := hrd2.lt
          refine (one_any _ R R L (q + 1) w2.heap.size 3 3 [0, 128, -1] (hrd2.alloc _) (heap_alloc_new w2 _) (by omega) (Lib.hid rfl) (by omega) (by omega) (by omega)).mono ?_
          rintro e w4 ⟨z, rfl, hz, hrd4, hgr4⟩
          have hz' : -1 ≤ z ∧ z ≤ 128 := by simp at hz; omega
          have hgx : w2.grownBy w4 (some R) := grown_trans (World.grownBy_alloc w2 _ _) hgr4
          have hown4 := hown2.overR hgx hR
          have hg4 := grown_trans hg2 hgx
          have hcell := hown4.cell HNO.out h0
          have hfree := hown4.free HNO.out 0
          have hown5 := hown4.store HNO.out 0 z
          have hgg : w0.heap.size ≤ g := (hown4.lt g rfl).1
          have hg5 := grown_own hg4 (grown_store w4 g 0 (.int .i64 z)) (by intro q hq; injection hq with hq; omega)
          have HL5 : Hid ((zs.set 0 z).length = no) := by show _ = _; rw [List.length_set]; exact HNO.out
          clear hz hgr4 hrd2 hown2 hgx hg2 hown4 hg4 hrd4
          go_wp2
          go_ret
          exact ⟨_, _, _, zs.set 0 z, rfl, hown5.low hwl, HL5.out, hno, HBT.out.set hz'.1 hz'.2 0, by have := grown_new hgr hg5 (by rw [HRR.out]; exact Nat.le_refl _); exact below_of_grown this⟩
        · have e1 : ((k2 : Int) == 0) = false := by simp; omega
          go_wp2
          go_ret
          exact ⟨_, _, _, zs, rfl, hown2.low hwl, HNO.out, hno, HBT.out, below_of_grown (grown_new hgr hg2 (by rw [HRR.out]; exact Nat.le_refl _))⟩
      · obtain rfl : no = 0 := by omega
        go_wp2
        go_ret
        exact ⟨_, _, _, zs, rfl, hown.low hwl, HNO.out, hno, HBT.out, below_of_grown (grown_new hgr hg (by rw [HRR.out]; exact Nat.le_refl _))⟩
end Go.Proofs.Ytjedkmhmkipkdaa
