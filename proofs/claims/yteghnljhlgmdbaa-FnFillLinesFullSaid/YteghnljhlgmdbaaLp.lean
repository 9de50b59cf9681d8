
/- Full lines have no room for the next word. -/
import Derived.Test.YteghnljhlgmdbaaLo
import Derived.Test.YteghnljhlgmdbaaLk
namespace Go.Proofs.Yteghnljhlgmdbaa
open Go.RowKit

set_option maxRecDepth 20000 in
set_option maxHeartbeats 4000000 in
theorem fillFull_walk (a : Option Addr) (len cap : Nat) (zs : List Int) (w : World) (h : RowIn .u8 w a len cap zs) :
    Calls Try.prog 4 #[.slice a len cap] w fun e w' => e = .returned (.bool true) ∧ Below w.heap.size w w' := by
  have hlen : len ≤ 9223372036854775807 := by
    obtain ⟨_, h2, h3⟩ := bytesAt_of_row h; unfold maxLen at h3; omega
  by_cases hbig : len ≤ 1048576
  · go_enter Try.func4, Try.ntmps4
    go_wp2_with fail
    refine (drawFillLines_any w a len cap zs h).mono ?_
    rintro e w1 ⟨S, a1, n1, c1, P, W, rfl, hO, hP, hW, hb1⟩
    clear h
    have HX1 := keptL hO.at
    have HB1 := keptL hb1
    clear hO hb1 hP
    obtain ⟨b, hb⟩ := boolOf (FillOk P W)
    have HBB : Hid (b = true ↔ FillOk P W) := hb
    clear hb
    go_wp2_with fail
    refine (i_FillLines w1 _ P W b HX1.out HBB).mono ?_
    rintro e w2 ⟨R, hR, a2, n2, c2, rfl, hO2, hb2⟩
    have HR := keptL hR
    have HO2 := keptL hO2
    have HX2 := keptL (HX1.out.below hb2)
    have HB2 := keptL (below_next HB1.out hb2)
    have hn2 : n2 = R.length := by
      obtain ⟨_, _, e, _⟩ := hO2.at
      injection e with _ e2 _
    have HN2 := keptL hn2
    clear hR hO2 hb2 hn2
    go_wp2_with fail
    refine (s_FillLines w2 _ P W b HX2.out HBB).mono ?_
    rintro e w3 ⟨R', hR', a3, n3, c3, rfl, hO3, hb3⟩
    obtain rfl := HR.out.same hR'
    have HO23 := keptL (HO2.out.below hb3)
    have HO3 := keptL hO3.at
    have HX3 := keptL (HX2.out.below hb3)
    have HB3 := keptL (below_next HB2.out hb3)
    clear hR' hO3 hb3 HO2 HX2 HB2
    go_wp2_with fail
    refine (equalLists_same w3 _ _ R HO23.out.at HO3.out).mono ?_
    rintro e w4 ⟨rfl, hb4⟩
    have HO4 := keptL (HO23.out.below hb4)
    have HX4 := keptL (HX3.out.below hb4)
    have HB4 := keptL (below_next HB3.out hb4)
    clear hb4 HO23 HX3 HB3 HO3
    by_cases h0 : n2 = 0
    · subst h0
      go_wp2_with fail
      refine (s_FillLines w4 _ P W b HX4.out HBB).mono ?_
      rintro e w5 ⟨R', hR', a5, n5, c5, rfl, hO5, hb5⟩
      obtain rfl := HR.out.same hR'
      have HO45 := keptL (HO4.out.at.below hb5)
      have HO5 := keptL hO5.at
      have HB5 := keptL (below_next HB4.out hb5)
      clear hR' hO5 hb5
      go_wp2_with fail
      refine (equalLists_same w5 _ _ R HO45.out HO5.out).mono ?_
      rintro e w6 ⟨rfl, hb6⟩
      have HB6 := keptL (below_next HB5.out hb6)
      clear hb6
      go_wp2
      go_ret
      exact ⟨rfl, HB6.out⟩
    · have q0 : ((n2 : Int) == 0) = false := by simp; omega
      have HT : Hid (b = true) := by
        show b = true
        cases b
        · have : R = [] := HR.out
          have h2 := HN2.out
          rw [this] at h2
          exact absurd h2 h0
        · rfl
      have HOK : Hid (FillOk P W) := HBB.out.1 HT.out
      have HFF : Hid (FillFrom W P R) := by
        have := HR.out
        rw [HT.out] at this
        exact this
      have hW1 := HOK.out.2.1.1
      have hW2 := HOK.out.2.1.2
      have HG : Hid (∀ r ∈ R, GoodLine W r) := fill_good HFF.out HOK.out.2.2.all
      have HGA : Hid (∀ k, k < n2 → GoodLine W (R.getD k [])) := fun k hk => HG.out _ (getD_memL (by rw [← HN2.out]; exact hk))
      have hn30 : n2 ≤ 30 := by have := HFF.out.le; have := HOK.out.1; have := HN2.out; omega
      clear HR
      go_wp2
      go_loop [6] (fun i => ∃ k : Nat, 1 ≤ k ∧ k ≤ n2 ∧ i = .int .i64 k) (fun i => n2 - (intOf i).toNat)
      case atStart => exact ⟨1, Nat.le_refl _, by omega, by go_num⟩
      case round =>
        obtain ⟨k, hk1, hk, rfl⟩ := hrel
        by_cases hlt : k < n2
        · obtain ⟨x, r, hx1, hx2, hx3, hx4⟩ : NoRoom W R (k - 1) := fill_room HFF.out HOK.out.words (k - 1) (by have := HN2.out; omega)
          rw [show k - 1 + 1 = k from by omega] at hx1
          obtain ⟨g, u, rfl, c1, hE, hnx⟩ := HO4.out.nth hlt
          clear hnx
          obtain ⟨g', u', e', c1', hE', hnx⟩ := HO4.out.nth (i := k - 1) (by omega)
          injection e' with e'
          injection e' with e' _ _
          subst e'
          clear hnx
          obtain ⟨ys, hys⟩ : ∃ ys, R.getD k [] = ys := ⟨_, rfl⟩
          obtain ⟨xs, hxs⟩ : ∃ xs, R.getD (k - 1) [] = xs := ⟨_, rfl⟩
          have hgy := HGA.out k hlt
          have hgx := HGA.out (k - 1) (by omega)
          rw [hys] at hx1 hE hgy
          rw [hxs] at hx4 hE' hgx
          obtain ⟨a6, cp6, rfl, y1, y2, y3⟩ := hE.1
          obtain ⟨a7, cp7, rfl, z1, z2, _⟩ := hE'.1
          obtain ⟨m, hm⟩ : ∃ m, ys.length = m := ⟨_, rfl⟩
          obtain ⟨l, hl⟩ : ∃ l, xs.length = l := ⟨_, rfl⟩
          rw [hm] at c1 y1 y3
          rw [hl] at c1' hx4
          have hmW : (m : Int) ≤ W := by have := hgy.2.1; rw [hm] at this; exact this
          have hlW : (l : Int) ≤ W := by have := hgx.2.1; rw [hl] at this; exact this
          obtain ⟨t, ht⟩ : ∃ t, x.length = t := ⟨_, rfl⟩
          rw [ht] at hx4
          have htm : t ≤ m := by
            have := congrArg List.length hx1
            rw [List.length_append, hm, ht] at this; omega
          have HZ : Hid (∀ j, j < t → ys.getD j 0 ≠ 0) := fun j hj => by
            rw [hx1, List.getD_eq_getElem?_getD, List.getElem?_append_left (by omega), ← List.getD_eq_getElem?_getD]
            exact getD_last hx2 (by omega)
          have HE : Hid (t < m → ys.getD t 0 = 0) := fun htl => by
            rcases hx3 with rfl | ⟨r', rfl⟩
            · have := congrArg List.length hx1
              rw [List.append_nil, hm, ht] at this; omega
            · rw [hx1, List.getD_eq_getElem?_getD, List.getElem?_append_right (by omega), ht, Nat.sub_self]; rfl
          have HM := keptL hm
          have Y3 := keptL y3
          have b1 : (0 : Int) ≤ (k : Int) := by omega
          have b2 : (k : Int) < (n2 : Int) := by omega
          clear hx1 hx2 hx3 hys hxs hgy hgx hE hE' hm hl ht y3
          go_wp2
          go_loop [7] (fun i => ∃ j : Nat, j ≤ t ∧ i = .int .i64 j) (fun i => t - (intOf i).toNat)
          case atStart => exact ⟨0, Nat.zero_le _, by go_num⟩
          case round =>
            obtain ⟨j, hj, rfl⟩ := hrel
            by_cases hjt : j < t
            · have hjm : j < m := by omega
              have d1 : decide ((j : Int) < (m : Int)) = true := decide_eq_true (by omega)
              rcases Y3.out with rfl | ⟨g2, off2, rfl, y3⟩
              · exact absurd HM.out (by simp; omega)
              have cx := y3 j hjm
              obtain ⟨y, hy⟩ : ∃ y, ys.getD j 0 = y := ⟨_, rfl⟩
              rw [hy] at cx
              have e1 : (y != 0) = true := by have := HZ.out j hjt; rw [hy] at this; simpa using this
              have b3 : (0 : Int) ≤ (j : Int) := by omega
              clear hy y3
              go_wp2
              go_round
              case rel => exact ⟨j + 1, by omega, by go_num⟩
              case measure => simp [intOf] <;> omega
            · obtain rfl : j = t := by omega
              have fin : decide ((l : Int) + 1 + (j : Int) ≤ W) = false := decide_eq_false (by omega)
              have b5 : (0 : Int) ≤ (k : Int) - 1 := by omega
              have b6 : (k : Int) - 1 < (n2 : Int) := by omega
              have t5 : ((k : Int) - 1).toNat = k - 1 := by omega
              by_cases hjm : j < m
              · have d1 : decide ((j : Int) < (m : Int)) = true := decide_eq_true (by omega)
                rcases Y3.out with rfl | ⟨g2, off2, rfl, y3⟩
                · exact absurd HM.out (by simp; omega)
                have cx := y3 j hjm
                rw [HE.out hjm] at cx
                have b3 : (0 : Int) ≤ (j : Int) := by omega
                clear y3
                go_wp2
                go_round
                case rel => exact ⟨k + 1, by omega, by omega, by go_num⟩
                case measure => simp [intOf] <;> omega
              · have d1 : decide ((j : Int) < (m : Int)) = false := decide_eq_false (by omega)
                go_wp2
                go_round
                case rel => exact ⟨k + 1, by omega, by omega, by go_num⟩
                case measure => simp [intOf] <;> omega
        · go_wp2
          go_ret
          exact ⟨rfl, HB4.out⟩
  · have hbig' : 1048576 < len := by omega
    go_enter Try.func4, Try.ntmps4
    go_wp2
    go_ret
    exact ⟨rfl, Below.refl _ _⟩
end Go.Proofs.Yteghnljhlgmdbaa
