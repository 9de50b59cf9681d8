
/- Lines keep words. -/
import Derived.Test.YtnbppackijjohaaLo
import Derived.Test.YtnbppackijjohaaLk
import Derived.Test.YtnbppackijjohaaLm
import Derived.Deep.QuietTactic
import Derived.BigQuiet
namespace Go.Proofs.Ytnbppackijjohaa
open Go.RowKit

set_option maxRecDepth 20000 in
set_option maxHeartbeats 4000000 in
theorem fillLines_walk (a : Option Addr) (len cap : Nat) (zs : List Int) (w : World) (h : RowIn .u8 w a len cap zs) :
    Calls Try.prog 3 #[.slice a len cap] w fun e w' => e = .returned (.bool true) ∧ Below w.heap.size w w' := by
  have hlen : len ≤ 9223372036854775807 := by
    obtain ⟨_, h2, h3⟩ := bytesAt_of_row h; unfold maxLen at h3; omega
  by_cases hbig : len ≤ 1048576
  · go_enter Try.func3, Try.ntmps3
    go_wp2_with fail
    refine (drawFillLines_any w a len cap zs h).mono ?_
    rintro e w1 ⟨S, a1, n1, c1, P, W, rfl, hO, hP, hW, hb1⟩
    clear h
    have HX1 := keptL hO.at
    have HB1 := keptL hb1
    clear hO hb1 hP
    obtain ⟨b, hb⟩ := boolOf (FillOk P W)
    have HBB : Hid (b = true ↔ FillOk P W) := hb
    clear hb
    go_wp2_with fail
    refine (i_FillLines w1 _ P W b HX1.out HBB).mono ?_
    rintro e w2 ⟨R, hR, a2, n2, c2, rfl, hO2, hb2⟩
    have HR := keptL hR
    have HO2 := keptL hO2
    have HX2 := keptL (HX1.out.below hb2)
    have HB2 := keptL (below_next HB1.out hb2)
    have hn2 : n2 = R.length := by
      obtain ⟨_, _, e, _⟩ := hO2.at
      injection e with _ e2 _
    have HN2 := keptL hn2
    clear hR hO2 hb2 hn2
    go_wp2_with fail
    refine (s_FillLines w2 _ P W b HX2.out HBB).mono ?_
    rintro e w3 ⟨R', hR', a3, n3, c3, rfl, hO3, hb3⟩
    obtain rfl := HR.out.same hR'
    have HO23 := keptL (HO2.out.below hb3)
    have HO3 := keptL hO3.at
    have HX3 := keptL (HX2.out.below hb3)
    have HB3 := keptL (below_next HB2.out hb3)
    clear hR' hO3 hb3 HO2 HX2 HB2
    go_wp2_with fail
    refine (equalLists_same w3 _ _ R HO23.out.at HO3.out).mono ?_
    rintro e w4 ⟨rfl, hb4⟩
    have HO4 := keptL (HO23.out.below hb4)
    have HX4 := keptL (HX3.out.below hb4)
    have HB4 := keptL (below_next HB3.out hb4)
    clear hb4 HO23 HX3 HB3 HO3
    by_cases h0 : n2 = 0
    · subst h0
      go_wp2_with fail
      refine (s_FillLines w4 _ P W b HX4.out HBB).mono ?_
      rintro e w5 ⟨R', hR', a5, n5, c5, rfl, hO5, hb5⟩
      obtain rfl := HR.out.same hR'
      have HO45 := keptL (HO4.out.at.below hb5)
      have HO5 := keptL hO5.at
      have HB5 := keptL (below_next HB4.out hb5)
      clear hR' hO5 hb5
      go_wp2_with fail
      refine (equalLists_same w5 _ _ R HO45.out HO5.out).mono ?_
      rintro e w6 ⟨rfl, hb6⟩
      have HB6 := keptL (below_next HB5.out hb6)
      clear hb6
      go_wp2
      go_ret
      exact ⟨rfl, HB6.out⟩
    · have q0 : ((n2 : Int) == 0) = false := by simp; omega
      have HT : Hid (b = true) := by
        show b = true
        cases b
        · have : R = [] := HR.out
          have h2 := HN2.out
          rw [this] at h2
          exact absurd h2 h0
        · rfl
      have HOK : Hid (FillOk P W) := HBB.out.1 HT.out
      have HFF : Hid (FillFrom W P R) := by
        have := HR.out
        rw [HT.out] at this
        exact this
      have hW1 := HOK.out.2.1.1
      have hW2 := HOK.out.2.1.2
      have HG : Hid (∀ r ∈ R, GoodLine W r) := fill_good HFF.out HOK.out.2.2.all
      have HGA : Hid (∀ k, k < n2 → GoodLine W (R.getD k [])) := fun k hk => HG.out _ (getD_memL (by rw [← HN2.out]; exact hk))
      have hn30 : n2 ≤ 30 := by have := HFF.out.le; have := HOK.out.1; have := HN2.out; omega
      clear HR
      have HRL : Hid (LinesOk R W) := ⟨by rw [← HN2.out]; exact hn30, ⟨hW1, hW2⟩, UpL.of fun r hr => (HG.out r hr).ok hW2⟩
      have HWL : Hid (wlR R true = P) := by
        have h1 := fill_words HFF.out HOK.out.words
        show _ = _
        rw [wlR_few (by rw [h1]; exact HOK.out.1), h1]
      go_wp2
      go_loopw [6] (fun i wr => ∃ k q : Nat, k ≤ n2 ∧ i = .int .i64 k ∧ wr = w4.drewN q) (fun i _ => n2 - (intOf i).toNat)
      case atStart => exact ⟨0, 0, by omega, by go_num, rfl⟩
      case round =>
        obtain ⟨k, q, hk, rfl, rfl⟩ := hrel
        by_cases hlt : k < n2
        · obtain ⟨g, u, rfl, c1, hE, hnx⟩ := HO4.out.nth hlt
          clear hnx
          obtain ⟨ys, hys⟩ : ∃ ys, R.getD k [] = ys := ⟨_, rfl⟩
          have hgy := HGA.out k hlt
          rw [hys] at hE hgy
          obtain ⟨a6, cp6, rfl, y1, y2, y3⟩ := hE.1
          obtain ⟨g1, g2, _, g3, g4⟩ := hgy
          obtain ⟨m, hm⟩ : ∃ m, ys.length = m := ⟨_, rfl⟩
          rw [hm] at c1 y1 y3 g1 g2 g4
          rcases y3 with rfl | ⟨gb, off2, rfl, y3⟩
          · exact absurd hm (by simp; omega)
          have d0 := y3 0 (by omega)
          have dm := y3 (m - 1) (by omega)
          rw [Nat.add_zero] at d0
          obtain ⟨z0, hz0⟩ : ∃ z0, ys.getD 0 0 = z0 := ⟨_, rfl⟩
          obtain ⟨zm, hzm⟩ : ∃ zm, ys.getD (m - 1) 0 = zm := ⟨_, rfl⟩
          rw [hz0] at d0 g3
          rw [hzm] at dm g4
          have e0 : (z0 == 0) = false := by simpa using g3
          have em : (zm == 0) = false := by simpa using g4
          have eq0 : ((m : Int) == 0) = false := by simp; omega
          have dW : decide (W < (m : Int)) = false := decide_eq_false (by omega)
          have b1 : (0 : Int) ≤ (k : Int) := by omega
          have b2 : (k : Int) < (n2 : Int) := by omega
          have b3 : (0 : Int) < (m : Int) := by omega
          have b4 : (0 : Int) ≤ (m : Int) - 1 := by omega
          have b5 : (m : Int) - 1 < (m : Int) := by omega
          have t5 : ((m : Int) - 1).toNat = m - 1 := by omega
          clear hys hE hm y3 hz0 hzm g3 g4
          go_wp2
          go_quiet (fail)
          go_wp2
          go_roundw
          case rel => exact ⟨k + 1, _, by omega, by go_num, rfl⟩
          case measure => simp [intOf] <;> omega
        · have HOq : Hid (OwnLs (w4.drewN q) w1.heap.size 0 (.slice a2 n2 c2) R) := HO4.out
          have HXq : Hid (ListsAt (w4.drewN q) (.slice a1 n1 c1) P) := HX4.out
          have HBq : Hid (Below w.heap.size w (w4.drewN q)) := below_drewN HB4.out q
          go_wp2_with fail
          refine (i_WordsOfLines (w4.drewN q) _ R W true HOq.out.at (show _ ↔ _ from ⟨fun _ => HRL.out, fun _ => rfl⟩)).mono ?_
          rintro e w7 ⟨a7, n7, c7, rfl, hO7, hb7⟩
          rw [HWL.out] at hO7
          have HX7 := keptL (HXq.out.below hb7)
          have HO7 := keptL hO7.at
          have HB7 := keptL (below_next HBq.out hb7)
          clear hO7 hb7
          go_wp2_with fail
          refine (equalLists_same w7 _ _ P HO7.out HX7.out).mono ?_
          rintro e w8 ⟨rfl, hb8⟩
          have HB8 := keptL (below_next HB7.out hb8)
          clear hb8
          go_wp2
          go_ret
          exact ⟨rfl, HB8.out⟩
  · have hbig' : 1048576 < len := by omega
    go_enter Try.func3, Try.ntmps3
    go_wp2
    go_ret
    exact ⟨rfl, Below.refl _ _⟩
end Go.Proofs.Ytnbppackijjohaa
