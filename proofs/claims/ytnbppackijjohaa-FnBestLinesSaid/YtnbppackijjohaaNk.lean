
/- The best lines keep words. -/
import Derived.Test.YtnbppackijjohaaNj
import Derived.Test.YtnbppackijjohaaLm
import Derived.Test.YtnbppackijjohaaLe
namespace Go.Proofs.Ytnbppackijjohaa
open Go.RowKit

set_option maxRecDepth 20000 in
set_option maxHeartbeats 4000000 in
theorem bestLines_walk (a : Option Addr) (len cap : Nat) (zs : List Int) (w : World) (h : RowIn .u8 w a len cap zs) :
    Calls Try.prog 7 #[.slice a len cap] w fun e w' => e = .returned (.bool true) ∧ Below w.heap.size w w' := by
  have hlen : len ≤ 9223372036854775807 := by
    obtain ⟨_, h2, h3⟩ := bytesAt_of_row h; unfold maxLen at h3; omega
  by_cases hbig : len ≤ 1048576
  · go_enter Try.func7, Try.ntmps7
    go_wp2_with fail
    refine (drawBestLines_any w a len cap zs h).mono ?_
    rintro e w1 ⟨S, a1, n1, c1, P, W, rfl, hO, hP, hW, hb1⟩
    clear h
    have HX1 := keptL hO.at
    have HB1 := keptL hb1
    clear hO hb1 hP
    obtain ⟨b, hb⟩ := boolOf (FillOk P W)
    have HBB : Hid (b = true ↔ FillOk P W) := hb
    clear hb
    go_wp2_with fail
    refine (i_BestLines w1 _ P W b HX1.out HBB).mono ?_
    rintro e w2 ⟨R, hR, a2, n2, c2, rfl, hO2, hb2⟩
    have HR := keptL hR
    have HO2 := keptL hO2
    have HX2 := keptL (HX1.out.below hb2)
    have HB2 := keptL (below_next HB1.out hb2)
    have hn2 : n2 = R.length := by
      obtain ⟨_, _, e, _⟩ := hO2.at
      injection e with _ e2 _
    have HN2 := keptL hn2
    clear hR hO2 hb2 hn2
    go_wp2_with fail
    refine (s_BestLines w2 _ P W b HX2.out HBB).mono ?_
    rintro e w3 ⟨R', hR', a3, n3, c3, rfl, hO3, hb3⟩
    obtain rfl := HR.out.same hR'
    have HO23 := keptL (HO2.out.below hb3)
    have HO3 := keptL hO3.at
    have HX3 := keptL (HX2.out.below hb3)
    have HB3 := keptL (below_next HB2.out hb3)
    clear hR' hO3 hb3 HO2 HX2 HB2
    go_wp2_with fail
    refine (equalLists_same w3 _ _ R HO23.out.at HO3.out).mono ?_
    rintro e w4 ⟨rfl, hb4⟩
    have HO4 := keptL (HO23.out.below hb4)
    have HX4 := keptL (HX3.out.below hb4)
    have HB4 := keptL (below_next HB3.out hb4)
    clear hb4 HO23 HX3 HB3 HO3
    by_cases h0 : n2 = 0
    · subst h0
      go_wp2_with fail
      refine (s_BestLines w4 _ P W b HX4.out HBB).mono ?_
      rintro e w5 ⟨R', hR', a5, n5, c5, rfl, hO5, hb5⟩
      obtain rfl := HR.out.same hR'
      have HO45 := keptL (HO4.out.at.below hb5)
      have HO5 := keptL hO5.at
      have HB5 := keptL (below_next HB4.out hb5)
      clear hR' hO5 hb5
      go_wp2_with fail
      refine (equalLists_same w5 _ _ R HO45.out HO5.out).mono ?_
      rintro e w6 ⟨rfl, hb6⟩
      have HB6 := keptL (below_next HB5.out hb6)
      clear hb6
      go_wp2
      go_ret
      exact ⟨rfl, HB6.out⟩
    · have q0 : ((n2 : Int) == 0) = false := by simp; omega
      have HT : Hid (b = true) := by
        show b = true
        cases b
        · have : R = [] := HR.out
          have h2 := HN2.out
          rw [this] at h2
          exact absurd h2 h0
        · rfl
      have HOK : Hid (FillOk P W) := HBB.out.1 HT.out
      obtain ⟨A, HCO, HFF⟩ : ∃ A, Hid (CostsUp W P A 0) ∧ Hid (BestFrom W A P R) := by
        have := HR.out
        rw [HT.out] at this
        exact this
      have hW1 := HOK.out.2.1.1
      have hW2 := HOK.out.2.1.2
      have HG : Hid (∀ r ∈ R, GoodLine W r) := best_good HFF.out HOK.out.2.2.all
      have HGA : Hid (∀ k, k < n2 → GoodLine W (R.getD k [])) := fun k hk => HG.out _ (getD_memL (by rw [← HN2.out]; exact hk))
      have hn30 : n2 ≤ 30 := by have := HFF.out.le; have := HOK.out.1; have := HN2.out; omega
      clear HR
      have HRL : Hid (LinesOk R W) := ⟨by rw [← HN2.out]; exact hn30, ⟨hW1, hW2⟩, UpL.of fun r hr => (HG.out r hr).ok hW2⟩
      have HWL : Hid (wlR R true = P) := by
        have h1 := best_words HFF.out HOK.out.words
        show _ = _
        rw [wlR_few (by rw [h1]; exact HOK.out.1), h1]
      have hP0 : 0 < P.length := by
        have h1 := HFF.out.le
        have h2 := HN2.out
        omega
      obtain ⟨F, hF⟩ := fill_any W _ P rfl
      have hcost := fill_cost hF HCO.out hP0
      rw [← best_cost HFF.out hP0] at hcost
      have HCST := keptL hcost
      have HFI := keptL hF
      obtain ⟨C, hC⟩ : ∃ C, lcOf R W true = C := ⟨_, rfl⟩
      have HC := Lib.hid hC
      have hCb : 0 ≤ C := by
        have h1 := best_cost HFF.out hP0
        have h2 := costs_pos HOK.out.2.2.all hW2 HCO.out P.length (by omega) (Nat.le_refl _)
        rw [← hC]
        show 0 ≤ costL W R
        omega
      have HI : Hid (∀ wx v, ListsAt wx v R → Calls Try.prog 22 #[v, .int .i64 W] wx fun e w' => e = .returned (.int .i64 C) ∧ wx = w') := fun wx v h => by rw [← hC]; exact i_LineCost wx v R W true h (show _ ↔ _ from ⟨fun _ => HRL.out, fun _ => rfl⟩)
      have d0 : decide ((0 : Int) ≤ C) = true := decide_eq_true hCb
      clear hF hcost hC
      go_wp2_with fail
      refine (HI.out w4 _ HO4.out.at).mono ?_
      rintro e w5 ⟨rfl, rfl⟩
      go_wp2_with fail
      refine (i_WordsOfLines w4 _ R W true HO4.out.at (show _ ↔ _ from ⟨fun _ => HRL.out, fun _ => rfl⟩)).mono ?_
      rintro e w7 ⟨a7, n7, c7, rfl, hO7, hb7⟩
      rw [HWL.out] at hO7
      have HX7 := keptL (HX4.out.below hb7)
      have HO7 := keptL hO7.at
      have HB7 := keptL (below_next HB4.out hb7)
      clear hO7 hb7
      go_wp2_with fail
      refine (equalLists_same w7 _ _ P HO7.out HX7.out).mono ?_
      rintro e w8 ⟨rfl, hb8⟩
      have HX8 := keptL (HX7.out.below hb8)
      have HB8 := keptL (below_next HB7.out hb8)
      clear hb8
      go_wp2_with fail
      refine (i_FillLines w8 _ P W true HX8.out (show _ ↔ _ from ⟨fun _ => HOK.out, fun _ => rfl⟩)).mono ?_
      rintro e w9 ⟨F', hF', a9, n9, c9, rfl, hO9, hb9⟩
      have hFF : F' = F := FillFrom.same hF' HFI.out
      subst hFF
      have HLF : Hid (LinesOk F' W) := by
        have h1 := HFI.out.le
        exact ⟨by have := HOK.out.1; omega, ⟨hW1, hW2⟩, UpL.of fun r hr => (fill_good HFI.out HOK.out.2.2.all r hr).ok hW2⟩
      obtain ⟨D, hD⟩ : ∃ D, lcOf F' W true = D := ⟨_, rfl⟩
      have hCD : C ≤ D := by rw [← HC.out, ← hD]; exact HCST.out
      have HI9 : Hid (Calls Try.prog 22 #[.slice a9 n9 c9, .int .i64 W] w9 fun e w' => e = .returned (.int .i64 D) ∧ w9 = w') := by rw [← hD]; exact i_LineCost w9 _ F' W true hO9.at (show _ ↔ _ from ⟨fun _ => HLF.out, fun _ => rfl⟩)
      have HB9 := keptL (below_next HB8.out hb9)
      have d9 : decide (C ≤ D) = true := decide_eq_true hCD
      clear hF' hO9 hb9 hD HFF HGA HG
      go_wp2_with fail
      refine HI9.out.mono ?_
      rintro e w10 ⟨rfl, rfl⟩
      go_wp2
      go_ret
      exact ⟨rfl, HB9.out⟩
  · have hbig' : 1048576 < len := by omega
    go_enter Try.func7, Try.ntmps7
    go_wp2
    go_ret
    exact ⟨rfl, Below.refl _ _⟩
end Go.Proofs.Ytnbppackijjohaa
