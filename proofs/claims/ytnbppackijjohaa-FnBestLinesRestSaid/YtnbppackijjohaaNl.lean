
/- What follows the best first line is best. -/
import Derived.Test.YtnbppackijjohaaNj
import Derived.Test.YtnbppackijjohaaLm
namespace Go.Proofs.Ytnbppackijjohaa
open Go.RowKit

theorem best_cut {W : Int} {A : Nat → Int} {S R : List (List Int)} (h : BestFrom W A S R) (h0 : 0 < S.length) : ∃ c R', PickAt W S A c ∧ BestFrom W A (S.drop c) R' ∧ R = pack (S.take c) :: R' := by
  cases h with
  | done => simp at h0
  | step hf hr => exact ⟨_, _, hf, hr, rfl⟩
set_option maxRecDepth 20000 in
set_option maxHeartbeats 4000000 in
theorem bestRest_walk (a : Option Addr) (len cap : Nat) (zs : List Int) (w : World) (h : RowIn .u8 w a len cap zs) :
    Calls Try.prog 8 #[.slice a len cap] w fun e w' => e = .returned (.bool true) ∧ Below w.heap.size w w' := by
  have hlen : len ≤ 9223372036854775807 := by
    obtain ⟨_, h2, h3⟩ := bytesAt_of_row h; unfold maxLen at h3; omega
  by_cases hbig : len ≤ 1048576
  · go_enter Try.func8, Try.ntmps8
    go_wp2_with fail
    refine (drawBestLines_any w a len cap zs h).mono ?_
    rintro e w1 ⟨S, a1, n1, c1, P, W, rfl, hO, hP, hW, hb1⟩
    clear h
    have HX1 := keptL hO.at
    have HB1 := keptL hb1
    clear hO hb1 hP
    obtain ⟨b, hb⟩ := boolOf (FillOk P W)
    have HBB : Hid (b = true ↔ FillOk P W) := hb
    clear hb
    go_wp2_with fail
    refine (i_BestLines w1 _ P W b HX1.out HBB).mono ?_
    rintro e w2 ⟨R, hR, a2, n2, c2, rfl, hO2, hb2⟩
    have HR := keptL hR
    have HO2 := keptL hO2
    have HX2 := keptL (HX1.out.below hb2)
    have HB2 := keptL (below_next HB1.out hb2)
    have hn2 : n2 = R.length := by
      obtain ⟨_, _, e, _⟩ := hO2.at
      injection e with _ e2 _
    have HN2 := keptL hn2
    clear hR hO2 hb2 hn2
    go_wp2_with fail
    refine (s_BestLines w2 _ P W b HX2.out HBB).mono ?_
    rintro e w3 ⟨R', hR', a3, n3, c3, rfl, hO3, hb3⟩
    obtain rfl := HR.out.same hR'
    have HO23 := keptL (HO2.out.below hb3)
    have HO3 := keptL hO3.at
    have HX3 := keptL (HX2.out.below hb3)
    have HB3 := keptL (below_next HB2.out hb3)
    clear hR' hO3 hb3 HO2 HX2 HB2
    go_wp2_with fail
    refine (equalLists_same w3 _ _ R HO23.out.at HO3.out).mono ?_
    rintro e w4 ⟨rfl, hb4⟩
    have HO4 := keptL (HO23.out.below hb4)
    have HX4 := keptL (HX3.out.below hb4)
    have HB4 := keptL (below_next HB3.out hb4)
    clear hb4 HO23 HX3 HB3 HO3
    by_cases h0 : n2 < 2
    · have dz : decide ((n2 : Int) < 2) = true := decide_eq_true (by omega)
      go_wp2_with fail
      refine (s_BestLines w4 _ P W b HX4.out HBB).mono ?_
      rintro e w5 ⟨R', hR', a5, n5, c5, rfl, hO5, hb5⟩
      obtain rfl := HR.out.same hR'
      have HO45 := keptL (HO4.out.at.below hb5)
      have HO5 := keptL hO5.at
      have HB5 := keptL (below_next HB4.out hb5)
      clear hR' hO5 hb5
      go_wp2_with fail
      refine (equalLists_same w5 _ _ R HO45.out HO5.out).mono ?_
      rintro e w6 ⟨rfl, hb6⟩
      have HB6 := keptL (below_next HB5.out hb6)
      clear hb6
      go_wp2
      go_ret
      exact ⟨rfl, HB6.out⟩
    · have dz : decide ((n2 : Int) < 2) = false := decide_eq_false (by omega)
      have HT : Hid (b = true) := by
        show b = true
        cases b
        · have : R = [] := HR.out
          have h2 := HN2.out
          rw [this] at h2
          simp at h2
          omega
        · rfl
      have HOK : Hid (FillOk P W) := HBB.out.1 HT.out
      obtain ⟨A, HCO, HFF⟩ : ∃ A, Hid (CostsUp W P A 0) ∧ Hid (BestFrom W A P R) := by
        have := HR.out
        rw [HT.out] at this
        exact this
      have hW1 := HOK.out.2.1.1
      have hW2 := HOK.out.2.1.2
      have HG : Hid (∀ r ∈ R, GoodLine W r) := best_good HFF.out HOK.out.2.2.all
      have HGA : Hid (∀ k, k < n2 → GoodLine W (R.getD k [])) := fun k hk => HG.out _ (getD_memL (by rw [← HN2.out]; exact hk))
      have hn30 : n2 ≤ 30 := by have := HFF.out.le; have := HOK.out.1; have := HN2.out; omega
      clear HR
      have hP0 : 0 < P.length := by
        have h1 := HFF.out.le
        have h2 := HN2.out
        omega
      obtain ⟨np, hnp⟩ : ∃ np, P.length = np := ⟨_, rfl⟩
      have HNP := Lib.hid hnp
      have hn1 : n1 = np := by
        obtain ⟨_, _, e, _⟩ := HX4.out
        injection e with _ e2 _
        omega
      subst hn1
      have hcap : n1 ≤ c1 ∧ c1 ≤ 9223372036854775807 := by
        obtain ⟨_, _, e, e1, e2, _⟩ := HX4.out
        injection e with _ e3 e4
        omega
      have hcap2 : n2 ≤ c2 ∧ c2 ≤ 9223372036854775807 := by
        obtain ⟨_, _, e, e1, e2, _⟩ := HO4.out.at
        injection e with _ e3 e4
        omega
      obtain ⟨g, off, u, rfl, _, _⟩ := HX4.out.someNth (i := 0) (by omega)
      obtain ⟨g2, off2, u2, rfl, _, _⟩ := HO4.out.at.someNth (i := 0) (by omega)
      have hn130 : n1 ≤ 30 := by have := HOK.out.1; omega
      obtain ⟨c, R', hpk, hR', hRR⟩ := best_cut HFF.out hP0
      have hpos := hpk.pos
      have hcl : c < n1 := by
        by_cases e : c < n1
        · exact e
        · have h1 := hR'.le
          rw [List.length_drop] at h1
          have h2 := HN2.out
          rw [hRR] at h2
          simp at h2
          omega
      have HRR := keptL hRR
      have HT1 : Hid (ListsAt w4 (.slice (some ⟨g2, off2, none⟩) 1 c2) [pack (P.take c)]) := by
        show ListsAt _ _ _
        have h1 := HO4.out.at.take 1 (by omega)
        rw [hRR] at h1
        exact h1
      have hgood : GoodLine W (pack (P.take c)) := HG.out _ (by rw [hRR]; simp)
      have HL1 : Hid (LinesOk [pack (P.take c)] W) := ⟨by simp, ⟨hW1, hW2⟩, UpL.of fun r hr => by
        simp only [List.mem_singleton] at hr
        subst hr
        exact hgood.ok hW2⟩
      have hwol : wolAll [pack (P.take c)] = P.take c := by
        unfold wolAll
        rw [List.flatMap_cons, List.flatMap_nil, List.append_nil, wol_pack (HOK.out.words.take c)]
      have hlt : (P.take c).length = c := by rw [List.length_take]; omega
      have HW1 : Hid (wlR [pack (P.take c)] true = P.take c) := by
        show _ = _
        rw [wlR_few (by rw [hwol, hlt]; omega), hwol]
      have HD1 : Hid (R.drop 1 = R') := by show _ = _; rw [hRR]; rfl
      have HBR : Hid (BestRes (P.drop c) W true R') := ⟨A, HCO.out.drop c, hR'⟩
      have HOKD : Hid (FillOk (P.drop c) W) := ⟨by rw [List.length_drop]; have := HOK.out.1; omega, HOK.out.2.1, fun i hi => by
        rw [List.length_drop] at hi
        rw [List.getD_eq_getElem?_getD, List.getElem?_drop, ← List.getD_eq_getElem?_getD]
        exact HOK.out.2.2 (c + i) (by omega)⟩
      have e1 : ¬ c1 = c := by omega
      have e2 : ¬ c2 = 1 := by omega
      have b1 : (1 : Int) ≤ (c2 : Int) := by omega
      have b2 : (0 : Int) ≤ (c : Int) := by omega
      have b3 : (c : Int) ≤ (n1 : Int) := by omega
      have t3 : ((c : Int)).toNat = c := by omega
      clear hpk hR' hRR hgood hwol hnp HFF HGA HG
      go_wp2_with fail
      refine (i_WordsOfLines w4 _ [pack (P.take c)] W true HT1.out (show _ ↔ _ from ⟨fun _ => HL1.out, fun _ => rfl⟩)).mono ?_
      rintro e w7 ⟨a7, n7, c7, rfl, hO7, hb7⟩
      rw [HW1.out] at hO7
      have hn7 : n7 = c := by
        obtain ⟨_, _, e, _⟩ := hO7.at
        injection e with _ e2 _
        rw [e2]; exact hlt
      subst hn7
      have HX7 := keptL ((HX4.out.below hb7).dropL n7 (by omega))
      have HO7 : Hid (ListsAt w7 (.slice (some ⟨g2, off2 + 1, none⟩) (n2 - 1) (c2 - 1)) R') := by
        show ListsAt _ _ _
        have h1 := (HO4.out.at.below hb7).dropL 1 (by omega)
        rw [HD1.out] at h1
        exact h1
      have HB7 := keptL (below_next HB4.out hb7)
      have HX8 : Hid (ListsAt w7.drew (.slice (some ⟨g, off + n7, none⟩) (n1 - n7) (c1 - n7)) (P.drop n7)) := HX7.out
      have HO8 : Hid (ListsAt w7.drew (.slice (some ⟨g2, off2 + 1, none⟩) (n2 - 1) (c2 - 1)) R') := HO7.out
      have HB8 : Hid (Below w.heap.size w w7.drew) := by
        show Below _ _ _
        exact below_next HB7.out (Below.refl _ _).drew
      clear hO7 hb7 hlt
      go_wp2_with fail
      go_region_with (first | (go_at_call 20; refine (i_BestLines w7.drew _ (P.drop n7) W true HX8.out (show _ ↔ _ from ⟨fun _ => HOKD.out, fun _ => rfl⟩)).mono ?_; rintro e w8 ⟨R8, hR8, a8, n8, c8, rfl, hO8, hb8⟩; obtain rfl := HBR.out.same hR8) | (go_at_call 17; refine (equalLists_same w8 _ _ R' hO8.at (HO8.out.below hb8)).mono ?_; rintro e w9 ⟨rfl, hb9⟩))
      all_goals
        go_wp2
        go_ret
        exact ⟨rfl, below_next (below_next HB8.out hb8) hb9⟩
  · have hbig' : 1048576 < len := by omega
    go_enter Try.func8, Try.ntmps8
    go_wp2
    go_ret
    exact ⟨rfl, Below.refl _ _⟩
end Go.Proofs.Ytnbppackijjohaa
