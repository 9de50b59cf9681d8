
/- Full lines are few. -/
import Derived.Test.YtnbppackijjohaaNi
import Derived.Test.YtnbppackijjohaaNd
import Derived.Test.YtnbppackijjohaaLk
namespace Go.Proofs.Ytnbppackijjohaa
open Go.RowKit

theorem drawBestLines_any (w : World) (a : Option Addr) (len cap : Nat) (zs : List Int) (h : RowIn .u8 w a len cap zs) :
    Calls Try.prog 24 #[.slice a len cap] w fun e w' => LwMade w e w' := by
  go_enter Try.func24, Try.ntmps24
  go_wp2_with fail
  refine (drawFillLines_any w a len cap zs h).mono ?_
  rintro e w1 ⟨S, a1, n1, c1, P, W, rfl, hO, hP, hW, hb1⟩
  go_wp2
  refine bodyPost_ret (results_twoL rfl _ _ _) rfl ?_
  exact ⟨S, _, _, _, P, W, rfl, hO, hP, hW, hb1⟩
theorem i_BestLines (w : World) (v : Value) (L : List (List Int)) (W : Int) (b : Bool) (hx : ListsAt w v L) (hb : Hid (b = true ↔ FillOk L W)) :
    Calls Try.prog 20 #[v, .int .i64 W] w fun e w' => ∃ R, BestRes L W b R ∧ LsOut R w e w' :=
  (ll_BestLines w v L W b hx hb).mono fun _ _ ⟨R, h1, a, n, c, h2, h3, h4⟩ => ⟨R, h1, a, n, c, h2, h3.ls, h4⟩
set_option maxRecDepth 20000 in
set_option maxHeartbeats 4000000 in
theorem fillFew_walk (a : Option Addr) (len cap : Nat) (zs : List Int) (w : World) (h : RowIn .u8 w a len cap zs) :
    Calls Try.prog 5 #[.slice a len cap] w fun e w' => e = .returned (.bool true) ∧ Below w.heap.size w w' := by
  have hlen : len ≤ 9223372036854775807 := by
    obtain ⟨_, h2, h3⟩ := bytesAt_of_row h; unfold maxLen at h3; omega
  by_cases hbig : len ≤ 1048576
  · go_enter Try.func5, Try.ntmps5
    go_wp2_with fail
    refine (drawFillLines_any w a len cap zs h).mono ?_
    rintro e w1 ⟨S, a1, n1, c1, P, W, rfl, hO, hP, hW, hb1⟩
    clear h
    have HX1 := keptL hO.at
    have HB1 := keptL hb1
    clear hO hb1 hP
    obtain ⟨b, hb⟩ := boolOf (FillOk P W)
    have HBB : Hid (b = true ↔ FillOk P W) := hb
    clear hb
    go_wp2_with fail
    refine (i_FillLines w1 _ P W b HX1.out HBB).mono ?_
    rintro e w2 ⟨R, hR, a2, n2, c2, rfl, hO2, hb2⟩
    have HR := keptL hR
    have HO2 := keptL hO2
    have HX2 := keptL (HX1.out.below hb2)
    have HB2 := keptL (below_next HB1.out hb2)
    have hn2 : n2 = R.length := by
      obtain ⟨_, _, e, _⟩ := hO2.at
      injection e with _ e2 _
    have HN2 := keptL hn2
    clear hR hO2 hb2 hn2
    go_wp2_with fail
    refine (s_FillLines w2 _ P W b HX2.out HBB).mono ?_
    rintro e w3 ⟨R', hR', a3, n3, c3, rfl, hO3, hb3⟩
    obtain rfl := HR.out.same hR'
    have HO23 := keptL (HO2.out.below hb3)
    have HO3 := keptL hO3.at
    have HX3 := keptL (HX2.out.below hb3)
    have HB3 := keptL (below_next HB2.out hb3)
    clear hR' hO3 hb3 HO2 HX2 HB2
    go_wp2_with fail
    refine (equalLists_same w3 _ _ R HO23.out.at HO3.out).mono ?_
    rintro e w4 ⟨rfl, hb4⟩
    have HO4 := keptL (HO23.out.below hb4)
    have HX4 := keptL (HX3.out.below hb4)
    have HB4 := keptL (below_next HB3.out hb4)
    clear hb4 HO23 HX3 HB3 HO3
    by_cases h0 : n2 = 0
    · subst h0
      go_wp2_with fail
      refine (s_FillLines w4 _ P W b HX4.out HBB).mono ?_
      rintro e w5 ⟨R', hR', a5, n5, c5, rfl, hO5, hb5⟩
      obtain rfl := HR.out.same hR'
      have HO45 := keptL (HO4.out.at.below hb5)
      have HO5 := keptL hO5.at
      have HB5 := keptL (below_next HB4.out hb5)
      clear hR' hO5 hb5
      go_wp2_with fail
      refine (equalLists_same w5 _ _ R HO45.out HO5.out).mono ?_
      rintro e w6 ⟨rfl, hb6⟩
      have HB6 := keptL (below_next HB5.out hb6)
      clear hb6
      go_wp2
      go_ret
      exact ⟨rfl, HB6.out⟩
    · have q0 : ((n2 : Int) == 0) = false := by simp; omega
      have HT : Hid (b = true) := by
        show b = true
        cases b
        · have : R = [] := HR.out
          have h2 := HN2.out
          rw [this] at h2
          exact absurd h2 h0
        · rfl
      have HOK : Hid (FillOk P W) := HBB.out.1 HT.out
      have HFF : Hid (FillFrom W P R) := by
        have := HR.out
        rw [HT.out] at this
        exact this
      have hW1 := HOK.out.2.1.1
      have hW2 := HOK.out.2.1.2
      have HG : Hid (∀ r ∈ R, GoodLine W r) := fill_good HFF.out HOK.out.2.2.all
      have HGA : Hid (∀ k, k < n2 → GoodLine W (R.getD k [])) := fun k hk => HG.out _ (getD_memL (by rw [← HN2.out]; exact hk))
      have hn30 : n2 ≤ 30 := by have := HFF.out.le; have := HOK.out.1; have := HN2.out; omega
      clear HR
      go_wp2_with fail
      refine (i_BestLines w4 _ P W true HX4.out (show _ ↔ _ from ⟨fun _ => HOK.out, fun _ => rfl⟩)).mono ?_
      rintro e w5 ⟨Rb, hRb, a5, n5, c5, rfl, hO5, hb5⟩
      have hn5 : n5 = Rb.length := by
        obtain ⟨_, _, e, _⟩ := hO5.at
        injection e with _ e2 _
      obtain ⟨A, _, hBF⟩ := hRb
      have hle : n2 ≤ n5 := by
        have h1 := fill_few hBF R HFF.out
        have h2 := HN2.out
        omega
      have HX5 := keptL (HX4.out.below hb5)
      have HB5 := keptL (below_next HB4.out hb5)
      have dl : decide ((n2 : Int) ≤ (n5 : Int)) = true := decide_eq_true (by omega)
      clear hO5 hb5 hBF hn5
      by_cases hW40 : W = 40
      · have e1 : (W == 40) = true := by simp [hW40]
        clear hW40 HFF HGA HG
        go_wp2
        go_ret
        exact ⟨rfl, HB5.out⟩
      · have e1 : (W == 40) = false := by simpa using hW40
        have HOK2 : Hid (FillOk P (W + 1)) := ⟨HOK.out.1, ⟨by omega, by omega⟩, fun i hi => by
          have h3 := HOK.out.2.2 i hi
          exact ⟨h3.1, by have := h3.2.1; omega, h3.2.2⟩⟩
        have u1 : IntKind.i64.wrap (W + 1) = W + 1 := IntWalk.i64_in _ (by omega)
        go_wp2_with fail
        refine (i_FillLines w5 _ P (W + 1) true HX5.out (show _ ↔ _ from ⟨fun _ => HOK2.out, fun _ => rfl⟩)).mono ?_
        rintro e w6 ⟨R6, hR6, a6, n6, c6, rfl, hO6, hb6⟩
        have hn6 : n6 = R6.length := by
          obtain ⟨_, _, e, _⟩ := hO6.at
          injection e with _ e2 _
        have hle2 : n6 ≤ n2 := by
          have h1 := fill_wide HFF.out R6 hR6
          have h2 := HN2.out
          omega
        have HB6 := keptL (below_next HB5.out hb6)
        have dl2 : decide ((n6 : Int) ≤ (n2 : Int)) = true := decide_eq_true (by omega)
        clear hO6 hb6 hn6 hW40 HFF HGA HG hR6 hle
        go_wp2
        go_ret
        exact ⟨rfl, HB6.out⟩
  · have hbig' : 1048576 < len := by omega
    go_enter Try.func5, Try.ntmps5
    go_wp2
    go_ret
    exact ⟨rfl, Below.refl _ _⟩
end Go.Proofs.Ytnbppackijjohaa
