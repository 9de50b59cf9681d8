
/- The flood of the model. -/
import Derived.Test.YthpbpdnlnmldeaaKm7
import Derived.Test.YthpbpdnlnmldeaaKh7
import Derived.Test.YthpbpdnlnmldeaaIm
import Derived.StillTailTactics
import Derived.Deep.Cut
import Derived.IntWalk
namespace Go.Proofs.Ythpbpdnlnmldeaa
open Go.RowKit

/-- the places around a place, those before the step k, q -/
def Dn (y x k q : Nat) : Nat → Nat → Prop := fun a b => (a + 1 < y + k ∨ (a + 1 = y + k ∧ b + 1 < x + q)) ∧ Adj y x a b
theorem Dfs.next {f g : Nat → Nat → Int} {y x k q : Nat} (h : Dfs f g y x (Dn y x k q)) (h1 : ∀ a b, a + 1 = y + k → b + 1 = x + q → g a b ≠ 1) : Dfs f g y x (Dn y x k (q + 1)) :=
  ⟨h.only, h.start, h.shut, fun i j d => by
    obtain ⟨d1, d2⟩ := d
    by_cases c : i + 1 = y + k ∧ j + 1 = x + q
    · exact h1 i j c.1 c.2
    · exact h.done i j ⟨by omega, d2⟩⟩
theorem Dfs.row {f g : Nat → Nat → Int} {y x k : Nat} (h : Dfs f g y x (Dn y x k 3)) : Dfs f g y x (Dn y x (k + 1) 0) :=
  ⟨h.only, h.start, h.shut, fun i j d => by
    obtain ⟨d1, d2⟩ := d
    have d3 := d2
    unfold Adj at d3
    exact h.done i j ⟨by omega, d2⟩⟩
theorem Dfs.end3 {f g : Nat → Nat → Int} {y x : Nat} (h : Dfs f g y x (Dn y x 3 0)) : CutIs f g y x := h.fin fun i j a => by
  have a2 := a
  unfold Adj at a2
  exact .inl ⟨by omega, a⟩
theorem Dfs.zero3 {f : Nat → Nat → Int} {y x : Nat} (h1 : f y x = 1) : Dfs f (upd f y x 0) y x (Dn y x 0 0) := Dfs.init h1 fun i j d => by
  obtain ⟨d1, d2⟩ := d
  unfold Adj at d2
  omega
theorem pxI_place {g : Nat → Nat → Int} {n m y x k q a b : Nat} (ho : OutF g n m) (ha : a + 1 = y + k) (hb : b + 1 = x + q) : pxI g n m ((y : Int) - 1 + k) ((x : Int) - 1 + q) = g a b := by
  have e1 : ((y : Int) - 1 + k).toNat = a := by omega
  have e2 : ((x : Int) - 1 + q).toNat = b := by omega
  unfold pxI
  rw [e1, e2]
  by_cases c : a < n ∧ b < m
  · rw [if_pos (by omega)]
  · rw [if_neg (by omega), ho a b (by omega)]
theorem pxI_one {g : Nat → Nat → Int} {n m : Nat} {I J : Int} (h : pxI g n m I J = 1) : ∃ A B : Nat, I = A ∧ J = B ∧ A < n ∧ B < m ∧ g A B = 1 := by
  unfold pxI at h
  by_cases c : (0 ≤ I ∧ I < n) ∧ (0 ≤ J ∧ J < m)
  · rw [if_pos c] at h
    exact ⟨I.toNat, J.toNat, by omega, by omega, by omega, by omega, h⟩
  · rw [if_neg c] at h; omega
def FloodTo (f : Nat → Nat → Int) (y x : Nat) (base top : Nat) (v : Value) (n m : Nat) (w : World) (e : Ending) (w' : World) : Prop :=
  (∃ u, e = .returned u) ∧ ∃ g, CutIs f g y x ∧ OwnLL w' base top v (gridOf n m g) ∧ Below base w w'
set_option maxHeartbeats 1000000 in
theorem s_flood (base top n c m : Nat) (a : Option Addr) (hn : n ≤ 24) (hm : m ≤ 24) : ∀ (N : Nat) (w : World) (f : Nat → Nat → Int) (y x : Nat), OwnLL w base top (.slice a n c) (gridOf n m f) → base ≤ w.heap.size → (∀ i j, f i j = 0 ∨ f i j = 1) → OutF f n m → y < n → x < m → f y x = 1 → bs f 0 n 0 m ≤ N →
    Calls Try.prog 52 #[.slice a n c, .int .i64 y, .int .i64 x] w fun e w' => FloodTo f y x base top (.slice a n c) n m w e w' := by
  intro N
  induction N with
  | zero =>
    intro w f y x _ _ hb _ hy hx h1 hN
    have := (bs_pos (f := f) (y0 := 0) (ny := n) (x0 := 0) (nx := m) (fun i j _ _ => by have := hb (0 + i) (0 + j); omega)).2 ⟨y, x, hy, hx, by rw [Nat.zero_add, Nat.zero_add, h1]; omega⟩
    omega
  | succ N ih =>
    intro w f y x hO hs hb ho hy hx h1 hN
    have IH := Lib.hid ih
    have HB := Lib.hid hb
    have HOUT := keptI ho
    have H1 := Lib.hid h1
    obtain ⟨_, g1, b1, d1, ha1, hk1, hk2, k1, k2, k3, k4, k5, kset⟩ := hO.dot hy hx
    subst ha1
    obtain ⟨ks1, ks2⟩ := kset 0
    obtain ⟨wS, hwS⟩ : ∃ wS, w.setCell ⟨b1, x, none⟩ (.int .i64 0) = wS := ⟨_, rfl⟩
    have HS1 : Hid (OwnLL wS base top (.slice (some ⟨g1, 0, none⟩) n c) (gridOf n m (upd f y x 0))) := by rw [← hwS]; exact ks1
    have HBS : Hid (Below base w wS) := by rw [← hwS]; exact (Below.refl _ _).setCell (p := ⟨b1, x, none⟩) hk1 _
    have HWS := Lib.hid hwS
    have HN := Lib.hid hN
    have p1 : (0 : Int) ≤ (y : Int) := by omega
    have p2 : (y : Int) < (n : Int) := by omega
    have p3 : (0 : Int) ≤ (x : Int) := by omega
    have p4 : (x : Int) < (m : Int) := by omega
    rw [h1] at k2
    clear ks1 ks2 kset hO hwS ih hb ho hN
    go_enter Try.func52, Try.ntmps52
    go_upto_region 1 with (fail)
    change Code.wp _ _ _ _ (w.setCell ⟨b1, x, none⟩ (.int .i64 0))
    rw [HWS.out]
    have u1 : IntKind.i64.wrap ((y : Int) - 1) = (y : Int) - 1 := IntWalk.i64_in _ (by omega)
    have u2 : IntKind.i64.wrap ((x : Int) - 1) = (x : Int) - 1 := IntWalk.i64_in _ (by omega)
    have u3 : IntKind.i64.wrap ((y : Int) + 1) = (y : Int) + 1 := IntWalk.i64_in _ (by omega)
    have u4 : IntKind.i64.wrap ((x : Int) + 1) = (x : Int) + 1 := IntWalk.i64_in _ (by omega)
    clear k1 k2 k3 k4 k5 HWS
    go_wp2
    go_loopw [6] (fun i wr => ∃ (k : Nat) (g : Nat → Nat → Int), k ≤ 3 ∧ i = .int .i64 ((y : Int) - 1 + k) ∧ Hid (Dfs f g y x (Dn y x k 0)) ∧ Hid (OwnLL wr base top (.slice (some ⟨g1, 0, none⟩) n c) (gridOf n m g)) ∧ Hid (Below base w wr)) (fun i _ => ((y : Int) + 2 - intOf i).toNat)
    case atStart => exact ⟨0, _, by omega, by simp, Dfs.zero3 H1.out, HS1, HBS⟩
    case round =>
      clear HS1 HBS
      obtain ⟨k, g, hk, rfl, HD, HO, HBW⟩ := hrel
      obtain ⟨I, hI⟩ : ∃ I, (y : Int) - 1 + k = I := ⟨_, rfl⟩
      have HI := Lib.hid hI
      rw [hI]
      by_cases hk3 : k < 3
      · have d1 : decide (I ≤ (y : Int) + 1) = true := decide_eq_true (by omega)
        have u5 : IntKind.i64.wrap (I + 1) = I + 1 := IntWalk.i64_in _ (by omega)
        have hI1 : -1 ≤ I := by omega
        have hI2 : I ≤ 25 := by omega
        clear hI
        go_wp2
        go_loopw [7] (fun j wx => ∃ (q : Nat) (g : Nat → Nat → Int), q ≤ 3 ∧ j = .int .i64 ((x : Int) - 1 + q) ∧ Hid (Dfs f g y x (Dn y x k q)) ∧ Hid (OwnLL wx base top (.slice (some ⟨g1, 0, none⟩) n c) (gridOf n m g)) ∧ Hid (Below base w wx)) (fun j _ => ((x : Int) + 2 - intOf j).toNat)
        case atStart => exact ⟨0, g, by omega, by simp, HD, HO, HBW⟩
        case round =>
          clear HD HO HBW
          obtain ⟨q, g, hq, rfl, HD, HO, HBW⟩ := hrel
          obtain ⟨J, hJ⟩ : ∃ J, (x : Int) - 1 + q = J := ⟨_, rfl⟩
          have HJ := Lib.hid hJ
          rw [hJ]
          by_cases hq3 : q < 3
          · have d2 : decide (J ≤ (x : Int) + 1) = true := decide_eq_true (by omega)
            have u6 : IntKind.i64.wrap (J + 1) = J + 1 := IntWalk.i64_in _ (by omega)
            have hOUTg : OutF g n m := fun i j h => HD.out.zero (HOUT.out i j h)
            have HPX : Hid (∀ a b, a + 1 = y + k → b + 1 = x + q → pxI g n m I J = g a b) := fun a b h2 h3 => by rw [← HI.out, ← HJ.out]; exact pxI_place hOUTg h2 h3
            have HPIC := keptI (HO.out.pic (by omega) (by omega)).2
            clear hJ
            go_wp2_with fail
            refine (s_at wr _ n c m g I J HPIC.out (by omega) (by omega)).mono ?_
            rintro e w6 ⟨rfl, rfl⟩
            obtain ⟨r, hr⟩ : ∃ r, pxI g n m I J = r := ⟨_, rfl⟩
            rw [hr] at HPX ⊢
            by_cases hr1 : r = 1
            · subst hr1
              obtain ⟨A, B, rfl, rfl, hA, hBm, hg1⟩ := pxI_one hr
              have hN2 := HD.out.fewer HB.out H1.out hy hx (n := n) (m := m)
              have hADJ : Adj y x A B := by have := HI.out; have := HJ.out; unfold Adj; omega
              have HAB := keptI (And.intro hADJ hg1)
              clear hr
              go_wp2_with fail
              refine (IH.out wr g A B HO.out (Nat.le_trans hs HBW.out.size) (HD.out.bin HB.out) hOUTg hA hBm hg1 (by have := HN.out; omega)).mono ?_
              rintro e w6 ⟨⟨u, rfl⟩, g', hcut, hO6, hb6⟩
              have HD6 : Hid (Dfs f g' y x (Dn y x k (q + 1))) := HD.out.cut HAB.out.1 HAB.out.2 hcut fun i j d => by
                obtain ⟨d3, d4⟩ := d
                have := HI.out; have := HJ.out
                by_cases cc : i = A ∧ j = B
                · exact .inr cc
                · exact .inl ⟨by omega, d4⟩
              have HO6 := keptI hO6
              have HB6 := keptI (HBW.out.trans hb6)
              clear hcut hO6 hb6 hN2 hg1
              go_wp2
              go_roundw
              case rel => exact ⟨q + 1, g', by omega, by have := HJ.out; first | (congr 1; omega) | (simp; omega), HD6, HO6, HB6⟩
              case measure => have := HJ.out; simp [intOf]; omega
            · have d5 : (r == 1) = false := by simp; exact hr1
              have HD6 : Hid (Dfs f g y x (Dn y x k (q + 1))) := HD.out.next fun a b h2 h3 => by rw [← HPX.out a b h2 h3]; exact hr1
              clear hr
              go_wp2
              go_roundw
              case rel => exact ⟨q + 1, g, by omega, by have := HJ.out; first | (congr 1; omega) | (simp; omega), HD6, HO, HBW⟩
              case measure => have := HJ.out; simp [intOf]; omega
          · have d2 : decide (J ≤ (x : Int) + 1) = false := decide_eq_false (by omega)
            obtain rfl : q = 3 := by omega
            have HD6 : Hid (Dfs f g y x (Dn y x (k + 1) 0)) := HD.out.row
            clear hJ
            go_wp2
            go_roundw
            case rel => exact ⟨k + 1, g, by omega, by have := HI.out; first | (congr 1; omega) | (simp; omega), HD6, HO, HBW⟩
            case measure => have := HI.out; simp [intOf]; omega
      · have d1 : decide (I ≤ (y : Int) + 1) = false := decide_eq_false (by omega)
        obtain rfl : k = 3 := by omega
        clear hI
        go_wp2
        go_end0
        exact ⟨⟨_, rfl⟩, g, HD.out.end3, HO.out, HBW.out⟩
end Go.Proofs.Ythpbpdnlnmldeaa
