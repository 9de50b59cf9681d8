
/- Shrink of the program. -/
import Derived.Test.YtmmgeplhaooknaaIi
import Derived.Test.YtmmgeplhaooknaaIh
import Derived.Deep.RegionHeld3
namespace Go.Proofs.Ytmmgeplhaooknaa
open Go.RowKit

set_option maxHeartbeats 4000000 in
theorem i_Shrink (w : World) (v : Value) (L : List (List Int)) (kk : Int) (R : List (List Int)) (hx : ListsAt w v L) (hR : ShrinkIs L kk R) :
    Calls Try.prog 34 #[v, .int .i64 kk] w fun e w' => PlOut R w e w' := by
  have HX := keptI hx
  have HR := keptI hR
  obtain ⟨a, n, cp, rfl, hn, x1, x2, _⟩ := hx.partsI
  clear hx hR hn
  go_enter Try.func34, Try.ntmps34
  go_wp2_with fail
  refine (i_ValidPicture w _ L HX.out).mono ?_
  rintro e w0 ⟨b, rfl, rfl, hbb⟩
  cases b with
  | false =>
    have HZ : Hid (R = []) := HR.out.no fun h => by simpa using hbb.2 h.1
    clear hbb
    go_wp2
    go_ret
    exact plOut_nil HZ.out (Below.refl _ _)
  | true =>
    by_cases hK : 1 ≤ kk ∧ kk ≤ 6
    · have HOK : Hid (BlockOk L 24 24 1) := keptI (hbb.1 rfl)
      have HZ : Hid (R = _) := HR.out.yes ⟨HOK.out, hK⟩
      obtain ⟨hn, hp⟩ := HOK.out.pic HX.out
      obtain ⟨hd1, hd2, hd3, hd4⟩ := HOK.out.bd
      have HN := Lib.hid hn
      rw [← hn] at hd1 hd2
      obtain ⟨m, hm⟩ : ∃ m, wdt L = m := ⟨_, rfl⟩
      rw [hm] at hd3 hd4 hp
      have HM := Lib.hid hm
      obtain ⟨K, rfl⟩ : ∃ K : Nat, kk = (K : Int) := ⟨kk.toNat, by omega⟩
      obtain ⟨f, hf⟩ : ∃ f : Nat → Nat → Int, f = shrF (px L) n m K := ⟨_, rfl⟩
      have HF := Lib.hid hf
      obtain ⟨h, hh⟩ : ∃ h, ceilD n K = h := ⟨_, rfl⟩
      obtain ⟨h2, hh2⟩ : ∃ h2, ceilD m K = h2 := ⟨_, rfl⟩
      have HZ : Hid (R = gridOf h h2 f) := by show _ = _; rw [HZ.out, ← HN.out, HM.out, hf, Int.toNat_natCast, hh, hh2]
      have HH : Hid (∀ Y, Y < h ↔ Y * K < n) := fun Y => by rw [← hh]; exact ceilD_lt (by omega)
      have HH2 : Hid (∀ Y, Y < h2 ↔ Y * K < m) := fun Y => by rw [← hh2]; exact ceilD_lt (by omega)
      have hhb : h ≤ n := by rw [← hh]; exact ceilD_le (by omega)
      have hhb2 : h2 ≤ m := by rw [← hh2]; exact ceilD_le (by omega)
      have hp1 : 1 ≤ h := by rw [← hh]; exact ceilD_pos (by omega) hd1
      have hp2 : 1 ≤ h2 := by rw [← hh2]; exact ceilD_pos (by omega) hd3
      have HP := keptI hp
      obtain ⟨_, _, g, off, rfl, _⟩ := hp
      obtain ⟨_, _, b0, o0, d0, e0, c00, _, _, _⟩ := HP.out.row (y := 0) hd1
      injection e0 with e0
      injection e0 with e0 e0'
      subst e0 e0'
      rw [Nat.add_zero] at c00
      have HC : Hid (∀ wy, Below w.heap.size w wy → wy.cell? ⟨g, off, none⟩ = some (.slice (some ⟨b0, o0, none⟩) m d0)) := fun wy hb => (hb.cell (World.block_lt_of_cell? w _ c00)).trans c00
      have HPn : Hid (∀ wy, Calls Try.prog 49 #[.int .i64 (n : Int), .int .i64 (K : Int)] wy fun e w' => e = .returned (.int .i64 (h : Int)) ∧ wy = w') := fun wy => by have := i_piecesOf n K wy (by omega) (by omega) (by omega); rw [hh] at this; exact this
      have HPm : Hid (∀ wy, Calls Try.prog 49 #[.int .i64 (m : Int), .int .i64 (K : Int)] wy fun e w' => e = .returned (.int .i64 (h2 : Int)) ∧ wy = w') := fun wy => by have := i_piecesOf m K wy (by omega) (by omega) (by omega); rw [hh2] at this; exact this
      have HZB : Hid (∀ wy, Calls Try.prog 48 #[.int .i64 (h : Int), .int .i64 (h2 : Int)] wy fun e w' => PlOut (gridOf h h2 (upTo f 0 0)) wy e w') := fun wy => by rw [up_none]; exact i_zeroBlock h h2 wy (by omega) (by omega)
      have q0 : (0 : Int) < (n : Int) := by omega
      have q00 : 0 < n := by omega
      obtain ⟨hK1, hK2⟩ := hK
      clear hbb hf hn hm hh hh2
      go_wp2_with fail
      refine (i_within_yes (K : Int) 1 6 _ hK1 hK2).mono ?_
      rintro e w' ⟨rfl, rfl⟩
      go_wp2_with fail
      go_region_held3 (fun wy => wy.cell? ⟨g, off, none⟩ = some (.slice (some ⟨b0, o0, none⟩) m d0)) (first | assumption | exact HC.out _ (Below.refl _ _).drew | exact HC.out _ ((Below.refl _ _).drew.trans hb1)) (first | (go_at_call 49; (with_reducible refine (HPn.out _).mono ?_); rintro e w' ⟨rfl, rfl⟩) | (go_at_call 49; (with_reducible refine (HPm.out _).mono ?_); rintro e w' ⟨rfl, rfl⟩) | (go_at_call 48; (with_reducible refine (HZB.out _).mono ?_); rintro e w1 ⟨a1, n1, c1, rfl, hO1, hb1⟩))
      all_goals
        have hB1 : Below w.heap.size w w1 := (Below.refl _ _).drew.trans hb1
        obtain ⟨hn1, g1, _, _, ha1, _⟩ := hO1.dot (y := 0) (x := 0) hp1 hp2
        obtain rfl : n1 = h := hn1
        subst ha1
        have HO1 : Hid (OwnLL w1 w.heap.size w1.heap.size (.slice (some ⟨g1, 0, none⟩) n1 c1) (gridOf n1 h2 (upTo f 0 0))) := hO1
        have HB1 := keptI hB1
        have hs1 := hB1.size
        clear hO1 hb1 hB1
        go_wp2
        go_loopw [31] (fun i wr => ∃ k : Nat, k ≤ n1 ∧ i = .int .i64 k ∧ OwnLL wr w.heap.size w1.heap.size (.slice (some ⟨g1, 0, none⟩) n1 c1) (gridOf n1 h2 (upTo f k 0)) ∧ Below w.heap.size w wr) (fun i _ => n1 - (intOf i).toNat)
        case atStart => exact ⟨0, Nat.zero_le _, rfl, HO1.out, HB1.out⟩
        case round =>
          clear HO1 HB1
          obtain ⟨Y, hY, rfl, hO, hB⟩ := hrel
          rename World => wo
          have hsz := hB.size
          have HO := keptI hO
          have HB := keptI hB
          by_cases hlt : Y < n1
          · obtain ⟨_, g2, b2, d2, e2, hb1, hb2, k1, _⟩ := hO.dot hlt hp2
            injection e2 with e2
            injection e2 with e2 _
            subst e2
            have q1 : (0 : Int) ≤ (Y : Int) := by omega
            have q2 : (Y : Int) < (n1 : Int) := by omega
            obtain ⟨YK, hYK⟩ : ∃ YK, Y * K = YK := ⟨_, rfl⟩
            have hYKn : YK < n := by rw [← hYK, ← HH.out]; exact hlt
            have HYK := Lib.hid hYK
            clear hO hB hYK
            go_wp2
            clear k1
            go_loopw [39] (fun j wx => ∃ q : Nat, q ≤ h2 ∧ j = .int .i64 q ∧ OwnLL wx w.heap.size w1.heap.size (.slice (some ⟨g1, 0, none⟩) n1 c1) (gridOf n1 h2 (upTo f Y q)) ∧ Below w.heap.size w wx) (fun j _ => h2 - (intOf j).toNat)
            case atStart => exact ⟨0, Nat.zero_le _, rfl, HO.out, HB.out⟩
            case round =>
              clear HO HB
              obtain ⟨X, hX, rfl, hO, hb⟩ := hrel
              have HO := keptI hO
              have HB := keptI hb
              by_cases hqm : X < h2
              · obtain ⟨XK, hXK⟩ : ∃ XK, X * K = XK := ⟨_, rfl⟩
                have hXKm : XK < m := by rw [← hXK, ← HH2.out]; exact hqm
                have p1 : (Y : Int) * (K : Int) = (YK : Int) := by rw [← HYK.out]; simp
                have p2 : (X : Int) * (K : Int) = (XK : Int) := by rw [← hXK]; simp
                obtain ⟨A, hA⟩ : ∃ A, within n YK K * within m XK K = A := ⟨_, rfl⟩
                obtain ⟨s, hs⟩ : ∃ s, bs (px L) YK (within n YK K) XK (within m XK K) = s := ⟨_, rfl⟩
                have hFV : f Y X = if (A : Int) ≤ 2 * s then 1 else 0 := by
                  rw [HF.out]
                  show (if ((within n (Y * K) K * within m (X * K) K : Nat) : Int) ≤ 2 * bs (px L) (Y * K) (within n (Y * K) K) (X * K) (within m (X * K) K) then (1 : Int) else 0) = _
                  rw [HYK.out, hXK, hA, hs]
                have hA36 : A ≤ 36 := by
                  rw [← hA]
                  exact Nat.le_trans (Nat.mul_le_mul (Nat.le_trans (within_le _ _ _) (by omega : K ≤ 6)) (Nat.le_trans (within_le _ _ _) (by omega : K ≤ 6))) (by omega)
                have hsb := bs_bd (f := px L) (y0 := YK) (ny := within n YK K) (x0 := XK) (nx := within m XK K) (fun i j _ _ => by have := HOK.out.bin (YK + i) (XK + j); omega)
                have hsA : 0 ≤ s ∧ s ≤ 36 := by
                  rw [hs] at hsb
                  have e : ((within n YK K : Nat) : Int) * ((within m XK K : Nat) : Int) = (A : Int) := by rw [← hA]; simp
                  rw [e] at hsb
                  omega
                obtain ⟨hs1', hs2'⟩ := hsA
                have HDI : Hid (Calls Try.prog 61 #[.slice (some ⟨g, off, none⟩) n cp, .int .i64 (YK : Int), .int .i64 (XK : Int), .int .i64 (K : Int)] wr fun e w' => e = .returned (.tuple #[.int .i64 s, .int .i64 (A : Int)]) ∧ wr = w') :=
                  (i_dotsIn wr _ n cp m (px L) YK XK K (HP.out.below hb) (fun y x _ _ => HOK.out.bin y x) (by omega) (by omega) (by omega) (by omega) (by omega)).mono fun _ _ ⟨h1, h2⟩ => ⟨by rw [h1, span_nat, span_nat, Int.toNat_natCast, Int.toNat_natCast, hA, hs], h2⟩
                have HFV := keptI hFV
                obtain ⟨_, g2, b2, d2, e2, hb1, hb2, k1, k2, k3, k4, k5, kset⟩ := hO.dot hlt hqm
                injection e2 with e2
                injection e2 with e2 _
                subst e2
                obtain ⟨u, hu⟩ : ∃ u, upTo f Y X Y X = u := ⟨_, rfl⟩
                rw [hu] at k2
                by_cases hbig : (A : Int) ≤ 2 * s
                · obtain ⟨ks1, ks2⟩ := kset 1
                  have hf1 : f Y X = 1 := by rw [hFV, if_pos hbig]
                  have HS1 : Hid (OwnLL (wr.setCell ⟨b2, X, none⟩ (.int .i64 1)) w.heap.size w1.heap.size (.slice (some ⟨g1, 0, none⟩) n1 c1) (gridOf n1 h2 (upTo f Y (X + 1)))) := by
                    show OwnLL _ _ _ _ _
                    rw [← up_upd, hf1]; exact ks1
                  have HS2 : Hid (Below w.heap.size w (wr.setCell ⟨b2, X, none⟩ (.int .i64 1))) := hb.setCell (p := ⟨b2, X, none⟩) hb1 _
                  have e3 : decide ((A : Int) ≤ 2 * s) = true := decide_eq_true hbig
                  have q3 : (0 : Int) ≤ (X : Int) := by omega
                  have q4 : (X : Int) < (h2 : Int) := by omega
                  clear hXK hA hs hFV hsb hO hb kset ks1 ks2 hu HO HB hf1
                  go_wp2_with fail
                  refine HDI.out.mono ?_
                  rintro e w' ⟨rfl, rfl⟩
                  go_wp2
                  go_roundw
                  case rel => exact ⟨X + 1, by omega, by go_num, HS1.out, HS2.out⟩
                  case measure => simp [intOf]; omega
                · have hf1 : f Y X = 0 := by rw [hFV, if_neg hbig]
                  have HS1 : Hid (OwnLL wr w.heap.size w1.heap.size (.slice (some ⟨g1, 0, none⟩) n1 c1) (gridOf n1 h2 (upTo f Y (X + 1)))) := by
                    show OwnLL _ _ _ _ _
                    rw [up_skip hf1]; exact hO
                  have e3 : decide ((A : Int) ≤ 2 * s) = false := decide_eq_false hbig
                  have q3 : (0 : Int) ≤ (X : Int) := by omega
                  have q4 : (X : Int) < (h2 : Int) := by omega
                  clear hXK hA hs hFV hsb hO hb kset hu HO hf1
                  go_wp2_with fail
                  refine HDI.out.mono ?_
                  rintro e w' ⟨rfl, rfl⟩
                  go_wp2
                  go_roundw
                  case rel => exact ⟨X + 1, by omega, by go_num, HS1.out, HB.out⟩
                  case measure => simp [intOf]; omega
              · obtain rfl : X = h2 := by omega
                have HS1 : Hid (OwnLL wr w.heap.size w1.heap.size (.slice (some ⟨g1, 0, none⟩) n1 c1) (gridOf n1 X (upTo f (Y + 1) 0))) := by
                  show OwnLL _ _ _ _ _
                  rw [← up_row]; exact HO.out
                clear hO hb
                go_wp2
                go_roundw
                case rel => exact ⟨Y + 1, by omega, by go_num, HS1.out, HB.out⟩
                case measure => simp [intOf]; omega
          · obtain rfl : Y = n1 := by omega
            have HE : Hid (OwnLL wo w.heap.size wo.heap.size (.slice (some ⟨g1, 0, none⟩) Y c1) R) := by
              show OwnLL _ _ _ _ _
              rw [HZ.out, ← up_all]; exact hO.top hO.1 (Nat.le_refl _)
            clear hB hO
            go_wp2
            go_ret
            exact ⟨_, _, _, rfl, HE.out, HB.out⟩
    · have HZ : Hid (R = []) := HR.out.no fun h => hK h.2
      have hK' : kk < 1 ∨ 6 < kk := by omega
      clear hbb hK
      go_wp2_with fail
      refine (i_within_no kk 1 6 _ hK').mono ?_
      rintro e w' ⟨rfl, rfl⟩
      go_wp2
      go_ret
      exact plOut_nil HZ.out (Below.refl _ _)
end Go.Proofs.Ytmmgeplhaooknaa
