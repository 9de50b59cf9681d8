
/- P133: squares are light or dark. -/
import Derived.Test.YtmmgeplhaooknaaKc7
import Derived.Deep.QuietTactic
import Derived.BigQuiet
import Derived.IntWalk
namespace Go.Proofs.Ytmmgeplhaooknaa
open Go.RowKit

theorem shr_invert {P R I Q : List (List Int)} {k : Nat} (h : ShrinkIs P (k : Int) R) (hne : R.length ≠ 0) (hi : InvertIs P I) (hq : ShrinkIs I (k : Int) Q) :
    BlockOk Q 24 24 1 ∧ Q.length = R.length ∧ wdt Q = wdt R ∧ ∀ y x A, y < R.length → x < wdt R → within P.length (y * k) k * within (wdt P) (x * k) k = A → px R y x + px Q y x ≠ 0 ∧ (px R y x + px Q y x = 2 → A % 2 = 0) := by
  obtain ⟨hb, hk, hbR, hl, hw, _, hg⟩ := shrink_facts h hne
  have hd := hb.bd
  have hI := hi.yes hb
  have hIne : I.length ≠ 0 := by rw [hI, gridOf_len]; omega
  obtain ⟨_, hIok, hIl, hIw, _, _⟩ := invert_back hi hIne
  have hQ := hq.yes ⟨hIok, by omega, by omega⟩
  have hQne : Q.length ≠ 0 := by rw [hQ, gridOf_len, Int.toNat_natCast]; have := ceilD_pos (n := I.length) (k := k) hk.1 (by omega); omega
  obtain ⟨_, _, hbQ, hlQ, hwQ, _, hgQ⟩ := shrink_facts hq hQne
  refine ⟨hbQ, by rw [hlQ, hIl, hl], by rw [hwQ, hIw, hw], fun y x A hy hx hA => ?_⟩
  rw [hl] at hy
  rw [hw] at hx
  have e1 : px R y x = shrF (px P) P.length (wdt P) k y x := by
    conv => lhs; rw [hg]
    rw [px_grid, if_pos ⟨hy, hx⟩]
  have e2 : px Q y x = shrF (fun y x => 1 - px P y x) P.length (wdt P) k y x := by
    conv => lhs; rw [hgQ]
    rw [hIl, hIw, px_grid, if_pos ⟨hy, hx⟩]
    refine shr_congr fun y x hy hx => ?_
    conv => lhs; rw [hI]
    rw [px_grid, if_pos ⟨hy, hx⟩]
  rw [e1, e2]
  exact shr_inv hA
set_option maxHeartbeats 4000000 in
theorem shrinkInvert_walk (a : Option Addr) (len cap : Nat) (zs : List Int) (w : World) (h : RowIn .u8 w a len cap zs) :
    Calls Try.prog 10 #[.slice a len cap] w fun e w' => e = .returned (.bool true) ∧ Below w.heap.size w w' := by
  have hlen : len ≤ 9223372036854775807 := by
    obtain ⟨_, h2, h3⟩ := bytesAt_of_row h; unfold maxLen at h3; omega
  by_cases hbig : len ≤ 1048576
  · go_enter Try.func10, Try.ntmps10
    go_wp2_with fail
    refine (drawShrink_any w a len cap zs h).mono ?_
    rintro e w1 ⟨a1, n1, c1, P, k, hk25, rfl, hP1, hbd, hB1⟩
    clear h
    have HP1 := keptI hP1
    have HBD := keptI hbd
    have HB1 := keptI hB1
    obtain ⟨R, hR, hRS⟩ := Shrink_ex P (k : Int)
    have HR := keptI hR
    clear hP1 hbd hB1 hR hRS
    go_wp2_with fail
    refine (i_Shrink w1 _ P (k : Int) R HP1.out HR.out).mono ?_
    rintro e w2 ⟨a2, n2, c2, rfl, hO2, hb2⟩
    have HO2 := keptI hO2
    have HP2 := keptI (HP1.out.below hb2)
    have HB2 := keptI (below_next HB1.out hb2)
    clear hO2 hb2 HP1 HB1
    go_wp2_with fail
    refine (s_Shrink w2 _ P (k : Int) R HP2.out HR.out).mono ?_
    rintro e w3 ⟨a3, n3, c3, rfl, hO3, hb3⟩
    have HS3 := keptI hO3
    have HO3 := keptI (HO2.out.below hb3 (Nat.le_refl _))
    have HP3 := keptI (HP2.out.below hb3)
    have HB3 := keptI (below_next HB2.out hb3)
    have hs3 := hb3.size
    clear hO3 hb3 HP2 HB2 HO2
    go_wp2_with fail
    refine (equalLists_sameI w3 _ _ R HO3.out.ls.at HS3.out).mono ?_
    rintro e w4 ⟨rfl, hb4⟩
    have HO4 := keptI (HO3.out.below hb4 hs3)
    have HP4 := keptI (HP3.out.below hb4)
    have HB4 := keptI (below_next HB3.out hb4)
    have hn2 : R.length = n2 := by
      obtain ⟨_, _, e, _⟩ := HO4.out.ls.at
      injection e with _ e2 _
      exact e2.symm
    have hn1 : P.length = n1 := by
      obtain ⟨_, _, e, _⟩ := HP4.out
      injection e with _ e2 _
      exact e2.symm
    have HN2 := Lib.hid hn2
    have HN1 := Lib.hid hn1
    clear hb4 HP3 HB3 HO3 HS3 hn2 hn1 hs3
    by_cases h0 : n2 = 0
    · subst h0
      go_wp2_with fail
      refine (s_Shrink w4 _ P (k : Int) R HP4.out HR.out).mono ?_
      rintro e w5 ⟨a5, n5, c5, rfl, hO5, hb5⟩
      have HB5 := keptI (below_next HB4.out hb5)
      have HO5 := keptI (HO4.out.ls.at.below hb5)
      have HS5 := keptI hO5
      clear hO5 hb5
      go_wp2_with fail
      refine (equalLists_sameI w5 _ _ R HO5.out HS5.out).mono ?_
      rintro e w6 ⟨rfl, hb6⟩
      have HB6 := keptI (below_next HB5.out hb6)
      clear hb6
      go_wp2
      go_ret
      exact ⟨rfl, HB6.out⟩
    · have d0 : ((n2 : Int) == 0) = false := by simp; omega
      have HNE : Hid (R.length ≠ 0) := by show R.length ≠ 0; rw [HN2.out]; exact h0
      have HF := keptI (shrink_facts HR.out HNE.out)
      have hpic := (HF.out.1).pic HP4.out
      obtain ⟨m, hm⟩ : ∃ m, wdt P = m := ⟨_, rfl⟩
      rw [hm] at hpic
      have hd := (HF.out.1).bd
      rw [hm, HN1.out] at hd
      obtain ⟨hd1, hd2, hd3, hd4⟩ := hd
      have HM := Lib.hid hm
      have HPIC := keptI hpic.2
      obtain ⟨g, off, b0, o0, d0, rfl, c00, _, _, _⟩ := hpic.2.row (y := 0) hd1
      rw [Nat.add_zero] at c00
      have HC : Hid (∀ wy, Below w4.heap.size w4 wy → wy.cell? ⟨g, off, none⟩ = some (.slice (some ⟨b0, o0, none⟩) m d0)) := fun wy hb => (hb.cell (World.block_lt_of_cell? w4 _ c00)).trans c00
      have q0 : (0 : Int) < (n1 : Int) := by omega
      have q00 : 0 < n1 := by omega
      clear hpic hm
      have hpic2 := (HF.out.2.2.1).pic HO4.out.ls.at
      obtain ⟨m2, hm2⟩ : ∃ m2, wdt R = m2 := ⟨_, rfl⟩
      rw [hm2] at hpic2
      have hdd := (HF.out.2.2.1).bd
      rw [hm2, HN2.out] at hdd
      obtain ⟨hdd1, hdd2, hdd3, hdd4⟩ := hdd
      have HM2 := Lib.hid hm2
      have HPIC2 := keptI hpic2.2
      obtain ⟨g2, off2, b2, o2, d2, rfl, c20, _, _, _⟩ := hpic2.2.row (y := 0) hdd1
      rw [Nat.add_zero] at c20
      have HC2 : Hid (∀ wy, Below w4.heap.size w4 wy → wy.cell? ⟨g2, off2, none⟩ = some (.slice (some ⟨b2, o2, none⟩) m2 d2)) := fun wy hb => (hb.cell (World.block_lt_of_cell? w4 _ c20)).trans c20
      have q20 : (0 : Int) < (n2 : Int) := by omega
      have q200 : 0 < n2 := by omega
      clear hpic2 hm2
      obtain ⟨hk1, hk2⟩ := HF.out.2.1
      obtain ⟨I, hI, _⟩ := Invert_ex P
      obtain ⟨Q, hQ, _⟩ := Shrink_ex I (k : Int)
      have HI := keptI hI
      have HQ := keptI hQ
      have HX := keptI (shr_invert HR.out HNE.out hI hQ)
      clear hI hQ
      go_wp2_with fail
      refine (i_Invert w4 _ P I HP4.out HI.out).mono ?_
      rintro e w5 ⟨a5, n5, c5, rfl, hO5, hb5⟩
      have HO5 := keptI hO5.ls.at
      have HB45 := keptI hb5
      clear hO5 hb5
      go_wp2_with fail
      refine (i_Shrink w5 _ I (k : Int) Q HO5.out HQ.out).mono ?_
      rintro e w6 ⟨a6, n6, c6, rfl, hO6, hb6⟩
      have HB46 := keptI (below_next HB45.out hb6)
      have hpicQ := HX.out.1.pic hO6.ls.at
      rw [HX.out.2.1, HX.out.2.2.1, HN2.out, HM2.out] at hpicQ
      obtain rfl : n6 = n2 := hpicQ.1
      have HPICQ := keptI hpicQ.2
      have HPICR := keptI (HPIC2.out.below HB46.out)
      have HC6 := keptI (HC.out w6 HB46.out)
      obtain ⟨g6, off6, _, _, _, rfl, _⟩ := hpicQ.2.row (y := 0) hdd1
      clear hO6 hb6 hpicQ
      go_wp2
      go_loopw [7] (fun i wr => ∃ y : Nat, y ≤ n6 ∧ i = .int .i64 y ∧ Below w6.heap.size w6 wr) (fun i _ => n6 - (intOf i).toNat)
      case atStart => exact ⟨0, Nat.zero_le _, rfl, Below.refl _ _⟩
      case round =>
        obtain ⟨y, hy, rfl, hb1⟩ := hrel
        have HBy := keptI hb1
        by_cases hlt : y < n6
        · obtain ⟨_, _, bq, oq, dq, e3, cq0, _, _, hcq⟩ := HPICR.out.row hlt
          injection e3 with e3
          injection e3 with e3 e4
          subst e3 e4
          obtain ⟨_, _, bs6, os6, ds6, e5, cs0, _, _, hcs⟩ := HPICQ.out.row hlt
          injection e5 with e5
          injection e5 with e5 e6
          subst e5 e6
          have HCQ0 := keptI cq0
          have HCQ := keptI hcq
          have HCS0 := keptI cs0
          have HCS := keptI hcs
          have p1 : (0 : Int) ≤ (y : Int) := by omega
          have p2 : (y : Int) < (n6 : Int) := by omega
          have cq0 := (hb1.cell (World.block_lt_of_cell? w6 _ cq0)).trans cq0
          clear hcq hcs cs0 hb1
          go_wp2
          clear cq0
          go_loopw [8] (fun j wr => ∃ x : Nat, x ≤ m2 ∧ j = .int .i64 x ∧ Below w6.heap.size w6 wr) (fun j _ => m2 - (intOf j).toNat)
          case atStart => exact ⟨0, Nat.zero_le _, rfl, HBy.out⟩
          case round =>
            obtain ⟨x, hx, rfl, hb2⟩ := hrel
            have HBx := keptI hb2
            have cq0 := (hb2.cell (World.block_lt_of_cell? w6 _ HCQ0.out)).trans HCQ0.out
            by_cases hltx : x < m2
            · have cs0 := (hb2.cell (World.block_lt_of_cell? w6 _ HCS0.out)).trans HCS0.out
              have cq1 := (hb2.cell (World.block_lt_of_cell? w6 _ (HCQ.out x hltx))).trans (HCQ.out x hltx)
              have cs1 := (hb2.cell (World.block_lt_of_cell? w6 _ (HCS.out x hltx))).trans (HCS.out x hltx)
              have c00 := (hb2.cell (World.block_lt_of_cell? w6 _ HC6.out)).trans HC6.out
              obtain ⟨YK, hYK⟩ : ∃ YK, y * k = YK := ⟨_, rfl⟩
              obtain ⟨XK, hXK⟩ : ∃ XK, x * k = XK := ⟨_, rfl⟩
              obtain ⟨ay, hay⟩ : ∃ ay, within n1 YK k = ay := ⟨_, rfl⟩
              obtain ⟨ax, hax⟩ : ∃ ax, within m XK k = ax := ⟨_, rfl⟩
              obtain ⟨A, hA⟩ : ∃ A, ay * ax = A := ⟨_, rfl⟩
              have hYn : YK < n1 := by
                have h1 := HF.out.2.2.2.1
                rw [HN2.out, HN1.out] at h1
                rw [← hYK]; exact (ceilD_lt (by omega)).1 (by rw [← h1]; exact hlt)
              have hXm : XK < m := by
                have h1 := HF.out.2.2.2.2.1
                rw [HM2.out, HM.out] at h1
                rw [← hXK]; exact (ceilD_lt (by omega)).1 (by rw [← h1]; exact hltx)
              have hfx := HX.out.2.2.2 y x A (by rw [HN2.out]; exact hlt) (by rw [HM2.out]; exact hltx) (by rw [HN1.out, HM.out, hYK, hXK, hay, hax, hA])
              obtain ⟨v, hv⟩ : ∃ v, px R y x = v := ⟨_, rfl⟩
              obtain ⟨z, hz⟩ : ∃ z, px Q y x = z := ⟨_, rfl⟩
              have hvb := HF.out.2.2.1.bin y x
              have hzb := HX.out.1.bin y x
              rw [hv] at cq1 hfx hvb
              rw [hz] at cs1 hfx hzb
              have hyk : (y : Int) * (k : Int) = (YK : Int) := by rw [← hYK]; simp
              have hxk : (x : Int) * (k : Int) = (XK : Int) := by rw [← hXK]; simp
              have hyk1 : ((y : Int) + 1) * (k : Int) = ((YK + k : Nat) : Int) := by rw [Int.add_mul, hyk]; simp
              have hxk1 : ((x : Int) + 1) * (k : Int) = ((XK + k : Nat) : Int) := by rw [Int.add_mul, hxk]; simp
              obtain ⟨Y1, hY1⟩ : ∃ Y1, YK + k = Y1 := ⟨_, rfl⟩
              obtain ⟨X1, hX1⟩ : ∃ X1, XK + k = X1 := ⟨_, rfl⟩
              rw [hY1] at hyk1
              rw [hX1] at hxk1
              have hY1b : Y1 ≤ 30 := by omega
              have hX1b : X1 ≤ 30 := by omega
              have hay6 : ay ≤ 6 := by rw [← hay]; have := within_le n1 YK k; omega
              have hax6 : ax ≤ 6 := by rw [← hax]; have := within_le m XK k; omega
              have hA36 : A ≤ 36 := by rw [← hA]; exact Nat.le_trans (Nat.mul_le_mul hay6 hax6) (by omega)
              have hAi : (ay : Int) * (ax : Int) = (A : Int) := by rw [← hA]; simp
              have hsy : (Y1 < n1 → (Y1 : Int) - (YK : Int) = (ay : Int)) ∧ (¬ Y1 < n1 → (n1 : Int) - (YK : Int) = (ay : Int)) := by rw [← hay, ← hY1]; unfold within; omega
              have hsx : (X1 < m → (X1 : Int) - (XK : Int) = (ax : Int)) ∧ (¬ X1 < m → (m : Int) - (XK : Int) = (ax : Int)) := by rw [← hax, ← hX1]; unfold within; omega
              have HSY := keptI hsy
              have HSX := keptI hsx
              obtain ⟨r, hr⟩ : ∃ r, A % 2 = r := ⟨_, rfl⟩
              have tm1 : ((A : Int)).tmod 2 = (r : Int) := by rw [Int.tmod_eq_emod_of_nonneg (by omega), ← hr]; simp
              have tm2 : (A : Int) % 2 = (r : Int) := by rw [← hr]; simp
              have hr0 : v + z = 2 → r = 0 := fun h => by rw [← hr]; exact hfx.2 h
              have hnz := hfx.1
              have u1 : IntKind.i64.wrap (v + z) = v + z := IntWalk.i64_in _ (by omega)
              have u2 : IntKind.i64.wrap (A : Int) = (A : Int) := IntWalk.i64_in _ (by omega)
              have x1 : (v + z == 0) = false := by simp; omega
              have x3 : decide (n6 ≤ y) = false := decide_eq_false (by omega)
              have p3 : (0 : Int) ≤ (x : Int) := by omega
              have p4 : (x : Int) < (m2 : Int) := by omega
              have HR0 := keptI hr0
              clear hYK hXK hay hax hA hv hz hvb hzb hfx hY1 hX1 hsy hsx hr hr0 hnz hb2
              by_cases hs2 : v + z = 2
              all_goals
                first
                  | (have x4 : (v + z == 2) = true := by simp [hs2]
                     have hr1 : r = 0 := HR0.out hs2
                     subst hr1
                     clear hs2)
                  | (have x4 : (v + z == 2) = false := by simp [hs2]
                     clear hs2)
                by_cases hmy : Y1 < n1
                all_goals
                  by_cases hmx : X1 < m
                  all_goals
                    first | have ey := HSY.out.1 hmy | have ey := HSY.out.2 hmy
                    first | have ex := HSX.out.1 hmx | have ex := HSX.out.2 hmx
                    go_wp2_with fail
                    go_quiet (fail)
                    set_option maxRecDepth 20000 in
                    go_wp2
                    go_roundw
                    case rel => exact ⟨x + 1, by omega, by go_num, below_drewNI HBx.out _⟩
                    case measure => simp [intOf]; omega
            · obtain rfl : x = m2 := by omega
              clear hb2
              set_option maxRecDepth 20000 in
              go_wp2
              go_roundw
              case rel => exact ⟨y + 1, by omega, by go_num, HBx.out⟩
              case measure => simp [intOf]; omega
        · obtain rfl : y = n6 := by omega
          clear hb1
          go_wp2
          go_ret
          exact ⟨rfl, below_next HB4.out (HB46.out.trans (HBy.out.mono HB46.out.size))⟩
  · have d : decide (len ≤ 1048576) = false := decide_eq_false hbig
    have hl : (1048576 : Int) < len := by omega
    clear h
    go_enter Try.func10, Try.ntmps10
    go_wp2
    go_ret
    exact ⟨rfl, Below.refl _ _⟩
end Go.Proofs.Ytmmgeplhaooknaa
