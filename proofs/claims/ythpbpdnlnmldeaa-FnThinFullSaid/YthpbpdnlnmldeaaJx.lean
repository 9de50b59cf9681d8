
/- P137: thin pictures have room for no other dot. -/
import Derived.Test.YthpbpdnlnmldeaaJn
import Derived.Test.YthpbpdnlnmldeaaJc
namespace Go.Proofs.Ythpbpdnlnmldeaa
open Go.RowKit

set_option maxHeartbeats 4000000 in
theorem thinFull_walk (a : Option Addr) (len cap : Nat) (zs : List Int) (w : World) (h : RowIn .u8 w a len cap zs) :
    Calls Try.prog 5 #[.slice a len cap] w fun e w' => e = .returned (.bool true) ∧ Below w.heap.size w w' := by
  have hlen : len ≤ 9223372036854775807 := by
    obtain ⟨_, h2, h3⟩ := bytesAt_of_row h; unfold maxLen at h3; omega
  by_cases hbig : len ≤ 1048576
  · go_enter Try.func5, Try.ntmps5
    go_wp2_with fail
    refine (drawThin_any w a len cap zs h).mono ?_
    rintro e w1 ⟨a1, n1, c1, P, k, hk25, rfl, hP1, hbd, hB1⟩
    clear h
    have HP1 := keptI hP1
    have HBD := keptI hbd
    have HB1 := keptI hB1
    obtain ⟨R, hR, hRS⟩ := Thin_ex P (k : Int)
    have HR := keptI hR
    clear hP1 hbd hB1 hR hRS
    go_wp2_with fail
    refine (i_Thin w1 _ P (k : Int) R HP1.out HR.out).mono ?_
    rintro e w2 ⟨a2, n2, c2, rfl, hO2, hb2⟩
    have HO2 := keptI hO2
    have HP2 := keptI (HP1.out.below hb2)
    have HB2 := keptI (below_next HB1.out hb2)
    clear hO2 hb2 HP1 HB1
    go_wp2_with fail
    refine (s_Thin w2 _ P (k : Int) R HP2.out HR.out).mono ?_
    rintro e w3 ⟨a3, n3, c3, rfl, hO3, hb3⟩
    have HS3 := keptI hO3
    have HO3 := keptI (HO2.out.below hb3 (Nat.le_refl _))
    have HP3 := keptI (HP2.out.below hb3)
    have HB3 := keptI (below_next HB2.out hb3)
    have hs3 := hb3.size
    clear hO3 hb3 HP2 HB2 HO2
    go_wp2_with fail
    refine (equalLists_sameI w3 _ _ R HO3.out.ls.at HS3.out).mono ?_
    rintro e w4 ⟨rfl, hb4⟩
    have HO4 := keptI (HO3.out.below hb4 hs3)
    have HP4 := keptI (HP3.out.below hb4)
    have HB4 := keptI (below_next HB3.out hb4)
    have hn2 : R.length = n2 := by
      obtain ⟨_, _, e, _⟩ := HO4.out.ls.at
      injection e with _ e2 _
      exact e2.symm
    have hn1 : P.length = n1 := by
      obtain ⟨_, _, e, _⟩ := HP4.out
      injection e with _ e2 _
      exact e2.symm
    have HN2 := Lib.hid hn2
    have HN1 := Lib.hid hn1
    clear hb4 HP3 HB3 HO3 HS3 hn2 hn1 hs3
    by_cases h0 : n2 = 0
    · subst h0
      go_wp2_with fail
      refine (s_Thin w4 _ P (k : Int) R HP4.out HR.out).mono ?_
      rintro e w5 ⟨a5, n5, c5, rfl, hO5, hb5⟩
      have HB5 := keptI (below_next HB4.out hb5)
      have HO5 := keptI (HO4.out.ls.at.below hb5)
      have HS5 := keptI hO5
      clear hO5 hb5
      go_wp2_with fail
      refine (equalLists_sameI w5 _ _ R HO5.out HS5.out).mono ?_
      rintro e w6 ⟨rfl, hb6⟩
      have HB6 := keptI (below_next HB5.out hb6)
      clear hb6
      go_wp2
      go_ret
      exact ⟨rfl, HB6.out⟩
    · have d0 : ((n2 : Int) == 0) = false := by simp; omega
      have HNE : Hid (R.length ≠ 0) := by show R.length ≠ 0; rw [HN2.out]; exact h0
      have HF := keptI (thin_facts HR.out HNE.out)
      have hfar := HF.out.far
      obtain ⟨hfar1, hfar2⟩ := hfar
      have hpic := (HF.out.ok).pic HP4.out
      obtain ⟨m, hm⟩ : ∃ m, wdt P = m := ⟨_, rfl⟩
      rw [hm] at hpic
      have hd := (HF.out.ok).bd
      rw [hm, HN1.out] at hd
      obtain ⟨hd1, hd2, hd3, hd4⟩ := hd
      have HM := Lib.hid hm
      have HPIC := keptI hpic.2
      obtain ⟨g, off, b0, o0, d0, rfl, c00, _, _, _⟩ := hpic.2.row (y := 0) hd1
      rw [Nat.add_zero] at c00
      have HC : Hid (∀ wy, Below w4.heap.size w4 wy → wy.cell? ⟨g, off, none⟩ = some (.slice (some ⟨b0, o0, none⟩) m d0)) := fun wy hb => (hb.cell (World.block_lt_of_cell? w4 _ c00)).trans c00
      have q0 : (0 : Int) < (n1 : Int) := by omega
      have q00 : 0 < n1 := by omega
      clear hpic hm
      have hpic2 := (HF.out.okR).pic HO4.out.ls.at
      obtain ⟨m2, hm2⟩ : ∃ m2, wdt R = m2 := ⟨_, rfl⟩
      rw [hm2] at hpic2
      have hdd := (HF.out.okR).bd
      rw [hm2, HN2.out] at hdd
      obtain ⟨hdd1, hdd2, hdd3, hdd4⟩ := hdd
      have HM2 := Lib.hid hm2
      have HPIC2 := keptI hpic2.2
      obtain ⟨g2, off2, b2, o2, d2, rfl, c20, _, _, _⟩ := hpic2.2.row (y := 0) hdd1
      rw [Nat.add_zero] at c20
      have HC2 : Hid (∀ wy, Below w4.heap.size w4 wy → wy.cell? ⟨g2, off2, none⟩ = some (.slice (some ⟨b2, o2, none⟩) m2 d2)) := fun wy hb => (hb.cell (World.block_lt_of_cell? w4 _ c20)).trans c20
      have q20 : (0 : Int) < (n2 : Int) := by omega
      have q200 : 0 < n2 := by omega
      clear hpic2 hm2
      have en : n2 = n1 := by rw [← HN2.out, HF.out.len, HN1.out]
      have em : m2 = m := by rw [← HM2.out, HF.out.wd, HM.out]
      subst en em
      have HFULL : Hid (∀ y x, y < n2 → x < m2 → px P y x = 1 → 0 < win (px R) n2 m2 y x k) := fun y x hy hx h1 => by
        have e : ∀ y x, y < P.length → x < wdt P → px R y x = thE (px P) P.length (wdt P) k y x := fun y x hy hx => px_of_grid HF.out.grid hy hx
        have h2 := thE_full (F := k) (n := P.length) (m := wdt P) (by rw [HN1.out]; exact hy) (by rw [HM.out]; exact hx) h1 HF.out.far.1
        have h3 : win (px R) P.length (wdt P) y x k = win (thE (px P) P.length (wdt P) k) P.length (wdt P) y x k := bs_congr fun i j hi hj => e _ _ (by unfold cn lo at hi; unfold lo; omega) (by unfold cn lo at hj; unfold lo; omega)
        rw [← h3, HN1.out, HM.out] at h2
        exact h2
      have HBinR : Hid (Bin (px R) n2 m2) := fun y x _ _ => HF.out.okR.bin y x
      go_wp2_with fail
      go_loop [6] (fun i => ∃ y : Nat, y ≤ n2 ∧ i = .int .i64 y) (fun i => n2 - (intOf i).toNat)
      case atStart => exact ⟨0, Nat.zero_le _, rfl⟩
      case round =>
        obtain ⟨y, hy, rfl⟩ := hrel
        by_cases hlt : y < n2
        · obtain ⟨_, _, bp, op, dp, e1, cp0, _, _, hcp⟩ := HPIC.out.row hlt
          injection e1 with e1
          injection e1 with e1 e2
          subst e1 e2
          have HCP := keptI hcp
          have p1 : (0 : Int) ≤ (y : Int) := by omega
          have p2 : (y : Int) < (n2 : Int) := by omega
          clear hcp
          go_wp2
          go_loop [7] (fun j => ∃ x : Nat, x ≤ m2 ∧ j = .int .i64 x) (fun j => m2 - (intOf j).toNat)
          case atStart => exact ⟨0, Nat.zero_le _, rfl⟩
          case round =>
            obtain ⟨x, hx, rfl⟩ := hrel
            by_cases hltx : x < m2
            · have cp1 := HCP.out x hltx
              have hbin := HF.out.ok.bin y x
              have hfull := HFULL.out y x hlt hltx
              rw [win_pos HBinR.out] at hfull
              obtain ⟨z, hz⟩ : ∃ z, px P y x = z := ⟨_, rfl⟩
              rw [hz] at cp1 hbin hfull
              obtain ⟨b, hb⟩ : ∃ b : Bool, (z == 0) = b := ⟨_, rfl⟩
              have HBZ : Hid (b = true ↔ z = 0) := by show _ ↔ _; rw [← hb]; simp
              have HFU := keptI hfull
              have HZB := keptI hbin
              have p3 : (0 : Int) ≤ (x : Int) := by omega
              have p4 : (x : Int) < (m2 : Int) := by omega
              obtain ⟨Y0, hY0⟩ : ∃ Y0, lo y k = Y0 := ⟨_, rfl⟩
              obtain ⟨X0, hX0⟩ : ∃ X0, lo x k = X0 := ⟨_, rfl⟩
              have hY0' : Y0 = y + 1 - k := by rw [← hY0]; rfl
              have hX0' : X0 = x + 1 - k := by rw [← hX0]; rfl
              have hY0b : Y0 ≤ y := by omega
              have hX0b : X0 ≤ x := by omega
              have HMX : Hid ((if 0 < (y : Int) - (k : Int) + 1 then (y : Int) - (k : Int) + 1 else 0) = (Y0 : Int)) := by show _ = _; split <;> omega
              have HMX2 : Hid ((if 0 < (x : Int) - (k : Int) + 1 then (x : Int) - (k : Int) + 1 else 0) = (X0 : Int)) := by show _ = _; split <;> omega
              have HY0 := Lib.hid hY0'
              have HX0 := Lib.hid hX0'
              have HSEEN : Hid (z = 1 → ∃ i j, Y0 ≤ i ∧ i < n2 ∧ i < y + k ∧ X0 ≤ j ∧ j < m2 ∧ j < x + k ∧ px R i j = 1) := fun h1 => by
                obtain ⟨i, j, hi, hj, h2, h3, h4⟩ := HFU.out h1
                exact ⟨i, j, by rw [hY0']; omega, hi, h2.1, by rw [hX0']; omega, hj, h3.1, h4⟩
              clear hz hbin hfull hY0 hX0 hY0' hX0' hb
              obtain ⟨hy9, hhy9⟩ : ∃ hy9, min n2 (y + k) = hy9 := ⟨_, rfl⟩
              obtain ⟨hx9, hhx9⟩ : ∃ hx9, min m2 (x + k) = hx9 := ⟨_, rfl⟩
              have hA1 : y < hy9 ∧ hy9 ≤ n2 ∧ hy9 ≤ y + k := by omega
              have hA2 : x < hx9 ∧ hx9 ≤ m2 ∧ hx9 ≤ x + k := by omega
              have HLY : Hid (∀ I : Nat, I < hy9 ↔ I < n2 ∧ I < y + k) := fun I => by omega
              have HLX : Hid (∀ I : Nat, I < hx9 ↔ I < m2 ∧ I < x + k) := fun I => by omega
              obtain ⟨hA11, hA12, hA13⟩ := hA1
              obtain ⟨hA21, hA22, hA23⟩ := hA2
              clear hhy9 hhx9
              set_option maxRecDepth 20000 in
              go_wp2
              all_goals
                go_loop [8, 9] (fun mt i => ∃ (I : Nat) (b : Bool), Y0 ≤ I ∧ I ≤ hy9 ∧ i = .int .i64 I ∧ mt = .bool b ∧ Hid (b = true ↔ z = 0 ∨ ∃ i j, Y0 ≤ i ∧ i < I ∧ X0 ≤ j ∧ j < hx9 ∧ px R i j = 1)) (fun _ i => hy9 - (intOf i).toNat)
                case atStart => exact ⟨Y0, (z == 0), Nat.le_refl _, by omega, by have := HY0.out; congr 1; omega, rfl, by
                  show _ ↔ _
                  constructor
                  · intro h; exact .inl (by simpa using h)
                  · rintro (h | ⟨i, j, h1, h2, _⟩)
                    · simpa using h
                    · omega⟩
                case round =>
                  obtain ⟨I, b, hI0, hI1, rfl, rfl, HIF⟩ := hrel
                  by_cases hIlt : I < hy9
                  · obtain ⟨hIn, hIk⟩ := (HLY.out I).1 hIlt
                    obtain ⟨_, _, bq, oq, dq, e3, cq0, _, _, hcq⟩ := HPIC2.out.row hIn
                    injection e3 with e3
                    injection e3 with e3 e4
                    subst e3 e4
                    have HCQ := keptI hcq
                    have HCQ0 := keptI cq0
                    have hIk' : (I : Int) < (y : Int) + (k : Int) := by omega
                    clear hcq cq0
                    by_cases hmin : (y : Int) + (k : Int) < (n2 : Int)
                    all_goals
                      set_option maxRecDepth 20000 in
                      go_wp2
                      all_goals
                        go_loop [8, 10] (fun mt i => ∃ (J : Nat) (b : Bool), X0 ≤ J ∧ J ≤ hx9 ∧ i = .int .i64 J ∧ mt = .bool b ∧ Hid (b = true ↔ (z = 0 ∨ ∃ i j, Y0 ≤ i ∧ i < I ∧ X0 ≤ j ∧ j < hx9 ∧ px R i j = 1) ∨ ∃ j, X0 ≤ j ∧ j < J ∧ px R I j = 1)) (fun _ i => hx9 - (intOf i).toNat)
                        case atStart => exact ⟨X0, b, Nat.le_refl _, by omega, by have := HX0.out; congr 1; omega, rfl, by
                          show _ ↔ _
                          constructor
                          · intro h; exact .inl (HIF.out.1 h)
                          · rintro (h | ⟨j, h1, h2, _⟩)
                            · exact HIF.out.2 h
                            · omega⟩
                        case round =>
                          obtain ⟨J, b, hJ0, hJ1, rfl, rfl, HJF⟩ := hrel
                          by_cases hJlt : J < hx9
                          · obtain ⟨hJn, hJk⟩ := (HLX.out J).1 hJlt
                            have hJk' : (J : Int) < (x : Int) + (k : Int) := by omega
                            by_cases hmin2 : (x : Int) + (k : Int) < (m2 : Int)
                            all_goals
                              cases b with
                              | true =>
                                have HJ2 : Hid (true = true ↔ (z = 0 ∨ ∃ i j, Y0 ≤ i ∧ i < I ∧ X0 ≤ j ∧ j < hx9 ∧ px R i j = 1) ∨ ∃ j, X0 ≤ j ∧ j < J + 1 ∧ px R I j = 1) := by
                                  show _ ↔ _
                                  refine ⟨fun h => ?_, fun _ => rfl⟩
                                  rcases HJF.out.1 h with h | ⟨j, h1, h2, h3⟩
                                  · exact .inl h
                                  · exact .inr ⟨j, h1, by omega, h3⟩
                                go_wp2
                                go_round
                                case rel => exact ⟨J + 1, true, by omega, by omega, by go_num, rfl, HJ2⟩
                                case measure => simp [intOf]; omega
                              | false =>
                                have cq1 := HCQ.out J hJn
                                have cq0 := HCQ0.out
                                have p5 : (0 : Int) ≤ (I : Int) := by omega
                                have p6 : (I : Int) < (n2 : Int) := by omega
                                have p7 : (0 : Int) ≤ (J : Int) := by omega
                                have p8 : (J : Int) < (m2 : Int) := by omega
                                obtain ⟨v, hv⟩ : ∃ v, px R I J = v := ⟨_, rfl⟩
                                rw [hv] at cq1
                                have HJ2 : Hid ((v == 1) = true ↔ (z = 0 ∨ ∃ i j, Y0 ≤ i ∧ i < I ∧ X0 ≤ j ∧ j < hx9 ∧ px R i j = 1) ∨ ∃ j, X0 ≤ j ∧ j < J + 1 ∧ px R I j = 1) := by
                                  show _ ↔ _
                                  constructor
                                  · intro h
                                    exact .inr ⟨J, hJ0, by omega, hv.trans (by simpa using h)⟩
                                  · rintro (h | ⟨j, h1, h2, h3⟩)
                                    · exact absurd (HJF.out.2 (.inl h)) (by simp)
                                    · by_cases e : j = J
                                      · subst e; simp [← hv, h3]
                                      · exact absurd (HJF.out.2 (.inr ⟨j, h1, by omega, h3⟩)) (by simp)
                                clear hv
                                go_wp2
                                go_round
                                case rel => exact ⟨J + 1, (v == 1), by omega, by omega, by go_num, rfl, HJ2⟩
                                case measure => simp [intOf]; omega
                          · obtain rfl : J = hx9 := by omega
                            have HIF2 : Hid (b = true ↔ z = 0 ∨ ∃ i j, Y0 ≤ i ∧ i < I + 1 ∧ X0 ≤ j ∧ j < J ∧ px R i j = 1) := by
                              show _ ↔ _
                              rw [HJF.out]
                              constructor
                              · rintro ((h | ⟨i, j, h1, h2, h3⟩) | ⟨j, h1, h2, h3⟩)
                                · exact .inl h
                                · exact .inr ⟨i, j, h1, by omega, h3⟩
                                · exact .inr ⟨I, j, hI0, by omega, h1, h2, h3⟩
                              · rintro (h | ⟨i, j, h1, h2, h3, h4, h5⟩)
                                · exact .inl (.inl h)
                                · by_cases e : i = I
                                  · subst e; exact .inr ⟨j, h3, h4, h5⟩
                                  · exact .inl (.inr ⟨i, j, h1, by omega, h3, h4, h5⟩)
                            have hJo := HLX.out J
                            by_cases hmin2 : (x : Int) + (k : Int) < (m2 : Int)
                            · have e2 : decide ((J : Int) < (x : Int) + (k : Int)) = false := decide_eq_false (by omega)
                              clear hJo
                              go_wp2
                              go_round
                              case rel => exact ⟨I + 1, b, by omega, by omega, by go_num, rfl, HIF2⟩
                              case measure => simp [intOf]; omega
                            · have e2 : decide (J < m2) = false := decide_eq_false (by omega)
                              clear hJo
                              go_wp2
                              go_round
                              case rel => exact ⟨I + 1, b, by omega, by omega, by go_num, rfl, HIF2⟩
                              case measure => simp [intOf]; omega
                  · obtain rfl : I = hy9 := by omega
                    have hbt : b = true := HIF.out.2 (by
                      rcases HZB.out with h | h
                      · exact .inl h
                      · obtain ⟨i, j, h1, h2, h3, h4, h5, h6, h7⟩ := HSEEN.out h
                        exact .inr ⟨i, j, h1, (HLY.out i).2 ⟨h2, h3⟩, h4, (HLX.out j).2 ⟨h5, h6⟩, h7⟩)
                    subst hbt
                    have hIo := HLY.out I
                    by_cases hmin : (y : Int) + (k : Int) < (n2 : Int)
                    · have e2 : decide ((I : Int) < (y : Int) + (k : Int)) = false := decide_eq_false (by omega)
                      clear hIo
                      go_wp2
                      go_round
                      case rel => exact ⟨x + 1, by omega, by go_num⟩
                      case measure => simp [intOf]; omega
                    · have e2 : decide (I < n2) = false := decide_eq_false (by omega)
                      clear hIo
                      go_wp2
                      go_round
                      case rel => exact ⟨x + 1, by omega, by go_num⟩
                      case measure => simp [intOf]; omega
            · obtain rfl : x = m2 := by omega
              set_option maxRecDepth 20000 in
              go_wp2
              go_round
              case rel => exact ⟨y + 1, by omega, by go_num⟩
              case measure => simp [intOf]; omega
        · obtain rfl : y = n2 := by omega
          go_wp2
          go_ret
          exact ⟨rfl, HB4.out⟩
  · have d : decide (len ≤ 1048576) = false := decide_eq_false hbig
    have hl : (1048576 : Int) < len := by omega
    clear h
    go_enter Try.func5, Try.ntmps5
    go_wp2
    go_ret
    exact ⟨rfl, Below.refl _ _⟩
end Go.Proofs.Ythpbpdnlnmldeaa
