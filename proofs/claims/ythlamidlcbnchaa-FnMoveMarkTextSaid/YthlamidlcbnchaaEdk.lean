
/- P157: marks outside of edits come back. -/
import Derived.Test.YthlamidlcbnchaaEdh
namespace Go.Proofs.Ythlamidlcbnchaa
open Go.RowKit

theorem mv_first {k q d : Nat} {t : ByteArray} {many : Int} (h : CanE (q : Int) (d : Int) t many) (hk : (k : Int) ≤ many) (hq : k ≤ q) : mvA k q d t many = (k : Int) := by
  rw [mvA, if_pos ⟨h, by omega, hk⟩, mvM, if_pos (by omega)]
theorem mv_mid {k q d : Nat} {t : ByteArray} {many : Int} (h : CanE (q : Int) (d : Int) t many) (hk : (k : Int) ≤ many) (hq : q < k) (hd : k < q + d) : mvA k q d t many = (q : Int) := by
  rw [mvA, if_pos ⟨h, by omega, hk⟩, mvM, if_neg (by omega), if_neg (by omega)]
theorem mv_last {k q d m : Nat} {t : ByteArray} {many : Int} (h : CanE (q : Int) (d : Int) t many) (hk : (k : Int) ≤ many) (hq : q < k) (hd : q + d ≤ k) (hm : k + t.size = m + d) : mvA k q d t many = (m : Int) := by
  rw [mvA, if_pos ⟨h, by omega, hk⟩, mvM, if_neg (by omega), if_pos (by omega)]; omega
set_option maxHeartbeats 4000000 in
theorem moveMarkBack_walk (a : Option Addr) (len cap : Nat) (zs : List Int) (w : World) (h : RowIn .u8 w a len cap zs) :
    Calls Try.prog 7 #[.slice a len cap] w fun e w' => e = .returned (.bool true) ∧ Below w.heap.size w w' := by
  have hlen : len ≤ 9223372036854775807 := by
    obtain ⟨_, h2, h3⟩ := bytesAt_of_row h; unfold maxLen at h3; omega
  by_cases hbig : len ≤ 1048576
  · go_enter Try.func7, Try.ntmps7
    go_wp2_with fail
    refine (drawInvertEdit_any w a len cap zs h).mono ?_
    rintro e w1 ⟨s, x, c, t, rfl, hs, ht, HB⟩
    clear h
    by_cases hok : ValidT s.data.toList ∧ CanE x c t s.size
    · obtain ⟨hv, hc⟩ := hok
      obtain ⟨m, q, d, e1, e2, e3, e4, e5, e6, e7, e8⟩ := hc.nat
      subst e2 e3
      obtain rfl : s.size = m := by omega
      clear e1
      have htz := e7.size
      have HV := Lib.hid hv
      have HC := Lib.hid hc
      have hcan := ed_can hv hc
      have hback := ed_back (s := s) (t := t) e5
      have hval := ed_valid hv hc
      obtain ⟨X, hX⟩ : ∃ X, s.extract q (q + d) = X := ⟨_, rfl⟩
      obtain ⟨O, hO⟩ : ∃ O, edS s q d t = O := ⟨_, rfl⟩
      rw [hX, hO] at hcan
      rw [hX, hO] at hback
      rw [hO] at hval
      have HX := Lib.hid hX
      have HO := Lib.hid hO
      have HCAN := Lib.hid hcan
      have HBACK := Lib.hid hback
      have HVAL := Lib.hid hval
      have hX60 : X.size ≤ 60 := by have := hcan.2; omega
      have hO60 : O.size ≤ 60 := hval.2.2
      clear hv hc e7 hcan hback hval hX hO
      have E1 := EdAt.new w1 (q : Int) (d : Int) (t)
      replace HB := HB.alloc HB.size (.cells #[.int .i64 (q : Int), .int .i64 (d : Int), .string (t)] 24)
      obtain ⟨c1a, c1b, c1c⟩ := E1.cells
      go_wp2_with fail
      clear c1a c1b c1c
      generalize (w1.alloc (.cells #[.int .i64 (q : Int), .int .i64 (d : Int), .string (t)] 24)) = v1 at E1 HB ⊢
      generalize w1.heap.size = G1 at E1 ⊢
      obtain ⟨c1a, c1b, c1c⟩ := E1.cells
      refine (i_InvertEdit_at s t X q d _ (by omega) (by omega) HV.out HC.out HX.out).mono ?_
      rintro e w2 ⟨rfl, hbn⟩
      clear c1a c1b c1c
      replace E1 := E1.below hbn E1.lt
      replace HB := below_next HB hbn
      clear hbn
      obtain ⟨c1a, c1b, c1c⟩ := E1.cells
      clear c1a c1b c1c
      replace E1 := E1.alloc (.cells #[.int .i64 (q : Int), .int .i64 (t.size : Int), .string (X)] 24)
      have E2 := EdAt.new w2 (q : Int) (t.size : Int) (X)
      replace HB := HB.alloc HB.size (.cells #[.int .i64 (q : Int), .int .i64 (t.size : Int), .string (X)] 24)
      obtain ⟨c1a, c1b, c1c⟩ := E1.cells
      obtain ⟨c2a, c2b, c2c⟩ := E2.cells
      go_wp2_with fail
      clear c1a c1b c1c c2a c2b c2c
      generalize (w2.alloc (.cells #[.int .i64 (q : Int), .int .i64 (t.size : Int), .string (X)] 24)) = v2 at E1 E2 HB ⊢
      generalize w2.heap.size = G2 at E2 ⊢
      obtain ⟨c1a, c1b, c1c⟩ := E1.cells
      obtain ⟨c2a, c2b, c2c⟩ := E2.cells
      refine (s_InvertEdit_at s t X q d _ (by omega) (by omega) HV.out HC.out HX.out).mono ?_
      rintro e w3 ⟨rfl, hbn⟩
      clear c1a c1b c1c c2a c2b c2c
      replace E1 := E1.below hbn E1.lt
      replace E2 := E2.below hbn E2.lt
      replace HB := below_next HB hbn
      clear hbn
      obtain ⟨c1a, c1b, c1c⟩ := E1.cells
      obtain ⟨c2a, c2b, c2c⟩ := E2.cells
      clear c1a c1b c1c c2a c2b c2c
      replace E1 := E1.alloc (.cells #[.int .i64 (q : Int), .int .i64 (t.size : Int), .string (X)] 24)
      replace E2 := E2.alloc (.cells #[.int .i64 (q : Int), .int .i64 (t.size : Int), .string (X)] 24)
      have E3 := EdAt.new w3 (q : Int) (t.size : Int) (X)
      replace HB := HB.alloc HB.size (.cells #[.int .i64 (q : Int), .int .i64 (t.size : Int), .string (X)] 24)
      obtain ⟨c1a, c1b, c1c⟩ := E1.cells
      obtain ⟨c2a, c2b, c2c⟩ := E2.cells
      obtain ⟨c3a, c3b, c3c⟩ := E3.cells
      go_wp2_with fail
      clear c1a c1b c1c c2a c2b c2c c3a c3b c3c
      generalize (w3.alloc (.cells #[.int .i64 (q : Int), .int .i64 (t.size : Int), .string (X)] 24)) = v3 at E1 E2 E3 HB ⊢
      generalize w3.heap.size = G3 at E3 ⊢
      obtain ⟨c1a, c1b, c1c⟩ := E1.cells
      obtain ⟨c2a, c2b, c2c⟩ := E2.cells
      obtain ⟨c3a, c3b, c3c⟩ := E3.cells
      refine (equalEdit_same _ _ _ _).mono ?_
      rintro e w4 ⟨rfl, hbn⟩
      clear c1a c1b c1c c2a c2b c2c c3a c3b c3c
      replace E1 := E1.below hbn E1.lt
      replace E2 := E2.below hbn E2.lt
      replace E3 := E3.below hbn E3.lt
      replace HB := below_next HB hbn
      clear hbn
      obtain ⟨c1a, c1b, c1c⟩ := E1.cells
      obtain ⟨c2a, c2b, c2c⟩ := E2.cells
      obtain ⟨c3a, c3b, c3c⟩ := E3.cells
      obtain ⟨many, hmany⟩ : ∃ many : Nat, O.size = many := ⟨_, rfl⟩
      have hOm : (s.size : Int) - (d : Int) + (t.size : Int) = (many : Int) := by have := HVAL.out.2.1; omega
      have hcan2 := HCAN.out.1
      rw [hmany] at hcan2
      have HC2 := Lib.hid hcan2
      have hXd := HCAN.out.2
      have u1 : IntKind.i64.wrap ((s.size : Int) - (d : Int)) = (s.size : Int) - (d : Int) := IntWalk.i64_in _ (by omega)
      have u2 : IntKind.i64.wrap ((s.size : Int) - (d : Int) + (t.size : Int)) = (many : Int) := by rw [hOm]; exact IntWalk.i64_in _ (by omega)
      have hmn : s.size + t.size = many + d := by omega
      clear hcan2 hmany hOm
      go_wp2
      have EE : Hid (∀ wy, Below w4.heap.size w4 wy → (wy.cell? ⟨G1, 0, none⟩ = some (.int .i64 (q : Int)) ∧ wy.cell? ⟨G1, 1, none⟩ = some (.int .i64 (d : Int)) ∧ wy.cell? ⟨G1, 2, none⟩ = some (.string t)) ∧ (wy.cell? ⟨G2, 0, none⟩ = some (.int .i64 (q : Int)) ∧ wy.cell? ⟨G2, 1, none⟩ = some (.int .i64 (t.size : Int)) ∧ wy.cell? ⟨G2, 2, none⟩ = some (.string X)) ∧ Below w4.heap.size w4 wy) := fun wy hb => ⟨(E1.below hb E1.lt).cells, (E2.below hb E2.lt).cells, hb⟩
      have HBx := Lib.hid HB
      clear E1 E2 E3 HB
      clear c1a c1b c1c c2a c2b c2c c3a c3b c3c
      go_loopw [10] (fun i wr => ∃ k : Nat, k ≤ s.size + 1 ∧ i = .int .i64 k ∧ Below w4.heap.size w4 wr) (fun i _ => s.size + 1 - (intOf i).toNat)
      case atStart => exact ⟨0, by omega, rfl, Below.refl _ _⟩
      case round =>
        obtain ⟨k, hk1, rfl, hBr⟩ := hrel
        have HBR := Lib.hid hBr
        clear hBr
        by_cases hk : k ≤ s.size
        · by_cases hA : k ≤ q
          · have HM1 : Hid (mvA (k : Int) q d t s.size = (k : Int)) := mv_first HC.out (by omega) hA
            have HM2 : Hid (mvA (k : Int) q t.size X many = (k : Int)) := mv_first HC2.out (by omega) hA
            have d1 : decide ((k : Int) ≤ (q : Int)) = true := decide_eq_true (by omega)
            have hkd : decide ((k : Int) ≤ (s.size : Int)) = true := decide_eq_true (by omega)
            go_wp2_with fail
            refine wp_region_held_drew (S := fun wy => (wy.cell? ⟨G1, 0, none⟩ = some (.int .i64 (q : Int)) ∧ wy.cell? ⟨G1, 1, none⟩ = some (.int .i64 (d : Int)) ∧ wy.cell? ⟨G1, 2, none⟩ = some (.string t)) ∧ (wy.cell? ⟨G2, 0, none⟩ = some (.int .i64 (q : Int)) ∧ wy.cell? ⟨G2, 1, none⟩ = some (.int .i64 (t.size : Int)) ∧ wy.cell? ⟨G2, 2, none⟩ = some (.string X)) ∧ Below w4.heap.size w4 wy) (by kernel_rfl) (EE.out _ HBR.out.drew) (fun hHeld => ?_)
            refine reg_take (i := 0) (d := 67) (.int .i64 (k : Int)) rfl rfl (by kernel_rfl) (by kernel_rfl) (by kernel_rfl) (fun _ _ _ h => h) (by rfl) (by intro wq hq; obtain ⟨⟨q0, q1, q2⟩, ⟨q3, q4, q5⟩, _⟩ := hq; go_simp) (by assumption) ?_
            simp only [Act.put, List.setIfInBounds_toArray, List.set_cons_zero, List.set_cons_succ]
            refine reg_take (i := 1) (d := 68) (.pointer (some ⟨G1, 0, none⟩)) rfl rfl (by kernel_rfl) (by kernel_rfl) (by kernel_rfl) (fun _ _ _ h => h) (by rfl) (by intro wq hq; obtain ⟨⟨q0, q1, q2⟩, ⟨q3, q4, q5⟩, _⟩ := hq; go_simp) (by assumption) ?_
            simp only [Act.put, List.setIfInBounds_toArray, List.set_cons_zero, List.set_cons_succ]
            refine reg_take (i := 2) (d := 69) (.int .i64 (q : Int)) rfl rfl (by kernel_rfl) (by kernel_rfl) (by kernel_rfl) (fun _ _ _ h => h) (by rfl) (by intro wq hq; obtain ⟨⟨q0, q1, q2⟩, ⟨q3, q4, q5⟩, _⟩ := hq; go_simp) (by assumption) ?_
            simp only [Act.put, List.setIfInBounds_toArray, List.set_cons_zero, List.set_cons_succ]
            refine reg_take (i := 3) (d := 70) (.bool true) rfl rfl (by kernel_rfl) (by kernel_rfl) (by kernel_rfl) (fun _ _ _ h => h) (by rfl) (by intro wq hq; obtain ⟨⟨q0, q1, q2⟩, ⟨q3, q4, q5⟩, _⟩ := hq; go_simp) (by assumption) ?_
            simp only [Act.put, List.setIfInBounds_toArray, List.set_cons_zero, List.set_cons_succ]
            refine reg_take (i := 4) (d := 71) (.bool true) rfl rfl (by kernel_rfl) (by kernel_rfl) (by kernel_rfl) (fun _ _ _ h => h) (by rfl) (by intro wq hq; obtain ⟨⟨q0, q1, q2⟩, ⟨q3, q4, q5⟩, _⟩ := hq; go_simp) (by assumption) ?_
            simp only [Act.put, List.setIfInBounds_toArray, List.set_cons_zero, List.set_cons_succ]
            refine reg_skip (i := 5) (d := 72) rfl rfl (by kernel_rfl) (by kernel_rfl) (by kernel_rfl) (fun _ _ _ h => h) (by rfl) (by assumption) ?_
            simp only [Act.put, List.setIfInBounds_toArray, List.set_cons_zero, List.set_cons_succ]
            refine reg_skip (i := 6) (d := 73) rfl rfl (by kernel_rfl) (by kernel_rfl) (by kernel_rfl) (fun _ _ _ h => h) (by rfl) (by assumption) ?_
            simp only [Act.put, List.setIfInBounds_toArray, List.set_cons_zero, List.set_cons_succ]
            refine reg_skip (i := 7) (d := 74) rfl rfl (by kernel_rfl) (by kernel_rfl) (by kernel_rfl) (fun _ _ _ h => h) (by rfl) (by assumption) ?_
            simp only [Act.put, List.setIfInBounds_toArray, List.set_cons_zero, List.set_cons_succ]
            refine reg_skip (i := 8) (d := 75) rfl rfl (by kernel_rfl) (by kernel_rfl) (by kernel_rfl) (fun _ _ _ h => h) (by rfl) (by assumption) ?_
            simp only [Act.put, List.setIfInBounds_toArray, List.set_cons_zero, List.set_cons_succ]
            refine reg_skip (i := 9) (d := 76) rfl rfl (by kernel_rfl) (by kernel_rfl) (by kernel_rfl) (fun _ _ _ h => h) (by rfl) (by assumption) ?_
            simp only [Act.put, List.setIfInBounds_toArray, List.set_cons_zero, List.set_cons_succ]
            refine reg_skip (i := 10) (d := 77) rfl rfl (by kernel_rfl) (by kernel_rfl) (by kernel_rfl) (fun _ _ _ h => h) (by rfl) (by assumption) ?_
            simp only [Act.put, List.setIfInBounds_toArray, List.set_cons_zero, List.set_cons_succ]
            refine reg_skip (i := 11) (d := 78) rfl rfl (by kernel_rfl) (by kernel_rfl) (by kernel_rfl) (fun _ _ _ h => h) (by rfl) (by assumption) ?_
            simp only [Act.put, List.setIfInBounds_toArray, List.set_cons_zero, List.set_cons_succ]
            refine reg_take (i := 12) (d := 79) (.bool true) rfl rfl (by kernel_rfl) (by kernel_rfl) (by kernel_rfl) (fun _ _ _ h => h) (by rfl) (by intro wq hq; obtain ⟨⟨q0, q1, q2⟩, ⟨q3, q4, q5⟩, _⟩ := hq; go_simp) (by assumption) ?_
            simp only [Act.put, List.setIfInBounds_toArray, List.set_cons_zero, List.set_cons_succ]
            refine reg_take (i := 13) (d := 80) (.bool true) rfl rfl (by kernel_rfl) (by kernel_rfl) (by kernel_rfl) (fun _ _ _ h => h) (by rfl) (by intro wq hq; obtain ⟨⟨q0, q1, q2⟩, ⟨q3, q4, q5⟩, _⟩ := hq; go_simp) (by assumption) ?_
            simp only [Act.put, List.setIfInBounds_toArray, List.set_cons_zero, List.set_cons_succ]
            refine reg_take (i := 14) (d := 81) (.int .i64 (k : Int)) rfl rfl (by kernel_rfl) (by kernel_rfl) (by kernel_rfl) (fun _ _ _ h => h) (by rfl) (by intro wq hq; obtain ⟨⟨q0, q1, q2⟩, ⟨q3, q4, q5⟩, _⟩ := hq; go_simp) (by assumption) ?_
            simp only [Act.put, List.setIfInBounds_toArray, List.set_cons_zero, List.set_cons_succ]
            refine reg_take (i := 15) (d := 82) (edV (q : Int) (d : Int) t) rfl rfl (by kernel_rfl) (by kernel_rfl) (by kernel_rfl) (fun _ _ _ h => h) (by rfl) (by intro wq hq; obtain ⟨⟨q0, q1, q2⟩, ⟨q3, q4, q5⟩, _⟩ := hq; go_simp) (by assumption) ?_
            simp only [Act.put, List.setIfInBounds_toArray, List.set_cons_zero, List.set_cons_succ]
            refine reg_take (i := 16) (d := 83) (.string s) rfl rfl (by kernel_rfl) (by kernel_rfl) (by kernel_rfl) (fun _ _ _ h => h) (by rfl) (by intro wq hq; obtain ⟨⟨q0, q1, q2⟩, ⟨q3, q4, q5⟩, _⟩ := hq; go_simp) (by assumption) ?_
            simp only [Act.put, List.setIfInBounds_toArray, List.set_cons_zero, List.set_cons_succ]
            refine reg_take (i := 17) (d := 84) (.int .i64 (s.size : Int)) rfl rfl (by kernel_rfl) (by kernel_rfl) (by kernel_rfl) (fun _ _ _ h => h) (by rfl) (by intro wq hq; obtain ⟨⟨q0, q1, q2⟩, ⟨q3, q4, q5⟩, _⟩ := hq; go_simp) (by assumption) ?_
            simp only [Act.put, List.setIfInBounds_toArray, List.set_cons_zero, List.set_cons_succ]
            refine reg_take (i := 19) (d := 86) (edV (q : Int) (t.size : Int) X) rfl rfl (by kernel_rfl) (by kernel_rfl) (by kernel_rfl) (fun _ _ _ h => h) (by rfl) (by intro wq hq; obtain ⟨⟨q0, q1, q2⟩, ⟨q3, q4, q5⟩, _⟩ := hq; go_simp) (by assumption) ?_
            simp only [Act.put, List.setIfInBounds_toArray, List.set_cons_zero, List.set_cons_succ]
            refine reg_take (i := 20) (d := 87) (.int .i64 (many : Int)) rfl rfl (by kernel_rfl) (by kernel_rfl) (by kernel_rfl) (fun _ _ _ h => h) (by rfl) (by intro wq hq; obtain ⟨⟨q0, q1, q2⟩, ⟨q3, q4, q5⟩, _⟩ := hq; go_simp) (by assumption) ?_
            simp only [Act.put, List.setIfInBounds_toArray, List.set_cons_zero, List.set_cons_succ]
            refine reg_take (i := 22) (d := 89) (.int .i64 (k : Int)) rfl rfl (by kernel_rfl) (by kernel_rfl) (by kernel_rfl) (fun _ _ _ h => h) (by rfl) (by intro wq hq; obtain ⟨⟨q0, q1, q2⟩, ⟨q3, q4, q5⟩, _⟩ := hq; go_simp) (by assumption) ?_
            simp only [Act.put, List.setIfInBounds_toArray, List.set_cons_zero, List.set_cons_succ]
            refine wpAnyH_ready (rs := [18]) (by kernel_rfl) (by simp) ?_
            refine AllReadyH.cons rfl (fun K hK => ?_) AllReadyH.nil
            go_simp
            refine (i_MoveMark (k : Int) (q : Int) (d : Int) (s.size : Int) (k : Int) t wr.drew (by omega) HM1.out).mono ?_
            rintro e w20 ⟨rfl, hb20⟩
            have hB20 : Below w4.heap.size w4 w20 := HBR.out.drew.trans (hb20.mono HBR.out.size)
            clear hb20
            refine hK.out _ _ (EE.out _ hB20) (fun hHeld2 => ?_)
            clear hK hHeld
            have hHeld := hHeld2
            clear hHeld2
            refine wpAnyH_ready (rs := [21]) (by kernel_rfl) (by simp) ?_
            refine AllReadyH.cons rfl (fun K hK => ?_) AllReadyH.nil
            go_simp
            refine (i_MoveMark (k : Int) (q : Int) (t.size : Int) (many : Int) (k : Int) X w20 (by omega) HM2.out).mono ?_
            rintro e w21 ⟨rfl, hb21⟩
            have hB21 : Below w4.heap.size w4 w21 := hB20.trans (hb21.mono hB20.size)
            clear hb21
            refine hK.out _ _ (EE.out _ hB21) (fun hHeld2 => ?_)
            clear hK hHeld
            have hHeld := hHeld2
            clear hHeld2
            refine reg_take (i := 23) (d := 90) (.bool false) rfl rfl (by kernel_rfl) (by kernel_rfl) (by kernel_rfl) (fun _ _ _ h => h) (by rfl) (by intro wq hq; obtain ⟨⟨q0, q1, q2⟩, ⟨q3, q4, q5⟩, _⟩ := hq; go_simp) (by assumption) ?_
            simp only [Act.put, List.setIfInBounds_toArray, List.set_cons_zero, List.set_cons_succ]
            refine reg_take (i := 24) (d := 91) (.bool false) rfl rfl (by kernel_rfl) (by kernel_rfl) (by kernel_rfl) (fun _ _ _ h => h) (by rfl) (by intro wq hq; obtain ⟨⟨q0, q1, q2⟩, ⟨q3, q4, q5⟩, _⟩ := hq; go_simp) (by assumption) ?_
            simp only [Act.put, List.setIfInBounds_toArray, List.set_cons_zero, List.set_cons_succ]
            refine wpAnyH_done (by kernel_rfl) ?_ _
            all_goals
              go_wp2
              go_roundw
              case rel => exact ⟨k + 1, by omega, by go_num, hB21⟩
              case measure => simp [intOf]; omega
          · have d1 : decide ((k : Int) ≤ (q : Int)) = false := decide_eq_false (by omega)
            obtain ⟨r, hr⟩ : ∃ r, q + d = r := ⟨_, rfl⟩
            have u3 : IntKind.i64.wrap ((q : Int) + (d : Int)) = (r : Int) := by rw [show ((q : Int) + (d : Int)) = (r : Int) from by omega]; exact IntWalk.i64_in _ (by omega)
            have hkd : decide ((k : Int) ≤ (s.size : Int)) = true := decide_eq_true (by omega)
            by_cases hC : r < k
            · have d2 : decide ((r : Int) < (k : Int)) = true := decide_eq_true (by omega)
              obtain ⟨m, hm⟩ : ∃ m : Nat, k + t.size = m + d := ⟨k + t.size - d, by omega⟩
              have HM1 : Hid (mvA (k : Int) q d t s.size = (m : Int)) := mv_last HC.out (by omega) (by omega) (by omega) hm
              have HM2 : Hid (mvA (m : Int) q t.size X many = (k : Int)) := mv_last HC2.out (by omega) (by omega) (by omega) (by omega)
              clear hr
              go_wp2_with fail
              refine wp_region_held_drew (S := fun wy => (wy.cell? ⟨G1, 0, none⟩ = some (.int .i64 (q : Int)) ∧ wy.cell? ⟨G1, 1, none⟩ = some (.int .i64 (d : Int)) ∧ wy.cell? ⟨G1, 2, none⟩ = some (.string t)) ∧ (wy.cell? ⟨G2, 0, none⟩ = some (.int .i64 (q : Int)) ∧ wy.cell? ⟨G2, 1, none⟩ = some (.int .i64 (t.size : Int)) ∧ wy.cell? ⟨G2, 2, none⟩ = some (.string X)) ∧ Below w4.heap.size w4 wy) (by kernel_rfl) (EE.out _ HBR.out.drew) (fun hHeld => ?_)
              refine reg_take (i := 0) (d := 67) (.int .i64 (k : Int)) rfl rfl (by kernel_rfl) (by kernel_rfl) (by kernel_rfl) (fun _ _ _ h => h) (by rfl) (by intro wq hq; obtain ⟨⟨q0, q1, q2⟩, ⟨q3, q4, q5⟩, _⟩ := hq; go_simp) (by assumption) ?_
              simp only [Act.put, List.setIfInBounds_toArray, List.set_cons_zero, List.set_cons_succ]
              refine reg_take (i := 1) (d := 68) (.pointer (some ⟨G1, 0, none⟩)) rfl rfl (by kernel_rfl) (by kernel_rfl) (by kernel_rfl) (fun _ _ _ h => h) (by rfl) (by intro wq hq; obtain ⟨⟨q0, q1, q2⟩, ⟨q3, q4, q5⟩, _⟩ := hq; go_simp) (by assumption) ?_
              simp only [Act.put, List.setIfInBounds_toArray, List.set_cons_zero, List.set_cons_succ]
              refine reg_take (i := 2) (d := 69) (.int .i64 (q : Int)) rfl rfl (by kernel_rfl) (by kernel_rfl) (by kernel_rfl) (fun _ _ _ h => h) (by rfl) (by intro wq hq; obtain ⟨⟨q0, q1, q2⟩, ⟨q3, q4, q5⟩, _⟩ := hq; go_simp) (by assumption) ?_
              simp only [Act.put, List.setIfInBounds_toArray, List.set_cons_zero, List.set_cons_succ]
              refine reg_take (i := 3) (d := 70) (.bool false) rfl rfl (by kernel_rfl) (by kernel_rfl) (by kernel_rfl) (fun _ _ _ h => h) (by rfl) (by intro wq hq; obtain ⟨⟨q0, q1, q2⟩, ⟨q3, q4, q5⟩, _⟩ := hq; go_simp) (by assumption) ?_
              simp only [Act.put, List.setIfInBounds_toArray, List.set_cons_zero, List.set_cons_succ]
              refine reg_take (i := 4) (d := 71) (.bool false) rfl rfl (by kernel_rfl) (by kernel_rfl) (by kernel_rfl) (fun _ _ _ h => h) (by rfl) (by intro wq hq; obtain ⟨⟨q0, q1, q2⟩, ⟨q3, q4, q5⟩, _⟩ := hq; go_simp) (by assumption) ?_
              simp only [Act.put, List.setIfInBounds_toArray, List.set_cons_zero, List.set_cons_succ]
              refine reg_take (i := 5) (d := 72) (.int .i64 (k : Int)) rfl rfl (by kernel_rfl) (by kernel_rfl) (by kernel_rfl) (fun _ _ _ h => h) (by rfl) (by intro wq hq; obtain ⟨⟨q0, q1, q2⟩, ⟨q3, q4, q5⟩, _⟩ := hq; go_simp) (by assumption) ?_
              simp only [Act.put, List.setIfInBounds_toArray, List.set_cons_zero, List.set_cons_succ]
              refine reg_take (i := 6) (d := 73) (.pointer (some ⟨G1, 0, none⟩)) rfl rfl (by kernel_rfl) (by kernel_rfl) (by kernel_rfl) (fun _ _ _ h => h) (by rfl) (by intro wq hq; obtain ⟨⟨q0, q1, q2⟩, ⟨q3, q4, q5⟩, _⟩ := hq; go_simp) (by assumption) ?_
              simp only [Act.put, List.setIfInBounds_toArray, List.set_cons_zero, List.set_cons_succ]
              refine reg_take (i := 7) (d := 74) (.int .i64 (q : Int)) rfl rfl (by kernel_rfl) (by kernel_rfl) (by kernel_rfl) (fun _ _ _ h => h) (by rfl) (by intro wq hq; obtain ⟨⟨q0, q1, q2⟩, ⟨q3, q4, q5⟩, _⟩ := hq; go_simp) (by assumption) ?_
              simp only [Act.put, List.setIfInBounds_toArray, List.set_cons_zero, List.set_cons_succ]
              refine reg_take (i := 8) (d := 75) (.pointer (some ⟨G1, 1, none⟩)) rfl rfl (by kernel_rfl) (by kernel_rfl) (by kernel_rfl) (fun _ _ _ h => h) (by rfl) (by intro wq hq; obtain ⟨⟨q0, q1, q2⟩, ⟨q3, q4, q5⟩, _⟩ := hq; go_simp) (by assumption) ?_
              simp only [Act.put, List.setIfInBounds_toArray, List.set_cons_zero, List.set_cons_succ]
              refine reg_take (i := 9) (d := 76) (.int .i64 (d : Int)) rfl rfl (by kernel_rfl) (by kernel_rfl) (by kernel_rfl) (fun _ _ _ h => h) (by rfl) (by intro wq hq; obtain ⟨⟨q0, q1, q2⟩, ⟨q3, q4, q5⟩, _⟩ := hq; go_simp) (by assumption) ?_
              simp only [Act.put, List.setIfInBounds_toArray, List.set_cons_zero, List.set_cons_succ]
              refine reg_take (i := 10) (d := 77) (.int .i64 (r : Int)) rfl rfl (by kernel_rfl) (by kernel_rfl) (by kernel_rfl) (fun _ _ _ h => h) (by rfl) (by intro wq hq; obtain ⟨⟨q0, q1, q2⟩, ⟨q3, q4, q5⟩, _⟩ := hq; go_simp) (by assumption) ?_
              simp only [Act.put, List.setIfInBounds_toArray, List.set_cons_zero, List.set_cons_succ]
              refine reg_take (i := 11) (d := 78) (.bool true) rfl rfl (by kernel_rfl) (by kernel_rfl) (by kernel_rfl) (fun _ _ _ h => h) (by rfl) (by intro wq hq; obtain ⟨⟨q0, q1, q2⟩, ⟨q3, q4, q5⟩, _⟩ := hq; go_simp) (by assumption) ?_
              simp only [Act.put, List.setIfInBounds_toArray, List.set_cons_zero, List.set_cons_succ]
              refine reg_take (i := 12) (d := 79) (.bool true) rfl rfl (by kernel_rfl) (by kernel_rfl) (by kernel_rfl) (fun _ _ _ h => h) (by rfl) (by intro wq hq; obtain ⟨⟨q0, q1, q2⟩, ⟨q3, q4, q5⟩, _⟩ := hq; go_simp) (by assumption) ?_
              simp only [Act.put, List.setIfInBounds_toArray, List.set_cons_zero, List.set_cons_succ]
              refine reg_take (i := 13) (d := 80) (.bool true) rfl rfl (by kernel_rfl) (by kernel_rfl) (by kernel_rfl) (fun _ _ _ h => h) (by rfl) (by intro wq hq; obtain ⟨⟨q0, q1, q2⟩, ⟨q3, q4, q5⟩, _⟩ := hq; go_simp) (by assumption) ?_
              simp only [Act.put, List.setIfInBounds_toArray, List.set_cons_zero, List.set_cons_succ]
              refine reg_take (i := 14) (d := 81) (.int .i64 (k : Int)) rfl rfl (by kernel_rfl) (by kernel_rfl) (by kernel_rfl) (fun _ _ _ h => h) (by rfl) (by intro wq hq; obtain ⟨⟨q0, q1, q2⟩, ⟨q3, q4, q5⟩, _⟩ := hq; go_simp) (by assumption) ?_
              simp only [Act.put, List.setIfInBounds_toArray, List.set_cons_zero, List.set_cons_succ]
              refine reg_take (i := 15) (d := 82) (edV (q : Int) (d : Int) t) rfl rfl (by kernel_rfl) (by kernel_rfl) (by kernel_rfl) (fun _ _ _ h => h) (by rfl) (by intro wq hq; obtain ⟨⟨q0, q1, q2⟩, ⟨q3, q4, q5⟩, _⟩ := hq; go_simp) (by assumption) ?_
              simp only [Act.put, List.setIfInBounds_toArray, List.set_cons_zero, List.set_cons_succ]
              refine reg_take (i := 16) (d := 83) (.string s) rfl rfl (by kernel_rfl) (by kernel_rfl) (by kernel_rfl) (fun _ _ _ h => h) (by rfl) (by intro wq hq; obtain ⟨⟨q0, q1, q2⟩, ⟨q3, q4, q5⟩, _⟩ := hq; go_simp) (by assumption) ?_
              simp only [Act.put, List.setIfInBounds_toArray, List.set_cons_zero, List.set_cons_succ]
              refine reg_take (i := 17) (d := 84) (.int .i64 (s.size : Int)) rfl rfl (by kernel_rfl) (by kernel_rfl) (by kernel_rfl) (fun _ _ _ h => h) (by rfl) (by intro wq hq; obtain ⟨⟨q0, q1, q2⟩, ⟨q3, q4, q5⟩, _⟩ := hq; go_simp) (by assumption) ?_
              simp only [Act.put, List.setIfInBounds_toArray, List.set_cons_zero, List.set_cons_succ]
              refine reg_take (i := 19) (d := 86) (edV (q : Int) (t.size : Int) X) rfl rfl (by kernel_rfl) (by kernel_rfl) (by kernel_rfl) (fun _ _ _ h => h) (by rfl) (by intro wq hq; obtain ⟨⟨q0, q1, q2⟩, ⟨q3, q4, q5⟩, _⟩ := hq; go_simp) (by assumption) ?_
              simp only [Act.put, List.setIfInBounds_toArray, List.set_cons_zero, List.set_cons_succ]
              refine reg_take (i := 20) (d := 87) (.int .i64 (many : Int)) rfl rfl (by kernel_rfl) (by kernel_rfl) (by kernel_rfl) (fun _ _ _ h => h) (by rfl) (by intro wq hq; obtain ⟨⟨q0, q1, q2⟩, ⟨q3, q4, q5⟩, _⟩ := hq; go_simp) (by assumption) ?_
              simp only [Act.put, List.setIfInBounds_toArray, List.set_cons_zero, List.set_cons_succ]
              refine reg_take (i := 22) (d := 89) (.int .i64 (k : Int)) rfl rfl (by kernel_rfl) (by kernel_rfl) (by kernel_rfl) (fun _ _ _ h => h) (by rfl) (by intro wq hq; obtain ⟨⟨q0, q1, q2⟩, ⟨q3, q4, q5⟩, _⟩ := hq; go_simp) (by assumption) ?_
              simp only [Act.put, List.setIfInBounds_toArray, List.set_cons_zero, List.set_cons_succ]
              refine wpAnyH_ready (rs := [18]) (by kernel_rfl) (by simp) ?_
              refine AllReadyH.cons rfl (fun K hK => ?_) AllReadyH.nil
              go_simp
              refine (i_MoveMark (k : Int) (q : Int) (d : Int) (s.size : Int) (m : Int) t wr.drew (by omega) HM1.out).mono ?_
              rintro e w20 ⟨rfl, hb20⟩
              have hB20 : Below w4.heap.size w4 w20 := HBR.out.drew.trans (hb20.mono HBR.out.size)
              clear hb20
              refine hK.out _ _ (EE.out _ hB20) (fun hHeld2 => ?_)
              clear hK hHeld
              have hHeld := hHeld2
              clear hHeld2
              refine wpAnyH_ready (rs := [21]) (by kernel_rfl) (by simp) ?_
              refine AllReadyH.cons rfl (fun K hK => ?_) AllReadyH.nil
              go_simp
              refine (i_MoveMark (m : Int) (q : Int) (t.size : Int) (many : Int) (k : Int) X w20 (by omega) HM2.out).mono ?_
              rintro e w21 ⟨rfl, hb21⟩
              have hB21 : Below w4.heap.size w4 w21 := hB20.trans (hb21.mono hB20.size)
              clear hb21
              refine hK.out _ _ (EE.out _ hB21) (fun hHeld2 => ?_)
              clear hK hHeld
              have hHeld := hHeld2
              clear hHeld2
              refine reg_take (i := 23) (d := 90) (.bool false) rfl rfl (by kernel_rfl) (by kernel_rfl) (by kernel_rfl) (fun _ _ _ h => h) (by rfl) (by intro wq hq; obtain ⟨⟨q0, q1, q2⟩, ⟨q3, q4, q5⟩, _⟩ := hq; go_simp) (by assumption) ?_
              simp only [Act.put, List.setIfInBounds_toArray, List.set_cons_zero, List.set_cons_succ]
              refine reg_take (i := 24) (d := 91) (.bool false) rfl rfl (by kernel_rfl) (by kernel_rfl) (by kernel_rfl) (fun _ _ _ h => h) (by rfl) (by intro wq hq; obtain ⟨⟨q0, q1, q2⟩, ⟨q3, q4, q5⟩, _⟩ := hq; go_simp) (by assumption) ?_
              simp only [Act.put, List.setIfInBounds_toArray, List.set_cons_zero, List.set_cons_succ]
              refine wpAnyH_done (by kernel_rfl) ?_ _
              all_goals
                go_wp2
                go_roundw
                case rel => exact ⟨k + 1, by omega, by go_num, hB21⟩
                case measure => simp [intOf]; omega
            · have d2 : decide ((r : Int) < (k : Int)) = false := decide_eq_false (by omega)
              clear hr
              go_wp2_with fail
              refine wp_region_held_drew (S := fun wy => (wy.cell? ⟨G1, 0, none⟩ = some (.int .i64 (q : Int)) ∧ wy.cell? ⟨G1, 1, none⟩ = some (.int .i64 (d : Int)) ∧ wy.cell? ⟨G1, 2, none⟩ = some (.string t)) ∧ (wy.cell? ⟨G2, 0, none⟩ = some (.int .i64 (q : Int)) ∧ wy.cell? ⟨G2, 1, none⟩ = some (.int .i64 (t.size : Int)) ∧ wy.cell? ⟨G2, 2, none⟩ = some (.string X)) ∧ Below w4.heap.size w4 wy) (by kernel_rfl) (EE.out _ HBR.out.drew) (fun hHeld => ?_)
              refine reg_take (i := 0) (d := 67) (.int .i64 (k : Int)) rfl rfl (by kernel_rfl) (by kernel_rfl) (by kernel_rfl) (fun _ _ _ h => h) (by rfl) (by intro wq hq; obtain ⟨⟨q0, q1, q2⟩, ⟨q3, q4, q5⟩, _⟩ := hq; go_simp) (by assumption) ?_
              simp only [Act.put, List.setIfInBounds_toArray, List.set_cons_zero, List.set_cons_succ]
              refine reg_take (i := 1) (d := 68) (.pointer (some ⟨G1, 0, none⟩)) rfl rfl (by kernel_rfl) (by kernel_rfl) (by kernel_rfl) (fun _ _ _ h => h) (by rfl) (by intro wq hq; obtain ⟨⟨q0, q1, q2⟩, ⟨q3, q4, q5⟩, _⟩ := hq; go_simp) (by assumption) ?_
              simp only [Act.put, List.setIfInBounds_toArray, List.set_cons_zero, List.set_cons_succ]
              refine reg_take (i := 2) (d := 69) (.int .i64 (q : Int)) rfl rfl (by kernel_rfl) (by kernel_rfl) (by kernel_rfl) (fun _ _ _ h => h) (by rfl) (by intro wq hq; obtain ⟨⟨q0, q1, q2⟩, ⟨q3, q4, q5⟩, _⟩ := hq; go_simp) (by assumption) ?_
              simp only [Act.put, List.setIfInBounds_toArray, List.set_cons_zero, List.set_cons_succ]
              refine reg_take (i := 3) (d := 70) (.bool false) rfl rfl (by kernel_rfl) (by kernel_rfl) (by kernel_rfl) (fun _ _ _ h => h) (by rfl) (by intro wq hq; obtain ⟨⟨q0, q1, q2⟩, ⟨q3, q4, q5⟩, _⟩ := hq; go_simp) (by assumption) ?_
              simp only [Act.put, List.setIfInBounds_toArray, List.set_cons_zero, List.set_cons_succ]
              refine reg_take (i := 4) (d := 71) (.bool false) rfl rfl (by kernel_rfl) (by kernel_rfl) (by kernel_rfl) (fun _ _ _ h => h) (by rfl) (by intro wq hq; obtain ⟨⟨q0, q1, q2⟩, ⟨q3, q4, q5⟩, _⟩ := hq; go_simp) (by assumption) ?_
              simp only [Act.put, List.setIfInBounds_toArray, List.set_cons_zero, List.set_cons_succ]
              refine reg_take (i := 5) (d := 72) (.int .i64 (k : Int)) rfl rfl (by kernel_rfl) (by kernel_rfl) (by kernel_rfl) (fun _ _ _ h => h) (by rfl) (by intro wq hq; obtain ⟨⟨q0, q1, q2⟩, ⟨q3, q4, q5⟩, _⟩ := hq; go_simp) (by assumption) ?_
              simp only [Act.put, List.setIfInBounds_toArray, List.set_cons_zero, List.set_cons_succ]
              refine reg_take (i := 6) (d := 73) (.pointer (some ⟨G1, 0, none⟩)) rfl rfl (by kernel_rfl) (by kernel_rfl) (by kernel_rfl) (fun _ _ _ h => h) (by rfl) (by intro wq hq; obtain ⟨⟨q0, q1, q2⟩, ⟨q3, q4, q5⟩, _⟩ := hq; go_simp) (by assumption) ?_
              simp only [Act.put, List.setIfInBounds_toArray, List.set_cons_zero, List.set_cons_succ]
              refine reg_take (i := 7) (d := 74) (.int .i64 (q : Int)) rfl rfl (by kernel_rfl) (by kernel_rfl) (by kernel_rfl) (fun _ _ _ h => h) (by rfl) (by intro wq hq; obtain ⟨⟨q0, q1, q2⟩, ⟨q3, q4, q5⟩, _⟩ := hq; go_simp) (by assumption) ?_
              simp only [Act.put, List.setIfInBounds_toArray, List.set_cons_zero, List.set_cons_succ]
              refine reg_take (i := 8) (d := 75) (.pointer (some ⟨G1, 1, none⟩)) rfl rfl (by kernel_rfl) (by kernel_rfl) (by kernel_rfl) (fun _ _ _ h => h) (by rfl) (by intro wq hq; obtain ⟨⟨q0, q1, q2⟩, ⟨q3, q4, q5⟩, _⟩ := hq; go_simp) (by assumption) ?_
              simp only [Act.put, List.setIfInBounds_toArray, List.set_cons_zero, List.set_cons_succ]
              refine reg_take (i := 9) (d := 76) (.int .i64 (d : Int)) rfl rfl (by kernel_rfl) (by kernel_rfl) (by kernel_rfl) (fun _ _ _ h => h) (by rfl) (by intro wq hq; obtain ⟨⟨q0, q1, q2⟩, ⟨q3, q4, q5⟩, _⟩ := hq; go_simp) (by assumption) ?_
              simp only [Act.put, List.setIfInBounds_toArray, List.set_cons_zero, List.set_cons_succ]
              refine reg_take (i := 10) (d := 77) (.int .i64 (r : Int)) rfl rfl (by kernel_rfl) (by kernel_rfl) (by kernel_rfl) (fun _ _ _ h => h) (by rfl) (by intro wq hq; obtain ⟨⟨q0, q1, q2⟩, ⟨q3, q4, q5⟩, _⟩ := hq; go_simp) (by assumption) ?_
              simp only [Act.put, List.setIfInBounds_toArray, List.set_cons_zero, List.set_cons_succ]
              refine reg_take (i := 11) (d := 78) (.bool false) rfl rfl (by kernel_rfl) (by kernel_rfl) (by kernel_rfl) (fun _ _ _ h => h) (by rfl) (by intro wq hq; obtain ⟨⟨q0, q1, q2⟩, ⟨q3, q4, q5⟩, _⟩ := hq; go_simp) (by assumption) ?_
              simp only [Act.put, List.setIfInBounds_toArray, List.set_cons_zero, List.set_cons_succ]
              refine reg_take (i := 12) (d := 79) (.bool false) rfl rfl (by kernel_rfl) (by kernel_rfl) (by kernel_rfl) (fun _ _ _ h => h) (by rfl) (by intro wq hq; obtain ⟨⟨q0, q1, q2⟩, ⟨q3, q4, q5⟩, _⟩ := hq; go_simp) (by assumption) ?_
              simp only [Act.put, List.setIfInBounds_toArray, List.set_cons_zero, List.set_cons_succ]
              refine reg_take (i := 13) (d := 80) (.bool false) rfl rfl (by kernel_rfl) (by kernel_rfl) (by kernel_rfl) (fun _ _ _ h => h) (by rfl) (by intro wq hq; obtain ⟨⟨q0, q1, q2⟩, ⟨q3, q4, q5⟩, _⟩ := hq; go_simp) (by assumption) ?_
              simp only [Act.put, List.setIfInBounds_toArray, List.set_cons_zero, List.set_cons_succ]
              refine reg_skip (i := 14) (d := 81) rfl rfl (by kernel_rfl) (by kernel_rfl) (by kernel_rfl) (fun _ _ _ h => h) (by rfl) (by assumption) ?_
              simp only [Act.put, List.setIfInBounds_toArray, List.set_cons_zero, List.set_cons_succ]
              refine reg_skip (i := 15) (d := 82) rfl rfl (by kernel_rfl) (by kernel_rfl) (by kernel_rfl) (fun _ _ _ h => h) (by rfl) (by assumption) ?_
              simp only [Act.put, List.setIfInBounds_toArray, List.set_cons_zero, List.set_cons_succ]
              refine reg_skip (i := 16) (d := 83) rfl rfl (by kernel_rfl) (by kernel_rfl) (by kernel_rfl) (fun _ _ _ h => h) (by rfl) (by assumption) ?_
              simp only [Act.put, List.setIfInBounds_toArray, List.set_cons_zero, List.set_cons_succ]
              refine reg_skip (i := 17) (d := 84) rfl rfl (by kernel_rfl) (by kernel_rfl) (by kernel_rfl) (fun _ _ _ h => h) (by rfl) (by assumption) ?_
              simp only [Act.put, List.setIfInBounds_toArray, List.set_cons_zero, List.set_cons_succ]
              refine reg_skip (i := 18) (d := 85) rfl rfl (by kernel_rfl) (by kernel_rfl) (by kernel_rfl) (fun _ _ _ h => h) (by rfl) (by assumption) ?_
              simp only [Act.put, List.setIfInBounds_toArray, List.set_cons_zero, List.set_cons_succ]
              refine reg_skip (i := 19) (d := 86) rfl rfl (by kernel_rfl) (by kernel_rfl) (by kernel_rfl) (fun _ _ _ h => h) (by rfl) (by assumption) ?_
              simp only [Act.put, List.setIfInBounds_toArray, List.set_cons_zero, List.set_cons_succ]
              refine reg_skip (i := 20) (d := 87) rfl rfl (by kernel_rfl) (by kernel_rfl) (by kernel_rfl) (fun _ _ _ h => h) (by rfl) (by assumption) ?_
              simp only [Act.put, List.setIfInBounds_toArray, List.set_cons_zero, List.set_cons_succ]
              refine reg_skip (i := 21) (d := 88) rfl rfl (by kernel_rfl) (by kernel_rfl) (by kernel_rfl) (fun _ _ _ h => h) (by rfl) (by assumption) ?_
              simp only [Act.put, List.setIfInBounds_toArray, List.set_cons_zero, List.set_cons_succ]
              refine reg_skip (i := 22) (d := 89) rfl rfl (by kernel_rfl) (by kernel_rfl) (by kernel_rfl) (fun _ _ _ h => h) (by rfl) (by assumption) ?_
              simp only [Act.put, List.setIfInBounds_toArray, List.set_cons_zero, List.set_cons_succ]
              refine reg_skip (i := 23) (d := 90) rfl rfl (by kernel_rfl) (by kernel_rfl) (by kernel_rfl) (fun _ _ _ h => h) (by rfl) (by assumption) ?_
              simp only [Act.put, List.setIfInBounds_toArray, List.set_cons_zero, List.set_cons_succ]
              refine reg_take (i := 24) (d := 91) (.bool false) rfl rfl (by kernel_rfl) (by kernel_rfl) (by kernel_rfl) (fun _ _ _ h => h) (by rfl) (by intro wq hq; obtain ⟨⟨q0, q1, q2⟩, ⟨q3, q4, q5⟩, _⟩ := hq; go_simp) (by assumption) ?_
              simp only [Act.put, List.setIfInBounds_toArray, List.set_cons_zero, List.set_cons_succ]
              refine wpAnyH_done (by kernel_rfl) ?_ _
              all_goals
                go_wp2
                go_roundw
                case rel => exact ⟨k + 1, by omega, by go_num, HBR.out.drew⟩
                case measure => simp [intOf]; omega
        · have hkd : decide ((k : Int) ≤ (s.size : Int)) = false := decide_eq_false (by omega)
          go_wp2
          go_ret
          exact ⟨rfl, below_next HBx.out HBR.out⟩
    · have HN := Lib.hid hok
      clear hok
      have E1 := EdAt.new w1 (x) (c) (t)
      replace HB := HB.alloc HB.size (.cells #[.int .i64 (x), .int .i64 (c), .string (t)] 24)
      obtain ⟨c1a, c1b, c1c⟩ := E1.cells
      go_wp2_with fail
      clear c1a c1b c1c
      generalize (w1.alloc (.cells #[.int .i64 (x), .int .i64 (c), .string (t)] 24)) = v1 at E1 HB ⊢
      generalize w1.heap.size = G1 at E1 ⊢
      obtain ⟨c1a, c1b, c1c⟩ := E1.cells
      refine (i_InvertEdit_no s t x c _ (by omega) (by omega) HN.out).mono ?_
      rintro e w2 ⟨rfl, hbn⟩
      clear c1a c1b c1c
      replace E1 := E1.below hbn E1.lt
      replace HB := below_next HB hbn
      clear hbn
      obtain ⟨c1a, c1b, c1c⟩ := E1.cells
      clear c1a c1b c1c
      replace E1 := E1.alloc (.cells #[.int .i64 (0), .int .i64 (0), .string (⟨#[]⟩)] 24)
      have E2 := EdAt.new w2 (0) (0) (⟨#[]⟩)
      replace HB := HB.alloc HB.size (.cells #[.int .i64 (0), .int .i64 (0), .string (⟨#[]⟩)] 24)
      obtain ⟨c1a, c1b, c1c⟩ := E1.cells
      obtain ⟨c2a, c2b, c2c⟩ := E2.cells
      go_wp2_with fail
      clear c1a c1b c1c c2a c2b c2c
      generalize (w2.alloc (.cells #[.int .i64 (0), .int .i64 (0), .string (⟨#[]⟩)] 24)) = v2 at E1 E2 HB ⊢
      generalize w2.heap.size = G2 at E2 ⊢
      obtain ⟨c1a, c1b, c1c⟩ := E1.cells
      obtain ⟨c2a, c2b, c2c⟩ := E2.cells
      refine (s_InvertEdit_no s t x c _ (by omega) (by omega) HN.out).mono ?_
      rintro e w3 ⟨rfl, hbn⟩
      clear c1a c1b c1c c2a c2b c2c
      replace E1 := E1.below hbn E1.lt
      replace E2 := E2.below hbn E2.lt
      replace HB := below_next HB hbn
      clear hbn
      obtain ⟨c1a, c1b, c1c⟩ := E1.cells
      obtain ⟨c2a, c2b, c2c⟩ := E2.cells
      clear c1a c1b c1c c2a c2b c2c
      replace E1 := E1.alloc (.cells #[.int .i64 (0), .int .i64 (0), .string (⟨#[]⟩)] 24)
      replace E2 := E2.alloc (.cells #[.int .i64 (0), .int .i64 (0), .string (⟨#[]⟩)] 24)
      have E3 := EdAt.new w3 (0) (0) (⟨#[]⟩)
      replace HB := HB.alloc HB.size (.cells #[.int .i64 (0), .int .i64 (0), .string (⟨#[]⟩)] 24)
      obtain ⟨c1a, c1b, c1c⟩ := E1.cells
      obtain ⟨c2a, c2b, c2c⟩ := E2.cells
      obtain ⟨c3a, c3b, c3c⟩ := E3.cells
      go_wp2_with fail
      clear c1a c1b c1c c2a c2b c2c c3a c3b c3c
      generalize (w3.alloc (.cells #[.int .i64 (0), .int .i64 (0), .string (⟨#[]⟩)] 24)) = v3 at E1 E2 E3 HB ⊢
      generalize w3.heap.size = G3 at E3 ⊢
      obtain ⟨c1a, c1b, c1c⟩ := E1.cells
      obtain ⟨c2a, c2b, c2c⟩ := E2.cells
      obtain ⟨c3a, c3b, c3c⟩ := E3.cells
      refine (equalEdit_same _ _ _ _).mono ?_
      rintro e w4 ⟨rfl, hbn⟩
      clear c1a c1b c1c c2a c2b c2c c3a c3b c3c
      replace E1 := E1.below hbn E1.lt
      replace E2 := E2.below hbn E2.lt
      replace E3 := E3.below hbn E3.lt
      replace HB := below_next HB hbn
      clear hbn
      obtain ⟨c1a, c1b, c1c⟩ := E1.cells
      obtain ⟨c2a, c2b, c2c⟩ := E2.cells
      obtain ⟨c3a, c3b, c3c⟩ := E3.cells
      go_wp2_with fail
      refine (equalEdit_same _ _ _ _).mono ?_
      rintro e w5 ⟨rfl, hbn⟩
      clear c1a c1b c1c c2a c2b c2c c3a c3b c3c
      replace E1 := E1.below hbn E1.lt
      replace E2 := E2.below hbn E2.lt
      replace E3 := E3.below hbn E3.lt
      replace HB := below_next HB hbn
      clear hbn
      obtain ⟨c1a, c1b, c1c⟩ := E1.cells
      obtain ⟨c2a, c2b, c2c⟩ := E2.cells
      obtain ⟨c3a, c3b, c3c⟩ := E3.cells
      go_wp2
      go_ret
      exact ⟨rfl, HB⟩
  · have d : decide (len ≤ 1048576) = false := decide_eq_false hbig
    have hl : (1048576 : Int) < len := by omega
    clear h
    go_enter Try.func7, Try.ntmps7
    go_wp2
    go_ret
    exact ⟨rfl, Below.refl _ _⟩
end Go.Proofs.Ythlamidlcbnchaa
