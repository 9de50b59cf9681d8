
/- P156: marks stay before the same text. -/
import Derived.Test.YthlamidlcbnchaaEdk
namespace Go.Proofs.Ythlamidlcbnchaa
open Go.RowKit

theorem ed_head {s t : ByteArray} {q d k : Nat} (hq : q + d ≤ s.size) (hk : k ≤ q) : (edS s q d t).extract 0 k = s.extract 0 k := by
  have ext : ∀ a b : ByteArray, a.data.toList = b.data.toList → a = b := fun a b h => by
    cases a; cases b; simp at h; rw [h]
  apply ext
  rw [extract_list, extract_list]
  unfold edS
  rw [ByteArray.data_append, ByteArray.data_append, Array.toList_append, Array.toList_append, extract_list, extract_list]
  have hl := size_data s
  simp only [sub, List.drop_zero, Nat.sub_zero]
  rw [List.append_assoc, List.take_append_of_le_length (by rw [List.length_take]; omega), List.take_take, Nat.min_eq_left hk]
theorem ed_tail {s t : ByteArray} {q d k m : Nat} (hq : q + d ≤ k) (hk : k ≤ s.size) (hm : k + t.size = m + d) : (edS s q d t).extract m (edS s q d t).size = s.extract k s.size := by
  have ext : ∀ a b : ByteArray, a.data.toList = b.data.toList → a = b := fun a b h => by
    cases a; cases b; simp at h; rw [h]
  apply ext
  have hl := size_data s
  have hlt := size_data t
  rw [extract_list, extract_list, ← size_data (edS s q d t), ← hl]
  have hO : (edS s q d t).data.toList = s.data.toList.take q ++ t.data.toList ++ s.data.toList.drop (q + d) := by
    unfold edS
    rw [ByteArray.data_append, ByteArray.data_append, Array.toList_append, Array.toList_append, extract_list, extract_list]
    simp only [sub, List.drop_zero, Nat.sub_zero]
    rw [List.take_of_length_le (l := s.data.toList.drop (q + d)) (by rw [List.length_drop]; omega)]
  rw [hO]
  simp only [sub]
  have e1 : ∀ (L : List UInt8) (i : Nat), (L.drop i).take (L.length - i) = L.drop i := fun L i => List.take_of_length_le (by rw [List.length_drop]; omega)
  rw [e1, e1]
  have htk : (s.data.toList.take q).length = q := by rw [List.length_take]; omega
  rw [List.drop_append, List.length_append, htk, hlt, List.drop_of_length_le (by rw [List.length_append, htk, hlt]; omega), List.nil_append, List.drop_drop, show q + d + (m - (q + t.size)) = k from by omega]
set_option maxHeartbeats 4000000 in
theorem moveMarkText_walk (a : Option Addr) (len cap : Nat) (zs : List Int) (w : World) (h : RowIn .u8 w a len cap zs) :
    Calls Try.prog 6 #[.slice a len cap] w fun e w' => e = .returned (.bool true) ∧ Below w.heap.size w w' := by
  have hlen : len ≤ 9223372036854775807 := by
    obtain ⟨_, h2, h3⟩ := bytesAt_of_row h; unfold maxLen at h3; omega
  by_cases hbig : len ≤ 1048576
  · go_enter Try.func6, Try.ntmps6
    go_wp2_with fail
    refine (drawApplyEdit_any w w.heap.size a len cap (bytesAt_of_row h).1 (Nat.le_refl _) (bytesAt_of_row h).2.1 (bytesAt_of_row h).2.2).mono ?_
    rintro e w1 ⟨s, x, c, t, rfl, hs, ht, HB⟩
    clear h
    by_cases hok : ValidT s.data.toList ∧ CanE x c t s.size
    · obtain ⟨hv, hc⟩ := hok
      obtain ⟨m, q, d, e1, e2, e3, e4, e5, e6, e7, e8⟩ := hc.nat
      subst e2 e3
      obtain rfl : s.size = m := by omega
      clear e1
      have htz := e7.size
      have HV := Lib.hid hv
      have HC := Lib.hid hc
      have hcan := ed_can hv hc
      have hback := ed_back (s := s) (t := t) e5
      have hval := ed_valid hv hc
      obtain ⟨X, hX⟩ : ∃ X, s.extract q (q + d) = X := ⟨_, rfl⟩
      obtain ⟨O, hO⟩ : ∃ O, edS s q d t = O := ⟨_, rfl⟩
      rw [hX, hO] at hcan
      rw [hX, hO] at hback
      rw [hO] at hval
      have HX := Lib.hid hX
      have HO := Lib.hid hO
      have HCAN := Lib.hid hcan
      have HBACK := Lib.hid hback
      have HVAL := Lib.hid hval
      have hX60 : X.size ≤ 60 := by have := hcan.2; omega
      have hO60 : O.size ≤ 60 := hval.2.2
      clear hv hc e7 hcan hback hval hX hO
      have E1 := EdAt.new w1 (q : Int) (d : Int) (t)
      replace HB := HB.alloc HB.size (.cells #[.int .i64 (q : Int), .int .i64 (d : Int), .string (t)] 24)
      obtain ⟨c1a, c1b, c1c⟩ := E1.cells
      go_wp2_with fail
      clear c1a c1b c1c
      generalize (w1.alloc (.cells #[.int .i64 (q : Int), .int .i64 (d : Int), .string (t)] 24)) = v1 at E1 HB ⊢
      generalize w1.heap.size = G1 at E1 ⊢
      obtain ⟨c1a, c1b, c1c⟩ := E1.cells
      refine (i_ApplyEdit_at s t O q d _ (by omega) (by omega) HV.out HC.out HO.out).mono ?_
      rintro e w2 ⟨rfl, hbn⟩
      clear c1a c1b c1c
      replace E1 := E1.below hbn E1.lt
      replace HB := below_next HB hbn
      clear hbn
      obtain ⟨c1a, c1b, c1c⟩ := E1.cells
      go_wp2_with fail
      refine (s_ApplyEdit_at s t O q d _ (by omega) (by omega) HV.out HC.out HO.out).mono ?_
      rintro e w3 ⟨rfl, hbn⟩
      clear c1a c1b c1c
      replace E1 := E1.below hbn E1.lt
      replace HB := below_next HB hbn
      clear hbn
      obtain ⟨c1a, c1b, c1c⟩ := E1.cells
      have hmn : O.size + d = s.size + t.size := by have := HVAL.out.2.1; omega
      have hhead : ∀ k, k ≤ q → O.extract 0 k = s.extract 0 k := fun k hk => by rw [← HO.out]; exact ed_head e5 hk
      have htail : ∀ k m, q + d ≤ k → k ≤ s.size → k + t.size = m + d → O.extract m O.size = s.extract k s.size := fun k m h1 h2 h3 => by rw [← HO.out]; exact ed_tail h1 h2 h3
      have HHD := Lib.hid hhead
      have HTL := Lib.hid htail
      clear hhead htail
      go_wp2
      have EE : Hid (∀ wy, Below w3.heap.size w3 wy → (wy.cell? ⟨G1, 0, none⟩ = some (.int .i64 (q : Int)) ∧ wy.cell? ⟨G1, 1, none⟩ = some (.int .i64 (d : Int)) ∧ wy.cell? ⟨G1, 2, none⟩ = some (.string t)) ∧ Below w3.heap.size w3 wy) := fun wy hb => ⟨(E1.below hb E1.lt).cells, hb⟩
      have HBx := Lib.hid HB
      clear E1 HB
      clear c1a c1b c1c
      go_loopw [9] (fun i wr => ∃ k : Nat, k ≤ s.size + 1 ∧ i = .int .i64 k ∧ Below w3.heap.size w3 wr) (fun i _ => s.size + 1 - (intOf i).toNat)
      case atStart => exact ⟨0, by omega, rfl, Below.refl _ _⟩
      case round =>
        obtain ⟨k, hk1, rfl, hBr⟩ := hrel
        have HBR := Lib.hid hBr
        obtain ⟨⟨c0, c1, c2⟩, _⟩ := EE.out wr hBr
        clear hBr
        by_cases hk : k ≤ s.size
        · have hkd : decide ((k : Int) ≤ (s.size : Int)) = true := decide_eq_true (by omega)
          by_cases hA : k ≤ q
          · have HM1 : Hid (mvA (k : Int) q d t s.size = (k : Int)) := mv_first HC.out (by omega) hA
            have d1 : decide ((k : Int) ≤ (q : Int)) = true := decide_eq_true (by omega)
            have d2 : decide ((q : Int) < (k : Int)) = false := decide_eq_false (by omega)
            have d3 : decide ((O.size : Int) < (k : Int)) = false := decide_eq_false (by omega)
            have d3n : decide (O.size < k) = false := decide_eq_false (by omega)
            have d3b : k ≤ O.size := by omega
            have d3s : k ≤ s.size := hk
            have HH : Hid (O.extract 0 k = s.extract 0 k) := HHD.out k hA
            go_wp2_with fail
            refine (i_MoveMark (k : Int) (q : Int) (d : Int) (s.size : Int) (k : Int) t wr (by omega) HM1.out).mono ?_
            rintro e w9 ⟨rfl, hb9⟩
            have hB9 : Below w3.heap.size w3 w9 := HBR.out.trans (hb9.mono HBR.out.size)
            clear hb9 c0 c1 c2
            go_wp2_with fail
            refine wp_region_held_drew (S := fun wy => (wy.cell? ⟨G1, 0, none⟩ = some (.int .i64 (q : Int)) ∧ wy.cell? ⟨G1, 1, none⟩ = some (.int .i64 (d : Int)) ∧ wy.cell? ⟨G1, 2, none⟩ = some (.string t)) ∧ Below w3.heap.size w3 wy) (by kernel_rfl) (EE.out _ hB9.drew) (fun hHeld => ?_)
            refine reg_take (i := 0) (d := 62) (.int .i64 (k : Int)) rfl rfl (by kernel_rfl) (by kernel_rfl) (by kernel_rfl) (fun _ _ _ h => h) (by rfl) (by intro wq hq; obtain ⟨⟨q0, q1, q2⟩, _⟩ := hq; go_simp) (by assumption) ?_
            simp only [Act.put, List.setIfInBounds_toArray, List.set_cons_zero, List.set_cons_succ]
            refine reg_take (i := 1) (d := 63) (.bool false) rfl rfl (by kernel_rfl) (by kernel_rfl) (by kernel_rfl) (fun _ _ _ h => h) (by rfl) (by intro wq hq; obtain ⟨⟨q0, q1, q2⟩, _⟩ := hq; go_simp) (by assumption) ?_
            simp only [Act.put, List.setIfInBounds_toArray, List.set_cons_zero, List.set_cons_succ]
            refine reg_take (i := 2) (d := 64) (.bool false) rfl rfl (by kernel_rfl) (by kernel_rfl) (by kernel_rfl) (fun _ _ _ h => h) (by rfl) (by intro wq hq; obtain ⟨⟨q0, q1, q2⟩, _⟩ := hq; go_simp) (by assumption) ?_
            simp only [Act.put, List.setIfInBounds_toArray, List.set_cons_zero, List.set_cons_succ]
            refine reg_take (i := 3) (d := 65) (.int .i64 (k : Int)) rfl rfl (by kernel_rfl) (by kernel_rfl) (by kernel_rfl) (fun _ _ _ h => h) (by rfl) (by intro wq hq; obtain ⟨⟨q0, q1, q2⟩, _⟩ := hq; go_simp) (by assumption) ?_
            simp only [Act.put, List.setIfInBounds_toArray, List.set_cons_zero, List.set_cons_succ]
            refine reg_take (i := 4) (d := 66) (.string O) rfl rfl (by kernel_rfl) (by kernel_rfl) (by kernel_rfl) (fun _ _ _ h => h) (by rfl) (by intro wq hq; obtain ⟨⟨q0, q1, q2⟩, _⟩ := hq; go_simp) (by assumption) ?_
            simp only [Act.put, List.setIfInBounds_toArray, List.set_cons_zero, List.set_cons_succ]
            refine reg_take (i := 5) (d := 67) (.int .i64 (O.size : Int)) rfl rfl (by kernel_rfl) (by kernel_rfl) (by kernel_rfl) (fun _ _ _ h => h) (by rfl) (by intro wq hq; obtain ⟨⟨q0, q1, q2⟩, _⟩ := hq; go_simp) (by assumption) ?_
            simp only [Act.put, List.setIfInBounds_toArray, List.set_cons_zero, List.set_cons_succ]
            refine reg_take (i := 6) (d := 68) (.bool false) rfl rfl (by kernel_rfl) (by kernel_rfl) (by kernel_rfl) (fun _ _ _ h => h) (by rfl) (by intro wq hq; obtain ⟨⟨q0, q1, q2⟩, _⟩ := hq; go_simp) (by assumption) ?_
            simp only [Act.put, List.setIfInBounds_toArray, List.set_cons_zero, List.set_cons_succ]
            refine reg_take (i := 7) (d := 69) (.bool false) rfl rfl (by kernel_rfl) (by kernel_rfl) (by kernel_rfl) (fun _ _ _ h => h) (by rfl) (by intro wq hq; obtain ⟨⟨q0, q1, q2⟩, _⟩ := hq; go_simp) (by assumption) ?_
            simp only [Act.put, List.setIfInBounds_toArray, List.set_cons_zero, List.set_cons_succ]
            refine reg_take (i := 8) (d := 70) (.bool false) rfl rfl (by kernel_rfl) (by kernel_rfl) (by kernel_rfl) (fun _ _ _ h => h) (by rfl) (by intro wq hq; obtain ⟨⟨q0, q1, q2⟩, _⟩ := hq; go_simp) (by assumption) ?_
            simp only [Act.put, List.setIfInBounds_toArray, List.set_cons_zero, List.set_cons_succ]
            refine reg_take (i := 9) (d := 71) (.int .i64 (k : Int)) rfl rfl (by kernel_rfl) (by kernel_rfl) (by kernel_rfl) (fun _ _ _ h => h) (by rfl) (by intro wq hq; obtain ⟨⟨q0, q1, q2⟩, _⟩ := hq; go_simp) (by assumption) ?_
            simp only [Act.put, List.setIfInBounds_toArray, List.set_cons_zero, List.set_cons_succ]
            refine reg_take (i := 10) (d := 72) (.pointer (some ⟨G1, 0, none⟩)) rfl rfl (by kernel_rfl) (by kernel_rfl) (by kernel_rfl) (fun _ _ _ h => h) (by rfl) (by intro wq hq; obtain ⟨⟨q0, q1, q2⟩, _⟩ := hq; go_simp) (by assumption) ?_
            simp only [Act.put, List.setIfInBounds_toArray, List.set_cons_zero, List.set_cons_succ]
            refine reg_take (i := 11) (d := 73) (.int .i64 (q : Int)) rfl rfl (by kernel_rfl) (by kernel_rfl) (by kernel_rfl) (fun _ _ _ h => h) (by rfl) (by intro wq hq; obtain ⟨⟨q0, q1, q2⟩, _⟩ := hq; go_simp) (by assumption) ?_
            simp only [Act.put, List.setIfInBounds_toArray, List.set_cons_zero, List.set_cons_succ]
            refine reg_take (i := 12) (d := 74) (.bool true) rfl rfl (by kernel_rfl) (by kernel_rfl) (by kernel_rfl) (fun _ _ _ h => h) (by rfl) (by intro wq hq; obtain ⟨⟨q0, q1, q2⟩, _⟩ := hq; go_simp) (by assumption) ?_
            simp only [Act.put, List.setIfInBounds_toArray, List.set_cons_zero, List.set_cons_succ]
            refine reg_take (i := 13) (d := 75) (.bool true) rfl rfl (by kernel_rfl) (by kernel_rfl) (by kernel_rfl) (fun _ _ _ h => h) (by rfl) (by intro wq hq; obtain ⟨⟨q0, q1, q2⟩, _⟩ := hq; go_simp) (by assumption) ?_
            simp only [Act.put, List.setIfInBounds_toArray, List.set_cons_zero, List.set_cons_succ]
            refine reg_take (i := 14) (d := 76) (.string O) rfl rfl (by kernel_rfl) (by kernel_rfl) (by kernel_rfl) (fun _ _ _ h => h) (by rfl) (by intro wq hq; obtain ⟨⟨q0, q1, q2⟩, _⟩ := hq; go_simp) (by assumption) ?_
            simp only [Act.put, List.setIfInBounds_toArray, List.set_cons_zero, List.set_cons_succ]
            refine reg_take (i := 15) (d := 77) (.int .i64 (k : Int)) rfl rfl (by kernel_rfl) (by kernel_rfl) (by kernel_rfl) (fun _ _ _ h => h) (by rfl) (by intro wq hq; obtain ⟨⟨q0, q1, q2⟩, _⟩ := hq; go_simp) (by assumption) ?_
            simp only [Act.put, List.setIfInBounds_toArray, List.set_cons_zero, List.set_cons_succ]
            refine reg_take (i := 16) (d := 78) (.string (O.extract 0 k)) rfl rfl (by kernel_rfl) (by kernel_rfl) (by kernel_rfl) (fun _ _ _ h => h) (by rfl) (by intro wq hq; obtain ⟨⟨q0, q1, q2⟩, _⟩ := hq; go_simp) (by assumption) ?_
            simp only [Act.put, List.setIfInBounds_toArray, List.set_cons_zero, List.set_cons_succ]
            refine reg_take (i := 17) (d := 79) (.string s) rfl rfl (by kernel_rfl) (by kernel_rfl) (by kernel_rfl) (fun _ _ _ h => h) (by rfl) (by intro wq hq; obtain ⟨⟨q0, q1, q2⟩, _⟩ := hq; go_simp) (by assumption) ?_
            simp only [Act.put, List.setIfInBounds_toArray, List.set_cons_zero, List.set_cons_succ]
            refine reg_take (i := 18) (d := 80) (.int .i64 (k : Int)) rfl rfl (by kernel_rfl) (by kernel_rfl) (by kernel_rfl) (fun _ _ _ h => h) (by rfl) (by intro wq hq; obtain ⟨⟨q0, q1, q2⟩, _⟩ := hq; go_simp) (by assumption) ?_
            simp only [Act.put, List.setIfInBounds_toArray, List.set_cons_zero, List.set_cons_succ]
            refine reg_take (i := 19) (d := 81) (.string (s.extract 0 k)) rfl rfl (by kernel_rfl) (by kernel_rfl) (by kernel_rfl) (fun _ _ _ h => h) (by rfl) (by intro wq hq; obtain ⟨⟨q0, q1, q2⟩, _⟩ := hq; go_simp) (by assumption) ?_
            simp only [Act.put, List.setIfInBounds_toArray, List.set_cons_zero, List.set_cons_succ]
            refine reg_take (i := 20) (d := 82) (.bool false) rfl rfl (by kernel_rfl) (by kernel_rfl) (by kernel_rfl) (fun _ _ _ h => h) (by rfl) (by intro wq hq; obtain ⟨⟨q0, q1, q2⟩, _⟩ := hq; have hh := HH.out; go_simp) (by assumption) ?_
            simp only [Act.put, List.setIfInBounds_toArray, List.set_cons_zero, List.set_cons_succ]
            refine reg_take (i := 21) (d := 83) (.bool false) rfl rfl (by kernel_rfl) (by kernel_rfl) (by kernel_rfl) (fun _ _ _ h => h) (by rfl) (by intro wq hq; obtain ⟨⟨q0, q1, q2⟩, _⟩ := hq; go_simp) (by assumption) ?_
            simp only [Act.put, List.setIfInBounds_toArray, List.set_cons_zero, List.set_cons_succ]
            refine reg_take (i := 22) (d := 84) (.bool false) rfl rfl (by kernel_rfl) (by kernel_rfl) (by kernel_rfl) (fun _ _ _ h => h) (by rfl) (by intro wq hq; obtain ⟨⟨q0, q1, q2⟩, _⟩ := hq; go_simp) (by assumption) ?_
            simp only [Act.put, List.setIfInBounds_toArray, List.set_cons_zero, List.set_cons_succ]
            refine reg_take (i := 23) (d := 85) (.bool false) rfl rfl (by kernel_rfl) (by kernel_rfl) (by kernel_rfl) (fun _ _ _ h => h) (by rfl) (by intro wq hq; obtain ⟨⟨q0, q1, q2⟩, _⟩ := hq; go_simp) (by assumption) ?_
            simp only [Act.put, List.setIfInBounds_toArray, List.set_cons_zero, List.set_cons_succ]
            refine reg_take (i := 24) (d := 86) (.int .i64 (k : Int)) rfl rfl (by kernel_rfl) (by kernel_rfl) (by kernel_rfl) (fun _ _ _ h => h) (by rfl) (by intro wq hq; obtain ⟨⟨q0, q1, q2⟩, _⟩ := hq; go_simp) (by assumption) ?_
            simp only [Act.put, List.setIfInBounds_toArray, List.set_cons_zero, List.set_cons_succ]
            refine reg_take (i := 25) (d := 87) (.pointer (some ⟨G1, 0, none⟩)) rfl rfl (by kernel_rfl) (by kernel_rfl) (by kernel_rfl) (fun _ _ _ h => h) (by rfl) (by intro wq hq; obtain ⟨⟨q0, q1, q2⟩, _⟩ := hq; go_simp) (by assumption) ?_
            simp only [Act.put, List.setIfInBounds_toArray, List.set_cons_zero, List.set_cons_succ]
            refine reg_take (i := 26) (d := 88) (.int .i64 (q : Int)) rfl rfl (by kernel_rfl) (by kernel_rfl) (by kernel_rfl) (fun _ _ _ h => h) (by rfl) (by intro wq hq; obtain ⟨⟨q0, q1, q2⟩, _⟩ := hq; go_simp) (by assumption) ?_
            simp only [Act.put, List.setIfInBounds_toArray, List.set_cons_zero, List.set_cons_succ]
            refine reg_take (i := 27) (d := 89) (.bool false) rfl rfl (by kernel_rfl) (by kernel_rfl) (by kernel_rfl) (fun _ _ _ h => h) (by rfl) (by intro wq hq; obtain ⟨⟨q0, q1, q2⟩, _⟩ := hq; go_simp) (by assumption) ?_
            simp only [Act.put, List.setIfInBounds_toArray, List.set_cons_zero, List.set_cons_succ]
            refine reg_take (i := 28) (d := 90) (.bool false) rfl rfl (by kernel_rfl) (by kernel_rfl) (by kernel_rfl) (fun _ _ _ h => h) (by rfl) (by intro wq hq; obtain ⟨⟨q0, q1, q2⟩, _⟩ := hq; go_simp) (by assumption) ?_
            simp only [Act.put, List.setIfInBounds_toArray, List.set_cons_zero, List.set_cons_succ]
            refine reg_skip (i := 29) (d := 91) rfl rfl (by kernel_rfl) (by kernel_rfl) (by kernel_rfl) (fun _ _ _ h => h) (by rfl) (by assumption) ?_
            simp only [Act.put, List.setIfInBounds_toArray, List.set_cons_zero, List.set_cons_succ]
            refine reg_skip (i := 30) (d := 92) rfl rfl (by kernel_rfl) (by kernel_rfl) (by kernel_rfl) (fun _ _ _ h => h) (by rfl) (by assumption) ?_
            simp only [Act.put, List.setIfInBounds_toArray, List.set_cons_zero, List.set_cons_succ]
            refine reg_skip (i := 31) (d := 93) rfl rfl (by kernel_rfl) (by kernel_rfl) (by kernel_rfl) (fun _ _ _ h => h) (by rfl) (by assumption) ?_
            simp only [Act.put, List.setIfInBounds_toArray, List.set_cons_zero, List.set_cons_succ]
            refine reg_skip (i := 32) (d := 94) rfl rfl (by kernel_rfl) (by kernel_rfl) (by kernel_rfl) (fun _ _ _ h => h) (by rfl) (by assumption) ?_
            simp only [Act.put, List.setIfInBounds_toArray, List.set_cons_zero, List.set_cons_succ]
            refine reg_skip (i := 33) (d := 95) rfl rfl (by kernel_rfl) (by kernel_rfl) (by kernel_rfl) (fun _ _ _ h => h) (by rfl) (by assumption) ?_
            simp only [Act.put, List.setIfInBounds_toArray, List.set_cons_zero, List.set_cons_succ]
            refine reg_skip (i := 34) (d := 96) rfl rfl (by kernel_rfl) (by kernel_rfl) (by kernel_rfl) (fun _ _ _ h => h) (by rfl) (by assumption) ?_
            simp only [Act.put, List.setIfInBounds_toArray, List.set_cons_zero, List.set_cons_succ]
            refine reg_skip (i := 35) (d := 97) rfl rfl (by kernel_rfl) (by kernel_rfl) (by kernel_rfl) (fun _ _ _ h => h) (by rfl) (by assumption) ?_
            simp only [Act.put, List.setIfInBounds_toArray, List.set_cons_zero, List.set_cons_succ]
            refine reg_take (i := 36) (d := 98) (.bool false) rfl rfl (by kernel_rfl) (by kernel_rfl) (by kernel_rfl) (fun _ _ _ h => h) (by rfl) (by intro wq hq; obtain ⟨⟨q0, q1, q2⟩, _⟩ := hq; go_simp) (by assumption) ?_
            simp only [Act.put, List.setIfInBounds_toArray, List.set_cons_zero, List.set_cons_succ]
            refine reg_take (i := 37) (d := 99) (.bool false) rfl rfl (by kernel_rfl) (by kernel_rfl) (by kernel_rfl) (fun _ _ _ h => h) (by rfl) (by intro wq hq; obtain ⟨⟨q0, q1, q2⟩, _⟩ := hq; go_simp) (by assumption) ?_
            simp only [Act.put, List.setIfInBounds_toArray, List.set_cons_zero, List.set_cons_succ]
            refine reg_skip (i := 38) (d := 100) rfl rfl (by kernel_rfl) (by kernel_rfl) (by kernel_rfl) (fun _ _ _ h => h) (by rfl) (by assumption) ?_
            simp only [Act.put, List.setIfInBounds_toArray, List.set_cons_zero, List.set_cons_succ]
            refine reg_skip (i := 39) (d := 101) rfl rfl (by kernel_rfl) (by kernel_rfl) (by kernel_rfl) (fun _ _ _ h => h) (by rfl) (by assumption) ?_
            simp only [Act.put, List.setIfInBounds_toArray, List.set_cons_zero, List.set_cons_succ]
            refine reg_skip (i := 40) (d := 102) rfl rfl (by kernel_rfl) (by kernel_rfl) (by kernel_rfl) (fun _ _ _ h => h) (by rfl) (by assumption) ?_
            simp only [Act.put, List.setIfInBounds_toArray, List.set_cons_zero, List.set_cons_succ]
            refine reg_skip (i := 41) (d := 103) rfl rfl (by kernel_rfl) (by kernel_rfl) (by kernel_rfl) (fun _ _ _ h => h) (by rfl) (by assumption) ?_
            simp only [Act.put, List.setIfInBounds_toArray, List.set_cons_zero, List.set_cons_succ]
            refine reg_skip (i := 42) (d := 104) rfl rfl (by kernel_rfl) (by kernel_rfl) (by kernel_rfl) (fun _ _ _ h => h) (by rfl) (by assumption) ?_
            simp only [Act.put, List.setIfInBounds_toArray, List.set_cons_zero, List.set_cons_succ]
            refine reg_skip (i := 43) (d := 105) rfl rfl (by kernel_rfl) (by kernel_rfl) (by kernel_rfl) (fun _ _ _ h => h) (by rfl) (by assumption) ?_
            simp only [Act.put, List.setIfInBounds_toArray, List.set_cons_zero, List.set_cons_succ]
            refine reg_skip (i := 44) (d := 106) rfl rfl (by kernel_rfl) (by kernel_rfl) (by kernel_rfl) (fun _ _ _ h => h) (by rfl) (by assumption) ?_
            simp only [Act.put, List.setIfInBounds_toArray, List.set_cons_zero, List.set_cons_succ]
            refine reg_take (i := 45) (d := 107) (.bool false) rfl rfl (by kernel_rfl) (by kernel_rfl) (by kernel_rfl) (fun _ _ _ h => h) (by rfl) (by intro wq hq; obtain ⟨⟨q0, q1, q2⟩, _⟩ := hq; go_simp) (by assumption) ?_
            simp only [Act.put, List.setIfInBounds_toArray, List.set_cons_zero, List.set_cons_succ]
            refine reg_take (i := 46) (d := 108) (.bool false) rfl rfl (by kernel_rfl) (by kernel_rfl) (by kernel_rfl) (fun _ _ _ h => h) (by rfl) (by intro wq hq; obtain ⟨⟨q0, q1, q2⟩, _⟩ := hq; go_simp) (by assumption) ?_
            simp only [Act.put, List.setIfInBounds_toArray, List.set_cons_zero, List.set_cons_succ]
            refine wpAnyH_done (by kernel_rfl) ?_ _
            all_goals
              go_wp2
              go_roundw
              case rel => exact ⟨k + 1, by omega, by go_num, hB9.drew⟩
              case measure => simp [intOf]; omega
          · have d1 : decide ((k : Int) ≤ (q : Int)) = false := decide_eq_false (by omega)
            have d2 : decide ((q : Int) < (k : Int)) = true := decide_eq_true (by omega)
            have n1 : q < k := by omega
            obtain ⟨r, hr⟩ : ∃ r, q + d = r := ⟨_, rfl⟩
            have u3 : IntKind.i64.wrap ((q : Int) + (d : Int)) = (r : Int) := by rw [show ((q : Int) + (d : Int)) = (r : Int) from by omega]; exact IntWalk.i64_in _ (by omega)
            by_cases hC : r ≤ k
            · have d4 : decide ((r : Int) ≤ (k : Int)) = true := decide_eq_true (by omega)
              obtain ⟨m, hm⟩ : ∃ m : Nat, k + t.size = m + d := ⟨k + t.size - d, by omega⟩
              have HM1 : Hid (mvA (k : Int) q d t s.size = (m : Int)) := mv_last HC.out (by omega) (by omega) (by omega) hm
              have HH : Hid (O.extract m O.size = s.extract k s.size) := HTL.out k m (by omega) hk hm
              have d3 : decide ((O.size : Int) < (m : Int)) = false := decide_eq_false (by omega)
              have d3n : decide (O.size < m) = false := decide_eq_false (by omega)
              have d3b : m ≤ O.size := by omega
              have d3s : k ≤ s.size := hk
              have b1 : (m : Int) ≤ (O.size : Int) := by omega
              clear hr hm
              go_wp2_with fail
              refine (i_MoveMark (k : Int) (q : Int) (d : Int) (s.size : Int) (m : Int) t wr (by omega) HM1.out).mono ?_
              rintro e w9 ⟨rfl, hb9⟩
              have hB9 : Below w3.heap.size w3 w9 := HBR.out.trans (hb9.mono HBR.out.size)
              clear hb9 c0 c1 c2
              go_wp2_with fail
              refine wp_region_held_drew (S := fun wy => (wy.cell? ⟨G1, 0, none⟩ = some (.int .i64 (q : Int)) ∧ wy.cell? ⟨G1, 1, none⟩ = some (.int .i64 (d : Int)) ∧ wy.cell? ⟨G1, 2, none⟩ = some (.string t)) ∧ Below w3.heap.size w3 wy) (by kernel_rfl) (EE.out _ hB9.drew) (fun hHeld => ?_)
              refine reg_take (i := 0) (d := 62) (.int .i64 (m : Int)) rfl rfl (by kernel_rfl) (by kernel_rfl) (by kernel_rfl) (fun _ _ _ h => h) (by rfl) (by intro wq hq; obtain ⟨⟨q0, q1, q2⟩, _⟩ := hq; go_simp) (by assumption) ?_
              simp only [Act.put, List.setIfInBounds_toArray, List.set_cons_zero, List.set_cons_succ]
              refine reg_take (i := 1) (d := 63) (.bool false) rfl rfl (by kernel_rfl) (by kernel_rfl) (by kernel_rfl) (fun _ _ _ h => h) (by rfl) (by intro wq hq; obtain ⟨⟨q0, q1, q2⟩, _⟩ := hq; go_simp) (by assumption) ?_
              simp only [Act.put, List.setIfInBounds_toArray, List.set_cons_zero, List.set_cons_succ]
              refine reg_take (i := 2) (d := 64) (.bool false) rfl rfl (by kernel_rfl) (by kernel_rfl) (by kernel_rfl) (fun _ _ _ h => h) (by rfl) (by intro wq hq; obtain ⟨⟨q0, q1, q2⟩, _⟩ := hq; go_simp) (by assumption) ?_
              simp only [Act.put, List.setIfInBounds_toArray, List.set_cons_zero, List.set_cons_succ]
              refine reg_take (i := 3) (d := 65) (.int .i64 (m : Int)) rfl rfl (by kernel_rfl) (by kernel_rfl) (by kernel_rfl) (fun _ _ _ h => h) (by rfl) (by intro wq hq; obtain ⟨⟨q0, q1, q2⟩, _⟩ := hq; go_simp) (by assumption) ?_
              simp only [Act.put, List.setIfInBounds_toArray, List.set_cons_zero, List.set_cons_succ]
              refine reg_take (i := 4) (d := 66) (.string O) rfl rfl (by kernel_rfl) (by kernel_rfl) (by kernel_rfl) (fun _ _ _ h => h) (by rfl) (by intro wq hq; obtain ⟨⟨q0, q1, q2⟩, _⟩ := hq; go_simp) (by assumption) ?_
              simp only [Act.put, List.setIfInBounds_toArray, List.set_cons_zero, List.set_cons_succ]
              refine reg_take (i := 5) (d := 67) (.int .i64 (O.size : Int)) rfl rfl (by kernel_rfl) (by kernel_rfl) (by kernel_rfl) (fun _ _ _ h => h) (by rfl) (by intro wq hq; obtain ⟨⟨q0, q1, q2⟩, _⟩ := hq; go_simp) (by assumption) ?_
              simp only [Act.put, List.setIfInBounds_toArray, List.set_cons_zero, List.set_cons_succ]
              refine reg_take (i := 6) (d := 68) (.bool false) rfl rfl (by kernel_rfl) (by kernel_rfl) (by kernel_rfl) (fun _ _ _ h => h) (by rfl) (by intro wq hq; obtain ⟨⟨q0, q1, q2⟩, _⟩ := hq; go_simp) (by assumption) ?_
              simp only [Act.put, List.setIfInBounds_toArray, List.set_cons_zero, List.set_cons_succ]
              refine reg_take (i := 7) (d := 69) (.bool false) rfl rfl (by kernel_rfl) (by kernel_rfl) (by kernel_rfl) (fun _ _ _ h => h) (by rfl) (by intro wq hq; obtain ⟨⟨q0, q1, q2⟩, _⟩ := hq; go_simp) (by assumption) ?_
              simp only [Act.put, List.setIfInBounds_toArray, List.set_cons_zero, List.set_cons_succ]
              refine reg_take (i := 8) (d := 70) (.bool false) rfl rfl (by kernel_rfl) (by kernel_rfl) (by kernel_rfl) (fun _ _ _ h => h) (by rfl) (by intro wq hq; obtain ⟨⟨q0, q1, q2⟩, _⟩ := hq; go_simp) (by assumption) ?_
              simp only [Act.put, List.setIfInBounds_toArray, List.set_cons_zero, List.set_cons_succ]
              refine reg_take (i := 9) (d := 71) (.int .i64 (k : Int)) rfl rfl (by kernel_rfl) (by kernel_rfl) (by kernel_rfl) (fun _ _ _ h => h) (by rfl) (by intro wq hq; obtain ⟨⟨q0, q1, q2⟩, _⟩ := hq; go_simp) (by assumption) ?_
              simp only [Act.put, List.setIfInBounds_toArray, List.set_cons_zero, List.set_cons_succ]
              refine reg_take (i := 10) (d := 72) (.pointer (some ⟨G1, 0, none⟩)) rfl rfl (by kernel_rfl) (by kernel_rfl) (by kernel_rfl) (fun _ _ _ h => h) (by rfl) (by intro wq hq; obtain ⟨⟨q0, q1, q2⟩, _⟩ := hq; go_simp) (by assumption) ?_
              simp only [Act.put, List.setIfInBounds_toArray, List.set_cons_zero, List.set_cons_succ]
              refine reg_take (i := 11) (d := 73) (.int .i64 (q : Int)) rfl rfl (by kernel_rfl) (by kernel_rfl) (by kernel_rfl) (fun _ _ _ h => h) (by rfl) (by intro wq hq; obtain ⟨⟨q0, q1, q2⟩, _⟩ := hq; go_simp) (by assumption) ?_
              simp only [Act.put, List.setIfInBounds_toArray, List.set_cons_zero, List.set_cons_succ]
              refine reg_take (i := 12) (d := 74) (.bool false) rfl rfl (by kernel_rfl) (by kernel_rfl) (by kernel_rfl) (fun _ _ _ h => h) (by rfl) (by intro wq hq; obtain ⟨⟨q0, q1, q2⟩, _⟩ := hq; go_simp) (by assumption) ?_
              simp only [Act.put, List.setIfInBounds_toArray, List.set_cons_zero, List.set_cons_succ]
              refine reg_take (i := 13) (d := 75) (.bool false) rfl rfl (by kernel_rfl) (by kernel_rfl) (by kernel_rfl) (fun _ _ _ h => h) (by rfl) (by intro wq hq; obtain ⟨⟨q0, q1, q2⟩, _⟩ := hq; go_simp) (by assumption) ?_
              simp only [Act.put, List.setIfInBounds_toArray, List.set_cons_zero, List.set_cons_succ]
              refine reg_skip (i := 14) (d := 76) rfl rfl (by kernel_rfl) (by kernel_rfl) (by kernel_rfl) (fun _ _ _ h => h) (by rfl) (by assumption) ?_
              simp only [Act.put, List.setIfInBounds_toArray, List.set_cons_zero, List.set_cons_succ]
              refine reg_skip (i := 15) (d := 77) rfl rfl (by kernel_rfl) (by kernel_rfl) (by kernel_rfl) (fun _ _ _ h => h) (by rfl) (by assumption) ?_
              simp only [Act.put, List.setIfInBounds_toArray, List.set_cons_zero, List.set_cons_succ]
              refine reg_skip (i := 16) (d := 78) rfl rfl (by kernel_rfl) (by kernel_rfl) (by kernel_rfl) (fun _ _ _ h => h) (by rfl) (by assumption) ?_
              simp only [Act.put, List.setIfInBounds_toArray, List.set_cons_zero, List.set_cons_succ]
              refine reg_skip (i := 17) (d := 79) rfl rfl (by kernel_rfl) (by kernel_rfl) (by kernel_rfl) (fun _ _ _ h => h) (by rfl) (by assumption) ?_
              simp only [Act.put, List.setIfInBounds_toArray, List.set_cons_zero, List.set_cons_succ]
              refine reg_skip (i := 18) (d := 80) rfl rfl (by kernel_rfl) (by kernel_rfl) (by kernel_rfl) (fun _ _ _ h => h) (by rfl) (by assumption) ?_
              simp only [Act.put, List.setIfInBounds_toArray, List.set_cons_zero, List.set_cons_succ]
              refine reg_skip (i := 19) (d := 81) rfl rfl (by kernel_rfl) (by kernel_rfl) (by kernel_rfl) (fun _ _ _ h => h) (by rfl) (by assumption) ?_
              simp only [Act.put, List.setIfInBounds_toArray, List.set_cons_zero, List.set_cons_succ]
              refine reg_skip (i := 20) (d := 82) rfl rfl (by kernel_rfl) (by kernel_rfl) (by kernel_rfl) (fun _ _ _ h => h) (by rfl) (by assumption) ?_
              simp only [Act.put, List.setIfInBounds_toArray, List.set_cons_zero, List.set_cons_succ]
              refine reg_take (i := 21) (d := 83) (.bool false) rfl rfl (by kernel_rfl) (by kernel_rfl) (by kernel_rfl) (fun _ _ _ h => h) (by rfl) (by intro wq hq; obtain ⟨⟨q0, q1, q2⟩, _⟩ := hq; go_simp) (by assumption) ?_
              simp only [Act.put, List.setIfInBounds_toArray, List.set_cons_zero, List.set_cons_succ]
              refine reg_take (i := 22) (d := 84) (.bool false) rfl rfl (by kernel_rfl) (by kernel_rfl) (by kernel_rfl) (fun _ _ _ h => h) (by rfl) (by intro wq hq; obtain ⟨⟨q0, q1, q2⟩, _⟩ := hq; go_simp) (by assumption) ?_
              simp only [Act.put, List.setIfInBounds_toArray, List.set_cons_zero, List.set_cons_succ]
              refine reg_take (i := 23) (d := 85) (.bool false) rfl rfl (by kernel_rfl) (by kernel_rfl) (by kernel_rfl) (fun _ _ _ h => h) (by rfl) (by intro wq hq; obtain ⟨⟨q0, q1, q2⟩, _⟩ := hq; go_simp) (by assumption) ?_
              simp only [Act.put, List.setIfInBounds_toArray, List.set_cons_zero, List.set_cons_succ]
              refine reg_take (i := 24) (d := 86) (.int .i64 (k : Int)) rfl rfl (by kernel_rfl) (by kernel_rfl) (by kernel_rfl) (fun _ _ _ h => h) (by rfl) (by intro wq hq; obtain ⟨⟨q0, q1, q2⟩, _⟩ := hq; go_simp) (by assumption) ?_
              simp only [Act.put, List.setIfInBounds_toArray, List.set_cons_zero, List.set_cons_succ]
              refine reg_take (i := 25) (d := 87) (.pointer (some ⟨G1, 0, none⟩)) rfl rfl (by kernel_rfl) (by kernel_rfl) (by kernel_rfl) (fun _ _ _ h => h) (by rfl) (by intro wq hq; obtain ⟨⟨q0, q1, q2⟩, _⟩ := hq; go_simp) (by assumption) ?_
              simp only [Act.put, List.setIfInBounds_toArray, List.set_cons_zero, List.set_cons_succ]
              refine reg_take (i := 26) (d := 88) (.int .i64 (q : Int)) rfl rfl (by kernel_rfl) (by kernel_rfl) (by kernel_rfl) (fun _ _ _ h => h) (by rfl) (by intro wq hq; obtain ⟨⟨q0, q1, q2⟩, _⟩ := hq; go_simp) (by assumption) ?_
              simp only [Act.put, List.setIfInBounds_toArray, List.set_cons_zero, List.set_cons_succ]
              refine reg_take (i := 27) (d := 89) (.bool true) rfl rfl (by kernel_rfl) (by kernel_rfl) (by kernel_rfl) (fun _ _ _ h => h) (by rfl) (by intro wq hq; obtain ⟨⟨q0, q1, q2⟩, _⟩ := hq; go_simp) (by assumption) ?_
              simp only [Act.put, List.setIfInBounds_toArray, List.set_cons_zero, List.set_cons_succ]
              refine reg_take (i := 28) (d := 90) (.bool true) rfl rfl (by kernel_rfl) (by kernel_rfl) (by kernel_rfl) (fun _ _ _ h => h) (by rfl) (by intro wq hq; obtain ⟨⟨q0, q1, q2⟩, _⟩ := hq; go_simp) (by assumption) ?_
              simp only [Act.put, List.setIfInBounds_toArray, List.set_cons_zero, List.set_cons_succ]
              refine reg_take (i := 29) (d := 91) (.int .i64 (k : Int)) rfl rfl (by kernel_rfl) (by kernel_rfl) (by kernel_rfl) (fun _ _ _ h => h) (by rfl) (by intro wq hq; obtain ⟨⟨q0, q1, q2⟩, _⟩ := hq; go_simp) (by assumption) ?_
              simp only [Act.put, List.setIfInBounds_toArray, List.set_cons_zero, List.set_cons_succ]
              refine reg_take (i := 30) (d := 92) (.pointer (some ⟨G1, 0, none⟩)) rfl rfl (by kernel_rfl) (by kernel_rfl) (by kernel_rfl) (fun _ _ _ h => h) (by rfl) (by intro wq hq; obtain ⟨⟨q0, q1, q2⟩, _⟩ := hq; go_simp) (by assumption) ?_
              simp only [Act.put, List.setIfInBounds_toArray, List.set_cons_zero, List.set_cons_succ]
              refine reg_take (i := 31) (d := 93) (.int .i64 (q : Int)) rfl rfl (by kernel_rfl) (by kernel_rfl) (by kernel_rfl) (fun _ _ _ h => h) (by rfl) (by intro wq hq; obtain ⟨⟨q0, q1, q2⟩, _⟩ := hq; go_simp) (by assumption) ?_
              simp only [Act.put, List.setIfInBounds_toArray, List.set_cons_zero, List.set_cons_succ]
              refine reg_take (i := 32) (d := 94) (.pointer (some ⟨G1, 1, none⟩)) rfl rfl (by kernel_rfl) (by kernel_rfl) (by kernel_rfl) (fun _ _ _ h => h) (by rfl) (by intro wq hq; obtain ⟨⟨q0, q1, q2⟩, _⟩ := hq; go_simp) (by assumption) ?_
              simp only [Act.put, List.setIfInBounds_toArray, List.set_cons_zero, List.set_cons_succ]
              refine reg_take (i := 33) (d := 95) (.int .i64 (d : Int)) rfl rfl (by kernel_rfl) (by kernel_rfl) (by kernel_rfl) (fun _ _ _ h => h) (by rfl) (by intro wq hq; obtain ⟨⟨q0, q1, q2⟩, _⟩ := hq; go_simp) (by assumption) ?_
              simp only [Act.put, List.setIfInBounds_toArray, List.set_cons_zero, List.set_cons_succ]
              refine reg_take (i := 34) (d := 96) (.int .i64 (r : Int)) rfl rfl (by kernel_rfl) (by kernel_rfl) (by kernel_rfl) (fun _ _ _ h => h) (by rfl) (by intro wq hq; obtain ⟨⟨q0, q1, q2⟩, _⟩ := hq; go_simp) (by assumption) ?_
              simp only [Act.put, List.setIfInBounds_toArray, List.set_cons_zero, List.set_cons_succ]
              refine reg_take (i := 35) (d := 97) (.bool true) rfl rfl (by kernel_rfl) (by kernel_rfl) (by kernel_rfl) (fun _ _ _ h => h) (by rfl) (by intro wq hq; obtain ⟨⟨q0, q1, q2⟩, _⟩ := hq; go_simp) (by assumption) ?_
              simp only [Act.put, List.setIfInBounds_toArray, List.set_cons_zero, List.set_cons_succ]
              refine reg_take (i := 36) (d := 98) (.bool true) rfl rfl (by kernel_rfl) (by kernel_rfl) (by kernel_rfl) (fun _ _ _ h => h) (by rfl) (by intro wq hq; obtain ⟨⟨q0, q1, q2⟩, _⟩ := hq; go_simp) (by assumption) ?_
              simp only [Act.put, List.setIfInBounds_toArray, List.set_cons_zero, List.set_cons_succ]
              refine reg_take (i := 37) (d := 99) (.bool true) rfl rfl (by kernel_rfl) (by kernel_rfl) (by kernel_rfl) (fun _ _ _ h => h) (by rfl) (by intro wq hq; obtain ⟨⟨q0, q1, q2⟩, _⟩ := hq; go_simp) (by assumption) ?_
              simp only [Act.put, List.setIfInBounds_toArray, List.set_cons_zero, List.set_cons_succ]
              refine reg_take (i := 38) (d := 100) (.string O) rfl rfl (by kernel_rfl) (by kernel_rfl) (by kernel_rfl) (fun _ _ _ h => h) (by rfl) (by intro wq hq; obtain ⟨⟨q0, q1, q2⟩, _⟩ := hq; go_simp) (by assumption) ?_
              simp only [Act.put, List.setIfInBounds_toArray, List.set_cons_zero, List.set_cons_succ]
              refine reg_take (i := 39) (d := 101) (.int .i64 (m : Int)) rfl rfl (by kernel_rfl) (by kernel_rfl) (by kernel_rfl) (fun _ _ _ h => h) (by rfl) (by intro wq hq; obtain ⟨⟨q0, q1, q2⟩, _⟩ := hq; go_simp) (by assumption) ?_
              simp only [Act.put, List.setIfInBounds_toArray, List.set_cons_zero, List.set_cons_succ]
              refine reg_take (i := 40) (d := 102) (.string (O.extract m O.size)) rfl rfl (by kernel_rfl) (by kernel_rfl) (by kernel_rfl) (fun _ _ _ h => h) (by rfl) (by intro wq hq; obtain ⟨⟨q0, q1, q2⟩, _⟩ := hq; go_simp) (by assumption) ?_
              simp only [Act.put, List.setIfInBounds_toArray, List.set_cons_zero, List.set_cons_succ]
              refine reg_take (i := 41) (d := 103) (.string s) rfl rfl (by kernel_rfl) (by kernel_rfl) (by kernel_rfl) (fun _ _ _ h => h) (by rfl) (by intro wq hq; obtain ⟨⟨q0, q1, q2⟩, _⟩ := hq; go_simp) (by assumption) ?_
              simp only [Act.put, List.setIfInBounds_toArray, List.set_cons_zero, List.set_cons_succ]
              refine reg_take (i := 42) (d := 104) (.int .i64 (k : Int)) rfl rfl (by kernel_rfl) (by kernel_rfl) (by kernel_rfl) (fun _ _ _ h => h) (by rfl) (by intro wq hq; obtain ⟨⟨q0, q1, q2⟩, _⟩ := hq; go_simp) (by assumption) ?_
              simp only [Act.put, List.setIfInBounds_toArray, List.set_cons_zero, List.set_cons_succ]
              refine reg_take (i := 43) (d := 105) (.string (s.extract k s.size)) rfl rfl (by kernel_rfl) (by kernel_rfl) (by kernel_rfl) (fun _ _ _ h => h) (by rfl) (by intro wq hq; obtain ⟨⟨q0, q1, q2⟩, _⟩ := hq; go_simp) (by assumption) ?_
              simp only [Act.put, List.setIfInBounds_toArray, List.set_cons_zero, List.set_cons_succ]
              refine reg_take (i := 44) (d := 106) (.bool false) rfl rfl (by kernel_rfl) (by kernel_rfl) (by kernel_rfl) (fun _ _ _ h => h) (by rfl) (by intro wq hq; obtain ⟨⟨q0, q1, q2⟩, _⟩ := hq; have hh := HH.out; go_simp) (by assumption) ?_
              simp only [Act.put, List.setIfInBounds_toArray, List.set_cons_zero, List.set_cons_succ]
              refine reg_take (i := 45) (d := 107) (.bool false) rfl rfl (by kernel_rfl) (by kernel_rfl) (by kernel_rfl) (fun _ _ _ h => h) (by rfl) (by intro wq hq; obtain ⟨⟨q0, q1, q2⟩, _⟩ := hq; go_simp) (by assumption) ?_
              simp only [Act.put, List.setIfInBounds_toArray, List.set_cons_zero, List.set_cons_succ]
              refine reg_take (i := 46) (d := 108) (.bool false) rfl rfl (by kernel_rfl) (by kernel_rfl) (by kernel_rfl) (fun _ _ _ h => h) (by rfl) (by intro wq hq; obtain ⟨⟨q0, q1, q2⟩, _⟩ := hq; go_simp) (by assumption) ?_
              simp only [Act.put, List.setIfInBounds_toArray, List.set_cons_zero, List.set_cons_succ]
              refine wpAnyH_done (by kernel_rfl) ?_ _
              all_goals
                go_wp2
                go_roundw
                case rel => exact ⟨k + 1, by omega, by go_num, hB9.drew⟩
                case measure => simp [intOf]; omega
            · have d4 : decide ((r : Int) ≤ (k : Int)) = false := decide_eq_false (by omega)
              have HM1 : Hid (mvA (k : Int) q d t s.size = (q : Int)) := mv_mid HC.out (by omega) (by omega) (by omega)
              have d3 : decide ((O.size : Int) < (q : Int)) = false := decide_eq_false (by omega)
              have d3n : decide (O.size < q) = false := decide_eq_false (by omega)
              have d3b : q ≤ O.size := by omega
              have d3s : k ≤ s.size := hk
              clear hr
              go_wp2_with fail
              refine (i_MoveMark (k : Int) (q : Int) (d : Int) (s.size : Int) (q : Int) t wr (by omega) HM1.out).mono ?_
              rintro e w9 ⟨rfl, hb9⟩
              have hB9 : Below w3.heap.size w3 w9 := HBR.out.trans (hb9.mono HBR.out.size)
              clear hb9 c0 c1 c2
              go_wp2_with fail
              refine wp_region_held_drew (S := fun wy => (wy.cell? ⟨G1, 0, none⟩ = some (.int .i64 (q : Int)) ∧ wy.cell? ⟨G1, 1, none⟩ = some (.int .i64 (d : Int)) ∧ wy.cell? ⟨G1, 2, none⟩ = some (.string t)) ∧ Below w3.heap.size w3 wy) (by kernel_rfl) (EE.out _ hB9.drew) (fun hHeld => ?_)
              refine reg_take (i := 0) (d := 62) (.int .i64 (q : Int)) rfl rfl (by kernel_rfl) (by kernel_rfl) (by kernel_rfl) (fun _ _ _ h => h) (by rfl) (by intro wq hq; obtain ⟨⟨q0, q1, q2⟩, _⟩ := hq; go_simp) (by assumption) ?_
              simp only [Act.put, List.setIfInBounds_toArray, List.set_cons_zero, List.set_cons_succ]
              refine reg_take (i := 1) (d := 63) (.bool false) rfl rfl (by kernel_rfl) (by kernel_rfl) (by kernel_rfl) (fun _ _ _ h => h) (by rfl) (by intro wq hq; obtain ⟨⟨q0, q1, q2⟩, _⟩ := hq; go_simp) (by assumption) ?_
              simp only [Act.put, List.setIfInBounds_toArray, List.set_cons_zero, List.set_cons_succ]
              refine reg_take (i := 2) (d := 64) (.bool false) rfl rfl (by kernel_rfl) (by kernel_rfl) (by kernel_rfl) (fun _ _ _ h => h) (by rfl) (by intro wq hq; obtain ⟨⟨q0, q1, q2⟩, _⟩ := hq; go_simp) (by assumption) ?_
              simp only [Act.put, List.setIfInBounds_toArray, List.set_cons_zero, List.set_cons_succ]
              refine reg_take (i := 3) (d := 65) (.int .i64 (q : Int)) rfl rfl (by kernel_rfl) (by kernel_rfl) (by kernel_rfl) (fun _ _ _ h => h) (by rfl) (by intro wq hq; obtain ⟨⟨q0, q1, q2⟩, _⟩ := hq; go_simp) (by assumption) ?_
              simp only [Act.put, List.setIfInBounds_toArray, List.set_cons_zero, List.set_cons_succ]
              refine reg_take (i := 4) (d := 66) (.string O) rfl rfl (by kernel_rfl) (by kernel_rfl) (by kernel_rfl) (fun _ _ _ h => h) (by rfl) (by intro wq hq; obtain ⟨⟨q0, q1, q2⟩, _⟩ := hq; go_simp) (by assumption) ?_
              simp only [Act.put, List.setIfInBounds_toArray, List.set_cons_zero, List.set_cons_succ]
              refine reg_take (i := 5) (d := 67) (.int .i64 (O.size : Int)) rfl rfl (by kernel_rfl) (by kernel_rfl) (by kernel_rfl) (fun _ _ _ h => h) (by rfl) (by intro wq hq; obtain ⟨⟨q0, q1, q2⟩, _⟩ := hq; go_simp) (by assumption) ?_
              simp only [Act.put, List.setIfInBounds_toArray, List.set_cons_zero, List.set_cons_succ]
              refine reg_take (i := 6) (d := 68) (.bool false) rfl rfl (by kernel_rfl) (by kernel_rfl) (by kernel_rfl) (fun _ _ _ h => h) (by rfl) (by intro wq hq; obtain ⟨⟨q0, q1, q2⟩, _⟩ := hq; go_simp) (by assumption) ?_
              simp only [Act.put, List.setIfInBounds_toArray, List.set_cons_zero, List.set_cons_succ]
              refine reg_take (i := 7) (d := 69) (.bool false) rfl rfl (by kernel_rfl) (by kernel_rfl) (by kernel_rfl) (fun _ _ _ h => h) (by rfl) (by intro wq hq; obtain ⟨⟨q0, q1, q2⟩, _⟩ := hq; go_simp) (by assumption) ?_
              simp only [Act.put, List.setIfInBounds_toArray, List.set_cons_zero, List.set_cons_succ]
              refine reg_take (i := 8) (d := 70) (.bool false) rfl rfl (by kernel_rfl) (by kernel_rfl) (by kernel_rfl) (fun _ _ _ h => h) (by rfl) (by intro wq hq; obtain ⟨⟨q0, q1, q2⟩, _⟩ := hq; go_simp) (by assumption) ?_
              simp only [Act.put, List.setIfInBounds_toArray, List.set_cons_zero, List.set_cons_succ]
              refine reg_take (i := 9) (d := 71) (.int .i64 (k : Int)) rfl rfl (by kernel_rfl) (by kernel_rfl) (by kernel_rfl) (fun _ _ _ h => h) (by rfl) (by intro wq hq; obtain ⟨⟨q0, q1, q2⟩, _⟩ := hq; go_simp) (by assumption) ?_
              simp only [Act.put, List.setIfInBounds_toArray, List.set_cons_zero, List.set_cons_succ]
              refine reg_take (i := 10) (d := 72) (.pointer (some ⟨G1, 0, none⟩)) rfl rfl (by kernel_rfl) (by kernel_rfl) (by kernel_rfl) (fun _ _ _ h => h) (by rfl) (by intro wq hq; obtain ⟨⟨q0, q1, q2⟩, _⟩ := hq; go_simp) (by assumption) ?_
              simp only [Act.put, List.setIfInBounds_toArray, List.set_cons_zero, List.set_cons_succ]
              refine reg_take (i := 11) (d := 73) (.int .i64 (q : Int)) rfl rfl (by kernel_rfl) (by kernel_rfl) (by kernel_rfl) (fun _ _ _ h => h) (by rfl) (by intro wq hq; obtain ⟨⟨q0, q1, q2⟩, _⟩ := hq; go_simp) (by assumption) ?_
              simp only [Act.put, List.setIfInBounds_toArray, List.set_cons_zero, List.set_cons_succ]
              refine reg_take (i := 12) (d := 74) (.bool false) rfl rfl (by kernel_rfl) (by kernel_rfl) (by kernel_rfl) (fun _ _ _ h => h) (by rfl) (by intro wq hq; obtain ⟨⟨q0, q1, q2⟩, _⟩ := hq; go_simp) (by assumption) ?_
              simp only [Act.put, List.setIfInBounds_toArray, List.set_cons_zero, List.set_cons_succ]
              refine reg_take (i := 13) (d := 75) (.bool false) rfl rfl (by kernel_rfl) (by kernel_rfl) (by kernel_rfl) (fun _ _ _ h => h) (by rfl) (by intro wq hq; obtain ⟨⟨q0, q1, q2⟩, _⟩ := hq; go_simp) (by assumption) ?_
              simp only [Act.put, List.setIfInBounds_toArray, List.set_cons_zero, List.set_cons_succ]
              refine reg_skip (i := 14) (d := 76) rfl rfl (by kernel_rfl) (by kernel_rfl) (by kernel_rfl) (fun _ _ _ h => h) (by rfl) (by assumption) ?_
              simp only [Act.put, List.setIfInBounds_toArray, List.set_cons_zero, List.set_cons_succ]
              refine reg_skip (i := 15) (d := 77) rfl rfl (by kernel_rfl) (by kernel_rfl) (by kernel_rfl) (fun _ _ _ h => h) (by rfl) (by assumption) ?_
              simp only [Act.put, List.setIfInBounds_toArray, List.set_cons_zero, List.set_cons_succ]
              refine reg_skip (i := 16) (d := 78) rfl rfl (by kernel_rfl) (by kernel_rfl) (by kernel_rfl) (fun _ _ _ h => h) (by rfl) (by assumption) ?_
              simp only [Act.put, List.setIfInBounds_toArray, List.set_cons_zero, List.set_cons_succ]
              refine reg_skip (i := 17) (d := 79) rfl rfl (by kernel_rfl) (by kernel_rfl) (by kernel_rfl) (fun _ _ _ h => h) (by rfl) (by assumption) ?_
              simp only [Act.put, List.setIfInBounds_toArray, List.set_cons_zero, List.set_cons_succ]
              refine reg_skip (i := 18) (d := 80) rfl rfl (by kernel_rfl) (by kernel_rfl) (by kernel_rfl) (fun _ _ _ h => h) (by rfl) (by assumption) ?_
              simp only [Act.put, List.setIfInBounds_toArray, List.set_cons_zero, List.set_cons_succ]
              refine reg_skip (i := 19) (d := 81) rfl rfl (by kernel_rfl) (by kernel_rfl) (by kernel_rfl) (fun _ _ _ h => h) (by rfl) (by assumption) ?_
              simp only [Act.put, List.setIfInBounds_toArray, List.set_cons_zero, List.set_cons_succ]
              refine reg_skip (i := 20) (d := 82) rfl rfl (by kernel_rfl) (by kernel_rfl) (by kernel_rfl) (fun _ _ _ h => h) (by rfl) (by assumption) ?_
              simp only [Act.put, List.setIfInBounds_toArray, List.set_cons_zero, List.set_cons_succ]
              refine reg_take (i := 21) (d := 83) (.bool false) rfl rfl (by kernel_rfl) (by kernel_rfl) (by kernel_rfl) (fun _ _ _ h => h) (by rfl) (by intro wq hq; obtain ⟨⟨q0, q1, q2⟩, _⟩ := hq; go_simp) (by assumption) ?_
              simp only [Act.put, List.setIfInBounds_toArray, List.set_cons_zero, List.set_cons_succ]
              refine reg_take (i := 22) (d := 84) (.bool false) rfl rfl (by kernel_rfl) (by kernel_rfl) (by kernel_rfl) (fun _ _ _ h => h) (by rfl) (by intro wq hq; obtain ⟨⟨q0, q1, q2⟩, _⟩ := hq; go_simp) (by assumption) ?_
              simp only [Act.put, List.setIfInBounds_toArray, List.set_cons_zero, List.set_cons_succ]
              refine reg_take (i := 23) (d := 85) (.bool false) rfl rfl (by kernel_rfl) (by kernel_rfl) (by kernel_rfl) (fun _ _ _ h => h) (by rfl) (by intro wq hq; obtain ⟨⟨q0, q1, q2⟩, _⟩ := hq; go_simp) (by assumption) ?_
              simp only [Act.put, List.setIfInBounds_toArray, List.set_cons_zero, List.set_cons_succ]
              refine reg_take (i := 24) (d := 86) (.int .i64 (k : Int)) rfl rfl (by kernel_rfl) (by kernel_rfl) (by kernel_rfl) (fun _ _ _ h => h) (by rfl) (by intro wq hq; obtain ⟨⟨q0, q1, q2⟩, _⟩ := hq; go_simp) (by assumption) ?_
              simp only [Act.put, List.setIfInBounds_toArray, List.set_cons_zero, List.set_cons_succ]
              refine reg_take (i := 25) (d := 87) (.pointer (some ⟨G1, 0, none⟩)) rfl rfl (by kernel_rfl) (by kernel_rfl) (by kernel_rfl) (fun _ _ _ h => h) (by rfl) (by intro wq hq; obtain ⟨⟨q0, q1, q2⟩, _⟩ := hq; go_simp) (by assumption) ?_
              simp only [Act.put, List.setIfInBounds_toArray, List.set_cons_zero, List.set_cons_succ]
              refine reg_take (i := 26) (d := 88) (.int .i64 (q : Int)) rfl rfl (by kernel_rfl) (by kernel_rfl) (by kernel_rfl) (fun _ _ _ h => h) (by rfl) (by intro wq hq; obtain ⟨⟨q0, q1, q2⟩, _⟩ := hq; go_simp) (by assumption) ?_
              simp only [Act.put, List.setIfInBounds_toArray, List.set_cons_zero, List.set_cons_succ]
              refine reg_take (i := 27) (d := 89) (.bool true) rfl rfl (by kernel_rfl) (by kernel_rfl) (by kernel_rfl) (fun _ _ _ h => h) (by rfl) (by intro wq hq; obtain ⟨⟨q0, q1, q2⟩, _⟩ := hq; go_simp) (by assumption) ?_
              simp only [Act.put, List.setIfInBounds_toArray, List.set_cons_zero, List.set_cons_succ]
              refine reg_take (i := 28) (d := 90) (.bool true) rfl rfl (by kernel_rfl) (by kernel_rfl) (by kernel_rfl) (fun _ _ _ h => h) (by rfl) (by intro wq hq; obtain ⟨⟨q0, q1, q2⟩, _⟩ := hq; go_simp) (by assumption) ?_
              simp only [Act.put, List.setIfInBounds_toArray, List.set_cons_zero, List.set_cons_succ]
              refine reg_take (i := 29) (d := 91) (.int .i64 (k : Int)) rfl rfl (by kernel_rfl) (by kernel_rfl) (by kernel_rfl) (fun _ _ _ h => h) (by rfl) (by intro wq hq; obtain ⟨⟨q0, q1, q2⟩, _⟩ := hq; go_simp) (by assumption) ?_
              simp only [Act.put, List.setIfInBounds_toArray, List.set_cons_zero, List.set_cons_succ]
              refine reg_take (i := 30) (d := 92) (.pointer (some ⟨G1, 0, none⟩)) rfl rfl (by kernel_rfl) (by kernel_rfl) (by kernel_rfl) (fun _ _ _ h => h) (by rfl) (by intro wq hq; obtain ⟨⟨q0, q1, q2⟩, _⟩ := hq; go_simp) (by assumption) ?_
              simp only [Act.put, List.setIfInBounds_toArray, List.set_cons_zero, List.set_cons_succ]
              refine reg_take (i := 31) (d := 93) (.int .i64 (q : Int)) rfl rfl (by kernel_rfl) (by kernel_rfl) (by kernel_rfl) (fun _ _ _ h => h) (by rfl) (by intro wq hq; obtain ⟨⟨q0, q1, q2⟩, _⟩ := hq; go_simp) (by assumption) ?_
              simp only [Act.put, List.setIfInBounds_toArray, List.set_cons_zero, List.set_cons_succ]
              refine reg_take (i := 32) (d := 94) (.pointer (some ⟨G1, 1, none⟩)) rfl rfl (by kernel_rfl) (by kernel_rfl) (by kernel_rfl) (fun _ _ _ h => h) (by rfl) (by intro wq hq; obtain ⟨⟨q0, q1, q2⟩, _⟩ := hq; go_simp) (by assumption) ?_
              simp only [Act.put, List.setIfInBounds_toArray, List.set_cons_zero, List.set_cons_succ]
              refine reg_take (i := 33) (d := 95) (.int .i64 (d : Int)) rfl rfl (by kernel_rfl) (by kernel_rfl) (by kernel_rfl) (fun _ _ _ h => h) (by rfl) (by intro wq hq; obtain ⟨⟨q0, q1, q2⟩, _⟩ := hq; go_simp) (by assumption) ?_
              simp only [Act.put, List.setIfInBounds_toArray, List.set_cons_zero, List.set_cons_succ]
              refine reg_take (i := 34) (d := 96) (.int .i64 (r : Int)) rfl rfl (by kernel_rfl) (by kernel_rfl) (by kernel_rfl) (fun _ _ _ h => h) (by rfl) (by intro wq hq; obtain ⟨⟨q0, q1, q2⟩, _⟩ := hq; go_simp) (by assumption) ?_
              simp only [Act.put, List.setIfInBounds_toArray, List.set_cons_zero, List.set_cons_succ]
              refine reg_take (i := 35) (d := 97) (.bool false) rfl rfl (by kernel_rfl) (by kernel_rfl) (by kernel_rfl) (fun _ _ _ h => h) (by rfl) (by intro wq hq; obtain ⟨⟨q0, q1, q2⟩, _⟩ := hq; go_simp) (by assumption) ?_
              simp only [Act.put, List.setIfInBounds_toArray, List.set_cons_zero, List.set_cons_succ]
              refine reg_take (i := 36) (d := 98) (.bool false) rfl rfl (by kernel_rfl) (by kernel_rfl) (by kernel_rfl) (fun _ _ _ h => h) (by rfl) (by intro wq hq; obtain ⟨⟨q0, q1, q2⟩, _⟩ := hq; go_simp) (by assumption) ?_
              simp only [Act.put, List.setIfInBounds_toArray, List.set_cons_zero, List.set_cons_succ]
              refine reg_take (i := 37) (d := 99) (.bool false) rfl rfl (by kernel_rfl) (by kernel_rfl) (by kernel_rfl) (fun _ _ _ h => h) (by rfl) (by intro wq hq; obtain ⟨⟨q0, q1, q2⟩, _⟩ := hq; go_simp) (by assumption) ?_
              simp only [Act.put, List.setIfInBounds_toArray, List.set_cons_zero, List.set_cons_succ]
              refine reg_skip (i := 38) (d := 100) rfl rfl (by kernel_rfl) (by kernel_rfl) (by kernel_rfl) (fun _ _ _ h => h) (by rfl) (by assumption) ?_
              simp only [Act.put, List.setIfInBounds_toArray, List.set_cons_zero, List.set_cons_succ]
              refine reg_skip (i := 39) (d := 101) rfl rfl (by kernel_rfl) (by kernel_rfl) (by kernel_rfl) (fun _ _ _ h => h) (by rfl) (by assumption) ?_
              simp only [Act.put, List.setIfInBounds_toArray, List.set_cons_zero, List.set_cons_succ]
              refine reg_skip (i := 40) (d := 102) rfl rfl (by kernel_rfl) (by kernel_rfl) (by kernel_rfl) (fun _ _ _ h => h) (by rfl) (by assumption) ?_
              simp only [Act.put, List.setIfInBounds_toArray, List.set_cons_zero, List.set_cons_succ]
              refine reg_skip (i := 41) (d := 103) rfl rfl (by kernel_rfl) (by kernel_rfl) (by kernel_rfl) (fun _ _ _ h => h) (by rfl) (by assumption) ?_
              simp only [Act.put, List.setIfInBounds_toArray, List.set_cons_zero, List.set_cons_succ]
              refine reg_skip (i := 42) (d := 104) rfl rfl (by kernel_rfl) (by kernel_rfl) (by kernel_rfl) (fun _ _ _ h => h) (by rfl) (by assumption) ?_
              simp only [Act.put, List.setIfInBounds_toArray, List.set_cons_zero, List.set_cons_succ]
              refine reg_skip (i := 43) (d := 105) rfl rfl (by kernel_rfl) (by kernel_rfl) (by kernel_rfl) (fun _ _ _ h => h) (by rfl) (by assumption) ?_
              simp only [Act.put, List.setIfInBounds_toArray, List.set_cons_zero, List.set_cons_succ]
              refine reg_skip (i := 44) (d := 106) rfl rfl (by kernel_rfl) (by kernel_rfl) (by kernel_rfl) (fun _ _ _ h => h) (by rfl) (by assumption) ?_
              simp only [Act.put, List.setIfInBounds_toArray, List.set_cons_zero, List.set_cons_succ]
              refine reg_take (i := 45) (d := 107) (.bool false) rfl rfl (by kernel_rfl) (by kernel_rfl) (by kernel_rfl) (fun _ _ _ h => h) (by rfl) (by intro wq hq; obtain ⟨⟨q0, q1, q2⟩, _⟩ := hq; go_simp) (by assumption) ?_
              simp only [Act.put, List.setIfInBounds_toArray, List.set_cons_zero, List.set_cons_succ]
              refine reg_take (i := 46) (d := 108) (.bool false) rfl rfl (by kernel_rfl) (by kernel_rfl) (by kernel_rfl) (fun _ _ _ h => h) (by rfl) (by intro wq hq; obtain ⟨⟨q0, q1, q2⟩, _⟩ := hq; go_simp) (by assumption) ?_
              simp only [Act.put, List.setIfInBounds_toArray, List.set_cons_zero, List.set_cons_succ]
              refine wpAnyH_done (by kernel_rfl) ?_ _
              all_goals
                go_wp2
                go_roundw
                case rel => exact ⟨k + 1, by omega, by go_num, hB9.drew⟩
                case measure => simp [intOf]; omega
        · have hkd : decide ((k : Int) ≤ (s.size : Int)) = false := decide_eq_false (by omega)
          go_wp2
          go_ret
          exact ⟨rfl, below_next HBx.out HBR.out⟩
    · have HN := Lib.hid hok
      clear hok
      have E1 := EdAt.new w1 (x) (c) (t)
      replace HB := HB.alloc HB.size (.cells #[.int .i64 (x), .int .i64 (c), .string (t)] 24)
      obtain ⟨c1a, c1b, c1c⟩ := E1.cells
      go_wp2_with fail
      clear c1a c1b c1c
      generalize (w1.alloc (.cells #[.int .i64 (x), .int .i64 (c), .string (t)] 24)) = v1 at E1 HB ⊢
      generalize w1.heap.size = G1 at E1 ⊢
      obtain ⟨c1a, c1b, c1c⟩ := E1.cells
      refine (i_ApplyEdit_no s t x c _ (by omega) (by omega) HN.out).mono ?_
      rintro e w2 ⟨rfl, hbn⟩
      clear c1a c1b c1c
      replace E1 := E1.below hbn E1.lt
      replace HB := below_next HB hbn
      clear hbn
      obtain ⟨c1a, c1b, c1c⟩ := E1.cells
      go_wp2_with fail
      refine (s_ApplyEdit_no s t x c _ (by omega) (by omega) HN.out).mono ?_
      rintro e w3 ⟨rfl, hbn⟩
      clear c1a c1b c1c
      replace E1 := E1.below hbn E1.lt
      replace HB := below_next HB hbn
      clear hbn
      obtain ⟨c1a, c1b, c1c⟩ := E1.cells
      go_wp2
      go_ret
      exact ⟨rfl, HB⟩
  · have d : decide (len ≤ 1048576) = false := decide_eq_false hbig
    have hl : (1048576 : Int) < len := by omega
    clear h
    go_enter Try.func6, Try.ntmps6
    go_wp2
    go_ret
    exact ⟨rfl, Below.refl _ _⟩
end Go.Proofs.Ythlamidlcbnchaa
