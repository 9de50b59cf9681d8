
/- P153: edits keep what they do not cut. -/
import Derived.Test.YthlamidlcbnchaaEdf
import Derived.Test.YthlamidlcbnchaaEdb
import Derived.Test.YthlamidlcbnchaaReg
namespace Go.Proofs.Ythlamidlcbnchaa
open Go.RowKit

theorem ed_valid {s t : ByteArray} {q d : Nat} (hv : ValidT s.data.toList) (hc : CanE (q : Int) (d : Int) t s.size) : ValidT (edS s q d t).data.toList ∧ ((edS s q d t).size : Int) = (s.size : Int) - d + t.size ∧ (edS s q d t).size ≤ 60 := by
  obtain ⟨_, h2, h3, h4, h5⟩ := hc
  have z1 := ext_sz (s := s) (a := 0) (b := q) (by omega)
  have z2 := ext_sz (s := s) (a := q + d) (b := s.size) (by omega)
  have z3 := size_app (s.extract 0 q) t
  have z4 := size_app (s.extract 0 q ++ t) (s.extract (q + d) s.size)
  have hz : (edS s q d t).size = s.size - d + t.size := by unfold edS; omega
  refine ⟨⟨by rw [size_data]; omega, ?_⟩, by omega, by omega⟩
  intro b hb
  unfold edS at hb
  rw [ByteArray.data_append, ByteArray.data_append, Array.toList_append, Array.toList_append] at hb
  rcases List.mem_append.1 hb with hb | hb
  · rcases List.mem_append.1 hb with hb | hb
    · rw [extract_list] at hb
      exact hv.2 b (List.mem_of_mem_drop (List.mem_of_mem_take hb))
    · exact h4.2 b hb
  · rw [extract_list] at hb
    exact hv.2 b (List.mem_of_mem_drop (List.mem_of_mem_take hb))
theorem i_ApplyEdit_at (s t O : ByteArray) (q d : Nat) (w : World) (hs : s.size ≤ 1048576) (ht : t.size ≤ 1048576) (hv : ValidT s.data.toList) (hc : CanE (q : Int) (d : Int) t s.size) (hO : edS s q d t = O) :
    Calls Try.prog 15 #[.string s, edV q d t] w fun e w' => e = .returned (.tuple #[.string O, .bool true]) ∧ Below w.heap.size w w' := by
  rw [← hO]; exact i_ApplyEdit_yes s t q d w hs ht hv hc
theorem s_ApplyEdit_at (s t O : ByteArray) (q d : Nat) (w : World) (hs : s.size ≤ 1048576) (ht : t.size ≤ 1048576) (hv : ValidT s.data.toList) (hc : CanE (q : Int) (d : Int) t s.size) (hO : edS s q d t = O) :
    Calls Try.prog 16 #[.string s, edV q d t] w fun e w' => e = .returned (.tuple #[.string O, .bool true]) ∧ Below w.heap.size w w' := by
  rw [← hO]; exact s_ApplyEdit_yes s t q d w hs ht hv hc
set_option maxHeartbeats 4000000 in
theorem applyEdit_walk (a : Option Addr) (len cap : Nat) (zs : List Int) (w : World) (h : RowIn .u8 w a len cap zs) :
    Calls Try.prog 3 #[.slice a len cap] w fun e w' => e = .returned (.bool true) ∧ Below w.heap.size w w' := by
  have hlen : len ≤ 9223372036854775807 := by
    obtain ⟨_, h2, h3⟩ := bytesAt_of_row h; unfold maxLen at h3; omega
  by_cases hbig : len ≤ 1048576
  · go_enter Try.func3, Try.ntmps3
    go_wp2_with fail
    refine (drawApplyEdit_any w w.heap.size a len cap (bytesAt_of_row h).1 (Nat.le_refl _) (bytesAt_of_row h).2.1 (bytesAt_of_row h).2.2).mono ?_
    rintro e w1 ⟨s, x, c, t, rfl, hs, ht, hb1⟩
    clear h
    by_cases hok : ValidT s.data.toList ∧ CanE x c t s.size
    · obtain ⟨hv, hc⟩ := hok
      obtain ⟨m, q, d, e1, e2, e3, e4, e5, e6, e7, e8⟩ := hc.nat
      subst e2 e3
      obtain rfl : s.size = m := by omega
      clear e1
      have htz := e7.size
      have HV := Lib.hid hv
      have HC := Lib.hid hc
      have hE := EdAt.new w1 (q : Int) (d : Int) t
      have hB : Below w.heap.size w (w1.alloc (.cells #[.int .i64 (q : Int), .int .i64 (d : Int), .string t] 24)) := hb1.alloc hb1.size _
      go_wp2_with fail
      generalize (w1.alloc (.cells #[.int .i64 (q : Int), .int .i64 (d : Int), .string t] 24)) = wA at hE hB ⊢
      generalize w1.heap.size = G at hE ⊢
      clear hb1
      obtain ⟨c0, c1, c2⟩ := hE.cells
      obtain ⟨hv2, hz2, hz60⟩ := ed_valid hv hc
      obtain ⟨O, hO⟩ : ∃ O, edS s q d t = O := ⟨_, rfl⟩
      rw [hO] at hv2 hz2 hz60
      obtain ⟨r, hr⟩ : ∃ r, q + d = r := ⟨_, rfl⟩
      have HO2 : Hid (O = s.extract 0 q ++ t ++ s.extract r s.size) := by show _ = _; rw [← hO, edS, hr]
      have HO := Lib.hid hO
      have HVO : Hid (decide (ValidT O.data.toList) = true) := decide_eq_true hv2
      clear hO hv hc e7
      refine (i_ApplyEdit_at s t O q d _ (by omega) (by omega) HV.out HC.out HO.out).mono ?_
      rintro e w2 ⟨rfl, hbn⟩
      replace hE := hE.below hbn hE.lt
      replace hB := below_next hB hbn
      clear hbn c0 c1 c2
      obtain ⟨c0, c1, c2⟩ := hE.cells
      go_wp2_with fail
      refine (s_ApplyEdit_at s t O q d _ (by omega) (by omega) HV.out HC.out HO.out).mono ?_
      rintro e w3 ⟨rfl, hbn⟩
      replace hE := hE.below hbn hE.lt
      replace hB := below_next hB hbn
      clear hbn c0 c1 c2
      obtain ⟨c0, c1, c2⟩ := hE.cells
      have b2 : (q : Int) ≤ (s.size : Int) := by omega
      have b3 : (0 : Int) ≤ (r : Int) := by omega
      have b4 : (r : Int) ≤ (s.size : Int) := by omega
      have z1 := ext_sz (s := s) (a := 0) (b := q) (by omega)
      have z2 := ext_sz (s := s) (a := r) (b := s.size) (by omega)
      have z3 := size_app (s.extract 0 q) t
      have r1 := fun (wx : World) => run_string_add_sum (P := Try.prog) wx (s.extract 0 q) t (by omega)
      have r2 := fun (wx : World) => run_string_add_sum (P := Try.prog) wx (s.extract 0 q ++ t) (s.extract r s.size) (by omega)
      have u2 : IntKind.i64.wrap ((s.size : Int) - (d : Int)) = (s.size : Int) - (d : Int) := IntWalk.i64_in _ (by omega)
      have u3 : IntKind.i64.wrap ((s.size : Int) - (d : Int) + (t.size : Int)) = (s.size : Int) - (d : Int) + (t.size : Int) := IntWalk.i64_in _ (by omega)
      have u1 : IntKind.i64.wrap ((q : Int) + (d : Int)) = (r : Int) := by rw [show ((q : Int) + (d : Int)) = (r : Int) from by omega]; exact IntWalk.i64_in _ (by omega)
      have hzd : ((O.size : Int) == (s.size : Int) - (d : Int) + (t.size : Int)) = true := by simp; omega
      clear z1 z2 z3 hr hz2
      have EA : Hid (∀ wy, Below w3.heap.size w3 wy → (wy.cell? ⟨G, 0, none⟩ = some (.int .i64 (q : Int)) ∧ wy.cell? ⟨G, 1, none⟩ = some (.int .i64 (d : Int)) ∧ wy.cell? ⟨G, 2, none⟩ = some (.string t)) ∧ Below w3.heap.size w3 wy) := fun wy hb => ⟨(hE.below hb hE.lt).cells, hb⟩
      have HB := Lib.hid hB
      have hEx := hE
      clear hE hB c0 c1 c2
      go_wp2_with fail
      refine wp_region_held_drew (S := fun wy => (wy.cell? ⟨G, 0, none⟩ = some (.int .i64 (q : Int)) ∧ wy.cell? ⟨G, 1, none⟩ = some (.int .i64 (d : Int)) ∧ wy.cell? ⟨G, 2, none⟩ = some (.string t)) ∧ Below w3.heap.size w3 wy) (by kernel_rfl) (EA.out _ (Below.refl _ _).drew) (fun hHeld => ?_)
      refine reg_take (i := 0) (d := 49) (.string O) rfl rfl (by kernel_rfl) (by kernel_rfl) (by kernel_rfl) (fun _ _ _ h => h) (by rfl) (by intro wq hq; obtain ⟨⟨q0, q1, q2⟩, _⟩ := hq; go_simp) (by assumption) ?_
      simp only [Act.put, List.setIfInBounds_toArray, List.set_cons_zero, List.set_cons_succ]
      refine reg_take (i := 1) (d := 50) (.string s) rfl rfl (by kernel_rfl) (by kernel_rfl) (by kernel_rfl) (fun _ _ _ h => h) (by rfl) (by intro wq hq; obtain ⟨⟨q0, q1, q2⟩, _⟩ := hq; go_simp) (by assumption) ?_
      simp only [Act.put, List.setIfInBounds_toArray, List.set_cons_zero, List.set_cons_succ]
      refine reg_take (i := 2) (d := 51) (.pointer (some ⟨G, 0, none⟩)) rfl rfl (by kernel_rfl) (by kernel_rfl) (by kernel_rfl) (fun _ _ _ h => h) (by rfl) (by intro wq hq; obtain ⟨⟨q0, q1, q2⟩, _⟩ := hq; go_simp) (by assumption) ?_
      simp only [Act.put, List.setIfInBounds_toArray, List.set_cons_zero, List.set_cons_succ]
      refine reg_take (i := 3) (d := 52) (.int .i64 (q : Int)) rfl rfl (by kernel_rfl) (by kernel_rfl) (by kernel_rfl) (fun _ _ _ h => h) (by rfl) (by intro wq hq; obtain ⟨⟨q0, q1, q2⟩, _⟩ := hq; go_simp) (by assumption) ?_
      simp only [Act.put, List.setIfInBounds_toArray, List.set_cons_zero, List.set_cons_succ]
      refine reg_take (i := 4) (d := 53) (.string (s.extract 0 q)) rfl rfl (by kernel_rfl) (by kernel_rfl) (by kernel_rfl) (fun _ _ _ h => h) (by rfl) (by intro wq hq; obtain ⟨⟨q0, q1, q2⟩, _⟩ := hq; go_simp) (by assumption) ?_
      simp only [Act.put, List.setIfInBounds_toArray, List.set_cons_zero, List.set_cons_succ]
      refine reg_take (i := 5) (d := 54) (.pointer (some ⟨G, 2, none⟩)) rfl rfl (by kernel_rfl) (by kernel_rfl) (by kernel_rfl) (fun _ _ _ h => h) (by rfl) (by intro wq hq; obtain ⟨⟨q0, q1, q2⟩, _⟩ := hq; go_simp) (by assumption) ?_
      simp only [Act.put, List.setIfInBounds_toArray, List.set_cons_zero, List.set_cons_succ]
      refine reg_take (i := 6) (d := 55) (.string t) rfl rfl (by kernel_rfl) (by kernel_rfl) (by kernel_rfl) (fun _ _ _ h => h) (by rfl) (by intro wq hq; obtain ⟨⟨q0, q1, q2⟩, _⟩ := hq; go_simp) (by assumption) ?_
      simp only [Act.put, List.setIfInBounds_toArray, List.set_cons_zero, List.set_cons_succ]
      refine reg_take (i := 7) (d := 56) (.string (s.extract 0 q ++ t)) rfl rfl (by kernel_rfl) (by kernel_rfl) (by kernel_rfl) (fun _ _ _ h => h) (by rfl) (by intro wq hq; obtain ⟨⟨q0, q1, q2⟩, _⟩ := hq; go_simp) (by assumption) ?_
      simp only [Act.put, List.setIfInBounds_toArray, List.set_cons_zero, List.set_cons_succ]
      refine reg_take (i := 8) (d := 57) (.string s) rfl rfl (by kernel_rfl) (by kernel_rfl) (by kernel_rfl) (fun _ _ _ h => h) (by rfl) (by intro wq hq; obtain ⟨⟨q0, q1, q2⟩, _⟩ := hq; go_simp) (by assumption) ?_
      simp only [Act.put, List.setIfInBounds_toArray, List.set_cons_zero, List.set_cons_succ]
      refine reg_take (i := 9) (d := 58) (.pointer (some ⟨G, 0, none⟩)) rfl rfl (by kernel_rfl) (by kernel_rfl) (by kernel_rfl) (fun _ _ _ h => h) (by rfl) (by intro wq hq; obtain ⟨⟨q0, q1, q2⟩, _⟩ := hq; go_simp) (by assumption) ?_
      simp only [Act.put, List.setIfInBounds_toArray, List.set_cons_zero, List.set_cons_succ]
      refine reg_take (i := 10) (d := 59) (.int .i64 (q : Int)) rfl rfl (by kernel_rfl) (by kernel_rfl) (by kernel_rfl) (fun _ _ _ h => h) (by rfl) (by intro wq hq; obtain ⟨⟨q0, q1, q2⟩, _⟩ := hq; go_simp) (by assumption) ?_
      simp only [Act.put, List.setIfInBounds_toArray, List.set_cons_zero, List.set_cons_succ]
      refine reg_take (i := 11) (d := 60) (.pointer (some ⟨G, 1, none⟩)) rfl rfl (by kernel_rfl) (by kernel_rfl) (by kernel_rfl) (fun _ _ _ h => h) (by rfl) (by intro wq hq; obtain ⟨⟨q0, q1, q2⟩, _⟩ := hq; go_simp) (by assumption) ?_
      simp only [Act.put, List.setIfInBounds_toArray, List.set_cons_zero, List.set_cons_succ]
      refine reg_take (i := 12) (d := 61) (.int .i64 (d : Int)) rfl rfl (by kernel_rfl) (by kernel_rfl) (by kernel_rfl) (fun _ _ _ h => h) (by rfl) (by intro wq hq; obtain ⟨⟨q0, q1, q2⟩, _⟩ := hq; go_simp) (by assumption) ?_
      simp only [Act.put, List.setIfInBounds_toArray, List.set_cons_zero, List.set_cons_succ]
      refine reg_take (i := 13) (d := 62) (.int .i64 (r : Int)) rfl rfl (by kernel_rfl) (by kernel_rfl) (by kernel_rfl) (fun _ _ _ h => h) (by rfl) (by intro wq hq; obtain ⟨⟨q0, q1, q2⟩, _⟩ := hq; go_simp) (by assumption) ?_
      simp only [Act.put, List.setIfInBounds_toArray, List.set_cons_zero, List.set_cons_succ]
      refine reg_take (i := 14) (d := 63) (.string (s.extract r s.size)) rfl rfl (by kernel_rfl) (by kernel_rfl) (by kernel_rfl) (fun _ _ _ h => h) (by rfl) (by intro wq hq; obtain ⟨⟨q0, q1, q2⟩, _⟩ := hq; go_simp) (by assumption) ?_
      simp only [Act.put, List.setIfInBounds_toArray, List.set_cons_zero, List.set_cons_succ]
      refine reg_take (i := 15) (d := 64) (.string (s.extract 0 q ++ t ++ s.extract r s.size)) rfl rfl (by kernel_rfl) (by kernel_rfl) (by kernel_rfl) (fun _ _ _ h => h) (by rfl) (by intro wq hq; obtain ⟨⟨q0, q1, q2⟩, _⟩ := hq; go_simp) (by assumption) ?_
      simp only [Act.put, List.setIfInBounds_toArray, List.set_cons_zero, List.set_cons_succ]
      refine reg_take (i := 16) (d := 65) (.bool true) rfl rfl (by kernel_rfl) (by kernel_rfl) (by kernel_rfl) (fun _ _ _ h => h) (by rfl) (by intro wq hq; obtain ⟨⟨q0, q1, q2⟩, _⟩ := hq; have hh := HO2.out; go_simp) (by assumption) ?_
      simp only [Act.put, List.setIfInBounds_toArray, List.set_cons_zero, List.set_cons_succ]
      refine reg_take (i := 17) (d := 66) (.bool true) rfl rfl (by kernel_rfl) (by kernel_rfl) (by kernel_rfl) (fun _ _ _ h => h) (by rfl) (by intro wq hq; obtain ⟨⟨q0, q1, q2⟩, _⟩ := hq; go_simp) (by assumption) ?_
      simp only [Act.put, List.setIfInBounds_toArray, List.set_cons_zero, List.set_cons_succ]
      refine reg_take (i := 18) (d := 67) (.string O) rfl rfl (by kernel_rfl) (by kernel_rfl) (by kernel_rfl) (fun _ _ _ h => h) (by rfl) (by intro wq hq; obtain ⟨⟨q0, q1, q2⟩, _⟩ := hq; go_simp) (by assumption) ?_
      simp only [Act.put, List.setIfInBounds_toArray, List.set_cons_zero, List.set_cons_succ]
      refine wpAnyH_ready (rs := [19]) (by kernel_rfl) (by simp) ?_
      refine AllReadyH.cons rfl (fun K hK => ?_) AllReadyH.nil
      go_simp
      refine (i_ValidText_v O true w3.drew (by omega) HVO).mono ?_
      rintro e w4 ⟨rfl, hb4⟩
      have hB4 : Below w3.heap.size w3 w4 := (Below.refl _ _).drew.trans hb4
      clear hb4
      refine hK.out _ _ (EA.out _ hB4) (fun hHeld2 => ?_)
      clear hK hHeld
      have hHeld := hHeld2
      clear hHeld2
      refine reg_take (i := 20) (d := 69) (.bool true) rfl rfl (by kernel_rfl) (by kernel_rfl) (by kernel_rfl) (fun _ _ _ h => h) (by rfl) (by intro wq hq; obtain ⟨⟨q0, q1, q2⟩, _⟩ := hq; go_simp) (by assumption) ?_
      simp only [Act.put, List.setIfInBounds_toArray, List.set_cons_zero, List.set_cons_succ]
      refine reg_take (i := 21) (d := 70) (.bool true) rfl rfl (by kernel_rfl) (by kernel_rfl) (by kernel_rfl) (fun _ _ _ h => h) (by rfl) (by intro wq hq; obtain ⟨⟨q0, q1, q2⟩, _⟩ := hq; go_simp) (by assumption) ?_
      simp only [Act.put, List.setIfInBounds_toArray, List.set_cons_zero, List.set_cons_succ]
      refine reg_take (i := 22) (d := 71) (.string O) rfl rfl (by kernel_rfl) (by kernel_rfl) (by kernel_rfl) (fun _ _ _ h => h) (by rfl) (by intro wq hq; obtain ⟨⟨q0, q1, q2⟩, _⟩ := hq; go_simp) (by assumption) ?_
      simp only [Act.put, List.setIfInBounds_toArray, List.set_cons_zero, List.set_cons_succ]
      refine reg_take (i := 23) (d := 72) (.int .i64 (O.size : Int)) rfl rfl (by kernel_rfl) (by kernel_rfl) (by kernel_rfl) (fun _ _ _ h => h) (by rfl) (by intro wq hq; obtain ⟨⟨q0, q1, q2⟩, _⟩ := hq; go_simp) (by assumption) ?_
      simp only [Act.put, List.setIfInBounds_toArray, List.set_cons_zero, List.set_cons_succ]
      refine reg_take (i := 24) (d := 73) (.string s) rfl rfl (by kernel_rfl) (by kernel_rfl) (by kernel_rfl) (fun _ _ _ h => h) (by rfl) (by intro wq hq; obtain ⟨⟨q0, q1, q2⟩, _⟩ := hq; go_simp) (by assumption) ?_
      simp only [Act.put, List.setIfInBounds_toArray, List.set_cons_zero, List.set_cons_succ]
      refine reg_take (i := 25) (d := 74) (.int .i64 (s.size : Int)) rfl rfl (by kernel_rfl) (by kernel_rfl) (by kernel_rfl) (fun _ _ _ h => h) (by rfl) (by intro wq hq; obtain ⟨⟨q0, q1, q2⟩, _⟩ := hq; go_simp) (by assumption) ?_
      simp only [Act.put, List.setIfInBounds_toArray, List.set_cons_zero, List.set_cons_succ]
      refine reg_take (i := 26) (d := 75) (.pointer (some ⟨G, 1, none⟩)) rfl rfl (by kernel_rfl) (by kernel_rfl) (by kernel_rfl) (fun _ _ _ h => h) (by rfl) (by intro wq hq; obtain ⟨⟨q0, q1, q2⟩, _⟩ := hq; go_simp) (by assumption) ?_
      simp only [Act.put, List.setIfInBounds_toArray, List.set_cons_zero, List.set_cons_succ]
      refine reg_take (i := 27) (d := 76) (.int .i64 (d : Int)) rfl rfl (by kernel_rfl) (by kernel_rfl) (by kernel_rfl) (fun _ _ _ h => h) (by rfl) (by intro wq hq; obtain ⟨⟨q0, q1, q2⟩, _⟩ := hq; go_simp) (by assumption) ?_
      simp only [Act.put, List.setIfInBounds_toArray, List.set_cons_zero, List.set_cons_succ]
      refine reg_take (i := 28) (d := 77) (.int .i64 ((s.size : Int) - (d : Int))) rfl rfl (by kernel_rfl) (by kernel_rfl) (by kernel_rfl) (fun _ _ _ h => h) (by rfl) (by intro wq hq; obtain ⟨⟨q0, q1, q2⟩, _⟩ := hq; go_simp) (by assumption) ?_
      simp only [Act.put, List.setIfInBounds_toArray, List.set_cons_zero, List.set_cons_succ]
      refine reg_take (i := 29) (d := 78) (.pointer (some ⟨G, 2, none⟩)) rfl rfl (by kernel_rfl) (by kernel_rfl) (by kernel_rfl) (fun _ _ _ h => h) (by rfl) (by intro wq hq; obtain ⟨⟨q0, q1, q2⟩, _⟩ := hq; go_simp) (by assumption) ?_
      simp only [Act.put, List.setIfInBounds_toArray, List.set_cons_zero, List.set_cons_succ]
      refine reg_take (i := 30) (d := 79) (.string t) rfl rfl (by kernel_rfl) (by kernel_rfl) (by kernel_rfl) (fun _ _ _ h => h) (by rfl) (by intro wq hq; obtain ⟨⟨q0, q1, q2⟩, _⟩ := hq; go_simp) (by assumption) ?_
      simp only [Act.put, List.setIfInBounds_toArray, List.set_cons_zero, List.set_cons_succ]
      refine reg_take (i := 31) (d := 80) (.int .i64 (t.size : Int)) rfl rfl (by kernel_rfl) (by kernel_rfl) (by kernel_rfl) (fun _ _ _ h => h) (by rfl) (by intro wq hq; obtain ⟨⟨q0, q1, q2⟩, _⟩ := hq; go_simp) (by assumption) ?_
      simp only [Act.put, List.setIfInBounds_toArray, List.set_cons_zero, List.set_cons_succ]
      refine reg_take (i := 32) (d := 81) (.int .i64 ((s.size : Int) - (d : Int) + (t.size : Int))) rfl rfl (by kernel_rfl) (by kernel_rfl) (by kernel_rfl) (fun _ _ _ h => h) (by rfl) (by intro wq hq; obtain ⟨⟨q0, q1, q2⟩, _⟩ := hq; go_simp) (by assumption) ?_
      simp only [Act.put, List.setIfInBounds_toArray, List.set_cons_zero, List.set_cons_succ]
      refine reg_take (i := 33) (d := 82) (.bool true) rfl rfl (by kernel_rfl) (by kernel_rfl) (by kernel_rfl) (fun _ _ _ h => h) (by rfl) (by intro wq hq; obtain ⟨⟨q0, q1, q2⟩, _⟩ := hq; go_simp) (by assumption) ?_
      simp only [Act.put, List.setIfInBounds_toArray, List.set_cons_zero, List.set_cons_succ]
      refine reg_take (i := 34) (d := 83) (.bool true) rfl rfl (by kernel_rfl) (by kernel_rfl) (by kernel_rfl) (fun _ _ _ h => h) (by rfl) (by intro wq hq; obtain ⟨⟨q0, q1, q2⟩, _⟩ := hq; go_simp) (by assumption) ?_
      simp only [Act.put, List.setIfInBounds_toArray, List.set_cons_zero, List.set_cons_succ]
      refine reg_take (i := 35) (d := 2) (.bool true) rfl rfl (by kernel_rfl) (by kernel_rfl) (by kernel_rfl) (fun _ _ _ h => h) (by rfl) (by intro wq hq; obtain ⟨⟨q0, q1, q2⟩, _⟩ := hq; go_simp) (by assumption) ?_
      simp only [Act.put, List.setIfInBounds_toArray, List.set_cons_zero, List.set_cons_succ]
      refine wpAnyH_done (by kernel_rfl) ?_ _
      all_goals
        go_wp2
        go_ret
        exact ⟨rfl, below_next HB.out hB4⟩
    · have HN := Lib.hid hok
      clear hok
      have hE := EdAt.new w1 x c t
      have hB : Below w.heap.size w (w1.alloc (.cells #[.int .i64 x, .int .i64 c, .string t] 24)) := hb1.alloc hb1.size _
      go_wp2_with fail
      generalize (w1.alloc (.cells #[.int .i64 x, .int .i64 c, .string t] 24)) = wA at hE hB ⊢
      generalize w1.heap.size = G at hE ⊢
      clear hb1
      obtain ⟨c0, c1, c2⟩ := hE.cells
      refine (i_ApplyEdit_no s t x c _ (by omega) (by omega) HN.out).mono ?_
      rintro e w2 ⟨rfl, hbn⟩
      replace hE := hE.below hbn hE.lt
      replace hB := below_next hB hbn
      clear hbn c0 c1 c2
      obtain ⟨c0, c1, c2⟩ := hE.cells
      go_wp2_with fail
      refine (s_ApplyEdit_no s t x c _ (by omega) (by omega) HN.out).mono ?_
      rintro e w3 ⟨rfl, hbn⟩
      replace hE := hE.below hbn hE.lt
      replace hB := below_next hB hbn
      clear hbn c0 c1 c2
      obtain ⟨c0, c1, c2⟩ := hE.cells
      go_wp2
      go_ret
      exact ⟨rfl, hB⟩
  · have d : decide (len ≤ 1048576) = false := decide_eq_false hbig
    have hl : (1048576 : Int) < len := by omega
    clear h
    go_enter Try.func3, Try.ntmps3
    go_wp2
    go_ret
    exact ⟨rfl, Below.refl _ _⟩
end Go.Proofs.Ythlamidlcbnchaa
