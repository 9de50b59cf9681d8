
/- The exact law of ShiftEdit where it fails. -/
import Derived.Test.YthlamidlcbnchaaEdr
namespace Go.Proofs.Ythlamidlcbnchaa
open Go.RowKit Go.WideShapes Go.ChangeShapes

set_option maxHeartbeats 16000000 in
theorem exShift_none (p c : Int) (t : ByteArray) (p2 c2 : Int) (t2 : ByteArray) (many : Int) (w : World) (wt : t.size ≤ maxLen) (wt2 : t2.size ≤ maxLen) (hbt : t.size ≤ 1048576) (hbt2 : (t2.size : Int) ≤ 1048576 - (t.size : Int)) (HS : Hid (shP p c t p2 c2 t2 many = none)) :
    Calls Try.prog 13 #[edV p c t, edV p2 c2 t2, .int .i64 many] w fun e w' => e = .returned (.bool true) ∧ Below w.heap.size w w' := by
  unfold maxLen at wt wt2
  have E1 := (EdAtL.new w p c t).alloc (.cells #[.int .i64 p2, .int .i64 c2, .string t2] 40)
  have E2 := EdAtL.new (w.alloc (.cells #[.int .i64 p, .int .i64 c, .string t] 40)) p2 c2 t2
  rw [World.size_alloc] at E2
  have HB : Below w.heap.size w ((w.alloc (.cells #[.int .i64 p, .int .i64 c, .string t] 40)).alloc (.cells #[.int .i64 p2, .int .i64 c2, .string t2] 40)) := ((Below.refl _ _).alloc (Nat.le_refl _) _).alloc (by rw [World.size_alloc]; omega) _
  go_enter Try.func13, Try.ntmps13
  go_wp2_with fail
  generalize ((w.alloc (.cells #[.int .i64 p, .int .i64 c, .string t] 40)).alloc (.cells #[.int .i64 p2, .int .i64 c2, .string t2] 40)) = wA at E1 E2 HB ⊢
  obtain ⟨c0a, c0b, c0c⟩ := E1.cells
  obtain ⟨d0a, d0b, d0c⟩ := E2.cells
  refine (szEdit_yes p c 1048576 t _ (by omega) (by omega)).mono ?_
  rintro e w1 ⟨rfl, hbn⟩
  replace E1 := E1.below hbn E1.lt
  replace E2 := E2.below hbn E2.lt
  replace HB := below_next HB hbn
  clear hbn c0a c0b c0c d0a d0b d0c
  obtain ⟨c0a, c0b, c0c⟩ := E1.cells
  obtain ⟨d0a, d0b, d0c⟩ := E2.cells
  go_wp2_with fail
  refine (szEdit_yes p2 c2 (1048576 - (t.size : Int)) t2 _ hbt2 (by omega)).mono ?_
  rintro e w2 ⟨rfl, hbn⟩
  replace E1 := E1.below hbn E1.lt
  replace E2 := E2.below hbn E2.lt
  replace HB := below_next HB hbn
  clear hbn c0a c0b c0c d0a d0b d0c
  obtain ⟨c0a, c0b, c0c⟩ := E1.cells
  obtain ⟨d0a, d0b, d0c⟩ := E2.cells
  clear c0a c0b c0c d0a d0b d0c
  go_wp2_with fail
  obtain ⟨l0, l1, l2⟩ := E1.cells
  obtain ⟨m0, m1, m2⟩ := E2.cells
  refine wp_region_held_drew (S := fun wy => EdAtL wy w.heap.size p c t ∧ EdAtL wy (w.heap.size + 1) p2 c2 t2) (by kernel_rfl) (⟨E1, E2⟩) (fun hHeld => ?_)
  refine reg_take (i := 0) (d := 23) (edV p c t) rfl rfl (by kernel_rfl) (by kernel_rfl) (by kernel_rfl) (fun _ _ _ h => h) (by rfl) (by intro wq hq; obtain ⟨q0, q1, q2⟩ := hq.1.cells; obtain ⟨q3, q4, q5⟩ := hq.2.cells; go_simp) (by assumption) ?_
  simp only [Act.put, List.setIfInBounds_toArray, List.set_cons_zero, List.set_cons_succ]
  refine reg_take (i := 2) (d := 25) (edV p2 c2 t2) rfl rfl (by kernel_rfl) (by kernel_rfl) (by kernel_rfl) (fun _ _ _ h => h) (by rfl) (by intro wq hq; obtain ⟨q0, q1, q2⟩ := hq.1.cells; obtain ⟨q3, q4, q5⟩ := hq.2.cells; go_simp) (by assumption) ?_
  simp only [Act.put, List.setIfInBounds_toArray, List.set_cons_zero, List.set_cons_succ]
  refine reg_take (i := 4) (d := 27) (.int .i64 many) rfl rfl (by kernel_rfl) (by kernel_rfl) (by kernel_rfl) (fun _ _ _ h => h) (by rfl) (by intro wq hq; obtain ⟨q0, q1, q2⟩ := hq.1.cells; obtain ⟨q3, q4, q5⟩ := hq.2.cells; go_simp) (by assumption) ?_
  simp only [Act.put, List.setIfInBounds_toArray, List.set_cons_zero, List.set_cons_succ]
  clear l0 l1 l2 m0 m1 m2
  replace E1 : EdAtL w2.drew w.heap.size p c t := E1
  replace E2 : EdAtL w2.drew (w.heap.size + 1) p2 c2 t2 := E2
  replace HB : Below w.heap.size w w2.drew := HB.drew
  generalize w2.drew = v131 at E1 E2 HB hHeld ⊢
  refine wpAnyH_ready (rs := [1, 9]) (by kernel_rfl) (by simp) ?_
  refine AllReadyH.cons rfl (fun K hK => ?_) (AllReadyH.cons rfl (fun K hK => ?_) AllReadyH.nil)
  · skip
    go_simp
    refine (toEdit_any p c t v131).mono ?_
    rintro e v132 ⟨rfl, hbn⟩
    replace E1 := E1.below hbn E1.lt
    replace E2 := E2.below hbn E2.lt
    replace HB := below_next HB hbn
    clear hbn
    refine hK.out _ _ ⟨E1, E2⟩ (fun hHeld2 => ?_)
    clear hK hHeld
    have hHeld := hHeld2
    clear hHeld2
    refine wpAnyH_ready (rs := [3, 9]) (by kernel_rfl) (by simp) ?_
    refine AllReadyH.cons rfl (fun K hK => ?_) (AllReadyH.cons rfl (fun K hK => ?_) AllReadyH.nil)
    · skip
      go_simp
      refine (toEdit_any p2 c2 t2 v132).mono ?_
      rintro e v133 ⟨rfl, hbn⟩
      replace E1 := E1.below hbn E1.lt
      replace E2 := E2.below hbn E2.lt
      replace HB := below_next HB hbn
      clear hbn
      refine hK.out _ _ ⟨E1, E2⟩ (fun hHeld2 => ?_)
      clear hK hHeld
      have hHeld := hHeld2
      clear hHeld2
      refine wpAnyH_ready (rs := [5, 9]) (by kernel_rfl) (by simp) ?_
      refine AllReadyH.cons rfl (fun K hK => ?_) (AllReadyH.cons rfl (fun K hK => ?_) AllReadyH.nil)
      · skip
        go_simp
        refine (s_ShiftEdit_none p c t p2 c2 t2 many v133 (by omega) (by omega) HS.out).mono ?_
        rintro e v134 ⟨rfl, hbn⟩
        replace E1 := E1.below hbn E1.lt
        replace E2 := E2.below hbn E2.lt
        replace HB := below_next HB hbn
        clear hbn
        refine hK.out _ _ ⟨E1, E2⟩ (fun hHeld2 => ?_)
        clear hK hHeld
        have hHeld := hHeld2
        clear hHeld2
        refine reg_take (i := 6) (d := 22) (.tuple #[edV (0) (0) (⟨#[]⟩), .bool false]) rfl rfl (by kernel_rfl) (by kernel_rfl) (by kernel_rfl) (fun _ _ _ h => h) (by rfl) (by intro wq hq; go_simp) (by assumption) ?_
        simp only [Act.put, List.setIfInBounds_toArray, List.set_cons_zero, List.set_cons_succ]
        refine reg_take (i := 7) (d := 29) (edV (0) (0) (⟨#[]⟩)) rfl rfl (by kernel_rfl) (by kernel_rfl) (by kernel_rfl) (fun _ _ _ h => h) (by rfl) (by intro wq hq; go_simp) (by assumption) ?_
        simp only [Act.put, List.setIfInBounds_toArray, List.set_cons_zero, List.set_cons_succ]
        refine reg_take (i := 8) (d := 30) (.bool false) rfl rfl (by kernel_rfl) (by kernel_rfl) (by kernel_rfl) (fun _ _ _ h => h) (by rfl) (by intro wq hq; go_simp) (by assumption) ?_
        simp only [Act.put, List.setIfInBounds_toArray, List.set_cons_zero, List.set_cons_succ]
        refine wpAnyH_ready (rs := [9]) (by kernel_rfl) (by simp) ?_
        refine AllReadyH.cons rfl (fun K hK => ?_) AllReadyH.nil
        go_simp
        have hwl0 := E1.lt
        replace E1 := E1.alloc (.cells #[.int .i64 0, .int .i64 0, .string ⟨#[]⟩] 24)
        replace E2 := E2.alloc (.cells #[.int .i64 0, .int .i64 0, .string ⟨#[]⟩] 24)
        have FZ137 := EdAt.new v134 0 0 ⟨#[]⟩
        replace HB := HB.alloc HB.size (.cells #[.int .i64 0, .int .i64 0, .string ⟨#[]⟩] 24)
        have nG136 : w.heap.size ≤ v134.heap.size := Nat.le_of_lt hwl0
        generalize (v134.alloc (.cells #[.int .i64 0, .int .i64 0, .string ⟨#[]⟩] 24)) = v135 at E1 E2 FZ137 HB ⊢
        generalize v134.heap.size = G136 at FZ137 nG136  ⊢
        clear hwl0 
        refine hK.out _ _ ⟨E1, E2⟩ (fun hHeld2 => ?_)
        clear hK hHeld
        have hHeld := hHeld2
        clear hHeld2
        obtain ⟨z0, z1, z2⟩ := FZ137.cells
        have fz := FZ137.free

        refine wpAnyH_ready (rs := [10]) (by kernel_rfl) (by simp) ?_
        refine AllReadyH.cons rfl (fun K hK => ?_) AllReadyH.nil
        go_simp
        have k1 : EdAtL (((v135.setCell ⟨G136, 0, none⟩ (.int .i64 (0))).setCell ⟨G136, 1, none⟩ (.int .i64 (0))).setCell ⟨G136, 2, none⟩ (.string (⟨#[]⟩))) w.heap.size p c t := EdAtL.putO E1 (fun e => by subst e; exact edL_ne E1 FZ137) _ _ _
        have k2 : EdAtL (((v135.setCell ⟨G136, 0, none⟩ (.int .i64 (0))).setCell ⟨G136, 1, none⟩ (.int .i64 (0))).setCell ⟨G136, 2, none⟩ (.string (⟨#[]⟩))) (w.heap.size + 1) p2 c2 t2 := EdAtL.putO E2 (fun e => by subst e; exact edL_ne E2 FZ137) _ _ _
        have k_FZ137 : EdAt (((v135.setCell ⟨G136, 0, none⟩ (.int .i64 (0))).setCell ⟨G136, 1, none⟩ (.int .i64 (0))).setCell ⟨G136, 2, none⟩ (.string (⟨#[]⟩))) G136 (0) (0) (⟨#[]⟩) := FZ137.put (0) (0) (⟨#[]⟩)
        have kB : Below w.heap.size w (((v135.setCell ⟨G136, 0, none⟩ (.int .i64 (0))).setCell ⟨G136, 1, none⟩ (.int .i64 (0))).setCell ⟨G136, 2, none⟩ (.string (⟨#[]⟩))) := below_putE (p := 0) (c := 0) (t := ⟨#[]⟩) HB nG136
        generalize (((v135.setCell ⟨G136, 0, none⟩ (.int .i64 (0))).setCell ⟨G136, 1, none⟩ (.int .i64 (0))).setCell ⟨G136, 2, none⟩ (.string (⟨#[]⟩))) = v138 at k1 k2 k_FZ137 kB ⊢
        clear z0 z1 z2 fz E1 E2 HB hHeld FZ137
        have E1 := k1
        have E2 := k2
        have HB := kB
        have FZ137 := k_FZ137
        clear k1 k2 k_FZ137 kB
        refine hK.out _ _ ⟨E1, E2⟩ (fun hHeld => ?_)
        clear hK
        refine reg_take (i := 11) (d := 9) (.bool false) rfl rfl (by kernel_rfl) (by kernel_rfl) (by kernel_rfl) (fun _ _ _ h => h) (by rfl) (by intro wq hq; go_simp) (by assumption) ?_
        simp only [Act.put, List.setIfInBounds_toArray, List.set_cons_zero, List.set_cons_succ]
        refine wpAnyH_done (by kernel_rfl) ?_ _
        clear hHeld
        go_wp2_with fail
        obtain ⟨l0, l1, l2⟩ := E1.cells
        obtain ⟨m0, m1, m2⟩ := E2.cells
        refine wp_region_held_drew (S := fun wy => EdAtL wy w.heap.size p c t ∧ EdAtL wy (w.heap.size + 1) p2 c2 t2) (by kernel_rfl) (⟨E1, E2⟩) (fun hHeld => ?_)
        refine reg_take (i := 0) (d := 32) (edV p c t) rfl rfl (by kernel_rfl) (by kernel_rfl) (by kernel_rfl) (fun _ _ _ h => h) (by rfl) (by intro wq hq; obtain ⟨q0, q1, q2⟩ := hq.1.cells; obtain ⟨q3, q4, q5⟩ := hq.2.cells; go_simp) (by assumption) ?_
        simp only [Act.put, List.setIfInBounds_toArray, List.set_cons_zero, List.set_cons_succ]
        refine reg_take (i := 2) (d := 34) (edV p2 c2 t2) rfl rfl (by kernel_rfl) (by kernel_rfl) (by kernel_rfl) (fun _ _ _ h => h) (by rfl) (by intro wq hq; obtain ⟨q0, q1, q2⟩ := hq.1.cells; obtain ⟨q3, q4, q5⟩ := hq.2.cells; go_simp) (by assumption) ?_
        simp only [Act.put, List.setIfInBounds_toArray, List.set_cons_zero, List.set_cons_succ]
        refine reg_take (i := 4) (d := 36) (.int .i64 many) rfl rfl (by kernel_rfl) (by kernel_rfl) (by kernel_rfl) (fun _ _ _ h => h) (by rfl) (by intro wq hq; obtain ⟨q0, q1, q2⟩ := hq.1.cells; obtain ⟨q3, q4, q5⟩ := hq.2.cells; go_simp) (by assumption) ?_
        simp only [Act.put, List.setIfInBounds_toArray, List.set_cons_zero, List.set_cons_succ]
        clear l0 l1 l2 m0 m1 m2
        replace E1 : EdAtL v138.drew w.heap.size p c t := E1
        replace E2 : EdAtL v138.drew (w.heap.size + 1) p2 c2 t2 := E2
        replace FZ137 : EdAt v138.drew G136 (0) (0) (⟨#[]⟩) := FZ137
        replace HB : Below w.heap.size w v138.drew := HB.drew
        generalize v138.drew = v139 at E1 E2 FZ137 HB hHeld ⊢
        refine wpAnyH_ready (rs := [1, 9]) (by kernel_rfl) (by simp) ?_
        refine AllReadyH.cons rfl (fun K hK => ?_) (AllReadyH.cons rfl (fun K hK => ?_) AllReadyH.nil)
        · skip
          go_simp
          refine (toEdit_any p c t v139).mono ?_
          rintro e v140 ⟨rfl, hbn⟩
          replace E1 := E1.below hbn E1.lt
          replace E2 := E2.below hbn E2.lt
          replace FZ137 := FZ137.below hbn FZ137.lt
          replace HB := below_next HB hbn
          clear hbn
          refine hK.out _ _ ⟨E1, E2⟩ (fun hHeld2 => ?_)
          clear hK hHeld
          have hHeld := hHeld2
          clear hHeld2
          refine wpAnyH_ready (rs := [3, 9]) (by kernel_rfl) (by simp) ?_
          refine AllReadyH.cons rfl (fun K hK => ?_) (AllReadyH.cons rfl (fun K hK => ?_) AllReadyH.nil)
          · skip
            go_simp
            refine (toEdit_any p2 c2 t2 v140).mono ?_
            rintro e v141 ⟨rfl, hbn⟩
            replace E1 := E1.below hbn E1.lt
            replace E2 := E2.below hbn E2.lt
            replace FZ137 := FZ137.below hbn FZ137.lt
            replace HB := below_next HB hbn
            clear hbn
            refine hK.out _ _ ⟨E1, E2⟩ (fun hHeld2 => ?_)
            clear hK hHeld
            have hHeld := hHeld2
            clear hHeld2
            refine wpAnyH_ready (rs := [5, 9]) (by kernel_rfl) (by simp) ?_
            refine AllReadyH.cons rfl (fun K hK => ?_) (AllReadyH.cons rfl (fun K hK => ?_) AllReadyH.nil)
            · skip
              go_simp
              refine (i_ShiftEdit_none p c t p2 c2 t2 many v141 (by omega) (by omega) HS.out).mono ?_
              rintro e v142 ⟨rfl, hbn⟩
              replace E1 := E1.below hbn E1.lt
              replace E2 := E2.below hbn E2.lt
              replace FZ137 := FZ137.below hbn FZ137.lt
              replace HB := below_next HB hbn
              clear hbn
              refine hK.out _ _ ⟨E1, E2⟩ (fun hHeld2 => ?_)
              clear hK hHeld
              have hHeld := hHeld2
              clear hHeld2
              refine reg_take (i := 6) (d := 31) (.tuple #[edV (0) (0) (⟨#[]⟩), .bool false]) rfl rfl (by kernel_rfl) (by kernel_rfl) (by kernel_rfl) (fun _ _ _ h => h) (by rfl) (by intro wq hq; go_simp) (by assumption) ?_
              simp only [Act.put, List.setIfInBounds_toArray, List.set_cons_zero, List.set_cons_succ]
              refine reg_take (i := 7) (d := 38) (edV (0) (0) (⟨#[]⟩)) rfl rfl (by kernel_rfl) (by kernel_rfl) (by kernel_rfl) (fun _ _ _ h => h) (by rfl) (by intro wq hq; go_simp) (by assumption) ?_
              simp only [Act.put, List.setIfInBounds_toArray, List.set_cons_zero, List.set_cons_succ]
              refine reg_take (i := 8) (d := 39) (.bool false) rfl rfl (by kernel_rfl) (by kernel_rfl) (by kernel_rfl) (fun _ _ _ h => h) (by rfl) (by intro wq hq; go_simp) (by assumption) ?_
              simp only [Act.put, List.setIfInBounds_toArray, List.set_cons_zero, List.set_cons_succ]
              refine wpAnyH_ready (rs := [9]) (by kernel_rfl) (by simp) ?_
              refine AllReadyH.cons rfl (fun K hK => ?_) AllReadyH.nil
              go_simp
              have hwl0 := E1.lt
              have hl_FZ137 := FZ137.lt
              replace E1 := E1.alloc (.cells #[.int .i64 0, .int .i64 0, .string ⟨#[]⟩] 24)
              replace E2 := E2.alloc (.cells #[.int .i64 0, .int .i64 0, .string ⟨#[]⟩] 24)
              replace FZ137 := FZ137.alloc (.cells #[.int .i64 0, .int .i64 0, .string ⟨#[]⟩] 24)
              have FZ145 := EdAt.new v142 0 0 ⟨#[]⟩
              replace HB := HB.alloc HB.size (.cells #[.int .i64 0, .int .i64 0, .string ⟨#[]⟩] 24)
              have nG144 : w.heap.size ≤ v142.heap.size := Nat.le_of_lt hwl0
              have FZ137uG144 : G136 < v142.heap.size := hl_FZ137
              generalize (v142.alloc (.cells #[.int .i64 0, .int .i64 0, .string ⟨#[]⟩] 24)) = v143 at E1 E2 FZ137 FZ145 HB ⊢
              generalize v142.heap.size = G144 at FZ145 nG144 FZ137uG144 ⊢
              clear hwl0 hl_FZ137
              refine hK.out _ _ ⟨E1, E2⟩ (fun hHeld2 => ?_)
              clear hK hHeld
              have hHeld := hHeld2
              clear hHeld2
              obtain ⟨z0, z1, z2⟩ := FZ145.cells
              have fz := FZ145.free

              refine wpAnyH_ready (rs := [10]) (by kernel_rfl) (by simp) ?_
              refine AllReadyH.cons rfl (fun K hK => ?_) AllReadyH.nil
              go_simp
              have k1 : EdAtL (((v143.setCell ⟨G144, 0, none⟩ (.int .i64 (0))).setCell ⟨G144, 1, none⟩ (.int .i64 (0))).setCell ⟨G144, 2, none⟩ (.string (⟨#[]⟩))) w.heap.size p c t := EdAtL.putO E1 (fun e => by subst e; exact edL_ne E1 FZ145) _ _ _
              have k2 : EdAtL (((v143.setCell ⟨G144, 0, none⟩ (.int .i64 (0))).setCell ⟨G144, 1, none⟩ (.int .i64 (0))).setCell ⟨G144, 2, none⟩ (.string (⟨#[]⟩))) (w.heap.size + 1) p2 c2 t2 := EdAtL.putO E2 (fun e => by subst e; exact edL_ne E2 FZ145) _ _ _
              have k_FZ137 : EdAt (((v143.setCell ⟨G144, 0, none⟩ (.int .i64 (0))).setCell ⟨G144, 1, none⟩ (.int .i64 (0))).setCell ⟨G144, 2, none⟩ (.string (⟨#[]⟩))) G136 (0) (0) (⟨#[]⟩) := FZ137.putO (by have := nG144; have := FZ137uG144; omega) _ _ _
              have k_FZ145 : EdAt (((v143.setCell ⟨G144, 0, none⟩ (.int .i64 (0))).setCell ⟨G144, 1, none⟩ (.int .i64 (0))).setCell ⟨G144, 2, none⟩ (.string (⟨#[]⟩))) G144 (0) (0) (⟨#[]⟩) := FZ145.put (0) (0) (⟨#[]⟩)
              have kB : Below w.heap.size w (((v143.setCell ⟨G144, 0, none⟩ (.int .i64 (0))).setCell ⟨G144, 1, none⟩ (.int .i64 (0))).setCell ⟨G144, 2, none⟩ (.string (⟨#[]⟩))) := below_putE (p := 0) (c := 0) (t := ⟨#[]⟩) HB nG144
              generalize (((v143.setCell ⟨G144, 0, none⟩ (.int .i64 (0))).setCell ⟨G144, 1, none⟩ (.int .i64 (0))).setCell ⟨G144, 2, none⟩ (.string (⟨#[]⟩))) = v146 at k1 k2 k_FZ137 k_FZ145 kB ⊢
              clear z0 z1 z2 fz E1 E2 HB hHeld FZ137 FZ145
              have E1 := k1
              have E2 := k2
              have HB := kB
              have FZ137 := k_FZ137
              have FZ145 := k_FZ145
              clear k1 k2 k_FZ137 k_FZ145 kB
              refine hK.out _ _ ⟨E1, E2⟩ (fun hHeld => ?_)
              clear hK
              refine reg_take (i := 11) (d := 11) (.bool false) rfl rfl (by kernel_rfl) (by kernel_rfl) (by kernel_rfl) (fun _ _ _ h => h) (by rfl) (by intro wq hq; go_simp) (by assumption) ?_
              simp only [Act.put, List.setIfInBounds_toArray, List.set_cons_zero, List.set_cons_succ]
              refine wpAnyH_done (by kernel_rfl) ?_ _
              clear hHeld
              obtain ⟨c0, c1, c2x⟩ := FZ137.cells
              obtain ⟨d0, d1, d2⟩ := FZ145.cells
              go_wp2_with fail
              refine (eqEdit_same _ _ _ _).mono ?_
              rintro e w9 ⟨rfl, hbn⟩
              go_wp2
              go_ret
              exact ⟨rfl, below_next HB hbn⟩
            · skip
              go_simp
              have hwl0 := E1.lt
              have hl_FZ137 := FZ137.lt
              replace E1 := E1.alloc (.cells #[.int .i64 0, .int .i64 0, .string ⟨#[]⟩] 24)
              replace E2 := E2.alloc (.cells #[.int .i64 0, .int .i64 0, .string ⟨#[]⟩] 24)
              replace FZ137 := FZ137.alloc (.cells #[.int .i64 0, .int .i64 0, .string ⟨#[]⟩] 24)
              have FZ149 := EdAt.new v141 0 0 ⟨#[]⟩
              replace HB := HB.alloc HB.size (.cells #[.int .i64 0, .int .i64 0, .string ⟨#[]⟩] 24)
              have nG148 : w.heap.size ≤ v141.heap.size := Nat.le_of_lt hwl0
              have FZ137uG148 : G136 < v141.heap.size := hl_FZ137
              generalize (v141.alloc (.cells #[.int .i64 0, .int .i64 0, .string ⟨#[]⟩] 24)) = v147 at E1 E2 FZ137 FZ149 HB ⊢
              generalize v141.heap.size = G148 at FZ149 nG148 FZ137uG148 ⊢
              clear hwl0 hl_FZ137
              refine hK.out _ _ ⟨E1, E2⟩ (fun hHeld2 => ?_)
              clear hK hHeld
              have hHeld := hHeld2
              clear hHeld2
              refine wpAnyH_ready (rs := [5]) (by kernel_rfl) (by simp) ?_
              refine AllReadyH.cons rfl (fun K hK => ?_) AllReadyH.nil
              go_simp
              refine (i_ShiftEdit_none p c t p2 c2 t2 many v147 (by omega) (by omega) HS.out).mono ?_
              rintro e v150 ⟨rfl, hbn⟩
              replace E1 := E1.below hbn E1.lt
              replace E2 := E2.below hbn E2.lt
              replace FZ137 := FZ137.below hbn FZ137.lt
              replace FZ149 := FZ149.below hbn FZ149.lt
              replace HB := below_next HB hbn
              clear hbn
              refine hK.out _ _ ⟨E1, E2⟩ (fun hHeld2 => ?_)
              clear hK hHeld
              have hHeld := hHeld2
              clear hHeld2
              refine reg_take (i := 6) (d := 31) (.tuple #[edV (0) (0) (⟨#[]⟩), .bool false]) rfl rfl (by kernel_rfl) (by kernel_rfl) (by kernel_rfl) (fun _ _ _ h => h) (by rfl) (by intro wq hq; go_simp) (by assumption) ?_
              simp only [Act.put, List.setIfInBounds_toArray, List.set_cons_zero, List.set_cons_succ]
              refine reg_take (i := 7) (d := 38) (edV (0) (0) (⟨#[]⟩)) rfl rfl (by kernel_rfl) (by kernel_rfl) (by kernel_rfl) (fun _ _ _ h => h) (by rfl) (by intro wq hq; go_simp) (by assumption) ?_
              simp only [Act.put, List.setIfInBounds_toArray, List.set_cons_zero, List.set_cons_succ]
              refine reg_take (i := 8) (d := 39) (.bool false) rfl rfl (by kernel_rfl) (by kernel_rfl) (by kernel_rfl) (fun _ _ _ h => h) (by rfl) (by intro wq hq; go_simp) (by assumption) ?_
              simp only [Act.put, List.setIfInBounds_toArray, List.set_cons_zero, List.set_cons_succ]
              obtain ⟨z0, z1, z2⟩ := FZ149.cells
              have fz := FZ149.free

              refine wpAnyH_ready (rs := [10]) (by kernel_rfl) (by simp) ?_
              refine AllReadyH.cons rfl (fun K hK => ?_) AllReadyH.nil
              go_simp
              have k1 : EdAtL (((v150.setCell ⟨G148, 0, none⟩ (.int .i64 (0))).setCell ⟨G148, 1, none⟩ (.int .i64 (0))).setCell ⟨G148, 2, none⟩ (.string (⟨#[]⟩))) w.heap.size p c t := EdAtL.putO E1 (fun e => by subst e; exact edL_ne E1 FZ149) _ _ _
              have k2 : EdAtL (((v150.setCell ⟨G148, 0, none⟩ (.int .i64 (0))).setCell ⟨G148, 1, none⟩ (.int .i64 (0))).setCell ⟨G148, 2, none⟩ (.string (⟨#[]⟩))) (w.heap.size + 1) p2 c2 t2 := EdAtL.putO E2 (fun e => by subst e; exact edL_ne E2 FZ149) _ _ _
              have k_FZ137 : EdAt (((v150.setCell ⟨G148, 0, none⟩ (.int .i64 (0))).setCell ⟨G148, 1, none⟩ (.int .i64 (0))).setCell ⟨G148, 2, none⟩ (.string (⟨#[]⟩))) G136 (0) (0) (⟨#[]⟩) := FZ137.putO (by have := nG148; have := FZ137uG148; omega) _ _ _
              have k_FZ149 : EdAt (((v150.setCell ⟨G148, 0, none⟩ (.int .i64 (0))).setCell ⟨G148, 1, none⟩ (.int .i64 (0))).setCell ⟨G148, 2, none⟩ (.string (⟨#[]⟩))) G148 (0) (0) (⟨#[]⟩) := FZ149.put (0) (0) (⟨#[]⟩)
              have kB : Below w.heap.size w (((v150.setCell ⟨G148, 0, none⟩ (.int .i64 (0))).setCell ⟨G148, 1, none⟩ (.int .i64 (0))).setCell ⟨G148, 2, none⟩ (.string (⟨#[]⟩))) := below_putE (p := 0) (c := 0) (t := ⟨#[]⟩) HB nG148
              generalize (((v150.setCell ⟨G148, 0, none⟩ (.int .i64 (0))).setCell ⟨G148, 1, none⟩ (.int .i64 (0))).setCell ⟨G148, 2, none⟩ (.string (⟨#[]⟩))) = v151 at k1 k2 k_FZ137 k_FZ149 kB ⊢
              clear z0 z1 z2 fz E1 E2 HB hHeld FZ137 FZ149
              have E1 := k1
              have E2 := k2
              have HB := kB
              have FZ137 := k_FZ137
              have FZ149 := k_FZ149
              clear k1 k2 k_FZ137 k_FZ149 kB
              refine hK.out _ _ ⟨E1, E2⟩ (fun hHeld => ?_)
              clear hK
              refine reg_take (i := 11) (d := 11) (.bool false) rfl rfl (by kernel_rfl) (by kernel_rfl) (by kernel_rfl) (fun _ _ _ h => h) (by rfl) (by intro wq hq; go_simp) (by assumption) ?_
              simp only [Act.put, List.setIfInBounds_toArray, List.set_cons_zero, List.set_cons_succ]
              refine wpAnyH_done (by kernel_rfl) ?_ _
              clear hHeld
              obtain ⟨c0, c1, c2x⟩ := FZ137.cells
              obtain ⟨d0, d1, d2⟩ := FZ149.cells
              go_wp2_with fail
              refine (eqEdit_same _ _ _ _).mono ?_
              rintro e w9 ⟨rfl, hbn⟩
              go_wp2
              go_ret
              exact ⟨rfl, below_next HB hbn⟩
          · skip
            go_simp
            have hwl0 := E1.lt
            have hl_FZ137 := FZ137.lt
            replace E1 := E1.alloc (.cells #[.int .i64 0, .int .i64 0, .string ⟨#[]⟩] 24)
            replace E2 := E2.alloc (.cells #[.int .i64 0, .int .i64 0, .string ⟨#[]⟩] 24)
            replace FZ137 := FZ137.alloc (.cells #[.int .i64 0, .int .i64 0, .string ⟨#[]⟩] 24)
            have FZ154 := EdAt.new v140 0 0 ⟨#[]⟩
            replace HB := HB.alloc HB.size (.cells #[.int .i64 0, .int .i64 0, .string ⟨#[]⟩] 24)
            have nG153 : w.heap.size ≤ v140.heap.size := Nat.le_of_lt hwl0
            have FZ137uG153 : G136 < v140.heap.size := hl_FZ137
            generalize (v140.alloc (.cells #[.int .i64 0, .int .i64 0, .string ⟨#[]⟩] 24)) = v152 at E1 E2 FZ137 FZ154 HB ⊢
            generalize v140.heap.size = G153 at FZ154 nG153 FZ137uG153 ⊢
            clear hwl0 hl_FZ137
            refine hK.out _ _ ⟨E1, E2⟩ (fun hHeld2 => ?_)
            clear hK hHeld
            have hHeld := hHeld2
            clear hHeld2
            refine wpAnyH_ready (rs := [3]) (by kernel_rfl) (by simp) ?_
            refine AllReadyH.cons rfl (fun K hK => ?_) AllReadyH.nil
            go_simp
            refine (toEdit_any p2 c2 t2 v152).mono ?_
            rintro e v155 ⟨rfl, hbn⟩
            replace E1 := E1.below hbn E1.lt
            replace E2 := E2.below hbn E2.lt
            replace FZ137 := FZ137.below hbn FZ137.lt
            replace FZ154 := FZ154.below hbn FZ154.lt
            replace HB := below_next HB hbn
            clear hbn
            refine hK.out _ _ ⟨E1, E2⟩ (fun hHeld2 => ?_)
            clear hK hHeld
            have hHeld := hHeld2
            clear hHeld2
            refine wpAnyH_ready (rs := [5]) (by kernel_rfl) (by simp) ?_
            refine AllReadyH.cons rfl (fun K hK => ?_) AllReadyH.nil
            go_simp
            refine (i_ShiftEdit_none p c t p2 c2 t2 many v155 (by omega) (by omega) HS.out).mono ?_
            rintro e v156 ⟨rfl, hbn⟩
            replace E1 := E1.below hbn E1.lt
            replace E2 := E2.below hbn E2.lt
            replace FZ137 := FZ137.below hbn FZ137.lt
            replace FZ154 := FZ154.below hbn FZ154.lt
            replace HB := below_next HB hbn
            clear hbn
            refine hK.out _ _ ⟨E1, E2⟩ (fun hHeld2 => ?_)
            clear hK hHeld
            have hHeld := hHeld2
            clear hHeld2
            refine reg_take (i := 6) (d := 31) (.tuple #[edV (0) (0) (⟨#[]⟩), .bool false]) rfl rfl (by kernel_rfl) (by kernel_rfl) (by kernel_rfl) (fun _ _ _ h => h) (by rfl) (by intro wq hq; go_simp) (by assumption) ?_
            simp only [Act.put, List.setIfInBounds_toArray, List.set_cons_zero, List.set_cons_succ]
            refine reg_take (i := 7) (d := 38) (edV (0) (0) (⟨#[]⟩)) rfl rfl (by kernel_rfl) (by kernel_rfl) (by kernel_rfl) (fun _ _ _ h => h) (by rfl) (by intro wq hq; go_simp) (by assumption) ?_
            simp only [Act.put, List.setIfInBounds_toArray, List.set_cons_zero, List.set_cons_succ]
            refine reg_take (i := 8) (d := 39) (.bool false) rfl rfl (by kernel_rfl) (by kernel_rfl) (by kernel_rfl) (fun _ _ _ h => h) (by rfl) (by intro wq hq; go_simp) (by assumption) ?_
            simp only [Act.put, List.setIfInBounds_toArray, List.set_cons_zero, List.set_cons_succ]
            obtain ⟨z0, z1, z2⟩ := FZ154.cells
            have fz := FZ154.free

            refine wpAnyH_ready (rs := [10]) (by kernel_rfl) (by simp) ?_
            refine AllReadyH.cons rfl (fun K hK => ?_) AllReadyH.nil
            go_simp
            have k1 : EdAtL (((v156.setCell ⟨G153, 0, none⟩ (.int .i64 (0))).setCell ⟨G153, 1, none⟩ (.int .i64 (0))).setCell ⟨G153, 2, none⟩ (.string (⟨#[]⟩))) w.heap.size p c t := EdAtL.putO E1 (fun e => by subst e; exact edL_ne E1 FZ154) _ _ _
            have k2 : EdAtL (((v156.setCell ⟨G153, 0, none⟩ (.int .i64 (0))).setCell ⟨G153, 1, none⟩ (.int .i64 (0))).setCell ⟨G153, 2, none⟩ (.string (⟨#[]⟩))) (w.heap.size + 1) p2 c2 t2 := EdAtL.putO E2 (fun e => by subst e; exact edL_ne E2 FZ154) _ _ _
            have k_FZ137 : EdAt (((v156.setCell ⟨G153, 0, none⟩ (.int .i64 (0))).setCell ⟨G153, 1, none⟩ (.int .i64 (0))).setCell ⟨G153, 2, none⟩ (.string (⟨#[]⟩))) G136 (0) (0) (⟨#[]⟩) := FZ137.putO (by have := nG153; have := FZ137uG153; omega) _ _ _
            have k_FZ154 : EdAt (((v156.setCell ⟨G153, 0, none⟩ (.int .i64 (0))).setCell ⟨G153, 1, none⟩ (.int .i64 (0))).setCell ⟨G153, 2, none⟩ (.string (⟨#[]⟩))) G153 (0) (0) (⟨#[]⟩) := FZ154.put (0) (0) (⟨#[]⟩)
            have kB : Below w.heap.size w (((v156.setCell ⟨G153, 0, none⟩ (.int .i64 (0))).setCell ⟨G153, 1, none⟩ (.int .i64 (0))).setCell ⟨G153, 2, none⟩ (.string (⟨#[]⟩))) := below_putE (p := 0) (c := 0) (t := ⟨#[]⟩) HB nG153
            generalize (((v156.setCell ⟨G153, 0, none⟩ (.int .i64 (0))).setCell ⟨G153, 1, none⟩ (.int .i64 (0))).setCell ⟨G153, 2, none⟩ (.string (⟨#[]⟩))) = v157 at k1 k2 k_FZ137 k_FZ154 kB ⊢
            clear z0 z1 z2 fz E1 E2 HB hHeld FZ137 FZ154
            have E1 := k1
            have E2 := k2
            have HB := kB
            have FZ137 := k_FZ137
            have FZ154 := k_FZ154
            clear k1 k2 k_FZ137 k_FZ154 kB
            refine hK.out _ _ ⟨E1, E2⟩ (fun hHeld => ?_)
            clear hK
            refine reg_take (i := 11) (d := 11) (.bool false) rfl rfl (by kernel_rfl) (by kernel_rfl) (by kernel_rfl) (fun _ _ _ h => h) (by rfl) (by intro wq hq; go_simp) (by assumption) ?_
            simp only [Act.put, List.setIfInBounds_toArray, List.set_cons_zero, List.set_cons_succ]
            refine wpAnyH_done (by kernel_rfl) ?_ _
            clear hHeld
            obtain ⟨c0, c1, c2x⟩ := FZ137.cells
            obtain ⟨d0, d1, d2⟩ := FZ154.cells
            go_wp2_with fail
            refine (eqEdit_same _ _ _ _).mono ?_
            rintro e w9 ⟨rfl, hbn⟩
            go_wp2
            go_ret
            exact ⟨rfl, below_next HB hbn⟩
        · skip
          go_simp
          have hwl0 := E1.lt
          have hl_FZ137 := FZ137.lt
          replace E1 := E1.alloc (.cells #[.int .i64 0, .int .i64 0, .string ⟨#[]⟩] 24)
          replace E2 := E2.alloc (.cells #[.int .i64 0, .int .i64 0, .string ⟨#[]⟩] 24)
          replace FZ137 := FZ137.alloc (.cells #[.int .i64 0, .int .i64 0, .string ⟨#[]⟩] 24)
          have FZ160 := EdAt.new v139 0 0 ⟨#[]⟩
          replace HB := HB.alloc HB.size (.cells #[.int .i64 0, .int .i64 0, .string ⟨#[]⟩] 24)
          have nG159 : w.heap.size ≤ v139.heap.size := Nat.le_of_lt hwl0
          have FZ137uG159 : G136 < v139.heap.size := hl_FZ137
          generalize (v139.alloc (.cells #[.int .i64 0, .int .i64 0, .string ⟨#[]⟩] 24)) = v158 at E1 E2 FZ137 FZ160 HB ⊢
          generalize v139.heap.size = G159 at FZ160 nG159 FZ137uG159 ⊢
          clear hwl0 hl_FZ137
          refine hK.out _ _ ⟨E1, E2⟩ (fun hHeld2 => ?_)
          clear hK hHeld
          have hHeld := hHeld2
          clear hHeld2
          refine wpAnyH_ready (rs := [1]) (by kernel_rfl) (by simp) ?_
          refine AllReadyH.cons rfl (fun K hK => ?_) AllReadyH.nil
          go_simp
          refine (toEdit_any p c t v158).mono ?_
          rintro e v161 ⟨rfl, hbn⟩
          replace E1 := E1.below hbn E1.lt
          replace E2 := E2.below hbn E2.lt
          replace FZ137 := FZ137.below hbn FZ137.lt
          replace FZ160 := FZ160.below hbn FZ160.lt
          replace HB := below_next HB hbn
          clear hbn
          refine hK.out _ _ ⟨E1, E2⟩ (fun hHeld2 => ?_)
          clear hK hHeld
          have hHeld := hHeld2
          clear hHeld2
          refine wpAnyH_ready (rs := [3]) (by kernel_rfl) (by simp) ?_
          refine AllReadyH.cons rfl (fun K hK => ?_) AllReadyH.nil
          go_simp
          refine (toEdit_any p2 c2 t2 v161).mono ?_
          rintro e v162 ⟨rfl, hbn⟩
          replace E1 := E1.below hbn E1.lt
          replace E2 := E2.below hbn E2.lt
          replace FZ137 := FZ137.below hbn FZ137.lt
          replace FZ160 := FZ160.below hbn FZ160.lt
          replace HB := below_next HB hbn
          clear hbn
          refine hK.out _ _ ⟨E1, E2⟩ (fun hHeld2 => ?_)
          clear hK hHeld
          have hHeld := hHeld2
          clear hHeld2
          refine wpAnyH_ready (rs := [5]) (by kernel_rfl) (by simp) ?_
          refine AllReadyH.cons rfl (fun K hK => ?_) AllReadyH.nil
          go_simp
          refine (i_ShiftEdit_none p c t p2 c2 t2 many v162 (by omega) (by omega) HS.out).mono ?_
          rintro e v163 ⟨rfl, hbn⟩
          replace E1 := E1.below hbn E1.lt
          replace E2 := E2.below hbn E2.lt
          replace FZ137 := FZ137.below hbn FZ137.lt
          replace FZ160 := FZ160.below hbn FZ160.lt
          replace HB := below_next HB hbn
          clear hbn
          refine hK.out _ _ ⟨E1, E2⟩ (fun hHeld2 => ?_)
          clear hK hHeld
          have hHeld := hHeld2
          clear hHeld2
          refine reg_take (i := 6) (d := 31) (.tuple #[edV (0) (0) (⟨#[]⟩), .bool false]) rfl rfl (by kernel_rfl) (by kernel_rfl) (by kernel_rfl) (fun _ _ _ h => h) (by rfl) (by intro wq hq; go_simp) (by assumption) ?_
          simp only [Act.put, List.setIfInBounds_toArray, List.set_cons_zero, List.set_cons_succ]
          refine reg_take (i := 7) (d := 38) (edV (0) (0) (⟨#[]⟩)) rfl rfl (by kernel_rfl) (by kernel_rfl) (by kernel_rfl) (fun _ _ _ h => h) (by rfl) (by intro wq hq; go_simp) (by assumption) ?_
          simp only [Act.put, List.setIfInBounds_toArray, List.set_cons_zero, List.set_cons_succ]
          refine reg_take (i := 8) (d := 39) (.bool false) rfl rfl (by kernel_rfl) (by kernel_rfl) (by kernel_rfl) (fun _ _ _ h => h) (by rfl) (by intro wq hq; go_simp) (by assumption) ?_
          simp only [Act.put, List.setIfInBounds_toArray, List.set_cons_zero, List.set_cons_succ]
          obtain ⟨z0, z1, z2⟩ := FZ160.cells
          have fz := FZ160.free

          refine wpAnyH_ready (rs := [10]) (by kernel_rfl) (by simp) ?_
          refine AllReadyH.cons rfl (fun K hK => ?_) AllReadyH.nil
          go_simp
          have k1 : EdAtL (((v163.setCell ⟨G159, 0, none⟩ (.int .i64 (0))).setCell ⟨G159, 1, none⟩ (.int .i64 (0))).setCell ⟨G159, 2, none⟩ (.string (⟨#[]⟩))) w.heap.size p c t := EdAtL.putO E1 (fun e => by subst e; exact edL_ne E1 FZ160) _ _ _
          have k2 : EdAtL (((v163.setCell ⟨G159, 0, none⟩ (.int .i64 (0))).setCell ⟨G159, 1, none⟩ (.int .i64 (0))).setCell ⟨G159, 2, none⟩ (.string (⟨#[]⟩))) (w.heap.size + 1) p2 c2 t2 := EdAtL.putO E2 (fun e => by subst e; exact edL_ne E2 FZ160) _ _ _
          have k_FZ137 : EdAt (((v163.setCell ⟨G159, 0, none⟩ (.int .i64 (0))).setCell ⟨G159, 1, none⟩ (.int .i64 (0))).setCell ⟨G159, 2, none⟩ (.string (⟨#[]⟩))) G136 (0) (0) (⟨#[]⟩) := FZ137.putO (by have := nG159; have := FZ137uG159; omega) _ _ _
          have k_FZ160 : EdAt (((v163.setCell ⟨G159, 0, none⟩ (.int .i64 (0))).setCell ⟨G159, 1, none⟩ (.int .i64 (0))).setCell ⟨G159, 2, none⟩ (.string (⟨#[]⟩))) G159 (0) (0) (⟨#[]⟩) := FZ160.put (0) (0) (⟨#[]⟩)
          have kB : Below w.heap.size w (((v163.setCell ⟨G159, 0, none⟩ (.int .i64 (0))).setCell ⟨G159, 1, none⟩ (.int .i64 (0))).setCell ⟨G159, 2, none⟩ (.string (⟨#[]⟩))) := below_putE (p := 0) (c := 0) (t := ⟨#[]⟩) HB nG159
          generalize (((v163.setCell ⟨G159, 0, none⟩ (.int .i64 (0))).setCell ⟨G159, 1, none⟩ (.int .i64 (0))).setCell ⟨G159, 2, none⟩ (.string (⟨#[]⟩))) = v164 at k1 k2 k_FZ137 k_FZ160 kB ⊢
          clear z0 z1 z2 fz E1 E2 HB hHeld FZ137 FZ160
          have E1 := k1
          have E2 := k2
          have HB := kB
          have FZ137 := k_FZ137
          have FZ160 := k_FZ160
          clear k1 k2 k_FZ137 k_FZ160 kB
          refine hK.out _ _ ⟨E1, E2⟩ (fun hHeld => ?_)
          clear hK
          refine reg_take (i := 11) (d := 11) (.bool false) rfl rfl (by kernel_rfl) (by kernel_rfl) (by kernel_rfl) (fun _ _ _ h => h) (by rfl) (by intro wq hq; go_simp) (by assumption) ?_
          simp only [Act.put, List.setIfInBounds_toArray, List.set_cons_zero, List.set_cons_succ]
          refine wpAnyH_done (by kernel_rfl) ?_ _
          clear hHeld
          obtain ⟨c0, c1, c2x⟩ := FZ137.cells
          obtain ⟨d0, d1, d2⟩ := FZ160.cells
          go_wp2_with fail
          refine (eqEdit_same _ _ _ _).mono ?_
          rintro e w9 ⟨rfl, hbn⟩
          go_wp2
          go_ret
          exact ⟨rfl, below_next HB hbn⟩
      · skip
        go_simp
        have hwl0 := E1.lt
        replace E1 := E1.alloc (.cells #[.int .i64 0, .int .i64 0, .string ⟨#[]⟩] 24)
        replace E2 := E2.alloc (.cells #[.int .i64 0, .int .i64 0, .string ⟨#[]⟩] 24)
        have FZ167 := EdAt.new v133 0 0 ⟨#[]⟩
        replace HB := HB.alloc HB.size (.cells #[.int .i64 0, .int .i64 0, .string ⟨#[]⟩] 24)
        have nG166 : w.heap.size ≤ v133.heap.size := Nat.le_of_lt hwl0
        generalize (v133.alloc (.cells #[.int .i64 0, .int .i64 0, .string ⟨#[]⟩] 24)) = v165 at E1 E2 FZ167 HB ⊢
        generalize v133.heap.size = G166 at FZ167 nG166  ⊢
        clear hwl0 
        refine hK.out _ _ ⟨E1, E2⟩ (fun hHeld2 => ?_)
        clear hK hHeld
        have hHeld := hHeld2
        clear hHeld2
        refine wpAnyH_ready (rs := [5]) (by kernel_rfl) (by simp) ?_
        refine AllReadyH.cons rfl (fun K hK => ?_) AllReadyH.nil
        go_simp
        refine (s_ShiftEdit_none p c t p2 c2 t2 many v165 (by omega) (by omega) HS.out).mono ?_
        rintro e v168 ⟨rfl, hbn⟩
        replace E1 := E1.below hbn E1.lt
        replace E2 := E2.below hbn E2.lt
        replace FZ167 := FZ167.below hbn FZ167.lt
        replace HB := below_next HB hbn
        clear hbn
        refine hK.out _ _ ⟨E1, E2⟩ (fun hHeld2 => ?_)
        clear hK hHeld
        have hHeld := hHeld2
        clear hHeld2
        refine reg_take (i := 6) (d := 22) (.tuple #[edV (0) (0) (⟨#[]⟩), .bool false]) rfl rfl (by kernel_rfl) (by kernel_rfl) (by kernel_rfl) (fun _ _ _ h => h) (by rfl) (by intro wq hq; go_simp) (by assumption) ?_
        simp only [Act.put, List.setIfInBounds_toArray, List.set_cons_zero, List.set_cons_succ]
        refine reg_take (i := 7) (d := 29) (edV (0) (0) (⟨#[]⟩)) rfl rfl (by kernel_rfl) (by kernel_rfl) (by kernel_rfl) (fun _ _ _ h => h) (by rfl) (by intro wq hq; go_simp) (by assumption) ?_
        simp only [Act.put, List.setIfInBounds_toArray, List.set_cons_zero, List.set_cons_succ]
        refine reg_take (i := 8) (d := 30) (.bool false) rfl rfl (by kernel_rfl) (by kernel_rfl) (by kernel_rfl) (fun _ _ _ h => h) (by rfl) (by intro wq hq; go_simp) (by assumption) ?_
        simp only [Act.put, List.setIfInBounds_toArray, List.set_cons_zero, List.set_cons_succ]
        obtain ⟨z0, z1, z2⟩ := FZ167.cells
        have fz := FZ167.free

        refine wpAnyH_ready (rs := [10]) (by kernel_rfl) (by simp) ?_
        refine AllReadyH.cons rfl (fun K hK => ?_) AllReadyH.nil
        go_simp
        have k1 : EdAtL (((v168.setCell ⟨G166, 0, none⟩ (.int .i64 (0))).setCell ⟨G166, 1, none⟩ (.int .i64 (0))).setCell ⟨G166, 2, none⟩ (.string (⟨#[]⟩))) w.heap.size p c t := EdAtL.putO E1 (fun e => by subst e; exact edL_ne E1 FZ167) _ _ _
        have k2 : EdAtL (((v168.setCell ⟨G166, 0, none⟩ (.int .i64 (0))).setCell ⟨G166, 1, none⟩ (.int .i64 (0))).setCell ⟨G166, 2, none⟩ (.string (⟨#[]⟩))) (w.heap.size + 1) p2 c2 t2 := EdAtL.putO E2 (fun e => by subst e; exact edL_ne E2 FZ167) _ _ _
        have k_FZ167 : EdAt (((v168.setCell ⟨G166, 0, none⟩ (.int .i64 (0))).setCell ⟨G166, 1, none⟩ (.int .i64 (0))).setCell ⟨G166, 2, none⟩ (.string (⟨#[]⟩))) G166 (0) (0) (⟨#[]⟩) := FZ167.put (0) (0) (⟨#[]⟩)
        have kB : Below w.heap.size w (((v168.setCell ⟨G166, 0, none⟩ (.int .i64 (0))).setCell ⟨G166, 1, none⟩ (.int .i64 (0))).setCell ⟨G166, 2, none⟩ (.string (⟨#[]⟩))) := below_putE (p := 0) (c := 0) (t := ⟨#[]⟩) HB nG166
        generalize (((v168.setCell ⟨G166, 0, none⟩ (.int .i64 (0))).setCell ⟨G166, 1, none⟩ (.int .i64 (0))).setCell ⟨G166, 2, none⟩ (.string (⟨#[]⟩))) = v169 at k1 k2 k_FZ167 kB ⊢
        clear z0 z1 z2 fz E1 E2 HB hHeld FZ167
        have E1 := k1
        have E2 := k2
        have HB := kB
        have FZ167 := k_FZ167
        clear k1 k2 k_FZ167 kB
        refine hK.out _ _ ⟨E1, E2⟩ (fun hHeld => ?_)
        clear hK
        refine reg_take (i := 11) (d := 9) (.bool false) rfl rfl (by kernel_rfl) (by kernel_rfl) (by kernel_rfl) (fun _ _ _ h => h) (by rfl) (by intro wq hq; go_simp) (by assumption) ?_
        simp only [Act.put, List.setIfInBounds_toArray, List.set_cons_zero, List.set_cons_succ]
        refine wpAnyH_done (by kernel_rfl) ?_ _
        clear hHeld
        go_wp2_with fail
        obtain ⟨l0, l1, l2⟩ := E1.cells
        obtain ⟨m0, m1, m2⟩ := E2.cells
        refine wp_region_held_drew (S := fun wy => EdAtL wy w.heap.size p c t ∧ EdAtL wy (w.heap.size + 1) p2 c2 t2) (by kernel_rfl) (⟨E1, E2⟩) (fun hHeld => ?_)
        refine reg_take (i := 0) (d := 32) (edV p c t) rfl rfl (by kernel_rfl) (by kernel_rfl) (by kernel_rfl) (fun _ _ _ h => h) (by rfl) (by intro wq hq; obtain ⟨q0, q1, q2⟩ := hq.1.cells; obtain ⟨q3, q4, q5⟩ := hq.2.cells; go_simp) (by assumption) ?_
        simp only [Act.put, List.setIfInBounds_toArray, List.set_cons_zero, List.set_cons_succ]
        refine reg_take (i := 2) (d := 34) (edV p2 c2 t2) rfl rfl (by kernel_rfl) (by kernel_rfl) (by kernel_rfl) (fun _ _ _ h => h) (by rfl) (by intro wq hq; obtain ⟨q0, q1, q2⟩ := hq.1.cells; obtain ⟨q3, q4, q5⟩ := hq.2.cells; go_simp) (by assumption) ?_
        simp only [Act.put, List.setIfInBounds_toArray, List.set_cons_zero, List.set_cons_succ]
        refine reg_take (i := 4) (d := 36) (.int .i64 many) rfl rfl (by kernel_rfl) (by kernel_rfl) (by kernel_rfl) (fun _ _ _ h => h) (by rfl) (by intro wq hq; obtain ⟨q0, q1, q2⟩ := hq.1.cells; obtain ⟨q3, q4, q5⟩ := hq.2.cells; go_simp) (by assumption) ?_
        simp only [Act.put, List.setIfInBounds_toArray, List.set_cons_zero, List.set_cons_succ]
        clear l0 l1 l2 m0 m1 m2
        replace E1 : EdAtL v169.drew w.heap.size p c t := E1
        replace E2 : EdAtL v169.drew (w.heap.size + 1) p2 c2 t2 := E2
        replace FZ167 : EdAt v169.drew G166 (0) (0) (⟨#[]⟩) := FZ167
        replace HB : Below w.heap.size w v169.drew := HB.drew
        generalize v169.drew = v170 at E1 E2 FZ167 HB hHeld ⊢
        refine wpAnyH_ready (rs := [1, 9]) (by kernel_rfl) (by simp) ?_
        refine AllReadyH.cons rfl (fun K hK => ?_) (AllReadyH.cons rfl (fun K hK => ?_) AllReadyH.nil)
        · skip
          go_simp
          refine (toEdit_any p c t v170).mono ?_
          rintro e v171 ⟨rfl, hbn⟩
          replace E1 := E1.below hbn E1.lt
          replace E2 := E2.below hbn E2.lt
          replace FZ167 := FZ167.below hbn FZ167.lt
          replace HB := below_next HB hbn
          clear hbn
          refine hK.out _ _ ⟨E1, E2⟩ (fun hHeld2 => ?_)
          clear hK hHeld
          have hHeld := hHeld2
          clear hHeld2
          refine wpAnyH_ready (rs := [3, 9]) (by kernel_rfl) (by simp) ?_
          refine AllReadyH.cons rfl (fun K hK => ?_) (AllReadyH.cons rfl (fun K hK => ?_) AllReadyH.nil)
          · skip
            go_simp
            refine (toEdit_any p2 c2 t2 v171).mono ?_
            rintro e v172 ⟨rfl, hbn⟩
            replace E1 := E1.below hbn E1.lt
            replace E2 := E2.below hbn E2.lt
            replace FZ167 := FZ167.below hbn FZ167.lt
            replace HB := below_next HB hbn
            clear hbn
            refine hK.out _ _ ⟨E1, E2⟩ (fun hHeld2 => ?_)
            clear hK hHeld
            have hHeld := hHeld2
            clear hHeld2
            refine wpAnyH_ready (rs := [5, 9]) (by kernel_rfl) (by simp) ?_
            refine AllReadyH.cons rfl (fun K hK => ?_) (AllReadyH.cons rfl (fun K hK => ?_) AllReadyH.nil)
            · skip
              go_simp
              refine (i_ShiftEdit_none p c t p2 c2 t2 many v172 (by omega) (by omega) HS.out).mono ?_
              rintro e v173 ⟨rfl, hbn⟩
              replace E1 := E1.below hbn E1.lt
              replace E2 := E2.below hbn E2.lt
              replace FZ167 := FZ167.below hbn FZ167.lt
              replace HB := below_next HB hbn
              clear hbn
              refine hK.out _ _ ⟨E1, E2⟩ (fun hHeld2 => ?_)
              clear hK hHeld
              have hHeld := hHeld2
              clear hHeld2
              refine reg_take (i := 6) (d := 31) (.tuple #[edV (0) (0) (⟨#[]⟩), .bool false]) rfl rfl (by kernel_rfl) (by kernel_rfl) (by kernel_rfl) (fun _ _ _ h => h) (by rfl) (by intro wq hq; go_simp) (by assumption) ?_
              simp only [Act.put, List.setIfInBounds_toArray, List.set_cons_zero, List.set_cons_succ]
              refine reg_take (i := 7) (d := 38) (edV (0) (0) (⟨#[]⟩)) rfl rfl (by kernel_rfl) (by kernel_rfl) (by kernel_rfl) (fun _ _ _ h => h) (by rfl) (by intro wq hq; go_simp) (by assumption) ?_
              simp only [Act.put, List.setIfInBounds_toArray, List.set_cons_zero, List.set_cons_succ]
              refine reg_take (i := 8) (d := 39) (.bool false) rfl rfl (by kernel_rfl) (by kernel_rfl) (by kernel_rfl) (fun _ _ _ h => h) (by rfl) (by intro wq hq; go_simp) (by assumption) ?_
              simp only [Act.put, List.setIfInBounds_toArray, List.set_cons_zero, List.set_cons_succ]
              refine wpAnyH_ready (rs := [9]) (by kernel_rfl) (by simp) ?_
              refine AllReadyH.cons rfl (fun K hK => ?_) AllReadyH.nil
              go_simp
              have hwl0 := E1.lt
              have hl_FZ167 := FZ167.lt
              replace E1 := E1.alloc (.cells #[.int .i64 0, .int .i64 0, .string ⟨#[]⟩] 24)
              replace E2 := E2.alloc (.cells #[.int .i64 0, .int .i64 0, .string ⟨#[]⟩] 24)
              replace FZ167 := FZ167.alloc (.cells #[.int .i64 0, .int .i64 0, .string ⟨#[]⟩] 24)
              have FZ176 := EdAt.new v173 0 0 ⟨#[]⟩
              replace HB := HB.alloc HB.size (.cells #[.int .i64 0, .int .i64 0, .string ⟨#[]⟩] 24)
              have nG175 : w.heap.size ≤ v173.heap.size := Nat.le_of_lt hwl0
              have FZ167uG175 : G166 < v173.heap.size := hl_FZ167
              generalize (v173.alloc (.cells #[.int .i64 0, .int .i64 0, .string ⟨#[]⟩] 24)) = v174 at E1 E2 FZ167 FZ176 HB ⊢
              generalize v173.heap.size = G175 at FZ176 nG175 FZ167uG175 ⊢
              clear hwl0 hl_FZ167
              refine hK.out _ _ ⟨E1, E2⟩ (fun hHeld2 => ?_)
              clear hK hHeld
              have hHeld := hHeld2
              clear hHeld2
              obtain ⟨z0, z1, z2⟩ := FZ176.cells
              have fz := FZ176.free

              refine wpAnyH_ready (rs := [10]) (by kernel_rfl) (by simp) ?_
              refine AllReadyH.cons rfl (fun K hK => ?_) AllReadyH.nil
              go_simp
              have k1 : EdAtL (((v174.setCell ⟨G175, 0, none⟩ (.int .i64 (0))).setCell ⟨G175, 1, none⟩ (.int .i64 (0))).setCell ⟨G175, 2, none⟩ (.string (⟨#[]⟩))) w.heap.size p c t := EdAtL.putO E1 (fun e => by subst e; exact edL_ne E1 FZ176) _ _ _
              have k2 : EdAtL (((v174.setCell ⟨G175, 0, none⟩ (.int .i64 (0))).setCell ⟨G175, 1, none⟩ (.int .i64 (0))).setCell ⟨G175, 2, none⟩ (.string (⟨#[]⟩))) (w.heap.size + 1) p2 c2 t2 := EdAtL.putO E2 (fun e => by subst e; exact edL_ne E2 FZ176) _ _ _
              have k_FZ167 : EdAt (((v174.setCell ⟨G175, 0, none⟩ (.int .i64 (0))).setCell ⟨G175, 1, none⟩ (.int .i64 (0))).setCell ⟨G175, 2, none⟩ (.string (⟨#[]⟩))) G166 (0) (0) (⟨#[]⟩) := FZ167.putO (by have := nG175; have := FZ167uG175; omega) _ _ _
              have k_FZ176 : EdAt (((v174.setCell ⟨G175, 0, none⟩ (.int .i64 (0))).setCell ⟨G175, 1, none⟩ (.int .i64 (0))).setCell ⟨G175, 2, none⟩ (.string (⟨#[]⟩))) G175 (0) (0) (⟨#[]⟩) := FZ176.put (0) (0) (⟨#[]⟩)
              have kB : Below w.heap.size w (((v174.setCell ⟨G175, 0, none⟩ (.int .i64 (0))).setCell ⟨G175, 1, none⟩ (.int .i64 (0))).setCell ⟨G175, 2, none⟩ (.string (⟨#[]⟩))) := below_putE (p := 0) (c := 0) (t := ⟨#[]⟩) HB nG175
              generalize (((v174.setCell ⟨G175, 0, none⟩ (.int .i64 (0))).setCell ⟨G175, 1, none⟩ (.int .i64 (0))).setCell ⟨G175, 2, none⟩ (.string (⟨#[]⟩))) = v177 at k1 k2 k_FZ167 k_FZ176 kB ⊢
              clear z0 z1 z2 fz E1 E2 HB hHeld FZ167 FZ176
              have E1 := k1
              have E2 := k2
              have HB := kB
              have FZ167 := k_FZ167
              have FZ176 := k_FZ176
              clear k1 k2 k_FZ167 k_FZ176 kB
              refine hK.out _ _ ⟨E1, E2⟩ (fun hHeld => ?_)
              clear hK
              refine reg_take (i := 11) (d := 11) (.bool false) rfl rfl (by kernel_rfl) (by kernel_rfl) (by kernel_rfl) (fun _ _ _ h => h) (by rfl) (by intro wq hq; go_simp) (by assumption) ?_
              simp only [Act.put, List.setIfInBounds_toArray, List.set_cons_zero, List.set_cons_succ]
              refine wpAnyH_done (by kernel_rfl) ?_ _
              clear hHeld
              obtain ⟨c0, c1, c2x⟩ := FZ167.cells
              obtain ⟨d0, d1, d2⟩ := FZ176.cells
              go_wp2_with fail
              refine (eqEdit_same _ _ _ _).mono ?_
              rintro e w9 ⟨rfl, hbn⟩
              go_wp2
              go_ret
              exact ⟨rfl, below_next HB hbn⟩
            · skip
              go_simp
              have hwl0 := E1.lt
              have hl_FZ167 := FZ167.lt
              replace E1 := E1.alloc (.cells #[.int .i64 0, .int .i64 0, .string ⟨#[]⟩] 24)
              replace E2 := E2.alloc (.cells #[.int .i64 0, .int .i64 0, .string ⟨#[]⟩] 24)
              replace FZ167 := FZ167.alloc (.cells #[.int .i64 0, .int .i64 0, .string ⟨#[]⟩] 24)
              have FZ180 := EdAt.new v172 0 0 ⟨#[]⟩
              replace HB := HB.alloc HB.size (.cells #[.int .i64 0, .int .i64 0, .string ⟨#[]⟩] 24)
              have nG179 : w.heap.size ≤ v172.heap.size := Nat.le_of_lt hwl0
              have FZ167uG179 : G166 < v172.heap.size := hl_FZ167
              generalize (v172.alloc (.cells #[.int .i64 0, .int .i64 0, .string ⟨#[]⟩] 24)) = v178 at E1 E2 FZ167 FZ180 HB ⊢
              generalize v172.heap.size = G179 at FZ180 nG179 FZ167uG179 ⊢
              clear hwl0 hl_FZ167
              refine hK.out _ _ ⟨E1, E2⟩ (fun hHeld2 => ?_)
              clear hK hHeld
              have hHeld := hHeld2
              clear hHeld2
              refine wpAnyH_ready (rs := [5]) (by kernel_rfl) (by simp) ?_
              refine AllReadyH.cons rfl (fun K hK => ?_) AllReadyH.nil
              go_simp
              refine (i_ShiftEdit_none p c t p2 c2 t2 many v178 (by omega) (by omega) HS.out).mono ?_
              rintro e v181 ⟨rfl, hbn⟩
              replace E1 := E1.below hbn E1.lt
              replace E2 := E2.below hbn E2.lt
              replace FZ167 := FZ167.below hbn FZ167.lt
              replace FZ180 := FZ180.below hbn FZ180.lt
              replace HB := below_next HB hbn
              clear hbn
              refine hK.out _ _ ⟨E1, E2⟩ (fun hHeld2 => ?_)
              clear hK hHeld
              have hHeld := hHeld2
              clear hHeld2
              refine reg_take (i := 6) (d := 31) (.tuple #[edV (0) (0) (⟨#[]⟩), .bool false]) rfl rfl (by kernel_rfl) (by kernel_rfl) (by kernel_rfl) (fun _ _ _ h => h) (by rfl) (by intro wq hq; go_simp) (by assumption) ?_
              simp only [Act.put, List.setIfInBounds_toArray, List.set_cons_zero, List.set_cons_succ]
              refine reg_take (i := 7) (d := 38) (edV (0) (0) (⟨#[]⟩)) rfl rfl (by kernel_rfl) (by kernel_rfl) (by kernel_rfl) (fun _ _ _ h => h) (by rfl) (by intro wq hq; go_simp) (by assumption) ?_
              simp only [Act.put, List.setIfInBounds_toArray, List.set_cons_zero, List.set_cons_succ]
              refine reg_take (i := 8) (d := 39) (.bool false) rfl rfl (by kernel_rfl) (by kernel_rfl) (by kernel_rfl) (fun _ _ _ h => h) (by rfl) (by intro wq hq; go_simp) (by assumption) ?_
              simp only [Act.put, List.setIfInBounds_toArray, List.set_cons_zero, List.set_cons_succ]
              obtain ⟨z0, z1, z2⟩ := FZ180.cells
              have fz := FZ180.free

              refine wpAnyH_ready (rs := [10]) (by kernel_rfl) (by simp) ?_
              refine AllReadyH.cons rfl (fun K hK => ?_) AllReadyH.nil
              go_simp
              have k1 : EdAtL (((v181.setCell ⟨G179, 0, none⟩ (.int .i64 (0))).setCell ⟨G179, 1, none⟩ (.int .i64 (0))).setCell ⟨G179, 2, none⟩ (.string (⟨#[]⟩))) w.heap.size p c t := EdAtL.putO E1 (fun e => by subst e; exact edL_ne E1 FZ180) _ _ _
              have k2 : EdAtL (((v181.setCell ⟨G179, 0, none⟩ (.int .i64 (0))).setCell ⟨G179, 1, none⟩ (.int .i64 (0))).setCell ⟨G179, 2, none⟩ (.string (⟨#[]⟩))) (w.heap.size + 1) p2 c2 t2 := EdAtL.putO E2 (fun e => by subst e; exact edL_ne E2 FZ180) _ _ _
              have k_FZ167 : EdAt (((v181.setCell ⟨G179, 0, none⟩ (.int .i64 (0))).setCell ⟨G179, 1, none⟩ (.int .i64 (0))).setCell ⟨G179, 2, none⟩ (.string (⟨#[]⟩))) G166 (0) (0) (⟨#[]⟩) := FZ167.putO (by have := nG179; have := FZ167uG179; omega) _ _ _
              have k_FZ180 : EdAt (((v181.setCell ⟨G179, 0, none⟩ (.int .i64 (0))).setCell ⟨G179, 1, none⟩ (.int .i64 (0))).setCell ⟨G179, 2, none⟩ (.string (⟨#[]⟩))) G179 (0) (0) (⟨#[]⟩) := FZ180.put (0) (0) (⟨#[]⟩)
              have kB : Below w.heap.size w (((v181.setCell ⟨G179, 0, none⟩ (.int .i64 (0))).setCell ⟨G179, 1, none⟩ (.int .i64 (0))).setCell ⟨G179, 2, none⟩ (.string (⟨#[]⟩))) := below_putE (p := 0) (c := 0) (t := ⟨#[]⟩) HB nG179
              generalize (((v181.setCell ⟨G179, 0, none⟩ (.int .i64 (0))).setCell ⟨G179, 1, none⟩ (.int .i64 (0))).setCell ⟨G179, 2, none⟩ (.string (⟨#[]⟩))) = v182 at k1 k2 k_FZ167 k_FZ180 kB ⊢
              clear z0 z1 z2 fz E1 E2 HB hHeld FZ167 FZ180
              have E1 := k1
              have E2 := k2
              have HB := kB
              have FZ167 := k_FZ167
              have FZ180 := k_FZ180
              clear k1 k2 k_FZ167 k_FZ180 kB
              refine hK.out _ _ ⟨E1, E2⟩ (fun hHeld => ?_)
              clear hK
              refine reg_take (i := 11) (d := 11) (.bool false) rfl rfl (by kernel_rfl) (by kernel_rfl) (by kernel_rfl) (fun _ _ _ h => h) (by rfl) (by intro wq hq; go_simp) (by assumption) ?_
              simp only [Act.put, List.setIfInBounds_toArray, List.set_cons_zero, List.set_cons_succ]
              refine wpAnyH_done (by kernel_rfl) ?_ _
              clear hHeld
              obtain ⟨c0, c1, c2x⟩ := FZ167.cells
              obtain ⟨d0, d1, d2⟩ := FZ180.cells
              go_wp2_with fail
              refine (eqEdit_same _ _ _ _).mono ?_
              rintro e w9 ⟨rfl, hbn⟩
              go_wp2
              go_ret
              exact ⟨rfl, below_next HB hbn⟩
          · skip
            go_simp
            have hwl0 := E1.lt
            have hl_FZ167 := FZ167.lt
            replace E1 := E1.alloc (.cells #[.int .i64 0, .int .i64 0, .string ⟨#[]⟩] 24)
            replace E2 := E2.alloc (.cells #[.int .i64 0, .int .i64 0, .string ⟨#[]⟩] 24)
            replace FZ167 := FZ167.alloc (.cells #[.int .i64 0, .int .i64 0, .string ⟨#[]⟩] 24)
            have FZ185 := EdAt.new v171 0 0 ⟨#[]⟩
            replace HB := HB.alloc HB.size (.cells #[.int .i64 0, .int .i64 0, .string ⟨#[]⟩] 24)
            have nG184 : w.heap.size ≤ v171.heap.size := Nat.le_of_lt hwl0
            have FZ167uG184 : G166 < v171.heap.size := hl_FZ167
            generalize (v171.alloc (.cells #[.int .i64 0, .int .i64 0, .string ⟨#[]⟩] 24)) = v183 at E1 E2 FZ167 FZ185 HB ⊢
            generalize v171.heap.size = G184 at FZ185 nG184 FZ167uG184 ⊢
            clear hwl0 hl_FZ167
            refine hK.out _ _ ⟨E1, E2⟩ (fun hHeld2 => ?_)
            clear hK hHeld
            have hHeld := hHeld2
            clear hHeld2
            refine wpAnyH_ready (rs := [3]) (by kernel_rfl) (by simp) ?_
            refine AllReadyH.cons rfl (fun K hK => ?_) AllReadyH.nil
            go_simp
            refine (toEdit_any p2 c2 t2 v183).mono ?_
            rintro e v186 ⟨rfl, hbn⟩
            replace E1 := E1.below hbn E1.lt
            replace E2 := E2.below hbn E2.lt
            replace FZ167 := FZ167.below hbn FZ167.lt
            replace FZ185 := FZ185.below hbn FZ185.lt
            replace HB := below_next HB hbn
            clear hbn
            refine hK.out _ _ ⟨E1, E2⟩ (fun hHeld2 => ?_)
            clear hK hHeld
            have hHeld := hHeld2
            clear hHeld2
            refine wpAnyH_ready (rs := [5]) (by kernel_rfl) (by simp) ?_
            refine AllReadyH.cons rfl (fun K hK => ?_) AllReadyH.nil
            go_simp
            refine (i_ShiftEdit_none p c t p2 c2 t2 many v186 (by omega) (by omega) HS.out).mono ?_
            rintro e v187 ⟨rfl, hbn⟩
            replace E1 := E1.below hbn E1.lt
            replace E2 := E2.below hbn E2.lt
            replace FZ167 := FZ167.below hbn FZ167.lt
            replace FZ185 := FZ185.below hbn FZ185.lt
            replace HB := below_next HB hbn
            clear hbn
            refine hK.out _ _ ⟨E1, E2⟩ (fun hHeld2 => ?_)
            clear hK hHeld
            have hHeld := hHeld2
            clear hHeld2
            refine reg_take (i := 6) (d := 31) (.tuple #[edV (0) (0) (⟨#[]⟩), .bool false]) rfl rfl (by kernel_rfl) (by kernel_rfl) (by kernel_rfl) (fun _ _ _ h => h) (by rfl) (by intro wq hq; go_simp) (by assumption) ?_
            simp only [Act.put, List.setIfInBounds_toArray, List.set_cons_zero, List.set_cons_succ]
            refine reg_take (i := 7) (d := 38) (edV (0) (0) (⟨#[]⟩)) rfl rfl (by kernel_rfl) (by kernel_rfl) (by kernel_rfl) (fun _ _ _ h => h) (by rfl) (by intro wq hq; go_simp) (by assumption) ?_
            simp only [Act.put, List.setIfInBounds_toArray, List.set_cons_zero, List.set_cons_succ]
            refine reg_take (i := 8) (d := 39) (.bool false) rfl rfl (by kernel_rfl) (by kernel_rfl) (by kernel_rfl) (fun _ _ _ h => h) (by rfl) (by intro wq hq; go_simp) (by assumption) ?_
            simp only [Act.put, List.setIfInBounds_toArray, List.set_cons_zero, List.set_cons_succ]
            obtain ⟨z0, z1, z2⟩ := FZ185.cells
            have fz := FZ185.free

            refine wpAnyH_ready (rs := [10]) (by kernel_rfl) (by simp) ?_
            refine AllReadyH.cons rfl (fun K hK => ?_) AllReadyH.nil
            go_simp
            have k1 : EdAtL (((v187.setCell ⟨G184, 0, none⟩ (.int .i64 (0))).setCell ⟨G184, 1, none⟩ (.int .i64 (0))).setCell ⟨G184, 2, none⟩ (.string (⟨#[]⟩))) w.heap.size p c t := EdAtL.putO E1 (fun e => by subst e; exact edL_ne E1 FZ185) _ _ _
            have k2 : EdAtL (((v187.setCell ⟨G184, 0, none⟩ (.int .i64 (0))).setCell ⟨G184, 1, none⟩ (.int .i64 (0))).setCell ⟨G184, 2, none⟩ (.string (⟨#[]⟩))) (w.heap.size + 1) p2 c2 t2 := EdAtL.putO E2 (fun e => by subst e; exact edL_ne E2 FZ185) _ _ _
            have k_FZ167 : EdAt (((v187.setCell ⟨G184, 0, none⟩ (.int .i64 (0))).setCell ⟨G184, 1, none⟩ (.int .i64 (0))).setCell ⟨G184, 2, none⟩ (.string (⟨#[]⟩))) G166 (0) (0) (⟨#[]⟩) := FZ167.putO (by have := nG184; have := FZ167uG184; omega) _ _ _
            have k_FZ185 : EdAt (((v187.setCell ⟨G184, 0, none⟩ (.int .i64 (0))).setCell ⟨G184, 1, none⟩ (.int .i64 (0))).setCell ⟨G184, 2, none⟩ (.string (⟨#[]⟩))) G184 (0) (0) (⟨#[]⟩) := FZ185.put (0) (0) (⟨#[]⟩)
            have kB : Below w.heap.size w (((v187.setCell ⟨G184, 0, none⟩ (.int .i64 (0))).setCell ⟨G184, 1, none⟩ (.int .i64 (0))).setCell ⟨G184, 2, none⟩ (.string (⟨#[]⟩))) := below_putE (p := 0) (c := 0) (t := ⟨#[]⟩) HB nG184
            generalize (((v187.setCell ⟨G184, 0, none⟩ (.int .i64 (0))).setCell ⟨G184, 1, none⟩ (.int .i64 (0))).setCell ⟨G184, 2, none⟩ (.string (⟨#[]⟩))) = v188 at k1 k2 k_FZ167 k_FZ185 kB ⊢
            clear z0 z1 z2 fz E1 E2 HB hHeld FZ167 FZ185
            have E1 := k1
            have E2 := k2
            have HB := kB
            have FZ167 := k_FZ167
            have FZ185 := k_FZ185
            clear k1 k2 k_FZ167 k_FZ185 kB
            refine hK.out _ _ ⟨E1, E2⟩ (fun hHeld => ?_)
            clear hK
            refine reg_take (i := 11) (d := 11) (.bool false) rfl rfl (by kernel_rfl) (by kernel_rfl) (by kernel_rfl) (fun _ _ _ h => h) (by rfl) (by intro wq hq; go_simp) (by assumption) ?_
            simp only [Act.put, List.setIfInBounds_toArray, List.set_cons_zero, List.set_cons_succ]
            refine wpAnyH_done (by kernel_rfl) ?_ _
            clear hHeld
            obtain ⟨c0, c1, c2x⟩ := FZ167.cells
            obtain ⟨d0, d1, d2⟩ := FZ185.cells
            go_wp2_with fail
            refine (eqEdit_same _ _ _ _).mono ?_
            rintro e w9 ⟨rfl, hbn⟩
            go_wp2
            go_ret
            exact ⟨rfl, below_next HB hbn⟩
        · skip
          go_simp
          have hwl0 := E1.lt
          have hl_FZ167 := FZ167.lt
          replace E1 := E1.alloc (.cells #[.int .i64 0, .int .i64 0, .string ⟨#[]⟩] 24)
          replace E2 := E2.alloc (.cells #[.int .i64 0, .int .i64 0, .string ⟨#[]⟩] 24)
          replace FZ167 := FZ167.alloc (.cells #[.int .i64 0, .int .i64 0, .string ⟨#[]⟩] 24)
          have FZ191 := EdAt.new v170 0 0 ⟨#[]⟩
          replace HB := HB.alloc HB.size (.cells #[.int .i64 0, .int .i64 0, .string ⟨#[]⟩] 24)
          have nG190 : w.heap.size ≤ v170.heap.size := Nat.le_of_lt hwl0
          have FZ167uG190 : G166 < v170.heap.size := hl_FZ167
          generalize (v170.alloc (.cells #[.int .i64 0, .int .i64 0, .string ⟨#[]⟩] 24)) = v189 at E1 E2 FZ167 FZ191 HB ⊢
          generalize v170.heap.size = G190 at FZ191 nG190 FZ167uG190 ⊢
          clear hwl0 hl_FZ167
          refine hK.out _ _ ⟨E1, E2⟩ (fun hHeld2 => ?_)
          clear hK hHeld
          have hHeld := hHeld2
          clear hHeld2
          refine wpAnyH_ready (rs := [1]) (by kernel_rfl) (by simp) ?_
          refine AllReadyH.cons rfl (fun K hK => ?_) AllReadyH.nil
          go_simp
          refine (toEdit_any p c t v189).mono ?_
          rintro e v192 ⟨rfl, hbn⟩
          replace E1 := E1.below hbn E1.lt
          replace E2 := E2.below hbn E2.lt
          replace FZ167 := FZ167.below hbn FZ167.lt
          replace FZ191 := FZ191.below hbn FZ191.lt
          replace HB := below_next HB hbn
          clear hbn
          refine hK.out _ _ ⟨E1, E2⟩ (fun hHeld2 => ?_)
          clear hK hHeld
          have hHeld := hHeld2
          clear hHeld2
          refine wpAnyH_ready (rs := [3]) (by kernel_rfl) (by simp) ?_
          refine AllReadyH.cons rfl (fun K hK => ?_) AllReadyH.nil
          go_simp
          refine (toEdit_any p2 c2 t2 v192).mono ?_
          rintro e v193 ⟨rfl, hbn⟩
          replace E1 := E1.below hbn E1.lt
          replace E2 := E2.below hbn E2.lt
          replace FZ167 := FZ167.below hbn FZ167.lt
          replace FZ191 := FZ191.below hbn FZ191.lt
          replace HB := below_next HB hbn
          clear hbn
          refine hK.out _ _ ⟨E1, E2⟩ (fun hHeld2 => ?_)
          clear hK hHeld
          have hHeld := hHeld2
          clear hHeld2
          refine wpAnyH_ready (rs := [5]) (by kernel_rfl) (by simp) ?_
          refine AllReadyH.cons rfl (fun K hK => ?_) AllReadyH.nil
          go_simp
          refine (i_ShiftEdit_none p c t p2 c2 t2 many v193 (by omega) (by omega) HS.out).mono ?_
          rintro e v194 ⟨rfl, hbn⟩
          replace E1 := E1.below hbn E1.lt
          replace E2 := E2.below hbn E2.lt
          replace FZ167 := FZ167.below hbn FZ167.lt
          replace FZ191 := FZ191.below hbn FZ191.lt
          replace HB := below_next HB hbn
          clear hbn
          refine hK.out _ _ ⟨E1, E2⟩ (fun hHeld2 => ?_)
          clear hK hHeld
          have hHeld := hHeld2
          clear hHeld2
          refine reg_take (i := 6) (d := 31) (.tuple #[edV (0) (0) (⟨#[]⟩), .bool false]) rfl rfl (by kernel_rfl) (by kernel_rfl) (by kernel_rfl) (fun _ _ _ h => h) (by rfl) (by intro wq hq; go_simp) (by assumption) ?_
          simp only [Act.put, List.setIfInBounds_toArray, List.set_cons_zero, List.set_cons_succ]
          refine reg_take (i := 7) (d := 38) (edV (0) (0) (⟨#[]⟩)) rfl rfl (by kernel_rfl) (by kernel_rfl) (by kernel_rfl) (fun _ _ _ h => h) (by rfl) (by intro wq hq; go_simp) (by assumption) ?_
          simp only [Act.put, List.setIfInBounds_toArray, List.set_cons_zero, List.set_cons_succ]
          refine reg_take (i := 8) (d := 39) (.bool false) rfl rfl (by kernel_rfl) (by kernel_rfl) (by kernel_rfl) (fun _ _ _ h => h) (by rfl) (by intro wq hq; go_simp) (by assumption) ?_
          simp only [Act.put, List.setIfInBounds_toArray, List.set_cons_zero, List.set_cons_succ]
          obtain ⟨z0, z1, z2⟩ := FZ191.cells
          have fz := FZ191.free

          refine wpAnyH_ready (rs := [10]) (by kernel_rfl) (by simp) ?_
          refine AllReadyH.cons rfl (fun K hK => ?_) AllReadyH.nil
          go_simp
          have k1 : EdAtL (((v194.setCell ⟨G190, 0, none⟩ (.int .i64 (0))).setCell ⟨G190, 1, none⟩ (.int .i64 (0))).setCell ⟨G190, 2, none⟩ (.string (⟨#[]⟩))) w.heap.size p c t := EdAtL.putO E1 (fun e => by subst e; exact edL_ne E1 FZ191) _ _ _
          have k2 : EdAtL (((v194.setCell ⟨G190, 0, none⟩ (.int .i64 (0))).setCell ⟨G190, 1, none⟩ (.int .i64 (0))).setCell ⟨G190, 2, none⟩ (.string (⟨#[]⟩))) (w.heap.size + 1) p2 c2 t2 := EdAtL.putO E2 (fun e => by subst e; exact edL_ne E2 FZ191) _ _ _
          have k_FZ167 : EdAt (((v194.setCell ⟨G190, 0, none⟩ (.int .i64 (0))).setCell ⟨G190, 1, none⟩ (.int .i64 (0))).setCell ⟨G190, 2, none⟩ (.string (⟨#[]⟩))) G166 (0) (0) (⟨#[]⟩) := FZ167.putO (by have := nG190; have := FZ167uG190; omega) _ _ _
          have k_FZ191 : EdAt (((v194.setCell ⟨G190, 0, none⟩ (.int .i64 (0))).setCell ⟨G190, 1, none⟩ (.int .i64 (0))).setCell ⟨G190, 2, none⟩ (.string (⟨#[]⟩))) G190 (0) (0) (⟨#[]⟩) := FZ191.put (0) (0) (⟨#[]⟩)
          have kB : Below w.heap.size w (((v194.setCell ⟨G190, 0, none⟩ (.int .i64 (0))).setCell ⟨G190, 1, none⟩ (.int .i64 (0))).setCell ⟨G190, 2, none⟩ (.string (⟨#[]⟩))) := below_putE (p := 0) (c := 0) (t := ⟨#[]⟩) HB nG190
          generalize (((v194.setCell ⟨G190, 0, none⟩ (.int .i64 (0))).setCell ⟨G190, 1, none⟩ (.int .i64 (0))).setCell ⟨G190, 2, none⟩ (.string (⟨#[]⟩))) = v195 at k1 k2 k_FZ167 k_FZ191 kB ⊢
          clear z0 z1 z2 fz E1 E2 HB hHeld FZ167 FZ191
          have E1 := k1
          have E2 := k2
          have HB := kB
          have FZ167 := k_FZ167
          have FZ191 := k_FZ191
          clear k1 k2 k_FZ167 k_FZ191 kB
          refine hK.out _ _ ⟨E1, E2⟩ (fun hHeld => ?_)
          clear hK
          refine reg_take (i := 11) (d := 11) (.bool false) rfl rfl (by kernel_rfl) (by kernel_rfl) (by kernel_rfl) (fun _ _ _ h => h) (by rfl) (by intro wq hq; go_simp) (by assumption) ?_
          simp only [Act.put, List.setIfInBounds_toArray, List.set_cons_zero, List.set_cons_succ]
          refine wpAnyH_done (by kernel_rfl) ?_ _
          clear hHeld
          obtain ⟨c0, c1, c2x⟩ := FZ167.cells
          obtain ⟨d0, d1, d2⟩ := FZ191.cells
          go_wp2_with fail
          refine (eqEdit_same _ _ _ _).mono ?_
          rintro e w9 ⟨rfl, hbn⟩
          go_wp2
          go_ret
          exact ⟨rfl, below_next HB hbn⟩
    · skip
      go_simp
      have hwl0 := E1.lt
      replace E1 := E1.alloc (.cells #[.int .i64 0, .int .i64 0, .string ⟨#[]⟩] 24)
      replace E2 := E2.alloc (.cells #[.int .i64 0, .int .i64 0, .string ⟨#[]⟩] 24)
      have FZ198 := EdAt.new v132 0 0 ⟨#[]⟩
      replace HB := HB.alloc HB.size (.cells #[.int .i64 0, .int .i64 0, .string ⟨#[]⟩] 24)
      have nG197 : w.heap.size ≤ v132.heap.size := Nat.le_of_lt hwl0
      generalize (v132.alloc (.cells #[.int .i64 0, .int .i64 0, .string ⟨#[]⟩] 24)) = v196 at E1 E2 FZ198 HB ⊢
      generalize v132.heap.size = G197 at FZ198 nG197  ⊢
      clear hwl0 
      refine hK.out _ _ ⟨E1, E2⟩ (fun hHeld2 => ?_)
      clear hK hHeld
      have hHeld := hHeld2
      clear hHeld2
      refine wpAnyH_ready (rs := [3]) (by kernel_rfl) (by simp) ?_
      refine AllReadyH.cons rfl (fun K hK => ?_) AllReadyH.nil
      go_simp
      refine (toEdit_any p2 c2 t2 v196).mono ?_
      rintro e v199 ⟨rfl, hbn⟩
      replace E1 := E1.below hbn E1.lt
      replace E2 := E2.below hbn E2.lt
      replace FZ198 := FZ198.below hbn FZ198.lt
      replace HB := below_next HB hbn
      clear hbn
      refine hK.out _ _ ⟨E1, E2⟩ (fun hHeld2 => ?_)
      clear hK hHeld
      have hHeld := hHeld2
      clear hHeld2
      refine wpAnyH_ready (rs := [5]) (by kernel_rfl) (by simp) ?_
      refine AllReadyH.cons rfl (fun K hK => ?_) AllReadyH.nil
      go_simp
      refine (s_ShiftEdit_none p c t p2 c2 t2 many v199 (by omega) (by omega) HS.out).mono ?_
      rintro e v200 ⟨rfl, hbn⟩
      replace E1 := E1.below hbn E1.lt
      replace E2 := E2.below hbn E2.lt
      replace FZ198 := FZ198.below hbn FZ198.lt
      replace HB := below_next HB hbn
      clear hbn
      refine hK.out _ _ ⟨E1, E2⟩ (fun hHeld2 => ?_)
      clear hK hHeld
      have hHeld := hHeld2
      clear hHeld2
      refine reg_take (i := 6) (d := 22) (.tuple #[edV (0) (0) (⟨#[]⟩), .bool false]) rfl rfl (by kernel_rfl) (by kernel_rfl) (by kernel_rfl) (fun _ _ _ h => h) (by rfl) (by intro wq hq; go_simp) (by assumption) ?_
      simp only [Act.put, List.setIfInBounds_toArray, List.set_cons_zero, List.set_cons_succ]
      refine reg_take (i := 7) (d := 29) (edV (0) (0) (⟨#[]⟩)) rfl rfl (by kernel_rfl) (by kernel_rfl) (by kernel_rfl) (fun _ _ _ h => h) (by rfl) (by intro wq hq; go_simp) (by assumption) ?_
      simp only [Act.put, List.setIfInBounds_toArray, List.set_cons_zero, List.set_cons_succ]
      refine reg_take (i := 8) (d := 30) (.bool false) rfl rfl (by kernel_rfl) (by kernel_rfl) (by kernel_rfl) (fun _ _ _ h => h) (by rfl) (by intro wq hq; go_simp) (by assumption) ?_
      simp only [Act.put, List.setIfInBounds_toArray, List.set_cons_zero, List.set_cons_succ]
      obtain ⟨z0, z1, z2⟩ := FZ198.cells
      have fz := FZ198.free

      refine wpAnyH_ready (rs := [10]) (by kernel_rfl) (by simp) ?_
      refine AllReadyH.cons rfl (fun K hK => ?_) AllReadyH.nil
      go_simp
      have k1 : EdAtL (((v200.setCell ⟨G197, 0, none⟩ (.int .i64 (0))).setCell ⟨G197, 1, none⟩ (.int .i64 (0))).setCell ⟨G197, 2, none⟩ (.string (⟨#[]⟩))) w.heap.size p c t := EdAtL.putO E1 (fun e => by subst e; exact edL_ne E1 FZ198) _ _ _
      have k2 : EdAtL (((v200.setCell ⟨G197, 0, none⟩ (.int .i64 (0))).setCell ⟨G197, 1, none⟩ (.int .i64 (0))).setCell ⟨G197, 2, none⟩ (.string (⟨#[]⟩))) (w.heap.size + 1) p2 c2 t2 := EdAtL.putO E2 (fun e => by subst e; exact edL_ne E2 FZ198) _ _ _
      have k_FZ198 : EdAt (((v200.setCell ⟨G197, 0, none⟩ (.int .i64 (0))).setCell ⟨G197, 1, none⟩ (.int .i64 (0))).setCell ⟨G197, 2, none⟩ (.string (⟨#[]⟩))) G197 (0) (0) (⟨#[]⟩) := FZ198.put (0) (0) (⟨#[]⟩)
      have kB : Below w.heap.size w (((v200.setCell ⟨G197, 0, none⟩ (.int .i64 (0))).setCell ⟨G197, 1, none⟩ (.int .i64 (0))).setCell ⟨G197, 2, none⟩ (.string (⟨#[]⟩))) := below_putE (p := 0) (c := 0) (t := ⟨#[]⟩) HB nG197
      generalize (((v200.setCell ⟨G197, 0, none⟩ (.int .i64 (0))).setCell ⟨G197, 1, none⟩ (.int .i64 (0))).setCell ⟨G197, 2, none⟩ (.string (⟨#[]⟩))) = v201 at k1 k2 k_FZ198 kB ⊢
      clear z0 z1 z2 fz E1 E2 HB hHeld FZ198
      have E1 := k1
      have E2 := k2
      have HB := kB
      have FZ198 := k_FZ198
      clear k1 k2 k_FZ198 kB
      refine hK.out _ _ ⟨E1, E2⟩ (fun hHeld => ?_)
      clear hK
      refine reg_take (i := 11) (d := 9) (.bool false) rfl rfl (by kernel_rfl) (by kernel_rfl) (by kernel_rfl) (fun _ _ _ h => h) (by rfl) (by intro wq hq; go_simp) (by assumption) ?_
      simp only [Act.put, List.setIfInBounds_toArray, List.set_cons_zero, List.set_cons_succ]
      refine wpAnyH_done (by kernel_rfl) ?_ _
      clear hHeld
      go_wp2_with fail
      obtain ⟨l0, l1, l2⟩ := E1.cells
      obtain ⟨m0, m1, m2⟩ := E2.cells
      refine wp_region_held_drew (S := fun wy => EdAtL wy w.heap.size p c t ∧ EdAtL wy (w.heap.size + 1) p2 c2 t2) (by kernel_rfl) (⟨E1, E2⟩) (fun hHeld => ?_)
      refine reg_take (i := 0) (d := 32) (edV p c t) rfl rfl (by kernel_rfl) (by kernel_rfl) (by kernel_rfl) (fun _ _ _ h => h) (by rfl) (by intro wq hq; obtain ⟨q0, q1, q2⟩ := hq.1.cells; obtain ⟨q3, q4, q5⟩ := hq.2.cells; go_simp) (by assumption) ?_
      simp only [Act.put, List.setIfInBounds_toArray, List.set_cons_zero, List.set_cons_succ]
      refine reg_take (i := 2) (d := 34) (edV p2 c2 t2) rfl rfl (by kernel_rfl) (by kernel_rfl) (by kernel_rfl) (fun _ _ _ h => h) (by rfl) (by intro wq hq; obtain ⟨q0, q1, q2⟩ := hq.1.cells; obtain ⟨q3, q4, q5⟩ := hq.2.cells; go_simp) (by assumption) ?_
      simp only [Act.put, List.setIfInBounds_toArray, List.set_cons_zero, List.set_cons_succ]
      refine reg_take (i := 4) (d := 36) (.int .i64 many) rfl rfl (by kernel_rfl) (by kernel_rfl) (by kernel_rfl) (fun _ _ _ h => h) (by rfl) (by intro wq hq; obtain ⟨q0, q1, q2⟩ := hq.1.cells; obtain ⟨q3, q4, q5⟩ := hq.2.cells; go_simp) (by assumption) ?_
      simp only [Act.put, List.setIfInBounds_toArray, List.set_cons_zero, List.set_cons_succ]
      clear l0 l1 l2 m0 m1 m2
      replace E1 : EdAtL v201.drew w.heap.size p c t := E1
      replace E2 : EdAtL v201.drew (w.heap.size + 1) p2 c2 t2 := E2
      replace FZ198 : EdAt v201.drew G197 (0) (0) (⟨#[]⟩) := FZ198
      replace HB : Below w.heap.size w v201.drew := HB.drew
      generalize v201.drew = v202 at E1 E2 FZ198 HB hHeld ⊢
      refine wpAnyH_ready (rs := [1, 9]) (by kernel_rfl) (by simp) ?_
      refine AllReadyH.cons rfl (fun K hK => ?_) (AllReadyH.cons rfl (fun K hK => ?_) AllReadyH.nil)
      · skip
        go_simp
        refine (toEdit_any p c t v202).mono ?_
        rintro e v203 ⟨rfl, hbn⟩
        replace E1 := E1.below hbn E1.lt
        replace E2 := E2.below hbn E2.lt
        replace FZ198 := FZ198.below hbn FZ198.lt
        replace HB := below_next HB hbn
        clear hbn
        refine hK.out _ _ ⟨E1, E2⟩ (fun hHeld2 => ?_)
        clear hK hHeld
        have hHeld := hHeld2
        clear hHeld2
        refine wpAnyH_ready (rs := [3, 9]) (by kernel_rfl) (by simp) ?_
        refine AllReadyH.cons rfl (fun K hK => ?_) (AllReadyH.cons rfl (fun K hK => ?_) AllReadyH.nil)
        · skip
          go_simp
          refine (toEdit_any p2 c2 t2 v203).mono ?_
          rintro e v204 ⟨rfl, hbn⟩
          replace E1 := E1.below hbn E1.lt
          replace E2 := E2.below hbn E2.lt
          replace FZ198 := FZ198.below hbn FZ198.lt
          replace HB := below_next HB hbn
          clear hbn
          refine hK.out _ _ ⟨E1, E2⟩ (fun hHeld2 => ?_)
          clear hK hHeld
          have hHeld := hHeld2
          clear hHeld2
          refine wpAnyH_ready (rs := [5, 9]) (by kernel_rfl) (by simp) ?_
          refine AllReadyH.cons rfl (fun K hK => ?_) (AllReadyH.cons rfl (fun K hK => ?_) AllReadyH.nil)
          · skip
            go_simp
            refine (i_ShiftEdit_none p c t p2 c2 t2 many v204 (by omega) (by omega) HS.out).mono ?_
            rintro e v205 ⟨rfl, hbn⟩
            replace E1 := E1.below hbn E1.lt
            replace E2 := E2.below hbn E2.lt
            replace FZ198 := FZ198.below hbn FZ198.lt
            replace HB := below_next HB hbn
            clear hbn
            refine hK.out _ _ ⟨E1, E2⟩ (fun hHeld2 => ?_)
            clear hK hHeld
            have hHeld := hHeld2
            clear hHeld2
            refine reg_take (i := 6) (d := 31) (.tuple #[edV (0) (0) (⟨#[]⟩), .bool false]) rfl rfl (by kernel_rfl) (by kernel_rfl) (by kernel_rfl) (fun _ _ _ h => h) (by rfl) (by intro wq hq; go_simp) (by assumption) ?_
            simp only [Act.put, List.setIfInBounds_toArray, List.set_cons_zero, List.set_cons_succ]
            refine reg_take (i := 7) (d := 38) (edV (0) (0) (⟨#[]⟩)) rfl rfl (by kernel_rfl) (by kernel_rfl) (by kernel_rfl) (fun _ _ _ h => h) (by rfl) (by intro wq hq; go_simp) (by assumption) ?_
            simp only [Act.put, List.setIfInBounds_toArray, List.set_cons_zero, List.set_cons_succ]
            refine reg_take (i := 8) (d := 39) (.bool false) rfl rfl (by kernel_rfl) (by kernel_rfl) (by kernel_rfl) (fun _ _ _ h => h) (by rfl) (by intro wq hq; go_simp) (by assumption) ?_
            simp only [Act.put, List.setIfInBounds_toArray, List.set_cons_zero, List.set_cons_succ]
            refine wpAnyH_ready (rs := [9]) (by kernel_rfl) (by simp) ?_
            refine AllReadyH.cons rfl (fun K hK => ?_) AllReadyH.nil
            go_simp
            have hwl0 := E1.lt
            have hl_FZ198 := FZ198.lt
            replace E1 := E1.alloc (.cells #[.int .i64 0, .int .i64 0, .string ⟨#[]⟩] 24)
            replace E2 := E2.alloc (.cells #[.int .i64 0, .int .i64 0, .string ⟨#[]⟩] 24)
            replace FZ198 := FZ198.alloc (.cells #[.int .i64 0, .int .i64 0, .string ⟨#[]⟩] 24)
            have FZ208 := EdAt.new v205 0 0 ⟨#[]⟩
            replace HB := HB.alloc HB.size (.cells #[.int .i64 0, .int .i64 0, .string ⟨#[]⟩] 24)
            have nG207 : w.heap.size ≤ v205.heap.size := Nat.le_of_lt hwl0
            have FZ198uG207 : G197 < v205.heap.size := hl_FZ198
            generalize (v205.alloc (.cells #[.int .i64 0, .int .i64 0, .string ⟨#[]⟩] 24)) = v206 at E1 E2 FZ198 FZ208 HB ⊢
            generalize v205.heap.size = G207 at FZ208 nG207 FZ198uG207 ⊢
            clear hwl0 hl_FZ198
            refine hK.out _ _ ⟨E1, E2⟩ (fun hHeld2 => ?_)
            clear hK hHeld
            have hHeld := hHeld2
            clear hHeld2
            obtain ⟨z0, z1, z2⟩ := FZ208.cells
            have fz := FZ208.free

            refine wpAnyH_ready (rs := [10]) (by kernel_rfl) (by simp) ?_
            refine AllReadyH.cons rfl (fun K hK => ?_) AllReadyH.nil
            go_simp
            have k1 : EdAtL (((v206.setCell ⟨G207, 0, none⟩ (.int .i64 (0))).setCell ⟨G207, 1, none⟩ (.int .i64 (0))).setCell ⟨G207, 2, none⟩ (.string (⟨#[]⟩))) w.heap.size p c t := EdAtL.putO E1 (fun e => by subst e; exact edL_ne E1 FZ208) _ _ _
            have k2 : EdAtL (((v206.setCell ⟨G207, 0, none⟩ (.int .i64 (0))).setCell ⟨G207, 1, none⟩ (.int .i64 (0))).setCell ⟨G207, 2, none⟩ (.string (⟨#[]⟩))) (w.heap.size + 1) p2 c2 t2 := EdAtL.putO E2 (fun e => by subst e; exact edL_ne E2 FZ208) _ _ _
            have k_FZ198 : EdAt (((v206.setCell ⟨G207, 0, none⟩ (.int .i64 (0))).setCell ⟨G207, 1, none⟩ (.int .i64 (0))).setCell ⟨G207, 2, none⟩ (.string (⟨#[]⟩))) G197 (0) (0) (⟨#[]⟩) := FZ198.putO (by have := nG207; have := FZ198uG207; omega) _ _ _
            have k_FZ208 : EdAt (((v206.setCell ⟨G207, 0, none⟩ (.int .i64 (0))).setCell ⟨G207, 1, none⟩ (.int .i64 (0))).setCell ⟨G207, 2, none⟩ (.string (⟨#[]⟩))) G207 (0) (0) (⟨#[]⟩) := FZ208.put (0) (0) (⟨#[]⟩)
            have kB : Below w.heap.size w (((v206.setCell ⟨G207, 0, none⟩ (.int .i64 (0))).setCell ⟨G207, 1, none⟩ (.int .i64 (0))).setCell ⟨G207, 2, none⟩ (.string (⟨#[]⟩))) := below_putE (p := 0) (c := 0) (t := ⟨#[]⟩) HB nG207
            generalize (((v206.setCell ⟨G207, 0, none⟩ (.int .i64 (0))).setCell ⟨G207, 1, none⟩ (.int .i64 (0))).setCell ⟨G207, 2, none⟩ (.string (⟨#[]⟩))) = v209 at k1 k2 k_FZ198 k_FZ208 kB ⊢
            clear z0 z1 z2 fz E1 E2 HB hHeld FZ198 FZ208
            have E1 := k1
            have E2 := k2
            have HB := kB
            have FZ198 := k_FZ198
            have FZ208 := k_FZ208
            clear k1 k2 k_FZ198 k_FZ208 kB
            refine hK.out _ _ ⟨E1, E2⟩ (fun hHeld => ?_)
            clear hK
            refine reg_take (i := 11) (d := 11) (.bool false) rfl rfl (by kernel_rfl) (by kernel_rfl) (by kernel_rfl) (fun _ _ _ h => h) (by rfl) (by intro wq hq; go_simp) (by assumption) ?_
            simp only [Act.put, List.setIfInBounds_toArray, List.set_cons_zero, List.set_cons_succ]
            refine wpAnyH_done (by kernel_rfl) ?_ _
            clear hHeld
            obtain ⟨c0, c1, c2x⟩ := FZ198.cells
            obtain ⟨d0, d1, d2⟩ := FZ208.cells
            go_wp2_with fail
            refine (eqEdit_same _ _ _ _).mono ?_
            rintro e w9 ⟨rfl, hbn⟩
            go_wp2
            go_ret
            exact ⟨rfl, below_next HB hbn⟩
          · skip
            go_simp
            have hwl0 := E1.lt
            have hl_FZ198 := FZ198.lt
            replace E1 := E1.alloc (.cells #[.int .i64 0, .int .i64 0, .string ⟨#[]⟩] 24)
            replace E2 := E2.alloc (.cells #[.int .i64 0, .int .i64 0, .string ⟨#[]⟩] 24)
            replace FZ198 := FZ198.alloc (.cells #[.int .i64 0, .int .i64 0, .string ⟨#[]⟩] 24)
            have FZ212 := EdAt.new v204 0 0 ⟨#[]⟩
            replace HB := HB.alloc HB.size (.cells #[.int .i64 0, .int .i64 0, .string ⟨#[]⟩] 24)
            have nG211 : w.heap.size ≤ v204.heap.size := Nat.le_of_lt hwl0
            have FZ198uG211 : G197 < v204.heap.size := hl_FZ198
            generalize (v204.alloc (.cells #[.int .i64 0, .int .i64 0, .string ⟨#[]⟩] 24)) = v210 at E1 E2 FZ198 FZ212 HB ⊢
            generalize v204.heap.size = G211 at FZ212 nG211 FZ198uG211 ⊢
            clear hwl0 hl_FZ198
            refine hK.out _ _ ⟨E1, E2⟩ (fun hHeld2 => ?_)
            clear hK hHeld
            have hHeld := hHeld2
            clear hHeld2
            refine wpAnyH_ready (rs := [5]) (by kernel_rfl) (by simp) ?_
            refine AllReadyH.cons rfl (fun K hK => ?_) AllReadyH.nil
            go_simp
            refine (i_ShiftEdit_none p c t p2 c2 t2 many v210 (by omega) (by omega) HS.out).mono ?_
            rintro e v213 ⟨rfl, hbn⟩
            replace E1 := E1.below hbn E1.lt
            replace E2 := E2.below hbn E2.lt
            replace FZ198 := FZ198.below hbn FZ198.lt
            replace FZ212 := FZ212.below hbn FZ212.lt
            replace HB := below_next HB hbn
            clear hbn
            refine hK.out _ _ ⟨E1, E2⟩ (fun hHeld2 => ?_)
            clear hK hHeld
            have hHeld := hHeld2
            clear hHeld2
            refine reg_take (i := 6) (d := 31) (.tuple #[edV (0) (0) (⟨#[]⟩), .bool false]) rfl rfl (by kernel_rfl) (by kernel_rfl) (by kernel_rfl) (fun _ _ _ h => h) (by rfl) (by intro wq hq; go_simp) (by assumption) ?_
            simp only [Act.put, List.setIfInBounds_toArray, List.set_cons_zero, List.set_cons_succ]
            refine reg_take (i := 7) (d := 38) (edV (0) (0) (⟨#[]⟩)) rfl rfl (by kernel_rfl) (by kernel_rfl) (by kernel_rfl) (fun _ _ _ h => h) (by rfl) (by intro wq hq; go_simp) (by assumption) ?_
            simp only [Act.put, List.setIfInBounds_toArray, List.set_cons_zero, List.set_cons_succ]
            refine reg_take (i := 8) (d := 39) (.bool false) rfl rfl (by kernel_rfl) (by kernel_rfl) (by kernel_rfl) (fun _ _ _ h => h) (by rfl) (by intro wq hq; go_simp) (by assumption) ?_
            simp only [Act.put, List.setIfInBounds_toArray, List.set_cons_zero, List.set_cons_succ]
            obtain ⟨z0, z1, z2⟩ := FZ212.cells
            have fz := FZ212.free

            refine wpAnyH_ready (rs := [10]) (by kernel_rfl) (by simp) ?_
            refine AllReadyH.cons rfl (fun K hK => ?_) AllReadyH.nil
            go_simp
            have k1 : EdAtL (((v213.setCell ⟨G211, 0, none⟩ (.int .i64 (0))).setCell ⟨G211, 1, none⟩ (.int .i64 (0))).setCell ⟨G211, 2, none⟩ (.string (⟨#[]⟩))) w.heap.size p c t := EdAtL.putO E1 (fun e => by subst e; exact edL_ne E1 FZ212) _ _ _
            have k2 : EdAtL (((v213.setCell ⟨G211, 0, none⟩ (.int .i64 (0))).setCell ⟨G211, 1, none⟩ (.int .i64 (0))).setCell ⟨G211, 2, none⟩ (.string (⟨#[]⟩))) (w.heap.size + 1) p2 c2 t2 := EdAtL.putO E2 (fun e => by subst e; exact edL_ne E2 FZ212) _ _ _
            have k_FZ198 : EdAt (((v213.setCell ⟨G211, 0, none⟩ (.int .i64 (0))).setCell ⟨G211, 1, none⟩ (.int .i64 (0))).setCell ⟨G211, 2, none⟩ (.string (⟨#[]⟩))) G197 (0) (0) (⟨#[]⟩) := FZ198.putO (by have := nG211; have := FZ198uG211; omega) _ _ _
            have k_FZ212 : EdAt (((v213.setCell ⟨G211, 0, none⟩ (.int .i64 (0))).setCell ⟨G211, 1, none⟩ (.int .i64 (0))).setCell ⟨G211, 2, none⟩ (.string (⟨#[]⟩))) G211 (0) (0) (⟨#[]⟩) := FZ212.put (0) (0) (⟨#[]⟩)
            have kB : Below w.heap.size w (((v213.setCell ⟨G211, 0, none⟩ (.int .i64 (0))).setCell ⟨G211, 1, none⟩ (.int .i64 (0))).setCell ⟨G211, 2, none⟩ (.string (⟨#[]⟩))) := below_putE (p := 0) (c := 0) (t := ⟨#[]⟩) HB nG211
            generalize (((v213.setCell ⟨G211, 0, none⟩ (.int .i64 (0))).setCell ⟨G211, 1, none⟩ (.int .i64 (0))).setCell ⟨G211, 2, none⟩ (.string (⟨#[]⟩))) = v214 at k1 k2 k_FZ198 k_FZ212 kB ⊢
            clear z0 z1 z2 fz E1 E2 HB hHeld FZ198 FZ212
            have E1 := k1
            have E2 := k2
            have HB := kB
            have FZ198 := k_FZ198
            have FZ212 := k_FZ212
            clear k1 k2 k_FZ198 k_FZ212 kB
            refine hK.out _ _ ⟨E1, E2⟩ (fun hHeld => ?_)
            clear hK
            refine reg_take (i := 11) (d := 11) (.bool false) rfl rfl (by kernel_rfl) (by kernel_rfl) (by kernel_rfl) (fun _ _ _ h => h) (by rfl) (by intro wq hq; go_simp) (by assumption) ?_
            simp only [Act.put, List.setIfInBounds_toArray, List.set_cons_zero, List.set_cons_succ]
            refine wpAnyH_done (by kernel_rfl) ?_ _
            clear hHeld
            obtain ⟨c0, c1, c2x⟩ := FZ198.cells
            obtain ⟨d0, d1, d2⟩ := FZ212.cells
            go_wp2_with fail
            refine (eqEdit_same _ _ _ _).mono ?_
            rintro e w9 ⟨rfl, hbn⟩
            go_wp2
            go_ret
            exact ⟨rfl, below_next HB hbn⟩
        · skip
          go_simp
          have hwl0 := E1.lt
          have hl_FZ198 := FZ198.lt
          replace E1 := E1.alloc (.cells #[.int .i64 0, .int .i64 0, .string ⟨#[]⟩] 24)
          replace E2 := E2.alloc (.cells #[.int .i64 0, .int .i64 0, .string ⟨#[]⟩] 24)
          replace FZ198 := FZ198.alloc (.cells #[.int .i64 0, .int .i64 0, .string ⟨#[]⟩] 24)
          have FZ217 := EdAt.new v203 0 0 ⟨#[]⟩
          replace HB := HB.alloc HB.size (.cells #[.int .i64 0, .int .i64 0, .string ⟨#[]⟩] 24)
          have nG216 : w.heap.size ≤ v203.heap.size := Nat.le_of_lt hwl0
          have FZ198uG216 : G197 < v203.heap.size := hl_FZ198
          generalize (v203.alloc (.cells #[.int .i64 0, .int .i64 0, .string ⟨#[]⟩] 24)) = v215 at E1 E2 FZ198 FZ217 HB ⊢
          generalize v203.heap.size = G216 at FZ217 nG216 FZ198uG216 ⊢
          clear hwl0 hl_FZ198
          refine hK.out _ _ ⟨E1, E2⟩ (fun hHeld2 => ?_)
          clear hK hHeld
          have hHeld := hHeld2
          clear hHeld2
          refine wpAnyH_ready (rs := [3]) (by kernel_rfl) (by simp) ?_
          refine AllReadyH.cons rfl (fun K hK => ?_) AllReadyH.nil
          go_simp
          refine (toEdit_any p2 c2 t2 v215).mono ?_
          rintro e v218 ⟨rfl, hbn⟩
          replace E1 := E1.below hbn E1.lt
          replace E2 := E2.below hbn E2.lt
          replace FZ198 := FZ198.below hbn FZ198.lt
          replace FZ217 := FZ217.below hbn FZ217.lt
          replace HB := below_next HB hbn
          clear hbn
          refine hK.out _ _ ⟨E1, E2⟩ (fun hHeld2 => ?_)
          clear hK hHeld
          have hHeld := hHeld2
          clear hHeld2
          refine wpAnyH_ready (rs := [5]) (by kernel_rfl) (by simp) ?_
          refine AllReadyH.cons rfl (fun K hK => ?_) AllReadyH.nil
          go_simp
          refine (i_ShiftEdit_none p c t p2 c2 t2 many v218 (by omega) (by omega) HS.out).mono ?_
          rintro e v219 ⟨rfl, hbn⟩
          replace E1 := E1.below hbn E1.lt
          replace E2 := E2.below hbn E2.lt
          replace FZ198 := FZ198.below hbn FZ198.lt
          replace FZ217 := FZ217.below hbn FZ217.lt
          replace HB := below_next HB hbn
          clear hbn
          refine hK.out _ _ ⟨E1, E2⟩ (fun hHeld2 => ?_)
          clear hK hHeld
          have hHeld := hHeld2
          clear hHeld2
          refine reg_take (i := 6) (d := 31) (.tuple #[edV (0) (0) (⟨#[]⟩), .bool false]) rfl rfl (by kernel_rfl) (by kernel_rfl) (by kernel_rfl) (fun _ _ _ h => h) (by rfl) (by intro wq hq; go_simp) (by assumption) ?_
          simp only [Act.put, List.setIfInBounds_toArray, List.set_cons_zero, List.set_cons_succ]
          refine reg_take (i := 7) (d := 38) (edV (0) (0) (⟨#[]⟩)) rfl rfl (by kernel_rfl) (by kernel_rfl) (by kernel_rfl) (fun _ _ _ h => h) (by rfl) (by intro wq hq; go_simp) (by assumption) ?_
          simp only [Act.put, List.setIfInBounds_toArray, List.set_cons_zero, List.set_cons_succ]
          refine reg_take (i := 8) (d := 39) (.bool false) rfl rfl (by kernel_rfl) (by kernel_rfl) (by kernel_rfl) (fun _ _ _ h => h) (by rfl) (by intro wq hq; go_simp) (by assumption) ?_
          simp only [Act.put, List.setIfInBounds_toArray, List.set_cons_zero, List.set_cons_succ]
          obtain ⟨z0, z1, z2⟩ := FZ217.cells
          have fz := FZ217.free

          refine wpAnyH_ready (rs := [10]) (by kernel_rfl) (by simp) ?_
          refine AllReadyH.cons rfl (fun K hK => ?_) AllReadyH.nil
          go_simp
          have k1 : EdAtL (((v219.setCell ⟨G216, 0, none⟩ (.int .i64 (0))).setCell ⟨G216, 1, none⟩ (.int .i64 (0))).setCell ⟨G216, 2, none⟩ (.string (⟨#[]⟩))) w.heap.size p c t := EdAtL.putO E1 (fun e => by subst e; exact edL_ne E1 FZ217) _ _ _
          have k2 : EdAtL (((v219.setCell ⟨G216, 0, none⟩ (.int .i64 (0))).setCell ⟨G216, 1, none⟩ (.int .i64 (0))).setCell ⟨G216, 2, none⟩ (.string (⟨#[]⟩))) (w.heap.size + 1) p2 c2 t2 := EdAtL.putO E2 (fun e => by subst e; exact edL_ne E2 FZ217) _ _ _
          have k_FZ198 : EdAt (((v219.setCell ⟨G216, 0, none⟩ (.int .i64 (0))).setCell ⟨G216, 1, none⟩ (.int .i64 (0))).setCell ⟨G216, 2, none⟩ (.string (⟨#[]⟩))) G197 (0) (0) (⟨#[]⟩) := FZ198.putO (by have := nG216; have := FZ198uG216; omega) _ _ _
          have k_FZ217 : EdAt (((v219.setCell ⟨G216, 0, none⟩ (.int .i64 (0))).setCell ⟨G216, 1, none⟩ (.int .i64 (0))).setCell ⟨G216, 2, none⟩ (.string (⟨#[]⟩))) G216 (0) (0) (⟨#[]⟩) := FZ217.put (0) (0) (⟨#[]⟩)
          have kB : Below w.heap.size w (((v219.setCell ⟨G216, 0, none⟩ (.int .i64 (0))).setCell ⟨G216, 1, none⟩ (.int .i64 (0))).setCell ⟨G216, 2, none⟩ (.string (⟨#[]⟩))) := below_putE (p := 0) (c := 0) (t := ⟨#[]⟩) HB nG216
          generalize (((v219.setCell ⟨G216, 0, none⟩ (.int .i64 (0))).setCell ⟨G216, 1, none⟩ (.int .i64 (0))).setCell ⟨G216, 2, none⟩ (.string (⟨#[]⟩))) = v220 at k1 k2 k_FZ198 k_FZ217 kB ⊢
          clear z0 z1 z2 fz E1 E2 HB hHeld FZ198 FZ217
          have E1 := k1
          have E2 := k2
          have HB := kB
          have FZ198 := k_FZ198
          have FZ217 := k_FZ217
          clear k1 k2 k_FZ198 k_FZ217 kB
          refine hK.out _ _ ⟨E1, E2⟩ (fun hHeld => ?_)
          clear hK
          refine reg_take (i := 11) (d := 11) (.bool false) rfl rfl (by kernel_rfl) (by kernel_rfl) (by kernel_rfl) (fun _ _ _ h => h) (by rfl) (by intro wq hq; go_simp) (by assumption) ?_
          simp only [Act.put, List.setIfInBounds_toArray, List.set_cons_zero, List.set_cons_succ]
          refine wpAnyH_done (by kernel_rfl) ?_ _
          clear hHeld
          obtain ⟨c0, c1, c2x⟩ := FZ198.cells
          obtain ⟨d0, d1, d2⟩ := FZ217.cells
          go_wp2_with fail
          refine (eqEdit_same _ _ _ _).mono ?_
          rintro e w9 ⟨rfl, hbn⟩
          go_wp2
          go_ret
          exact ⟨rfl, below_next HB hbn⟩
      · skip
        go_simp
        have hwl0 := E1.lt
        have hl_FZ198 := FZ198.lt
        replace E1 := E1.alloc (.cells #[.int .i64 0, .int .i64 0, .string ⟨#[]⟩] 24)
        replace E2 := E2.alloc (.cells #[.int .i64 0, .int .i64 0, .string ⟨#[]⟩] 24)
        replace FZ198 := FZ198.alloc (.cells #[.int .i64 0, .int .i64 0, .string ⟨#[]⟩] 24)
        have FZ223 := EdAt.new v202 0 0 ⟨#[]⟩
        replace HB := HB.alloc HB.size (.cells #[.int .i64 0, .int .i64 0, .string ⟨#[]⟩] 24)
        have nG222 : w.heap.size ≤ v202.heap.size := Nat.le_of_lt hwl0
        have FZ198uG222 : G197 < v202.heap.size := hl_FZ198
        generalize (v202.alloc (.cells #[.int .i64 0, .int .i64 0, .string ⟨#[]⟩] 24)) = v221 at E1 E2 FZ198 FZ223 HB ⊢
        generalize v202.heap.size = G222 at FZ223 nG222 FZ198uG222 ⊢
        clear hwl0 hl_FZ198
        refine hK.out _ _ ⟨E1, E2⟩ (fun hHeld2 => ?_)
        clear hK hHeld
        have hHeld := hHeld2
        clear hHeld2
        refine wpAnyH_ready (rs := [1]) (by kernel_rfl) (by simp) ?_
        refine AllReadyH.cons rfl (fun K hK => ?_) AllReadyH.nil
        go_simp
        refine (toEdit_any p c t v221).mono ?_
        rintro e v224 ⟨rfl, hbn⟩
        replace E1 := E1.below hbn E1.lt
        replace E2 := E2.below hbn E2.lt
        replace FZ198 := FZ198.below hbn FZ198.lt
        replace FZ223 := FZ223.below hbn FZ223.lt
        replace HB := below_next HB hbn
        clear hbn
        refine hK.out _ _ ⟨E1, E2⟩ (fun hHeld2 => ?_)
        clear hK hHeld
        have hHeld := hHeld2
        clear hHeld2
        refine wpAnyH_ready (rs := [3]) (by kernel_rfl) (by simp) ?_
        refine AllReadyH.cons rfl (fun K hK => ?_) AllReadyH.nil
        go_simp
        refine (toEdit_any p2 c2 t2 v224).mono ?_
        rintro e v225 ⟨rfl, hbn⟩
        replace E1 := E1.below hbn E1.lt
        replace E2 := E2.below hbn E2.lt
        replace FZ198 := FZ198.below hbn FZ198.lt
        replace FZ223 := FZ223.below hbn FZ223.lt
        replace HB := below_next HB hbn
        clear hbn
        refine hK.out _ _ ⟨E1, E2⟩ (fun hHeld2 => ?_)
        clear hK hHeld
        have hHeld := hHeld2
        clear hHeld2
        refine wpAnyH_ready (rs := [5]) (by kernel_rfl) (by simp) ?_
        refine AllReadyH.cons rfl (fun K hK => ?_) AllReadyH.nil
        go_simp
        refine (i_ShiftEdit_none p c t p2 c2 t2 many v225 (by omega) (by omega) HS.out).mono ?_
        rintro e v226 ⟨rfl, hbn⟩
        replace E1 := E1.below hbn E1.lt
        replace E2 := E2.below hbn E2.lt
        replace FZ198 := FZ198.below hbn FZ198.lt
        replace FZ223 := FZ223.below hbn FZ223.lt
        replace HB := below_next HB hbn
        clear hbn
        refine hK.out _ _ ⟨E1, E2⟩ (fun hHeld2 => ?_)
        clear hK hHeld
        have hHeld := hHeld2
        clear hHeld2
        refine reg_take (i := 6) (d := 31) (.tuple #[edV (0) (0) (⟨#[]⟩), .bool false]) rfl rfl (by kernel_rfl) (by kernel_rfl) (by kernel_rfl) (fun _ _ _ h => h) (by rfl) (by intro wq hq; go_simp) (by assumption) ?_
        simp only [Act.put, List.setIfInBounds_toArray, List.set_cons_zero, List.set_cons_succ]
        refine reg_take (i := 7) (d := 38) (edV (0) (0) (⟨#[]⟩)) rfl rfl (by kernel_rfl) (by kernel_rfl) (by kernel_rfl) (fun _ _ _ h => h) (by rfl) (by intro wq hq; go_simp) (by assumption) ?_
        simp only [Act.put, List.setIfInBounds_toArray, List.set_cons_zero, List.set_cons_succ]
        refine reg_take (i := 8) (d := 39) (.bool false) rfl rfl (by kernel_rfl) (by kernel_rfl) (by kernel_rfl) (fun _ _ _ h => h) (by rfl) (by intro wq hq; go_simp) (by assumption) ?_
        simp only [Act.put, List.setIfInBounds_toArray, List.set_cons_zero, List.set_cons_succ]
        obtain ⟨z0, z1, z2⟩ := FZ223.cells
        have fz := FZ223.free

        refine wpAnyH_ready (rs := [10]) (by kernel_rfl) (by simp) ?_
        refine AllReadyH.cons rfl (fun K hK => ?_) AllReadyH.nil
        go_simp
        have k1 : EdAtL (((v226.setCell ⟨G222, 0, none⟩ (.int .i64 (0))).setCell ⟨G222, 1, none⟩ (.int .i64 (0))).setCell ⟨G222, 2, none⟩ (.string (⟨#[]⟩))) w.heap.size p c t := EdAtL.putO E1 (fun e => by subst e; exact edL_ne E1 FZ223) _ _ _
        have k2 : EdAtL (((v226.setCell ⟨G222, 0, none⟩ (.int .i64 (0))).setCell ⟨G222, 1, none⟩ (.int .i64 (0))).setCell ⟨G222, 2, none⟩ (.string (⟨#[]⟩))) (w.heap.size + 1) p2 c2 t2 := EdAtL.putO E2 (fun e => by subst e; exact edL_ne E2 FZ223) _ _ _
        have k_FZ198 : EdAt (((v226.setCell ⟨G222, 0, none⟩ (.int .i64 (0))).setCell ⟨G222, 1, none⟩ (.int .i64 (0))).setCell ⟨G222, 2, none⟩ (.string (⟨#[]⟩))) G197 (0) (0) (⟨#[]⟩) := FZ198.putO (by have := nG222; have := FZ198uG222; omega) _ _ _
        have k_FZ223 : EdAt (((v226.setCell ⟨G222, 0, none⟩ (.int .i64 (0))).setCell ⟨G222, 1, none⟩ (.int .i64 (0))).setCell ⟨G222, 2, none⟩ (.string (⟨#[]⟩))) G222 (0) (0) (⟨#[]⟩) := FZ223.put (0) (0) (⟨#[]⟩)
        have kB : Below w.heap.size w (((v226.setCell ⟨G222, 0, none⟩ (.int .i64 (0))).setCell ⟨G222, 1, none⟩ (.int .i64 (0))).setCell ⟨G222, 2, none⟩ (.string (⟨#[]⟩))) := below_putE (p := 0) (c := 0) (t := ⟨#[]⟩) HB nG222
        generalize (((v226.setCell ⟨G222, 0, none⟩ (.int .i64 (0))).setCell ⟨G222, 1, none⟩ (.int .i64 (0))).setCell ⟨G222, 2, none⟩ (.string (⟨#[]⟩))) = v227 at k1 k2 k_FZ198 k_FZ223 kB ⊢
        clear z0 z1 z2 fz E1 E2 HB hHeld FZ198 FZ223
        have E1 := k1
        have E2 := k2
        have HB := kB
        have FZ198 := k_FZ198
        have FZ223 := k_FZ223
        clear k1 k2 k_FZ198 k_FZ223 kB
        refine hK.out _ _ ⟨E1, E2⟩ (fun hHeld => ?_)
        clear hK
        refine reg_take (i := 11) (d := 11) (.bool false) rfl rfl (by kernel_rfl) (by kernel_rfl) (by kernel_rfl) (fun _ _ _ h => h) (by rfl) (by intro wq hq; go_simp) (by assumption) ?_
        simp only [Act.put, List.setIfInBounds_toArray, List.set_cons_zero, List.set_cons_succ]
        refine wpAnyH_done (by kernel_rfl) ?_ _
        clear hHeld
        obtain ⟨c0, c1, c2x⟩ := FZ198.cells
        obtain ⟨d0, d1, d2⟩ := FZ223.cells
        go_wp2_with fail
        refine (eqEdit_same _ _ _ _).mono ?_
        rintro e w9 ⟨rfl, hbn⟩
        go_wp2
        go_ret
        exact ⟨rfl, below_next HB hbn⟩
  · skip
    go_simp
    have hwl0 := E1.lt
    replace E1 := E1.alloc (.cells #[.int .i64 0, .int .i64 0, .string ⟨#[]⟩] 24)
    replace E2 := E2.alloc (.cells #[.int .i64 0, .int .i64 0, .string ⟨#[]⟩] 24)
    have FZ230 := EdAt.new v131 0 0 ⟨#[]⟩
    replace HB := HB.alloc HB.size (.cells #[.int .i64 0, .int .i64 0, .string ⟨#[]⟩] 24)
    have nG229 : w.heap.size ≤ v131.heap.size := Nat.le_of_lt hwl0
    generalize (v131.alloc (.cells #[.int .i64 0, .int .i64 0, .string ⟨#[]⟩] 24)) = v228 at E1 E2 FZ230 HB ⊢
    generalize v131.heap.size = G229 at FZ230 nG229  ⊢
    clear hwl0 
    refine hK.out _ _ ⟨E1, E2⟩ (fun hHeld2 => ?_)
    clear hK hHeld
    have hHeld := hHeld2
    clear hHeld2
    refine wpAnyH_ready (rs := [1]) (by kernel_rfl) (by simp) ?_
    refine AllReadyH.cons rfl (fun K hK => ?_) AllReadyH.nil
    go_simp
    refine (toEdit_any p c t v228).mono ?_
    rintro e v231 ⟨rfl, hbn⟩
    replace E1 := E1.below hbn E1.lt
    replace E2 := E2.below hbn E2.lt
    replace FZ230 := FZ230.below hbn FZ230.lt
    replace HB := below_next HB hbn
    clear hbn
    refine hK.out _ _ ⟨E1, E2⟩ (fun hHeld2 => ?_)
    clear hK hHeld
    have hHeld := hHeld2
    clear hHeld2
    refine wpAnyH_ready (rs := [3]) (by kernel_rfl) (by simp) ?_
    refine AllReadyH.cons rfl (fun K hK => ?_) AllReadyH.nil
    go_simp
    refine (toEdit_any p2 c2 t2 v231).mono ?_
    rintro e v232 ⟨rfl, hbn⟩
    replace E1 := E1.below hbn E1.lt
    replace E2 := E2.below hbn E2.lt
    replace FZ230 := FZ230.below hbn FZ230.lt
    replace HB := below_next HB hbn
    clear hbn
    refine hK.out _ _ ⟨E1, E2⟩ (fun hHeld2 => ?_)
    clear hK hHeld
    have hHeld := hHeld2
    clear hHeld2
    refine wpAnyH_ready (rs := [5]) (by kernel_rfl) (by simp) ?_
    refine AllReadyH.cons rfl (fun K hK => ?_) AllReadyH.nil
    go_simp
    refine (s_ShiftEdit_none p c t p2 c2 t2 many v232 (by omega) (by omega) HS.out).mono ?_
    rintro e v233 ⟨rfl, hbn⟩
    replace E1 := E1.below hbn E1.lt
    replace E2 := E2.below hbn E2.lt
    replace FZ230 := FZ230.below hbn FZ230.lt
    replace HB := below_next HB hbn
    clear hbn
    refine hK.out _ _ ⟨E1, E2⟩ (fun hHeld2 => ?_)
    clear hK hHeld
    have hHeld := hHeld2
    clear hHeld2
    refine reg_take (i := 6) (d := 22) (.tuple #[edV (0) (0) (⟨#[]⟩), .bool false]) rfl rfl (by kernel_rfl) (by kernel_rfl) (by kernel_rfl) (fun _ _ _ h => h) (by rfl) (by intro wq hq; go_simp) (by assumption) ?_
    simp only [Act.put, List.setIfInBounds_toArray, List.set_cons_zero, List.set_cons_succ]
    refine reg_take (i := 7) (d := 29) (edV (0) (0) (⟨#[]⟩)) rfl rfl (by kernel_rfl) (by kernel_rfl) (by kernel_rfl) (fun _ _ _ h => h) (by rfl) (by intro wq hq; go_simp) (by assumption) ?_
    simp only [Act.put, List.setIfInBounds_toArray, List.set_cons_zero, List.set_cons_succ]
    refine reg_take (i := 8) (d := 30) (.bool false) rfl rfl (by kernel_rfl) (by kernel_rfl) (by kernel_rfl) (fun _ _ _ h => h) (by rfl) (by intro wq hq; go_simp) (by assumption) ?_
    simp only [Act.put, List.setIfInBounds_toArray, List.set_cons_zero, List.set_cons_succ]
    obtain ⟨z0, z1, z2⟩ := FZ230.cells
    have fz := FZ230.free

    refine wpAnyH_ready (rs := [10]) (by kernel_rfl) (by simp) ?_
    refine AllReadyH.cons rfl (fun K hK => ?_) AllReadyH.nil
    go_simp
    have k1 : EdAtL (((v233.setCell ⟨G229, 0, none⟩ (.int .i64 (0))).setCell ⟨G229, 1, none⟩ (.int .i64 (0))).setCell ⟨G229, 2, none⟩ (.string (⟨#[]⟩))) w.heap.size p c t := EdAtL.putO E1 (fun e => by subst e; exact edL_ne E1 FZ230) _ _ _
    have k2 : EdAtL (((v233.setCell ⟨G229, 0, none⟩ (.int .i64 (0))).setCell ⟨G229, 1, none⟩ (.int .i64 (0))).setCell ⟨G229, 2, none⟩ (.string (⟨#[]⟩))) (w.heap.size + 1) p2 c2 t2 := EdAtL.putO E2 (fun e => by subst e; exact edL_ne E2 FZ230) _ _ _
    have k_FZ230 : EdAt (((v233.setCell ⟨G229, 0, none⟩ (.int .i64 (0))).setCell ⟨G229, 1, none⟩ (.int .i64 (0))).setCell ⟨G229, 2, none⟩ (.string (⟨#[]⟩))) G229 (0) (0) (⟨#[]⟩) := FZ230.put (0) (0) (⟨#[]⟩)
    have kB : Below w.heap.size w (((v233.setCell ⟨G229, 0, none⟩ (.int .i64 (0))).setCell ⟨G229, 1, none⟩ (.int .i64 (0))).setCell ⟨G229, 2, none⟩ (.string (⟨#[]⟩))) := below_putE (p := 0) (c := 0) (t := ⟨#[]⟩) HB nG229
    generalize (((v233.setCell ⟨G229, 0, none⟩ (.int .i64 (0))).setCell ⟨G229, 1, none⟩ (.int .i64 (0))).setCell ⟨G229, 2, none⟩ (.string (⟨#[]⟩))) = v234 at k1 k2 k_FZ230 kB ⊢
    clear z0 z1 z2 fz E1 E2 HB hHeld FZ230
    have E1 := k1
    have E2 := k2
    have HB := kB
    have FZ230 := k_FZ230
    clear k1 k2 k_FZ230 kB
    refine hK.out _ _ ⟨E1, E2⟩ (fun hHeld => ?_)
    clear hK
    refine reg_take (i := 11) (d := 9) (.bool false) rfl rfl (by kernel_rfl) (by kernel_rfl) (by kernel_rfl) (fun _ _ _ h => h) (by rfl) (by intro wq hq; go_simp) (by assumption) ?_
    simp only [Act.put, List.setIfInBounds_toArray, List.set_cons_zero, List.set_cons_succ]
    refine wpAnyH_done (by kernel_rfl) ?_ _
    clear hHeld
    go_wp2_with fail
    obtain ⟨l0, l1, l2⟩ := E1.cells
    obtain ⟨m0, m1, m2⟩ := E2.cells
    refine wp_region_held_drew (S := fun wy => EdAtL wy w.heap.size p c t ∧ EdAtL wy (w.heap.size + 1) p2 c2 t2) (by kernel_rfl) (⟨E1, E2⟩) (fun hHeld => ?_)
    refine reg_take (i := 0) (d := 32) (edV p c t) rfl rfl (by kernel_rfl) (by kernel_rfl) (by kernel_rfl) (fun _ _ _ h => h) (by rfl) (by intro wq hq; obtain ⟨q0, q1, q2⟩ := hq.1.cells; obtain ⟨q3, q4, q5⟩ := hq.2.cells; go_simp) (by assumption) ?_
    simp only [Act.put, List.setIfInBounds_toArray, List.set_cons_zero, List.set_cons_succ]
    refine reg_take (i := 2) (d := 34) (edV p2 c2 t2) rfl rfl (by kernel_rfl) (by kernel_rfl) (by kernel_rfl) (fun _ _ _ h => h) (by rfl) (by intro wq hq; obtain ⟨q0, q1, q2⟩ := hq.1.cells; obtain ⟨q3, q4, q5⟩ := hq.2.cells; go_simp) (by assumption) ?_
    simp only [Act.put, List.setIfInBounds_toArray, List.set_cons_zero, List.set_cons_succ]
    refine reg_take (i := 4) (d := 36) (.int .i64 many) rfl rfl (by kernel_rfl) (by kernel_rfl) (by kernel_rfl) (fun _ _ _ h => h) (by rfl) (by intro wq hq; obtain ⟨q0, q1, q2⟩ := hq.1.cells; obtain ⟨q3, q4, q5⟩ := hq.2.cells; go_simp) (by assumption) ?_
    simp only [Act.put, List.setIfInBounds_toArray, List.set_cons_zero, List.set_cons_succ]
    clear l0 l1 l2 m0 m1 m2
    replace E1 : EdAtL v234.drew w.heap.size p c t := E1
    replace E2 : EdAtL v234.drew (w.heap.size + 1) p2 c2 t2 := E2
    replace FZ230 : EdAt v234.drew G229 (0) (0) (⟨#[]⟩) := FZ230
    replace HB : Below w.heap.size w v234.drew := HB.drew
    generalize v234.drew = v235 at E1 E2 FZ230 HB hHeld ⊢
    refine wpAnyH_ready (rs := [1, 9]) (by kernel_rfl) (by simp) ?_
    refine AllReadyH.cons rfl (fun K hK => ?_) (AllReadyH.cons rfl (fun K hK => ?_) AllReadyH.nil)
    · skip
      go_simp
      refine (toEdit_any p c t v235).mono ?_
      rintro e v236 ⟨rfl, hbn⟩
      replace E1 := E1.below hbn E1.lt
      replace E2 := E2.below hbn E2.lt
      replace FZ230 := FZ230.below hbn FZ230.lt
      replace HB := below_next HB hbn
      clear hbn
      refine hK.out _ _ ⟨E1, E2⟩ (fun hHeld2 => ?_)
      clear hK hHeld
      have hHeld := hHeld2
      clear hHeld2
      refine wpAnyH_ready (rs := [3, 9]) (by kernel_rfl) (by simp) ?_
      refine AllReadyH.cons rfl (fun K hK => ?_) (AllReadyH.cons rfl (fun K hK => ?_) AllReadyH.nil)
      · skip
        go_simp
        refine (toEdit_any p2 c2 t2 v236).mono ?_
        rintro e v237 ⟨rfl, hbn⟩
        replace E1 := E1.below hbn E1.lt
        replace E2 := E2.below hbn E2.lt
        replace FZ230 := FZ230.below hbn FZ230.lt
        replace HB := below_next HB hbn
        clear hbn
        refine hK.out _ _ ⟨E1, E2⟩ (fun hHeld2 => ?_)
        clear hK hHeld
        have hHeld := hHeld2
        clear hHeld2
        refine wpAnyH_ready (rs := [5, 9]) (by kernel_rfl) (by simp) ?_
        refine AllReadyH.cons rfl (fun K hK => ?_) (AllReadyH.cons rfl (fun K hK => ?_) AllReadyH.nil)
        · skip
          go_simp
          refine (i_ShiftEdit_none p c t p2 c2 t2 many v237 (by omega) (by omega) HS.out).mono ?_
          rintro e v238 ⟨rfl, hbn⟩
          replace E1 := E1.below hbn E1.lt
          replace E2 := E2.below hbn E2.lt
          replace FZ230 := FZ230.below hbn FZ230.lt
          replace HB := below_next HB hbn
          clear hbn
          refine hK.out _ _ ⟨E1, E2⟩ (fun hHeld2 => ?_)
          clear hK hHeld
          have hHeld := hHeld2
          clear hHeld2
          refine reg_take (i := 6) (d := 31) (.tuple #[edV (0) (0) (⟨#[]⟩), .bool false]) rfl rfl (by kernel_rfl) (by kernel_rfl) (by kernel_rfl) (fun _ _ _ h => h) (by rfl) (by intro wq hq; go_simp) (by assumption) ?_
          simp only [Act.put, List.setIfInBounds_toArray, List.set_cons_zero, List.set_cons_succ]
          refine reg_take (i := 7) (d := 38) (edV (0) (0) (⟨#[]⟩)) rfl rfl (by kernel_rfl) (by kernel_rfl) (by kernel_rfl) (fun _ _ _ h => h) (by rfl) (by intro wq hq; go_simp) (by assumption) ?_
          simp only [Act.put, List.setIfInBounds_toArray, List.set_cons_zero, List.set_cons_succ]
          refine reg_take (i := 8) (d := 39) (.bool false) rfl rfl (by kernel_rfl) (by kernel_rfl) (by kernel_rfl) (fun _ _ _ h => h) (by rfl) (by intro wq hq; go_simp) (by assumption) ?_
          simp only [Act.put, List.setIfInBounds_toArray, List.set_cons_zero, List.set_cons_succ]
          refine wpAnyH_ready (rs := [9]) (by kernel_rfl) (by simp) ?_
          refine AllReadyH.cons rfl (fun K hK => ?_) AllReadyH.nil
          go_simp
          have hwl0 := E1.lt
          have hl_FZ230 := FZ230.lt
          replace E1 := E1.alloc (.cells #[.int .i64 0, .int .i64 0, .string ⟨#[]⟩] 24)
          replace E2 := E2.alloc (.cells #[.int .i64 0, .int .i64 0, .string ⟨#[]⟩] 24)
          replace FZ230 := FZ230.alloc (.cells #[.int .i64 0, .int .i64 0, .string ⟨#[]⟩] 24)
          have FZ241 := EdAt.new v238 0 0 ⟨#[]⟩
          replace HB := HB.alloc HB.size (.cells #[.int .i64 0, .int .i64 0, .string ⟨#[]⟩] 24)
          have nG240 : w.heap.size ≤ v238.heap.size := Nat.le_of_lt hwl0
          have FZ230uG240 : G229 < v238.heap.size := hl_FZ230
          generalize (v238.alloc (.cells #[.int .i64 0, .int .i64 0, .string ⟨#[]⟩] 24)) = v239 at E1 E2 FZ230 FZ241 HB ⊢
          generalize v238.heap.size = G240 at FZ241 nG240 FZ230uG240 ⊢
          clear hwl0 hl_FZ230
          refine hK.out _ _ ⟨E1, E2⟩ (fun hHeld2 => ?_)
          clear hK hHeld
          have hHeld := hHeld2
          clear hHeld2
          obtain ⟨z0, z1, z2⟩ := FZ241.cells
          have fz := FZ241.free

          refine wpAnyH_ready (rs := [10]) (by kernel_rfl) (by simp) ?_
          refine AllReadyH.cons rfl (fun K hK => ?_) AllReadyH.nil
          go_simp
          have k1 : EdAtL (((v239.setCell ⟨G240, 0, none⟩ (.int .i64 (0))).setCell ⟨G240, 1, none⟩ (.int .i64 (0))).setCell ⟨G240, 2, none⟩ (.string (⟨#[]⟩))) w.heap.size p c t := EdAtL.putO E1 (fun e => by subst e; exact edL_ne E1 FZ241) _ _ _
          have k2 : EdAtL (((v239.setCell ⟨G240, 0, none⟩ (.int .i64 (0))).setCell ⟨G240, 1, none⟩ (.int .i64 (0))).setCell ⟨G240, 2, none⟩ (.string (⟨#[]⟩))) (w.heap.size + 1) p2 c2 t2 := EdAtL.putO E2 (fun e => by subst e; exact edL_ne E2 FZ241) _ _ _
          have k_FZ230 : EdAt (((v239.setCell ⟨G240, 0, none⟩ (.int .i64 (0))).setCell ⟨G240, 1, none⟩ (.int .i64 (0))).setCell ⟨G240, 2, none⟩ (.string (⟨#[]⟩))) G229 (0) (0) (⟨#[]⟩) := FZ230.putO (by have := nG240; have := FZ230uG240; omega) _ _ _
          have k_FZ241 : EdAt (((v239.setCell ⟨G240, 0, none⟩ (.int .i64 (0))).setCell ⟨G240, 1, none⟩ (.int .i64 (0))).setCell ⟨G240, 2, none⟩ (.string (⟨#[]⟩))) G240 (0) (0) (⟨#[]⟩) := FZ241.put (0) (0) (⟨#[]⟩)
          have kB : Below w.heap.size w (((v239.setCell ⟨G240, 0, none⟩ (.int .i64 (0))).setCell ⟨G240, 1, none⟩ (.int .i64 (0))).setCell ⟨G240, 2, none⟩ (.string (⟨#[]⟩))) := below_putE (p := 0) (c := 0) (t := ⟨#[]⟩) HB nG240
          generalize (((v239.setCell ⟨G240, 0, none⟩ (.int .i64 (0))).setCell ⟨G240, 1, none⟩ (.int .i64 (0))).setCell ⟨G240, 2, none⟩ (.string (⟨#[]⟩))) = v242 at k1 k2 k_FZ230 k_FZ241 kB ⊢
          clear z0 z1 z2 fz E1 E2 HB hHeld FZ230 FZ241
          have E1 := k1
          have E2 := k2
          have HB := kB
          have FZ230 := k_FZ230
          have FZ241 := k_FZ241
          clear k1 k2 k_FZ230 k_FZ241 kB
          refine hK.out _ _ ⟨E1, E2⟩ (fun hHeld => ?_)
          clear hK
          refine reg_take (i := 11) (d := 11) (.bool false) rfl rfl (by kernel_rfl) (by kernel_rfl) (by kernel_rfl) (fun _ _ _ h => h) (by rfl) (by intro wq hq; go_simp) (by assumption) ?_
          simp only [Act.put, List.setIfInBounds_toArray, List.set_cons_zero, List.set_cons_succ]
          refine wpAnyH_done (by kernel_rfl) ?_ _
          clear hHeld
          obtain ⟨c0, c1, c2x⟩ := FZ230.cells
          obtain ⟨d0, d1, d2⟩ := FZ241.cells
          go_wp2_with fail
          refine (eqEdit_same _ _ _ _).mono ?_
          rintro e w9 ⟨rfl, hbn⟩
          go_wp2
          go_ret
          exact ⟨rfl, below_next HB hbn⟩
        · skip
          go_simp
          have hwl0 := E1.lt
          have hl_FZ230 := FZ230.lt
          replace E1 := E1.alloc (.cells #[.int .i64 0, .int .i64 0, .string ⟨#[]⟩] 24)
          replace E2 := E2.alloc (.cells #[.int .i64 0, .int .i64 0, .string ⟨#[]⟩] 24)
          replace FZ230 := FZ230.alloc (.cells #[.int .i64 0, .int .i64 0, .string ⟨#[]⟩] 24)
          have FZ245 := EdAt.new v237 0 0 ⟨#[]⟩
          replace HB := HB.alloc HB.size (.cells #[.int .i64 0, .int .i64 0, .string ⟨#[]⟩] 24)
          have nG244 : w.heap.size ≤ v237.heap.size := Nat.le_of_lt hwl0
          have FZ230uG244 : G229 < v237.heap.size := hl_FZ230
          generalize (v237.alloc (.cells #[.int .i64 0, .int .i64 0, .string ⟨#[]⟩] 24)) = v243 at E1 E2 FZ230 FZ245 HB ⊢
          generalize v237.heap.size = G244 at FZ245 nG244 FZ230uG244 ⊢
          clear hwl0 hl_FZ230
          refine hK.out _ _ ⟨E1, E2⟩ (fun hHeld2 => ?_)
          clear hK hHeld
          have hHeld := hHeld2
          clear hHeld2
          refine wpAnyH_ready (rs := [5]) (by kernel_rfl) (by simp) ?_
          refine AllReadyH.cons rfl (fun K hK => ?_) AllReadyH.nil
          go_simp
          refine (i_ShiftEdit_none p c t p2 c2 t2 many v243 (by omega) (by omega) HS.out).mono ?_
          rintro e v246 ⟨rfl, hbn⟩
          replace E1 := E1.below hbn E1.lt
          replace E2 := E2.below hbn E2.lt
          replace FZ230 := FZ230.below hbn FZ230.lt
          replace FZ245 := FZ245.below hbn FZ245.lt
          replace HB := below_next HB hbn
          clear hbn
          refine hK.out _ _ ⟨E1, E2⟩ (fun hHeld2 => ?_)
          clear hK hHeld
          have hHeld := hHeld2
          clear hHeld2
          refine reg_take (i := 6) (d := 31) (.tuple #[edV (0) (0) (⟨#[]⟩), .bool false]) rfl rfl (by kernel_rfl) (by kernel_rfl) (by kernel_rfl) (fun _ _ _ h => h) (by rfl) (by intro wq hq; go_simp) (by assumption) ?_
          simp only [Act.put, List.setIfInBounds_toArray, List.set_cons_zero, List.set_cons_succ]
          refine reg_take (i := 7) (d := 38) (edV (0) (0) (⟨#[]⟩)) rfl rfl (by kernel_rfl) (by kernel_rfl) (by kernel_rfl) (fun _ _ _ h => h) (by rfl) (by intro wq hq; go_simp) (by assumption) ?_
          simp only [Act.put, List.setIfInBounds_toArray, List.set_cons_zero, List.set_cons_succ]
          refine reg_take (i := 8) (d := 39) (.bool false) rfl rfl (by kernel_rfl) (by kernel_rfl) (by kernel_rfl) (fun _ _ _ h => h) (by rfl) (by intro wq hq; go_simp) (by assumption) ?_
          simp only [Act.put, List.setIfInBounds_toArray, List.set_cons_zero, List.set_cons_succ]
          obtain ⟨z0, z1, z2⟩ := FZ245.cells
          have fz := FZ245.free

          refine wpAnyH_ready (rs := [10]) (by kernel_rfl) (by simp) ?_
          refine AllReadyH.cons rfl (fun K hK => ?_) AllReadyH.nil
          go_simp
          have k1 : EdAtL (((v246.setCell ⟨G244, 0, none⟩ (.int .i64 (0))).setCell ⟨G244, 1, none⟩ (.int .i64 (0))).setCell ⟨G244, 2, none⟩ (.string (⟨#[]⟩))) w.heap.size p c t := EdAtL.putO E1 (fun e => by subst e; exact edL_ne E1 FZ245) _ _ _
          have k2 : EdAtL (((v246.setCell ⟨G244, 0, none⟩ (.int .i64 (0))).setCell ⟨G244, 1, none⟩ (.int .i64 (0))).setCell ⟨G244, 2, none⟩ (.string (⟨#[]⟩))) (w.heap.size + 1) p2 c2 t2 := EdAtL.putO E2 (fun e => by subst e; exact edL_ne E2 FZ245) _ _ _
          have k_FZ230 : EdAt (((v246.setCell ⟨G244, 0, none⟩ (.int .i64 (0))).setCell ⟨G244, 1, none⟩ (.int .i64 (0))).setCell ⟨G244, 2, none⟩ (.string (⟨#[]⟩))) G229 (0) (0) (⟨#[]⟩) := FZ230.putO (by have := nG244; have := FZ230uG244; omega) _ _ _
          have k_FZ245 : EdAt (((v246.setCell ⟨G244, 0, none⟩ (.int .i64 (0))).setCell ⟨G244, 1, none⟩ (.int .i64 (0))).setCell ⟨G244, 2, none⟩ (.string (⟨#[]⟩))) G244 (0) (0) (⟨#[]⟩) := FZ245.put (0) (0) (⟨#[]⟩)
          have kB : Below w.heap.size w (((v246.setCell ⟨G244, 0, none⟩ (.int .i64 (0))).setCell ⟨G244, 1, none⟩ (.int .i64 (0))).setCell ⟨G244, 2, none⟩ (.string (⟨#[]⟩))) := below_putE (p := 0) (c := 0) (t := ⟨#[]⟩) HB nG244
          generalize (((v246.setCell ⟨G244, 0, none⟩ (.int .i64 (0))).setCell ⟨G244, 1, none⟩ (.int .i64 (0))).setCell ⟨G244, 2, none⟩ (.string (⟨#[]⟩))) = v247 at k1 k2 k_FZ230 k_FZ245 kB ⊢
          clear z0 z1 z2 fz E1 E2 HB hHeld FZ230 FZ245
          have E1 := k1
          have E2 := k2
          have HB := kB
          have FZ230 := k_FZ230
          have FZ245 := k_FZ245
          clear k1 k2 k_FZ230 k_FZ245 kB
          refine hK.out _ _ ⟨E1, E2⟩ (fun hHeld => ?_)
          clear hK
          refine reg_take (i := 11) (d := 11) (.bool false) rfl rfl (by kernel_rfl) (by kernel_rfl) (by kernel_rfl) (fun _ _ _ h => h) (by rfl) (by intro wq hq; go_simp) (by assumption) ?_
          simp only [Act.put, List.setIfInBounds_toArray, List.set_cons_zero, List.set_cons_succ]
          refine wpAnyH_done (by kernel_rfl) ?_ _
          clear hHeld
          obtain ⟨c0, c1, c2x⟩ := FZ230.cells
          obtain ⟨d0, d1, d2⟩ := FZ245.cells
          go_wp2_with fail
          refine (eqEdit_same _ _ _ _).mono ?_
          rintro e w9 ⟨rfl, hbn⟩
          go_wp2
          go_ret
          exact ⟨rfl, below_next HB hbn⟩
      · skip
        go_simp
        have hwl0 := E1.lt
        have hl_FZ230 := FZ230.lt
        replace E1 := E1.alloc (.cells #[.int .i64 0, .int .i64 0, .string ⟨#[]⟩] 24)
        replace E2 := E2.alloc (.cells #[.int .i64 0, .int .i64 0, .string ⟨#[]⟩] 24)
        replace FZ230 := FZ230.alloc (.cells #[.int .i64 0, .int .i64 0, .string ⟨#[]⟩] 24)
        have FZ250 := EdAt.new v236 0 0 ⟨#[]⟩
        replace HB := HB.alloc HB.size (.cells #[.int .i64 0, .int .i64 0, .string ⟨#[]⟩] 24)
        have nG249 : w.heap.size ≤ v236.heap.size := Nat.le_of_lt hwl0
        have FZ230uG249 : G229 < v236.heap.size := hl_FZ230
        generalize (v236.alloc (.cells #[.int .i64 0, .int .i64 0, .string ⟨#[]⟩] 24)) = v248 at E1 E2 FZ230 FZ250 HB ⊢
        generalize v236.heap.size = G249 at FZ250 nG249 FZ230uG249 ⊢
        clear hwl0 hl_FZ230
        refine hK.out _ _ ⟨E1, E2⟩ (fun hHeld2 => ?_)
        clear hK hHeld
        have hHeld := hHeld2
        clear hHeld2
        refine wpAnyH_ready (rs := [3]) (by kernel_rfl) (by simp) ?_
        refine AllReadyH.cons rfl (fun K hK => ?_) AllReadyH.nil
        go_simp
        refine (toEdit_any p2 c2 t2 v248).mono ?_
        rintro e v251 ⟨rfl, hbn⟩
        replace E1 := E1.below hbn E1.lt
        replace E2 := E2.below hbn E2.lt
        replace FZ230 := FZ230.below hbn FZ230.lt
        replace FZ250 := FZ250.below hbn FZ250.lt
        replace HB := below_next HB hbn
        clear hbn
        refine hK.out _ _ ⟨E1, E2⟩ (fun hHeld2 => ?_)
        clear hK hHeld
        have hHeld := hHeld2
        clear hHeld2
        refine wpAnyH_ready (rs := [5]) (by kernel_rfl) (by simp) ?_
        refine AllReadyH.cons rfl (fun K hK => ?_) AllReadyH.nil
        go_simp
        refine (i_ShiftEdit_none p c t p2 c2 t2 many v251 (by omega) (by omega) HS.out).mono ?_
        rintro e v252 ⟨rfl, hbn⟩
        replace E1 := E1.below hbn E1.lt
        replace E2 := E2.below hbn E2.lt
        replace FZ230 := FZ230.below hbn FZ230.lt
        replace FZ250 := FZ250.below hbn FZ250.lt
        replace HB := below_next HB hbn
        clear hbn
        refine hK.out _ _ ⟨E1, E2⟩ (fun hHeld2 => ?_)
        clear hK hHeld
        have hHeld := hHeld2
        clear hHeld2
        refine reg_take (i := 6) (d := 31) (.tuple #[edV (0) (0) (⟨#[]⟩), .bool false]) rfl rfl (by kernel_rfl) (by kernel_rfl) (by kernel_rfl) (fun _ _ _ h => h) (by rfl) (by intro wq hq; go_simp) (by assumption) ?_
        simp only [Act.put, List.setIfInBounds_toArray, List.set_cons_zero, List.set_cons_succ]
        refine reg_take (i := 7) (d := 38) (edV (0) (0) (⟨#[]⟩)) rfl rfl (by kernel_rfl) (by kernel_rfl) (by kernel_rfl) (fun _ _ _ h => h) (by rfl) (by intro wq hq; go_simp) (by assumption) ?_
        simp only [Act.put, List.setIfInBounds_toArray, List.set_cons_zero, List.set_cons_succ]
        refine reg_take (i := 8) (d := 39) (.bool false) rfl rfl (by kernel_rfl) (by kernel_rfl) (by kernel_rfl) (fun _ _ _ h => h) (by rfl) (by intro wq hq; go_simp) (by assumption) ?_
        simp only [Act.put, List.setIfInBounds_toArray, List.set_cons_zero, List.set_cons_succ]
        obtain ⟨z0, z1, z2⟩ := FZ250.cells
        have fz := FZ250.free

        refine wpAnyH_ready (rs := [10]) (by kernel_rfl) (by simp) ?_
        refine AllReadyH.cons rfl (fun K hK => ?_) AllReadyH.nil
        go_simp
        have k1 : EdAtL (((v252.setCell ⟨G249, 0, none⟩ (.int .i64 (0))).setCell ⟨G249, 1, none⟩ (.int .i64 (0))).setCell ⟨G249, 2, none⟩ (.string (⟨#[]⟩))) w.heap.size p c t := EdAtL.putO E1 (fun e => by subst e; exact edL_ne E1 FZ250) _ _ _
        have k2 : EdAtL (((v252.setCell ⟨G249, 0, none⟩ (.int .i64 (0))).setCell ⟨G249, 1, none⟩ (.int .i64 (0))).setCell ⟨G249, 2, none⟩ (.string (⟨#[]⟩))) (w.heap.size + 1) p2 c2 t2 := EdAtL.putO E2 (fun e => by subst e; exact edL_ne E2 FZ250) _ _ _
        have k_FZ230 : EdAt (((v252.setCell ⟨G249, 0, none⟩ (.int .i64 (0))).setCell ⟨G249, 1, none⟩ (.int .i64 (0))).setCell ⟨G249, 2, none⟩ (.string (⟨#[]⟩))) G229 (0) (0) (⟨#[]⟩) := FZ230.putO (by have := nG249; have := FZ230uG249; omega) _ _ _
        have k_FZ250 : EdAt (((v252.setCell ⟨G249, 0, none⟩ (.int .i64 (0))).setCell ⟨G249, 1, none⟩ (.int .i64 (0))).setCell ⟨G249, 2, none⟩ (.string (⟨#[]⟩))) G249 (0) (0) (⟨#[]⟩) := FZ250.put (0) (0) (⟨#[]⟩)
        have kB : Below w.heap.size w (((v252.setCell ⟨G249, 0, none⟩ (.int .i64 (0))).setCell ⟨G249, 1, none⟩ (.int .i64 (0))).setCell ⟨G249, 2, none⟩ (.string (⟨#[]⟩))) := below_putE (p := 0) (c := 0) (t := ⟨#[]⟩) HB nG249
        generalize (((v252.setCell ⟨G249, 0, none⟩ (.int .i64 (0))).setCell ⟨G249, 1, none⟩ (.int .i64 (0))).setCell ⟨G249, 2, none⟩ (.string (⟨#[]⟩))) = v253 at k1 k2 k_FZ230 k_FZ250 kB ⊢
        clear z0 z1 z2 fz E1 E2 HB hHeld FZ230 FZ250
        have E1 := k1
        have E2 := k2
        have HB := kB
        have FZ230 := k_FZ230
        have FZ250 := k_FZ250
        clear k1 k2 k_FZ230 k_FZ250 kB
        refine hK.out _ _ ⟨E1, E2⟩ (fun hHeld => ?_)
        clear hK
        refine reg_take (i := 11) (d := 11) (.bool false) rfl rfl (by kernel_rfl) (by kernel_rfl) (by kernel_rfl) (fun _ _ _ h => h) (by rfl) (by intro wq hq; go_simp) (by assumption) ?_
        simp only [Act.put, List.setIfInBounds_toArray, List.set_cons_zero, List.set_cons_succ]
        refine wpAnyH_done (by kernel_rfl) ?_ _
        clear hHeld
        obtain ⟨c0, c1, c2x⟩ := FZ230.cells
        obtain ⟨d0, d1, d2⟩ := FZ250.cells
        go_wp2_with fail
        refine (eqEdit_same _ _ _ _).mono ?_
        rintro e w9 ⟨rfl, hbn⟩
        go_wp2
        go_ret
        exact ⟨rfl, below_next HB hbn⟩
    · skip
      go_simp
      have hwl0 := E1.lt
      have hl_FZ230 := FZ230.lt
      replace E1 := E1.alloc (.cells #[.int .i64 0, .int .i64 0, .string ⟨#[]⟩] 24)
      replace E2 := E2.alloc (.cells #[.int .i64 0, .int .i64 0, .string ⟨#[]⟩] 24)
      replace FZ230 := FZ230.alloc (.cells #[.int .i64 0, .int .i64 0, .string ⟨#[]⟩] 24)
      have FZ256 := EdAt.new v235 0 0 ⟨#[]⟩
      replace HB := HB.alloc HB.size (.cells #[.int .i64 0, .int .i64 0, .string ⟨#[]⟩] 24)
      have nG255 : w.heap.size ≤ v235.heap.size := Nat.le_of_lt hwl0
      have FZ230uG255 : G229 < v235.heap.size := hl_FZ230
      generalize (v235.alloc (.cells #[.int .i64 0, .int .i64 0, .string ⟨#[]⟩] 24)) = v254 at E1 E2 FZ230 FZ256 HB ⊢
      generalize v235.heap.size = G255 at FZ256 nG255 FZ230uG255 ⊢
      clear hwl0 hl_FZ230
      refine hK.out _ _ ⟨E1, E2⟩ (fun hHeld2 => ?_)
      clear hK hHeld
      have hHeld := hHeld2
      clear hHeld2
      refine wpAnyH_ready (rs := [1]) (by kernel_rfl) (by simp) ?_
      refine AllReadyH.cons rfl (fun K hK => ?_) AllReadyH.nil
      go_simp
      refine (toEdit_any p c t v254).mono ?_
      rintro e v257 ⟨rfl, hbn⟩
      replace E1 := E1.below hbn E1.lt
      replace E2 := E2.below hbn E2.lt
      replace FZ230 := FZ230.below hbn FZ230.lt
      replace FZ256 := FZ256.below hbn FZ256.lt
      replace HB := below_next HB hbn
      clear hbn
      refine hK.out _ _ ⟨E1, E2⟩ (fun hHeld2 => ?_)
      clear hK hHeld
      have hHeld := hHeld2
      clear hHeld2
      refine wpAnyH_ready (rs := [3]) (by kernel_rfl) (by simp) ?_
      refine AllReadyH.cons rfl (fun K hK => ?_) AllReadyH.nil
      go_simp
      refine (toEdit_any p2 c2 t2 v257).mono ?_
      rintro e v258 ⟨rfl, hbn⟩
      replace E1 := E1.below hbn E1.lt
      replace E2 := E2.below hbn E2.lt
      replace FZ230 := FZ230.below hbn FZ230.lt
      replace FZ256 := FZ256.below hbn FZ256.lt
      replace HB := below_next HB hbn
      clear hbn
      refine hK.out _ _ ⟨E1, E2⟩ (fun hHeld2 => ?_)
      clear hK hHeld
      have hHeld := hHeld2
      clear hHeld2
      refine wpAnyH_ready (rs := [5]) (by kernel_rfl) (by simp) ?_
      refine AllReadyH.cons rfl (fun K hK => ?_) AllReadyH.nil
      go_simp
      refine (i_ShiftEdit_none p c t p2 c2 t2 many v258 (by omega) (by omega) HS.out).mono ?_
      rintro e v259 ⟨rfl, hbn⟩
      replace E1 := E1.below hbn E1.lt
      replace E2 := E2.below hbn E2.lt
      replace FZ230 := FZ230.below hbn FZ230.lt
      replace FZ256 := FZ256.below hbn FZ256.lt
      replace HB := below_next HB hbn
      clear hbn
      refine hK.out _ _ ⟨E1, E2⟩ (fun hHeld2 => ?_)
      clear hK hHeld
      have hHeld := hHeld2
      clear hHeld2
      refine reg_take (i := 6) (d := 31) (.tuple #[edV (0) (0) (⟨#[]⟩), .bool false]) rfl rfl (by kernel_rfl) (by kernel_rfl) (by kernel_rfl) (fun _ _ _ h => h) (by rfl) (by intro wq hq; go_simp) (by assumption) ?_
      simp only [Act.put, List.setIfInBounds_toArray, List.set_cons_zero, List.set_cons_succ]
      refine reg_take (i := 7) (d := 38) (edV (0) (0) (⟨#[]⟩)) rfl rfl (by kernel_rfl) (by kernel_rfl) (by kernel_rfl) (fun _ _ _ h => h) (by rfl) (by intro wq hq; go_simp) (by assumption) ?_
      simp only [Act.put, List.setIfInBounds_toArray, List.set_cons_zero, List.set_cons_succ]
      refine reg_take (i := 8) (d := 39) (.bool false) rfl rfl (by kernel_rfl) (by kernel_rfl) (by kernel_rfl) (fun _ _ _ h => h) (by rfl) (by intro wq hq; go_simp) (by assumption) ?_
      simp only [Act.put, List.setIfInBounds_toArray, List.set_cons_zero, List.set_cons_succ]
      obtain ⟨z0, z1, z2⟩ := FZ256.cells
      have fz := FZ256.free

      refine wpAnyH_ready (rs := [10]) (by kernel_rfl) (by simp) ?_
      refine AllReadyH.cons rfl (fun K hK => ?_) AllReadyH.nil
      go_simp
      have k1 : EdAtL (((v259.setCell ⟨G255, 0, none⟩ (.int .i64 (0))).setCell ⟨G255, 1, none⟩ (.int .i64 (0))).setCell ⟨G255, 2, none⟩ (.string (⟨#[]⟩))) w.heap.size p c t := EdAtL.putO E1 (fun e => by subst e; exact edL_ne E1 FZ256) _ _ _
      have k2 : EdAtL (((v259.setCell ⟨G255, 0, none⟩ (.int .i64 (0))).setCell ⟨G255, 1, none⟩ (.int .i64 (0))).setCell ⟨G255, 2, none⟩ (.string (⟨#[]⟩))) (w.heap.size + 1) p2 c2 t2 := EdAtL.putO E2 (fun e => by subst e; exact edL_ne E2 FZ256) _ _ _
      have k_FZ230 : EdAt (((v259.setCell ⟨G255, 0, none⟩ (.int .i64 (0))).setCell ⟨G255, 1, none⟩ (.int .i64 (0))).setCell ⟨G255, 2, none⟩ (.string (⟨#[]⟩))) G229 (0) (0) (⟨#[]⟩) := FZ230.putO (by have := nG255; have := FZ230uG255; omega) _ _ _
      have k_FZ256 : EdAt (((v259.setCell ⟨G255, 0, none⟩ (.int .i64 (0))).setCell ⟨G255, 1, none⟩ (.int .i64 (0))).setCell ⟨G255, 2, none⟩ (.string (⟨#[]⟩))) G255 (0) (0) (⟨#[]⟩) := FZ256.put (0) (0) (⟨#[]⟩)
      have kB : Below w.heap.size w (((v259.setCell ⟨G255, 0, none⟩ (.int .i64 (0))).setCell ⟨G255, 1, none⟩ (.int .i64 (0))).setCell ⟨G255, 2, none⟩ (.string (⟨#[]⟩))) := below_putE (p := 0) (c := 0) (t := ⟨#[]⟩) HB nG255
      generalize (((v259.setCell ⟨G255, 0, none⟩ (.int .i64 (0))).setCell ⟨G255, 1, none⟩ (.int .i64 (0))).setCell ⟨G255, 2, none⟩ (.string (⟨#[]⟩))) = v260 at k1 k2 k_FZ230 k_FZ256 kB ⊢
      clear z0 z1 z2 fz E1 E2 HB hHeld FZ230 FZ256
      have E1 := k1
      have E2 := k2
      have HB := kB
      have FZ230 := k_FZ230
      have FZ256 := k_FZ256
      clear k1 k2 k_FZ230 k_FZ256 kB
      refine hK.out _ _ ⟨E1, E2⟩ (fun hHeld => ?_)
      clear hK
      refine reg_take (i := 11) (d := 11) (.bool false) rfl rfl (by kernel_rfl) (by kernel_rfl) (by kernel_rfl) (fun _ _ _ h => h) (by rfl) (by intro wq hq; go_simp) (by assumption) ?_
      simp only [Act.put, List.setIfInBounds_toArray, List.set_cons_zero, List.set_cons_succ]
      refine wpAnyH_done (by kernel_rfl) ?_ _
      clear hHeld
      obtain ⟨c0, c1, c2x⟩ := FZ230.cells
      obtain ⟨d0, d1, d2⟩ := FZ256.cells
      go_wp2_with fail
      refine (eqEdit_same _ _ _ _).mono ?_
      rintro e w9 ⟨rfl, hbn⟩
      go_wp2
      go_ret
      exact ⟨rfl, below_next HB hbn⟩
end Go.Proofs.Ythlamidlcbnchaa
