
/- The exact law of ShiftEdit. -/
import Derived.Test.YthlamidlcbnchaaEde
import Derived.Test.YthlamidlcbnchaaReg
namespace Go.Proofs.Ythlamidlcbnchaa
open Go.RowKit Go.WideShapes Go.ChangeShapes

theorem EdAtL.putO {w : World} {g g2 : Nat} {p c : Int} {t : ByteArray} (h : EdAtL w g p c t) (hne : g ≠ g2) (p' c' : Int) (t' : ByteArray) : EdAtL (putE w g2 p' c' t') g p c t := by
  unfold EdAtL putE at *
  repeat rw [heap_setCell_other _ _ g _ (by simpa using hne)]
  exact h
theorem edL_ne {w : World} {g : Nat} {p c p2 c2 : Int} {t t2 : ByteArray} (h : EdAtL w g p c t) (k : EdAt w g p2 c2 t2) : False := by
  unfold EdAtL at h
  unfold EdAt at k
  rw [h] at k
  injection k with k
  injection k with _ k _
  exact absurd k (by decide)
set_option maxHeartbeats 16000000 in
theorem exShift_some (p c : Int) (t : ByteArray) (p2 c2 : Int) (t2 : ByteArray) (many q : Int) (w : World) (wt : t.size ≤ maxLen) (wt2 : t2.size ≤ maxLen) (hbt : t.size ≤ 1048576) (hbt2 : (t2.size : Int) ≤ 1048576 - (t.size : Int)) (HS : Hid (shP p c t p2 c2 t2 many = some q)) :
    Calls Try.prog 13 #[edV p c t, edV p2 c2 t2, .int .i64 many] w fun e w' => e = .returned (.bool true) ∧ Below w.heap.size w w' := by
  unfold maxLen at wt wt2
  have E1 := (EdAtL.new w p c t).alloc (.cells #[.int .i64 p2, .int .i64 c2, .string t2] 40)
  have E2 := EdAtL.new (w.alloc (.cells #[.int .i64 p, .int .i64 c, .string t] 40)) p2 c2 t2
  rw [World.size_alloc] at E2
  have HB : Below w.heap.size w ((w.alloc (.cells #[.int .i64 p, .int .i64 c, .string t] 40)).alloc (.cells #[.int .i64 p2, .int .i64 c2, .string t2] 40)) := ((Below.refl _ _).alloc (Nat.le_refl _) _).alloc (by rw [World.size_alloc]; omega) _
  go_enter Try.func13, Try.ntmps13
  go_wp2_with fail
  generalize ((w.alloc (.cells #[.int .i64 p, .int .i64 c, .string t] 40)).alloc (.cells #[.int .i64 p2, .int .i64 c2, .string t2] 40)) = wA at E1 E2 HB ⊢
  obtain ⟨c0a, c0b, c0c⟩ := E1.cells
  obtain ⟨d0a, d0b, d0c⟩ := E2.cells
  refine (szEdit_yes p c 1048576 t _ (by omega) (by omega)).mono ?_
  rintro e w1 ⟨rfl, hbn⟩
  replace E1 := E1.below hbn E1.lt
  replace E2 := E2.below hbn E2.lt
  replace HB := below_next HB hbn
  clear hbn c0a c0b c0c d0a d0b d0c
  obtain ⟨c0a, c0b, c0c⟩ := E1.cells
  obtain ⟨d0a, d0b, d0c⟩ := E2.cells
  go_wp2_with fail
  refine (szEdit_yes p2 c2 (1048576 - (t.size : Int)) t2 _ hbt2 (by omega)).mono ?_
  rintro e w2 ⟨rfl, hbn⟩
  replace E1 := E1.below hbn E1.lt
  replace E2 := E2.below hbn E2.lt
  replace HB := below_next HB hbn
  clear hbn c0a c0b c0c d0a d0b d0c
  obtain ⟨c0a, c0b, c0c⟩ := E1.cells
  obtain ⟨d0a, d0b, d0c⟩ := E2.cells
  clear c0a c0b c0c d0a d0b d0c
  go_wp2_with fail
  obtain ⟨l0, l1, l2⟩ := E1.cells
  obtain ⟨m0, m1, m2⟩ := E2.cells
  refine wp_region_held_drew (S := fun wy => EdAtL wy w.heap.size p c t ∧ EdAtL wy (w.heap.size + 1) p2 c2 t2) (by kernel_rfl) (⟨E1, E2⟩) (fun hHeld => ?_)
  refine reg_take (i := 0) (d := 23) (edV p c t) rfl rfl (by kernel_rfl) (by kernel_rfl) (by kernel_rfl) (fun _ _ _ h => h) (by rfl) (by intro wq hq; obtain ⟨q0, q1, q2⟩ := hq.1.cells; obtain ⟨q3, q4, q5⟩ := hq.2.cells; go_simp) (by assumption) ?_
  simp only [Act.put, List.setIfInBounds_toArray, List.set_cons_zero, List.set_cons_succ]
  refine reg_take (i := 2) (d := 25) (edV p2 c2 t2) rfl rfl (by kernel_rfl) (by kernel_rfl) (by kernel_rfl) (fun _ _ _ h => h) (by rfl) (by intro wq hq; obtain ⟨q0, q1, q2⟩ := hq.1.cells; obtain ⟨q3, q4, q5⟩ := hq.2.cells; go_simp) (by assumption) ?_
  simp only [Act.put, List.setIfInBounds_toArray, List.set_cons_zero, List.set_cons_succ]
  refine reg_take (i := 4) (d := 27) (.int .i64 many) rfl rfl (by kernel_rfl) (by kernel_rfl) (by kernel_rfl) (fun _ _ _ h => h) (by rfl) (by intro wq hq; obtain ⟨q0, q1, q2⟩ := hq.1.cells; obtain ⟨q3, q4, q5⟩ := hq.2.cells; go_simp) (by assumption) ?_
  simp only [Act.put, List.setIfInBounds_toArray, List.set_cons_zero, List.set_cons_succ]
  clear l0 l1 l2 m0 m1 m2
  replace E1 : EdAtL w2.drew w.heap.size p c t := E1
  replace E2 : EdAtL w2.drew (w.heap.size + 1) p2 c2 t2 := E2
  replace HB : Below w.heap.size w w2.drew := HB.drew
  generalize w2.drew = v1 at E1 E2 HB hHeld ⊢
  refine wpAnyH_ready (rs := [1, 9]) (by kernel_rfl) (by simp) ?_
  refine AllReadyH.cons rfl (fun K hK => ?_) (AllReadyH.cons rfl (fun K hK => ?_) AllReadyH.nil)
  · skip
    go_simp
    refine (toEdit_any p c t v1).mono ?_
    rintro e v2 ⟨rfl, hbn⟩
    replace E1 := E1.below hbn E1.lt
    replace E2 := E2.below hbn E2.lt
    replace HB := below_next HB hbn
    clear hbn
    refine hK.out _ _ ⟨E1, E2⟩ (fun hHeld2 => ?_)
    clear hK hHeld
    have hHeld := hHeld2
    clear hHeld2
    refine wpAnyH_ready (rs := [3, 9]) (by kernel_rfl) (by simp) ?_
    refine AllReadyH.cons rfl (fun K hK => ?_) (AllReadyH.cons rfl (fun K hK => ?_) AllReadyH.nil)
    · skip
      go_simp
      refine (toEdit_any p2 c2 t2 v2).mono ?_
      rintro e v3 ⟨rfl, hbn⟩
      replace E1 := E1.below hbn E1.lt
      replace E2 := E2.below hbn E2.lt
      replace HB := below_next HB hbn
      clear hbn
      refine hK.out _ _ ⟨E1, E2⟩ (fun hHeld2 => ?_)
      clear hK hHeld
      have hHeld := hHeld2
      clear hHeld2
      refine wpAnyH_ready (rs := [5, 9]) (by kernel_rfl) (by simp) ?_
      refine AllReadyH.cons rfl (fun K hK => ?_) (AllReadyH.cons rfl (fun K hK => ?_) AllReadyH.nil)
      · skip
        go_simp
        refine (s_ShiftEdit_some p c t p2 c2 t2 many q v3 (by omega) (by omega) HS.out).mono ?_
        rintro e v4 ⟨rfl, hbn⟩
        replace E1 := E1.below hbn E1.lt
        replace E2 := E2.below hbn E2.lt
        replace HB := below_next HB hbn
        clear hbn
        refine hK.out _ _ ⟨E1, E2⟩ (fun hHeld2 => ?_)
        clear hK hHeld
        have hHeld := hHeld2
        clear hHeld2
        refine reg_take (i := 6) (d := 22) (.tuple #[edV (q) (c) (t), .bool true]) rfl rfl (by kernel_rfl) (by kernel_rfl) (by kernel_rfl) (fun _ _ _ h => h) (by rfl) (by intro wq hq; go_simp) (by assumption) ?_
        simp only [Act.put, List.setIfInBounds_toArray, List.set_cons_zero, List.set_cons_succ]
        refine reg_take (i := 7) (d := 29) (edV (q) (c) (t)) rfl rfl (by kernel_rfl) (by kernel_rfl) (by kernel_rfl) (fun _ _ _ h => h) (by rfl) (by intro wq hq; go_simp) (by assumption) ?_
        simp only [Act.put, List.setIfInBounds_toArray, List.set_cons_zero, List.set_cons_succ]
        refine reg_take (i := 8) (d := 30) (.bool true) rfl rfl (by kernel_rfl) (by kernel_rfl) (by kernel_rfl) (fun _ _ _ h => h) (by rfl) (by intro wq hq; go_simp) (by assumption) ?_
        simp only [Act.put, List.setIfInBounds_toArray, List.set_cons_zero, List.set_cons_succ]
        refine wpAnyH_ready (rs := [9]) (by kernel_rfl) (by simp) ?_
        refine AllReadyH.cons rfl (fun K hK => ?_) AllReadyH.nil
        go_simp
        have hwl0 := E1.lt
        replace E1 := E1.alloc (.cells #[.int .i64 0, .int .i64 0, .string ⟨#[]⟩] 24)
        replace E2 := E2.alloc (.cells #[.int .i64 0, .int .i64 0, .string ⟨#[]⟩] 24)
        have FZ7 := EdAt.new v4 0 0 ⟨#[]⟩
        replace HB := HB.alloc HB.size (.cells #[.int .i64 0, .int .i64 0, .string ⟨#[]⟩] 24)
        have nG6 : w.heap.size ≤ v4.heap.size := Nat.le_of_lt hwl0
        generalize (v4.alloc (.cells #[.int .i64 0, .int .i64 0, .string ⟨#[]⟩] 24)) = v5 at E1 E2 FZ7 HB ⊢
        generalize v4.heap.size = G6 at FZ7 nG6  ⊢
        clear hwl0 
        refine hK.out _ _ ⟨E1, E2⟩ (fun hHeld2 => ?_)
        clear hK hHeld
        have hHeld := hHeld2
        clear hHeld2
        obtain ⟨z0, z1, z2⟩ := FZ7.cells
        have fz := FZ7.free

        refine wpAnyH_ready (rs := [10]) (by kernel_rfl) (by simp) ?_
        refine AllReadyH.cons rfl (fun K hK => ?_) AllReadyH.nil
        go_simp
        have k1 : EdAtL (((v5.setCell ⟨G6, 0, none⟩ (.int .i64 (q))).setCell ⟨G6, 1, none⟩ (.int .i64 (c))).setCell ⟨G6, 2, none⟩ (.string (t))) w.heap.size p c t := EdAtL.putO E1 (fun e => by subst e; exact edL_ne E1 FZ7) _ _ _
        have k2 : EdAtL (((v5.setCell ⟨G6, 0, none⟩ (.int .i64 (q))).setCell ⟨G6, 1, none⟩ (.int .i64 (c))).setCell ⟨G6, 2, none⟩ (.string (t))) (w.heap.size + 1) p2 c2 t2 := EdAtL.putO E2 (fun e => by subst e; exact edL_ne E2 FZ7) _ _ _
        have k_FZ7 : EdAt (((v5.setCell ⟨G6, 0, none⟩ (.int .i64 (q))).setCell ⟨G6, 1, none⟩ (.int .i64 (c))).setCell ⟨G6, 2, none⟩ (.string (t))) G6 (q) (c) (t) := FZ7.put (q) (c) (t)
        have kB : Below w.heap.size w (((v5.setCell ⟨G6, 0, none⟩ (.int .i64 (q))).setCell ⟨G6, 1, none⟩ (.int .i64 (c))).setCell ⟨G6, 2, none⟩ (.string (t))) := below_putE (p := q) (c := c) (t := t) HB nG6
        generalize (((v5.setCell ⟨G6, 0, none⟩ (.int .i64 (q))).setCell ⟨G6, 1, none⟩ (.int .i64 (c))).setCell ⟨G6, 2, none⟩ (.string (t))) = v8 at k1 k2 k_FZ7 kB ⊢
        clear z0 z1 z2 fz E1 E2 HB hHeld FZ7
        have E1 := k1
        have E2 := k2
        have HB := kB
        have FZ7 := k_FZ7
        clear k1 k2 k_FZ7 kB
        refine hK.out _ _ ⟨E1, E2⟩ (fun hHeld => ?_)
        clear hK
        refine reg_take (i := 11) (d := 9) (.bool true) rfl rfl (by kernel_rfl) (by kernel_rfl) (by kernel_rfl) (fun _ _ _ h => h) (by rfl) (by intro wq hq; go_simp) (by assumption) ?_
        simp only [Act.put, List.setIfInBounds_toArray, List.set_cons_zero, List.set_cons_succ]
        refine wpAnyH_done (by kernel_rfl) ?_ _
        clear hHeld
        go_wp2_with fail
        obtain ⟨l0, l1, l2⟩ := E1.cells
        obtain ⟨m0, m1, m2⟩ := E2.cells
        refine wp_region_held_drew (S := fun wy => EdAtL wy w.heap.size p c t ∧ EdAtL wy (w.heap.size + 1) p2 c2 t2) (by kernel_rfl) (⟨E1, E2⟩) (fun hHeld => ?_)
        refine reg_take (i := 0) (d := 32) (edV p c t) rfl rfl (by kernel_rfl) (by kernel_rfl) (by kernel_rfl) (fun _ _ _ h => h) (by rfl) (by intro wq hq; obtain ⟨q0, q1, q2⟩ := hq.1.cells; obtain ⟨q3, q4, q5⟩ := hq.2.cells; go_simp) (by assumption) ?_
        simp only [Act.put, List.setIfInBounds_toArray, List.set_cons_zero, List.set_cons_succ]
        refine reg_take (i := 2) (d := 34) (edV p2 c2 t2) rfl rfl (by kernel_rfl) (by kernel_rfl) (by kernel_rfl) (fun _ _ _ h => h) (by rfl) (by intro wq hq; obtain ⟨q0, q1, q2⟩ := hq.1.cells; obtain ⟨q3, q4, q5⟩ := hq.2.cells; go_simp) (by assumption) ?_
        simp only [Act.put, List.setIfInBounds_toArray, List.set_cons_zero, List.set_cons_succ]
        refine reg_take (i := 4) (d := 36) (.int .i64 many) rfl rfl (by kernel_rfl) (by kernel_rfl) (by kernel_rfl) (fun _ _ _ h => h) (by rfl) (by intro wq hq; obtain ⟨q0, q1, q2⟩ := hq.1.cells; obtain ⟨q3, q4, q5⟩ := hq.2.cells; go_simp) (by assumption) ?_
        simp only [Act.put, List.setIfInBounds_toArray, List.set_cons_zero, List.set_cons_succ]
        clear l0 l1 l2 m0 m1 m2
        replace E1 : EdAtL v8.drew w.heap.size p c t := E1
        replace E2 : EdAtL v8.drew (w.heap.size + 1) p2 c2 t2 := E2
        replace FZ7 : EdAt v8.drew G6 (q) (c) (t) := FZ7
        replace HB : Below w.heap.size w v8.drew := HB.drew
        generalize v8.drew = v9 at E1 E2 FZ7 HB hHeld ⊢
        refine wpAnyH_ready (rs := [1, 9]) (by kernel_rfl) (by simp) ?_
        refine AllReadyH.cons rfl (fun K hK => ?_) (AllReadyH.cons rfl (fun K hK => ?_) AllReadyH.nil)
        · skip
          go_simp
          refine (toEdit_any p c t v9).mono ?_
          rintro e v10 ⟨rfl, hbn⟩
          replace E1 := E1.below hbn E1.lt
          replace E2 := E2.below hbn E2.lt
          replace FZ7 := FZ7.below hbn FZ7.lt
          replace HB := below_next HB hbn
          clear hbn
          refine hK.out _ _ ⟨E1, E2⟩ (fun hHeld2 => ?_)
          clear hK hHeld
          have hHeld := hHeld2
          clear hHeld2
          refine wpAnyH_ready (rs := [3, 9]) (by kernel_rfl) (by simp) ?_
          refine AllReadyH.cons rfl (fun K hK => ?_) (AllReadyH.cons rfl (fun K hK => ?_) AllReadyH.nil)
          · skip
            go_simp
            refine (toEdit_any p2 c2 t2 v10).mono ?_
            rintro e v11 ⟨rfl, hbn⟩
            replace E1 := E1.below hbn E1.lt
            replace E2 := E2.below hbn E2.lt
            replace FZ7 := FZ7.below hbn FZ7.lt
            replace HB := below_next HB hbn
            clear hbn
            refine hK.out _ _ ⟨E1, E2⟩ (fun hHeld2 => ?_)
            clear hK hHeld
            have hHeld := hHeld2
            clear hHeld2
            refine wpAnyH_ready (rs := [5, 9]) (by kernel_rfl) (by simp) ?_
            refine AllReadyH.cons rfl (fun K hK => ?_) (AllReadyH.cons rfl (fun K hK => ?_) AllReadyH.nil)
            · skip
              go_simp
              refine (i_ShiftEdit_some p c t p2 c2 t2 many q v11 (by omega) (by omega) HS.out).mono ?_
              rintro e v12 ⟨rfl, hbn⟩
              replace E1 := E1.below hbn E1.lt
              replace E2 := E2.below hbn E2.lt
              replace FZ7 := FZ7.below hbn FZ7.lt
              replace HB := below_next HB hbn
              clear hbn
              refine hK.out _ _ ⟨E1, E2⟩ (fun hHeld2 => ?_)
              clear hK hHeld
              have hHeld := hHeld2
              clear hHeld2
              refine reg_take (i := 6) (d := 31) (.tuple #[edV (q) (c) (t), .bool true]) rfl rfl (by kernel_rfl) (by kernel_rfl) (by kernel_rfl) (fun _ _ _ h => h) (by rfl) (by intro wq hq; go_simp) (by assumption) ?_
              simp only [Act.put, List.setIfInBounds_toArray, List.set_cons_zero, List.set_cons_succ]
              refine reg_take (i := 7) (d := 38) (edV (q) (c) (t)) rfl rfl (by kernel_rfl) (by kernel_rfl) (by kernel_rfl) (fun _ _ _ h => h) (by rfl) (by intro wq hq; go_simp) (by assumption) ?_
              simp only [Act.put, List.setIfInBounds_toArray, List.set_cons_zero, List.set_cons_succ]
              refine reg_take (i := 8) (d := 39) (.bool true) rfl rfl (by kernel_rfl) (by kernel_rfl) (by kernel_rfl) (fun _ _ _ h => h) (by rfl) (by intro wq hq; go_simp) (by assumption) ?_
              simp only [Act.put, List.setIfInBounds_toArray, List.set_cons_zero, List.set_cons_succ]
              refine wpAnyH_ready (rs := [9]) (by kernel_rfl) (by simp) ?_
              refine AllReadyH.cons rfl (fun K hK => ?_) AllReadyH.nil
              go_simp
              have hwl0 := E1.lt
              have hl_FZ7 := FZ7.lt
              replace E1 := E1.alloc (.cells #[.int .i64 0, .int .i64 0, .string ⟨#[]⟩] 24)
              replace E2 := E2.alloc (.cells #[.int .i64 0, .int .i64 0, .string ⟨#[]⟩] 24)
              replace FZ7 := FZ7.alloc (.cells #[.int .i64 0, .int .i64 0, .string ⟨#[]⟩] 24)
              have FZ15 := EdAt.new v12 0 0 ⟨#[]⟩
              replace HB := HB.alloc HB.size (.cells #[.int .i64 0, .int .i64 0, .string ⟨#[]⟩] 24)
              have nG14 : w.heap.size ≤ v12.heap.size := Nat.le_of_lt hwl0
              have FZ7uG14 : G6 < v12.heap.size := hl_FZ7
              generalize (v12.alloc (.cells #[.int .i64 0, .int .i64 0, .string ⟨#[]⟩] 24)) = v13 at E1 E2 FZ7 FZ15 HB ⊢
              generalize v12.heap.size = G14 at FZ15 nG14 FZ7uG14 ⊢
              clear hwl0 hl_FZ7
              refine hK.out _ _ ⟨E1, E2⟩ (fun hHeld2 => ?_)
              clear hK hHeld
              have hHeld := hHeld2
              clear hHeld2
              obtain ⟨z0, z1, z2⟩ := FZ15.cells
              have fz := FZ15.free

              refine wpAnyH_ready (rs := [10]) (by kernel_rfl) (by simp) ?_
              refine AllReadyH.cons rfl (fun K hK => ?_) AllReadyH.nil
              go_simp
              have k1 : EdAtL (((v13.setCell ⟨G14, 0, none⟩ (.int .i64 (q))).setCell ⟨G14, 1, none⟩ (.int .i64 (c))).setCell ⟨G14, 2, none⟩ (.string (t))) w.heap.size p c t := EdAtL.putO E1 (fun e => by subst e; exact edL_ne E1 FZ15) _ _ _
              have k2 : EdAtL (((v13.setCell ⟨G14, 0, none⟩ (.int .i64 (q))).setCell ⟨G14, 1, none⟩ (.int .i64 (c))).setCell ⟨G14, 2, none⟩ (.string (t))) (w.heap.size + 1) p2 c2 t2 := EdAtL.putO E2 (fun e => by subst e; exact edL_ne E2 FZ15) _ _ _
              have k_FZ7 : EdAt (((v13.setCell ⟨G14, 0, none⟩ (.int .i64 (q))).setCell ⟨G14, 1, none⟩ (.int .i64 (c))).setCell ⟨G14, 2, none⟩ (.string (t))) G6 (q) (c) (t) := FZ7.putO (by have := nG14; have := FZ7uG14; omega) _ _ _
              have k_FZ15 : EdAt (((v13.setCell ⟨G14, 0, none⟩ (.int .i64 (q))).setCell ⟨G14, 1, none⟩ (.int .i64 (c))).setCell ⟨G14, 2, none⟩ (.string (t))) G14 (q) (c) (t) := FZ15.put (q) (c) (t)
              have kB : Below w.heap.size w (((v13.setCell ⟨G14, 0, none⟩ (.int .i64 (q))).setCell ⟨G14, 1, none⟩ (.int .i64 (c))).setCell ⟨G14, 2, none⟩ (.string (t))) := below_putE (p := q) (c := c) (t := t) HB nG14
              generalize (((v13.setCell ⟨G14, 0, none⟩ (.int .i64 (q))).setCell ⟨G14, 1, none⟩ (.int .i64 (c))).setCell ⟨G14, 2, none⟩ (.string (t))) = v16 at k1 k2 k_FZ7 k_FZ15 kB ⊢
              clear z0 z1 z2 fz E1 E2 HB hHeld FZ7 FZ15
              have E1 := k1
              have E2 := k2
              have HB := kB
              have FZ7 := k_FZ7
              have FZ15 := k_FZ15
              clear k1 k2 k_FZ7 k_FZ15 kB
              refine hK.out _ _ ⟨E1, E2⟩ (fun hHeld => ?_)
              clear hK
              refine reg_take (i := 11) (d := 11) (.bool true) rfl rfl (by kernel_rfl) (by kernel_rfl) (by kernel_rfl) (fun _ _ _ h => h) (by rfl) (by intro wq hq; go_simp) (by assumption) ?_
              simp only [Act.put, List.setIfInBounds_toArray, List.set_cons_zero, List.set_cons_succ]
              refine wpAnyH_done (by kernel_rfl) ?_ _
              clear hHeld
              obtain ⟨c0, c1, c2x⟩ := FZ7.cells
              obtain ⟨d0, d1, d2⟩ := FZ15.cells
              go_wp2_with fail
              refine (eqEdit_same _ _ _ _).mono ?_
              rintro e w9 ⟨rfl, hbn⟩
              go_wp2
              go_ret
              exact ⟨rfl, below_next HB hbn⟩
            · skip
              go_simp
              have hwl0 := E1.lt
              have hl_FZ7 := FZ7.lt
              replace E1 := E1.alloc (.cells #[.int .i64 0, .int .i64 0, .string ⟨#[]⟩] 24)
              replace E2 := E2.alloc (.cells #[.int .i64 0, .int .i64 0, .string ⟨#[]⟩] 24)
              replace FZ7 := FZ7.alloc (.cells #[.int .i64 0, .int .i64 0, .string ⟨#[]⟩] 24)
              have FZ19 := EdAt.new v11 0 0 ⟨#[]⟩
              replace HB := HB.alloc HB.size (.cells #[.int .i64 0, .int .i64 0, .string ⟨#[]⟩] 24)
              have nG18 : w.heap.size ≤ v11.heap.size := Nat.le_of_lt hwl0
              have FZ7uG18 : G6 < v11.heap.size := hl_FZ7
              generalize (v11.alloc (.cells #[.int .i64 0, .int .i64 0, .string ⟨#[]⟩] 24)) = v17 at E1 E2 FZ7 FZ19 HB ⊢
              generalize v11.heap.size = G18 at FZ19 nG18 FZ7uG18 ⊢
              clear hwl0 hl_FZ7
              refine hK.out _ _ ⟨E1, E2⟩ (fun hHeld2 => ?_)
              clear hK hHeld
              have hHeld := hHeld2
              clear hHeld2
              refine wpAnyH_ready (rs := [5]) (by kernel_rfl) (by simp) ?_
              refine AllReadyH.cons rfl (fun K hK => ?_) AllReadyH.nil
              go_simp
              refine (i_ShiftEdit_some p c t p2 c2 t2 many q v17 (by omega) (by omega) HS.out).mono ?_
              rintro e v20 ⟨rfl, hbn⟩
              replace E1 := E1.below hbn E1.lt
              replace E2 := E2.below hbn E2.lt
              replace FZ7 := FZ7.below hbn FZ7.lt
              replace FZ19 := FZ19.below hbn FZ19.lt
              replace HB := below_next HB hbn
              clear hbn
              refine hK.out _ _ ⟨E1, E2⟩ (fun hHeld2 => ?_)
              clear hK hHeld
              have hHeld := hHeld2
              clear hHeld2
              refine reg_take (i := 6) (d := 31) (.tuple #[edV (q) (c) (t), .bool true]) rfl rfl (by kernel_rfl) (by kernel_rfl) (by kernel_rfl) (fun _ _ _ h => h) (by rfl) (by intro wq hq; go_simp) (by assumption) ?_
              simp only [Act.put, List.setIfInBounds_toArray, List.set_cons_zero, List.set_cons_succ]
              refine reg_take (i := 7) (d := 38) (edV (q) (c) (t)) rfl rfl (by kernel_rfl) (by kernel_rfl) (by kernel_rfl) (fun _ _ _ h => h) (by rfl) (by intro wq hq; go_simp) (by assumption) ?_
              simp only [Act.put, List.setIfInBounds_toArray, List.set_cons_zero, List.set_cons_succ]
              refine reg_take (i := 8) (d := 39) (.bool true) rfl rfl (by kernel_rfl) (by kernel_rfl) (by kernel_rfl) (fun _ _ _ h => h) (by rfl) (by intro wq hq; go_simp) (by assumption) ?_
              simp only [Act.put, List.setIfInBounds_toArray, List.set_cons_zero, List.set_cons_succ]
              obtain ⟨z0, z1, z2⟩ := FZ19.cells
              have fz := FZ19.free

              refine wpAnyH_ready (rs := [10]) (by kernel_rfl) (by simp) ?_
              refine AllReadyH.cons rfl (fun K hK => ?_) AllReadyH.nil
              go_simp
              have k1 : EdAtL (((v20.setCell ⟨G18, 0, none⟩ (.int .i64 (q))).setCell ⟨G18, 1, none⟩ (.int .i64 (c))).setCell ⟨G18, 2, none⟩ (.string (t))) w.heap.size p c t := EdAtL.putO E1 (fun e => by subst e; exact edL_ne E1 FZ19) _ _ _
              have k2 : EdAtL (((v20.setCell ⟨G18, 0, none⟩ (.int .i64 (q))).setCell ⟨G18, 1, none⟩ (.int .i64 (c))).setCell ⟨G18, 2, none⟩ (.string (t))) (w.heap.size + 1) p2 c2 t2 := EdAtL.putO E2 (fun e => by subst e; exact edL_ne E2 FZ19) _ _ _
              have k_FZ7 : EdAt (((v20.setCell ⟨G18, 0, none⟩ (.int .i64 (q))).setCell ⟨G18, 1, none⟩ (.int .i64 (c))).setCell ⟨G18, 2, none⟩ (.string (t))) G6 (q) (c) (t) := FZ7.putO (by have := nG18; have := FZ7uG18; omega) _ _ _
              have k_FZ19 : EdAt (((v20.setCell ⟨G18, 0, none⟩ (.int .i64 (q))).setCell ⟨G18, 1, none⟩ (.int .i64 (c))).setCell ⟨G18, 2, none⟩ (.string (t))) G18 (q) (c) (t) := FZ19.put (q) (c) (t)
              have kB : Below w.heap.size w (((v20.setCell ⟨G18, 0, none⟩ (.int .i64 (q))).setCell ⟨G18, 1, none⟩ (.int .i64 (c))).setCell ⟨G18, 2, none⟩ (.string (t))) := below_putE (p := q) (c := c) (t := t) HB nG18
              generalize (((v20.setCell ⟨G18, 0, none⟩ (.int .i64 (q))).setCell ⟨G18, 1, none⟩ (.int .i64 (c))).setCell ⟨G18, 2, none⟩ (.string (t))) = v21 at k1 k2 k_FZ7 k_FZ19 kB ⊢
              clear z0 z1 z2 fz E1 E2 HB hHeld FZ7 FZ19
              have E1 := k1
              have E2 := k2
              have HB := kB
              have FZ7 := k_FZ7
              have FZ19 := k_FZ19
              clear k1 k2 k_FZ7 k_FZ19 kB
              refine hK.out _ _ ⟨E1, E2⟩ (fun hHeld => ?_)
              clear hK
              refine reg_take (i := 11) (d := 11) (.bool true) rfl rfl (by kernel_rfl) (by kernel_rfl) (by kernel_rfl) (fun _ _ _ h => h) (by rfl) (by intro wq hq; go_simp) (by assumption) ?_
              simp only [Act.put, List.setIfInBounds_toArray, List.set_cons_zero, List.set_cons_succ]
              refine wpAnyH_done (by kernel_rfl) ?_ _
              clear hHeld
              obtain ⟨c0, c1, c2x⟩ := FZ7.cells
              obtain ⟨d0, d1, d2⟩ := FZ19.cells
              go_wp2_with fail
              refine (eqEdit_same _ _ _ _).mono ?_
              rintro e w9 ⟨rfl, hbn⟩
              go_wp2
              go_ret
              exact ⟨rfl, below_next HB hbn⟩
          · skip
            go_simp
            have hwl0 := E1.lt
            have hl_FZ7 := FZ7.lt
            replace E1 := E1.alloc (.cells #[.int .i64 0, .int .i64 0, .string ⟨#[]⟩] 24)
            replace E2 := E2.alloc (.cells #[.int .i64 0, .int .i64 0, .string ⟨#[]⟩] 24)
            replace FZ7 := FZ7.alloc (.cells #[.int .i64 0, .int .i64 0, .string ⟨#[]⟩] 24)
            have FZ24 := EdAt.new v10 0 0 ⟨#[]⟩
            replace HB := HB.alloc HB.size (.cells #[.int .i64 0, .int .i64 0, .string ⟨#[]⟩] 24)
            have nG23 : w.heap.size ≤ v10.heap.size := Nat.le_of_lt hwl0
            have FZ7uG23 : G6 < v10.heap.size := hl_FZ7
            generalize (v10.alloc (.cells #[.int .i64 0, .int .i64 0, .string ⟨#[]⟩] 24)) = v22 at E1 E2 FZ7 FZ24 HB ⊢
            generalize v10.heap.size = G23 at FZ24 nG23 FZ7uG23 ⊢
            clear hwl0 hl_FZ7
            refine hK.out _ _ ⟨E1, E2⟩ (fun hHeld2 => ?_)
            clear hK hHeld
            have hHeld := hHeld2
            clear hHeld2
            refine wpAnyH_ready (rs := [3]) (by kernel_rfl) (by simp) ?_
            refine AllReadyH.cons rfl (fun K hK => ?_) AllReadyH.nil
            go_simp
            refine (toEdit_any p2 c2 t2 v22).mono ?_
            rintro e v25 ⟨rfl, hbn⟩
            replace E1 := E1.below hbn E1.lt
            replace E2 := E2.below hbn E2.lt
            replace FZ7 := FZ7.below hbn FZ7.lt
            replace FZ24 := FZ24.below hbn FZ24.lt
            replace HB := below_next HB hbn
            clear hbn
            refine hK.out _ _ ⟨E1, E2⟩ (fun hHeld2 => ?_)
            clear hK hHeld
            have hHeld := hHeld2
            clear hHeld2
            refine wpAnyH_ready (rs := [5]) (by kernel_rfl) (by simp) ?_
            refine AllReadyH.cons rfl (fun K hK => ?_) AllReadyH.nil
            go_simp
            refine (i_ShiftEdit_some p c t p2 c2 t2 many q v25 (by omega) (by omega) HS.out).mono ?_
            rintro e v26 ⟨rfl, hbn⟩
            replace E1 := E1.below hbn E1.lt
            replace E2 := E2.below hbn E2.lt
            replace FZ7 := FZ7.below hbn FZ7.lt
            replace FZ24 := FZ24.below hbn FZ24.lt
            replace HB := below_next HB hbn
            clear hbn
            refine hK.out _ _ ⟨E1, E2⟩ (fun hHeld2 => ?_)
            clear hK hHeld
            have hHeld := hHeld2
            clear hHeld2
            refine reg_take (i := 6) (d := 31) (.tuple #[edV (q) (c) (t), .bool true]) rfl rfl (by kernel_rfl) (by kernel_rfl) (by kernel_rfl) (fun _ _ _ h => h) (by rfl) (by intro wq hq; go_simp) (by assumption) ?_
            simp only [Act.put, List.setIfInBounds_toArray, List.set_cons_zero, List.set_cons_succ]
            refine reg_take (i := 7) (d := 38) (edV (q) (c) (t)) rfl rfl (by kernel_rfl) (by kernel_rfl) (by kernel_rfl) (fun _ _ _ h => h) (by rfl) (by intro wq hq; go_simp) (by assumption) ?_
            simp only [Act.put, List.setIfInBounds_toArray, List.set_cons_zero, List.set_cons_succ]
            refine reg_take (i := 8) (d := 39) (.bool true) rfl rfl (by kernel_rfl) (by kernel_rfl) (by kernel_rfl) (fun _ _ _ h => h) (by rfl) (by intro wq hq; go_simp) (by assumption) ?_
            simp only [Act.put, List.setIfInBounds_toArray, List.set_cons_zero, List.set_cons_succ]
            obtain ⟨z0, z1, z2⟩ := FZ24.cells
            have fz := FZ24.free

            refine wpAnyH_ready (rs := [10]) (by kernel_rfl) (by simp) ?_
            refine AllReadyH.cons rfl (fun K hK => ?_) AllReadyH.nil
            go_simp
            have k1 : EdAtL (((v26.setCell ⟨G23, 0, none⟩ (.int .i64 (q))).setCell ⟨G23, 1, none⟩ (.int .i64 (c))).setCell ⟨G23, 2, none⟩ (.string (t))) w.heap.size p c t := EdAtL.putO E1 (fun e => by subst e; exact edL_ne E1 FZ24) _ _ _
            have k2 : EdAtL (((v26.setCell ⟨G23, 0, none⟩ (.int .i64 (q))).setCell ⟨G23, 1, none⟩ (.int .i64 (c))).setCell ⟨G23, 2, none⟩ (.string (t))) (w.heap.size + 1) p2 c2 t2 := EdAtL.putO E2 (fun e => by subst e; exact edL_ne E2 FZ24) _ _ _
            have k_FZ7 : EdAt (((v26.setCell ⟨G23, 0, none⟩ (.int .i64 (q))).setCell ⟨G23, 1, none⟩ (.int .i64 (c))).setCell ⟨G23, 2, none⟩ (.string (t))) G6 (q) (c) (t) := FZ7.putO (by have := nG23; have := FZ7uG23; omega) _ _ _
            have k_FZ24 : EdAt (((v26.setCell ⟨G23, 0, none⟩ (.int .i64 (q))).setCell ⟨G23, 1, none⟩ (.int .i64 (c))).setCell ⟨G23, 2, none⟩ (.string (t))) G23 (q) (c) (t) := FZ24.put (q) (c) (t)
            have kB : Below w.heap.size w (((v26.setCell ⟨G23, 0, none⟩ (.int .i64 (q))).setCell ⟨G23, 1, none⟩ (.int .i64 (c))).setCell ⟨G23, 2, none⟩ (.string (t))) := below_putE (p := q) (c := c) (t := t) HB nG23
            generalize (((v26.setCell ⟨G23, 0, none⟩ (.int .i64 (q))).setCell ⟨G23, 1, none⟩ (.int .i64 (c))).setCell ⟨G23, 2, none⟩ (.string (t))) = v27 at k1 k2 k_FZ7 k_FZ24 kB ⊢
            clear z0 z1 z2 fz E1 E2 HB hHeld FZ7 FZ24
            have E1 := k1
            have E2 := k2
            have HB := kB
            have FZ7 := k_FZ7
            have FZ24 := k_FZ24
            clear k1 k2 k_FZ7 k_FZ24 kB
            refine hK.out _ _ ⟨E1, E2⟩ (fun hHeld => ?_)
            clear hK
            refine reg_take (i := 11) (d := 11) (.bool true) rfl rfl (by kernel_rfl) (by kernel_rfl) (by kernel_rfl) (fun _ _ _ h => h) (by rfl) (by intro wq hq; go_simp) (by assumption) ?_
            simp only [Act.put, List.setIfInBounds_toArray, List.set_cons_zero, List.set_cons_succ]
            refine wpAnyH_done (by kernel_rfl) ?_ _
            clear hHeld
            obtain ⟨c0, c1, c2x⟩ := FZ7.cells
            obtain ⟨d0, d1, d2⟩ := FZ24.cells
            go_wp2_with fail
            refine (eqEdit_same _ _ _ _).mono ?_
            rintro e w9 ⟨rfl, hbn⟩
            go_wp2
            go_ret
            exact ⟨rfl, below_next HB hbn⟩
        · skip
          go_simp
          have hwl0 := E1.lt
          have hl_FZ7 := FZ7.lt
          replace E1 := E1.alloc (.cells #[.int .i64 0, .int .i64 0, .string ⟨#[]⟩] 24)
          replace E2 := E2.alloc (.cells #[.int .i64 0, .int .i64 0, .string ⟨#[]⟩] 24)
          replace FZ7 := FZ7.alloc (.cells #[.int .i64 0, .int .i64 0, .string ⟨#[]⟩] 24)
          have FZ30 := EdAt.new v9 0 0 ⟨#[]⟩
          replace HB := HB.alloc HB.size (.cells #[.int .i64 0, .int .i64 0, .string ⟨#[]⟩] 24)
          have nG29 : w.heap.size ≤ v9.heap.size := Nat.le_of_lt hwl0
          have FZ7uG29 : G6 < v9.heap.size := hl_FZ7
          generalize (v9.alloc (.cells #[.int .i64 0, .int .i64 0, .string ⟨#[]⟩] 24)) = v28 at E1 E2 FZ7 FZ30 HB ⊢
          generalize v9.heap.size = G29 at FZ30 nG29 FZ7uG29 ⊢
          clear hwl0 hl_FZ7
          refine hK.out _ _ ⟨E1, E2⟩ (fun hHeld2 => ?_)
          clear hK hHeld
          have hHeld := hHeld2
          clear hHeld2
          refine wpAnyH_ready (rs := [1]) (by kernel_rfl) (by simp) ?_
          refine AllReadyH.cons rfl (fun K hK => ?_) AllReadyH.nil
          go_simp
          refine (toEdit_any p c t v28).mono ?_
          rintro e v31 ⟨rfl, hbn⟩
          replace E1 := E1.below hbn E1.lt
          replace E2 := E2.below hbn E2.lt
          replace FZ7 := FZ7.below hbn FZ7.lt
          replace FZ30 := FZ30.below hbn FZ30.lt
          replace HB := below_next HB hbn
          clear hbn
          refine hK.out _ _ ⟨E1, E2⟩ (fun hHeld2 => ?_)
          clear hK hHeld
          have hHeld := hHeld2
          clear hHeld2
          refine wpAnyH_ready (rs := [3]) (by kernel_rfl) (by simp) ?_
          refine AllReadyH.cons rfl (fun K hK => ?_) AllReadyH.nil
          go_simp
          refine (toEdit_any p2 c2 t2 v31).mono ?_
          rintro e v32 ⟨rfl, hbn⟩
          replace E1 := E1.below hbn E1.lt
          replace E2 := E2.below hbn E2.lt
          replace FZ7 := FZ7.below hbn FZ7.lt
          replace FZ30 := FZ30.below hbn FZ30.lt
          replace HB := below_next HB hbn
          clear hbn
          refine hK.out _ _ ⟨E1, E2⟩ (fun hHeld2 => ?_)
          clear hK hHeld
          have hHeld := hHeld2
          clear hHeld2
          refine wpAnyH_ready (rs := [5]) (by kernel_rfl) (by simp) ?_
          refine AllReadyH.cons rfl (fun K hK => ?_) AllReadyH.nil
          go_simp
          refine (i_ShiftEdit_some p c t p2 c2 t2 many q v32 (by omega) (by omega) HS.out).mono ?_
          rintro e v33 ⟨rfl, hbn⟩
          replace E1 := E1.below hbn E1.lt
          replace E2 := E2.below hbn E2.lt
          replace FZ7 := FZ7.below hbn FZ7.lt
          replace FZ30 := FZ30.below hbn FZ30.lt
          replace HB := below_next HB hbn
          clear hbn
          refine hK.out _ _ ⟨E1, E2⟩ (fun hHeld2 => ?_)
          clear hK hHeld
          have hHeld := hHeld2
          clear hHeld2
          refine reg_take (i := 6) (d := 31) (.tuple #[edV (q) (c) (t), .bool true]) rfl rfl (by kernel_rfl) (by kernel_rfl) (by kernel_rfl) (fun _ _ _ h => h) (by rfl) (by intro wq hq; go_simp) (by assumption) ?_
          simp only [Act.put, List.setIfInBounds_toArray, List.set_cons_zero, List.set_cons_succ]
          refine reg_take (i := 7) (d := 38) (edV (q) (c) (t)) rfl rfl (by kernel_rfl) (by kernel_rfl) (by kernel_rfl) (fun _ _ _ h => h) (by rfl) (by intro wq hq; go_simp) (by assumption) ?_
          simp only [Act.put, List.setIfInBounds_toArray, List.set_cons_zero, List.set_cons_succ]
          refine reg_take (i := 8) (d := 39) (.bool true) rfl rfl (by kernel_rfl) (by kernel_rfl) (by kernel_rfl) (fun _ _ _ h => h) (by rfl) (by intro wq hq; go_simp) (by assumption) ?_
          simp only [Act.put, List.setIfInBounds_toArray, List.set_cons_zero, List.set_cons_succ]
          obtain ⟨z0, z1, z2⟩ := FZ30.cells
          have fz := FZ30.free

          refine wpAnyH_ready (rs := [10]) (by kernel_rfl) (by simp) ?_
          refine AllReadyH.cons rfl (fun K hK => ?_) AllReadyH.nil
          go_simp
          have k1 : EdAtL (((v33.setCell ⟨G29, 0, none⟩ (.int .i64 (q))).setCell ⟨G29, 1, none⟩ (.int .i64 (c))).setCell ⟨G29, 2, none⟩ (.string (t))) w.heap.size p c t := EdAtL.putO E1 (fun e => by subst e; exact edL_ne E1 FZ30) _ _ _
          have k2 : EdAtL (((v33.setCell ⟨G29, 0, none⟩ (.int .i64 (q))).setCell ⟨G29, 1, none⟩ (.int .i64 (c))).setCell ⟨G29, 2, none⟩ (.string (t))) (w.heap.size + 1) p2 c2 t2 := EdAtL.putO E2 (fun e => by subst e; exact edL_ne E2 FZ30) _ _ _
          have k_FZ7 : EdAt (((v33.setCell ⟨G29, 0, none⟩ (.int .i64 (q))).setCell ⟨G29, 1, none⟩ (.int .i64 (c))).setCell ⟨G29, 2, none⟩ (.string (t))) G6 (q) (c) (t) := FZ7.putO (by have := nG29; have := FZ7uG29; omega) _ _ _
          have k_FZ30 : EdAt (((v33.setCell ⟨G29, 0, none⟩ (.int .i64 (q))).setCell ⟨G29, 1, none⟩ (.int .i64 (c))).setCell ⟨G29, 2, none⟩ (.string (t))) G29 (q) (c) (t) := FZ30.put (q) (c) (t)
          have kB : Below w.heap.size w (((v33.setCell ⟨G29, 0, none⟩ (.int .i64 (q))).setCell ⟨G29, 1, none⟩ (.int .i64 (c))).setCell ⟨G29, 2, none⟩ (.string (t))) := below_putE (p := q) (c := c) (t := t) HB nG29
          generalize (((v33.setCell ⟨G29, 0, none⟩ (.int .i64 (q))).setCell ⟨G29, 1, none⟩ (.int .i64 (c))).setCell ⟨G29, 2, none⟩ (.string (t))) = v34 at k1 k2 k_FZ7 k_FZ30 kB ⊢
          clear z0 z1 z2 fz E1 E2 HB hHeld FZ7 FZ30
          have E1 := k1
          have E2 := k2
          have HB := kB
          have FZ7 := k_FZ7
          have FZ30 := k_FZ30
          clear k1 k2 k_FZ7 k_FZ30 kB
          refine hK.out _ _ ⟨E1, E2⟩ (fun hHeld => ?_)
          clear hK
          refine reg_take (i := 11) (d := 11) (.bool true) rfl rfl (by kernel_rfl) (by kernel_rfl) (by kernel_rfl) (fun _ _ _ h => h) (by rfl) (by intro wq hq; go_simp) (by assumption) ?_
          simp only [Act.put, List.setIfInBounds_toArray, List.set_cons_zero, List.set_cons_succ]
          refine wpAnyH_done (by kernel_rfl) ?_ _
          clear hHeld
          obtain ⟨c0, c1, c2x⟩ := FZ7.cells
          obtain ⟨d0, d1, d2⟩ := FZ30.cells
          go_wp2_with fail
          refine (eqEdit_same _ _ _ _).mono ?_
          rintro e w9 ⟨rfl, hbn⟩
          go_wp2
          go_ret
          exact ⟨rfl, below_next HB hbn⟩
      · skip
        go_simp
        have hwl0 := E1.lt
        replace E1 := E1.alloc (.cells #[.int .i64 0, .int .i64 0, .string ⟨#[]⟩] 24)
        replace E2 := E2.alloc (.cells #[.int .i64 0, .int .i64 0, .string ⟨#[]⟩] 24)
        have FZ37 := EdAt.new v3 0 0 ⟨#[]⟩
        replace HB := HB.alloc HB.size (.cells #[.int .i64 0, .int .i64 0, .string ⟨#[]⟩] 24)
        have nG36 : w.heap.size ≤ v3.heap.size := Nat.le_of_lt hwl0
        generalize (v3.alloc (.cells #[.int .i64 0, .int .i64 0, .string ⟨#[]⟩] 24)) = v35 at E1 E2 FZ37 HB ⊢
        generalize v3.heap.size = G36 at FZ37 nG36  ⊢
        clear hwl0 
        refine hK.out _ _ ⟨E1, E2⟩ (fun hHeld2 => ?_)
        clear hK hHeld
        have hHeld := hHeld2
        clear hHeld2
        refine wpAnyH_ready (rs := [5]) (by kernel_rfl) (by simp) ?_
        refine AllReadyH.cons rfl (fun K hK => ?_) AllReadyH.nil
        go_simp
        refine (s_ShiftEdit_some p c t p2 c2 t2 many q v35 (by omega) (by omega) HS.out).mono ?_
        rintro e v38 ⟨rfl, hbn⟩
        replace E1 := E1.below hbn E1.lt
        replace E2 := E2.below hbn E2.lt
        replace FZ37 := FZ37.below hbn FZ37.lt
        replace HB := below_next HB hbn
        clear hbn
        refine hK.out _ _ ⟨E1, E2⟩ (fun hHeld2 => ?_)
        clear hK hHeld
        have hHeld := hHeld2
        clear hHeld2
        refine reg_take (i := 6) (d := 22) (.tuple #[edV (q) (c) (t), .bool true]) rfl rfl (by kernel_rfl) (by kernel_rfl) (by kernel_rfl) (fun _ _ _ h => h) (by rfl) (by intro wq hq; go_simp) (by assumption) ?_
        simp only [Act.put, List.setIfInBounds_toArray, List.set_cons_zero, List.set_cons_succ]
        refine reg_take (i := 7) (d := 29) (edV (q) (c) (t)) rfl rfl (by kernel_rfl) (by kernel_rfl) (by kernel_rfl) (fun _ _ _ h => h) (by rfl) (by intro wq hq; go_simp) (by assumption) ?_
        simp only [Act.put, List.setIfInBounds_toArray, List.set_cons_zero, List.set_cons_succ]
        refine reg_take (i := 8) (d := 30) (.bool true) rfl rfl (by kernel_rfl) (by kernel_rfl) (by kernel_rfl) (fun _ _ _ h => h) (by rfl) (by intro wq hq; go_simp) (by assumption) ?_
        simp only [Act.put, List.setIfInBounds_toArray, List.set_cons_zero, List.set_cons_succ]
        obtain ⟨z0, z1, z2⟩ := FZ37.cells
        have fz := FZ37.free

        refine wpAnyH_ready (rs := [10]) (by kernel_rfl) (by simp) ?_
        refine AllReadyH.cons rfl (fun K hK => ?_) AllReadyH.nil
        go_simp
        have k1 : EdAtL (((v38.setCell ⟨G36, 0, none⟩ (.int .i64 (q))).setCell ⟨G36, 1, none⟩ (.int .i64 (c))).setCell ⟨G36, 2, none⟩ (.string (t))) w.heap.size p c t := EdAtL.putO E1 (fun e => by subst e; exact edL_ne E1 FZ37) _ _ _
        have k2 : EdAtL (((v38.setCell ⟨G36, 0, none⟩ (.int .i64 (q))).setCell ⟨G36, 1, none⟩ (.int .i64 (c))).setCell ⟨G36, 2, none⟩ (.string (t))) (w.heap.size + 1) p2 c2 t2 := EdAtL.putO E2 (fun e => by subst e; exact edL_ne E2 FZ37) _ _ _
        have k_FZ37 : EdAt (((v38.setCell ⟨G36, 0, none⟩ (.int .i64 (q))).setCell ⟨G36, 1, none⟩ (.int .i64 (c))).setCell ⟨G36, 2, none⟩ (.string (t))) G36 (q) (c) (t) := FZ37.put (q) (c) (t)
        have kB : Below w.heap.size w (((v38.setCell ⟨G36, 0, none⟩ (.int .i64 (q))).setCell ⟨G36, 1, none⟩ (.int .i64 (c))).setCell ⟨G36, 2, none⟩ (.string (t))) := below_putE (p := q) (c := c) (t := t) HB nG36
        generalize (((v38.setCell ⟨G36, 0, none⟩ (.int .i64 (q))).setCell ⟨G36, 1, none⟩ (.int .i64 (c))).setCell ⟨G36, 2, none⟩ (.string (t))) = v39 at k1 k2 k_FZ37 kB ⊢
        clear z0 z1 z2 fz E1 E2 HB hHeld FZ37
        have E1 := k1
        have E2 := k2
        have HB := kB
        have FZ37 := k_FZ37
        clear k1 k2 k_FZ37 kB
        refine hK.out _ _ ⟨E1, E2⟩ (fun hHeld => ?_)
        clear hK
        refine reg_take (i := 11) (d := 9) (.bool true) rfl rfl (by kernel_rfl) (by kernel_rfl) (by kernel_rfl) (fun _ _ _ h => h) (by rfl) (by intro wq hq; go_simp) (by assumption) ?_
        simp only [Act.put, List.setIfInBounds_toArray, List.set_cons_zero, List.set_cons_succ]
        refine wpAnyH_done (by kernel_rfl) ?_ _
        clear hHeld
        go_wp2_with fail
        obtain ⟨l0, l1, l2⟩ := E1.cells
        obtain ⟨m0, m1, m2⟩ := E2.cells
        refine wp_region_held_drew (S := fun wy => EdAtL wy w.heap.size p c t ∧ EdAtL wy (w.heap.size + 1) p2 c2 t2) (by kernel_rfl) (⟨E1, E2⟩) (fun hHeld => ?_)
        refine reg_take (i := 0) (d := 32) (edV p c t) rfl rfl (by kernel_rfl) (by kernel_rfl) (by kernel_rfl) (fun _ _ _ h => h) (by rfl) (by intro wq hq; obtain ⟨q0, q1, q2⟩ := hq.1.cells; obtain ⟨q3, q4, q5⟩ := hq.2.cells; go_simp) (by assumption) ?_
        simp only [Act.put, List.setIfInBounds_toArray, List.set_cons_zero, List.set_cons_succ]
        refine reg_take (i := 2) (d := 34) (edV p2 c2 t2) rfl rfl (by kernel_rfl) (by kernel_rfl) (by kernel_rfl) (fun _ _ _ h => h) (by rfl) (by intro wq hq; obtain ⟨q0, q1, q2⟩ := hq.1.cells; obtain ⟨q3, q4, q5⟩ := hq.2.cells; go_simp) (by assumption) ?_
        simp only [Act.put, List.setIfInBounds_toArray, List.set_cons_zero, List.set_cons_succ]
        refine reg_take (i := 4) (d := 36) (.int .i64 many) rfl rfl (by kernel_rfl) (by kernel_rfl) (by kernel_rfl) (fun _ _ _ h => h) (by rfl) (by intro wq hq; obtain ⟨q0, q1, q2⟩ := hq.1.cells; obtain ⟨q3, q4, q5⟩ := hq.2.cells; go_simp) (by assumption) ?_
        simp only [Act.put, List.setIfInBounds_toArray, List.set_cons_zero, List.set_cons_succ]
        clear l0 l1 l2 m0 m1 m2
        replace E1 : EdAtL v39.drew w.heap.size p c t := E1
        replace E2 : EdAtL v39.drew (w.heap.size + 1) p2 c2 t2 := E2
        replace FZ37 : EdAt v39.drew G36 (q) (c) (t) := FZ37
        replace HB : Below w.heap.size w v39.drew := HB.drew
        generalize v39.drew = v40 at E1 E2 FZ37 HB hHeld ⊢
        refine wpAnyH_ready (rs := [1, 9]) (by kernel_rfl) (by simp) ?_
        refine AllReadyH.cons rfl (fun K hK => ?_) (AllReadyH.cons rfl (fun K hK => ?_) AllReadyH.nil)
        · skip
          go_simp
          refine (toEdit_any p c t v40).mono ?_
          rintro e v41 ⟨rfl, hbn⟩
          replace E1 := E1.below hbn E1.lt
          replace E2 := E2.below hbn E2.lt
          replace FZ37 := FZ37.below hbn FZ37.lt
          replace HB := below_next HB hbn
          clear hbn
          refine hK.out _ _ ⟨E1, E2⟩ (fun hHeld2 => ?_)
          clear hK hHeld
          have hHeld := hHeld2
          clear hHeld2
          refine wpAnyH_ready (rs := [3, 9]) (by kernel_rfl) (by simp) ?_
          refine AllReadyH.cons rfl (fun K hK => ?_) (AllReadyH.cons rfl (fun K hK => ?_) AllReadyH.nil)
          · skip
            go_simp
            refine (toEdit_any p2 c2 t2 v41).mono ?_
            rintro e v42 ⟨rfl, hbn⟩
            replace E1 := E1.below hbn E1.lt
            replace E2 := E2.below hbn E2.lt
            replace FZ37 := FZ37.below hbn FZ37.lt
            replace HB := below_next HB hbn
            clear hbn
            refine hK.out _ _ ⟨E1, E2⟩ (fun hHeld2 => ?_)
            clear hK hHeld
            have hHeld := hHeld2
            clear hHeld2
            refine wpAnyH_ready (rs := [5, 9]) (by kernel_rfl) (by simp) ?_
            refine AllReadyH.cons rfl (fun K hK => ?_) (AllReadyH.cons rfl (fun K hK => ?_) AllReadyH.nil)
            · skip
              go_simp
              refine (i_ShiftEdit_some p c t p2 c2 t2 many q v42 (by omega) (by omega) HS.out).mono ?_
              rintro e v43 ⟨rfl, hbn⟩
              replace E1 := E1.below hbn E1.lt
              replace E2 := E2.below hbn E2.lt
              replace FZ37 := FZ37.below hbn FZ37.lt
              replace HB := below_next HB hbn
              clear hbn
              refine hK.out _ _ ⟨E1, E2⟩ (fun hHeld2 => ?_)
              clear hK hHeld
              have hHeld := hHeld2
              clear hHeld2
              refine reg_take (i := 6) (d := 31) (.tuple #[edV (q) (c) (t), .bool true]) rfl rfl (by kernel_rfl) (by kernel_rfl) (by kernel_rfl) (fun _ _ _ h => h) (by rfl) (by intro wq hq; go_simp) (by assumption) ?_
              simp only [Act.put, List.setIfInBounds_toArray, List.set_cons_zero, List.set_cons_succ]
              refine reg_take (i := 7) (d := 38) (edV (q) (c) (t)) rfl rfl (by kernel_rfl) (by kernel_rfl) (by kernel_rfl) (fun _ _ _ h => h) (by rfl) (by intro wq hq; go_simp) (by assumption) ?_
              simp only [Act.put, List.setIfInBounds_toArray, List.set_cons_zero, List.set_cons_succ]
              refine reg_take (i := 8) (d := 39) (.bool true) rfl rfl (by kernel_rfl) (by kernel_rfl) (by kernel_rfl) (fun _ _ _ h => h) (by rfl) (by intro wq hq; go_simp) (by assumption) ?_
              simp only [Act.put, List.setIfInBounds_toArray, List.set_cons_zero, List.set_cons_succ]
              refine wpAnyH_ready (rs := [9]) (by kernel_rfl) (by simp) ?_
              refine AllReadyH.cons rfl (fun K hK => ?_) AllReadyH.nil
              go_simp
              have hwl0 := E1.lt
              have hl_FZ37 := FZ37.lt
              replace E1 := E1.alloc (.cells #[.int .i64 0, .int .i64 0, .string ⟨#[]⟩] 24)
              replace E2 := E2.alloc (.cells #[.int .i64 0, .int .i64 0, .string ⟨#[]⟩] 24)
              replace FZ37 := FZ37.alloc (.cells #[.int .i64 0, .int .i64 0, .string ⟨#[]⟩] 24)
              have FZ46 := EdAt.new v43 0 0 ⟨#[]⟩
              replace HB := HB.alloc HB.size (.cells #[.int .i64 0, .int .i64 0, .string ⟨#[]⟩] 24)
              have nG45 : w.heap.size ≤ v43.heap.size := Nat.le_of_lt hwl0
              have FZ37uG45 : G36 < v43.heap.size := hl_FZ37
              generalize (v43.alloc (.cells #[.int .i64 0, .int .i64 0, .string ⟨#[]⟩] 24)) = v44 at E1 E2 FZ37 FZ46 HB ⊢
              generalize v43.heap.size = G45 at FZ46 nG45 FZ37uG45 ⊢
              clear hwl0 hl_FZ37
              refine hK.out _ _ ⟨E1, E2⟩ (fun hHeld2 => ?_)
              clear hK hHeld
              have hHeld := hHeld2
              clear hHeld2
              obtain ⟨z0, z1, z2⟩ := FZ46.cells
              have fz := FZ46.free

              refine wpAnyH_ready (rs := [10]) (by kernel_rfl) (by simp) ?_
              refine AllReadyH.cons rfl (fun K hK => ?_) AllReadyH.nil
              go_simp
              have k1 : EdAtL (((v44.setCell ⟨G45, 0, none⟩ (.int .i64 (q))).setCell ⟨G45, 1, none⟩ (.int .i64 (c))).setCell ⟨G45, 2, none⟩ (.string (t))) w.heap.size p c t := EdAtL.putO E1 (fun e => by subst e; exact edL_ne E1 FZ46) _ _ _
              have k2 : EdAtL (((v44.setCell ⟨G45, 0, none⟩ (.int .i64 (q))).setCell ⟨G45, 1, none⟩ (.int .i64 (c))).setCell ⟨G45, 2, none⟩ (.string (t))) (w.heap.size + 1) p2 c2 t2 := EdAtL.putO E2 (fun e => by subst e; exact edL_ne E2 FZ46) _ _ _
              have k_FZ37 : EdAt (((v44.setCell ⟨G45, 0, none⟩ (.int .i64 (q))).setCell ⟨G45, 1, none⟩ (.int .i64 (c))).setCell ⟨G45, 2, none⟩ (.string (t))) G36 (q) (c) (t) := FZ37.putO (by have := nG45; have := FZ37uG45; omega) _ _ _
              have k_FZ46 : EdAt (((v44.setCell ⟨G45, 0, none⟩ (.int .i64 (q))).setCell ⟨G45, 1, none⟩ (.int .i64 (c))).setCell ⟨G45, 2, none⟩ (.string (t))) G45 (q) (c) (t) := FZ46.put (q) (c) (t)
              have kB : Below w.heap.size w (((v44.setCell ⟨G45, 0, none⟩ (.int .i64 (q))).setCell ⟨G45, 1, none⟩ (.int .i64 (c))).setCell ⟨G45, 2, none⟩ (.string (t))) := below_putE (p := q) (c := c) (t := t) HB nG45
              generalize (((v44.setCell ⟨G45, 0, none⟩ (.int .i64 (q))).setCell ⟨G45, 1, none⟩ (.int .i64 (c))).setCell ⟨G45, 2, none⟩ (.string (t))) = v47 at k1 k2 k_FZ37 k_FZ46 kB ⊢
              clear z0 z1 z2 fz E1 E2 HB hHeld FZ37 FZ46
              have E1 := k1
              have E2 := k2
              have HB := kB
              have FZ37 := k_FZ37
              have FZ46 := k_FZ46
              clear k1 k2 k_FZ37 k_FZ46 kB
              refine hK.out _ _ ⟨E1, E2⟩ (fun hHeld => ?_)
              clear hK
              refine reg_take (i := 11) (d := 11) (.bool true) rfl rfl (by kernel_rfl) (by kernel_rfl) (by kernel_rfl) (fun _ _ _ h => h) (by rfl) (by intro wq hq; go_simp) (by assumption) ?_
              simp only [Act.put, List.setIfInBounds_toArray, List.set_cons_zero, List.set_cons_succ]
              refine wpAnyH_done (by kernel_rfl) ?_ _
              clear hHeld
              obtain ⟨c0, c1, c2x⟩ := FZ37.cells
              obtain ⟨d0, d1, d2⟩ := FZ46.cells
              go_wp2_with fail
              refine (eqEdit_same _ _ _ _).mono ?_
              rintro e w9 ⟨rfl, hbn⟩
              go_wp2
              go_ret
              exact ⟨rfl, below_next HB hbn⟩
            · skip
              go_simp
              have hwl0 := E1.lt
              have hl_FZ37 := FZ37.lt
              replace E1 := E1.alloc (.cells #[.int .i64 0, .int .i64 0, .string ⟨#[]⟩] 24)
              replace E2 := E2.alloc (.cells #[.int .i64 0, .int .i64 0, .string ⟨#[]⟩] 24)
              replace FZ37 := FZ37.alloc (.cells #[.int .i64 0, .int .i64 0, .string ⟨#[]⟩] 24)
              have FZ50 := EdAt.new v42 0 0 ⟨#[]⟩
              replace HB := HB.alloc HB.size (.cells #[.int .i64 0, .int .i64 0, .string ⟨#[]⟩] 24)
              have nG49 : w.heap.size ≤ v42.heap.size := Nat.le_of_lt hwl0
              have FZ37uG49 : G36 < v42.heap.size := hl_FZ37
              generalize (v42.alloc (.cells #[.int .i64 0, .int .i64 0, .string ⟨#[]⟩] 24)) = v48 at E1 E2 FZ37 FZ50 HB ⊢
              generalize v42.heap.size = G49 at FZ50 nG49 FZ37uG49 ⊢
              clear hwl0 hl_FZ37
              refine hK.out _ _ ⟨E1, E2⟩ (fun hHeld2 => ?_)
              clear hK hHeld
              have hHeld := hHeld2
              clear hHeld2
              refine wpAnyH_ready (rs := [5]) (by kernel_rfl) (by simp) ?_
              refine AllReadyH.cons rfl (fun K hK => ?_) AllReadyH.nil
              go_simp
              refine (i_ShiftEdit_some p c t p2 c2 t2 many q v48 (by omega) (by omega) HS.out).mono ?_
              rintro e v51 ⟨rfl, hbn⟩
              replace E1 := E1.below hbn E1.lt
              replace E2 := E2.below hbn E2.lt
              replace FZ37 := FZ37.below hbn FZ37.lt
              replace FZ50 := FZ50.below hbn FZ50.lt
              replace HB := below_next HB hbn
              clear hbn
              refine hK.out _ _ ⟨E1, E2⟩ (fun hHeld2 => ?_)
              clear hK hHeld
              have hHeld := hHeld2
              clear hHeld2
              refine reg_take (i := 6) (d := 31) (.tuple #[edV (q) (c) (t), .bool true]) rfl rfl (by kernel_rfl) (by kernel_rfl) (by kernel_rfl) (fun _ _ _ h => h) (by rfl) (by intro wq hq; go_simp) (by assumption) ?_
              simp only [Act.put, List.setIfInBounds_toArray, List.set_cons_zero, List.set_cons_succ]
              refine reg_take (i := 7) (d := 38) (edV (q) (c) (t)) rfl rfl (by kernel_rfl) (by kernel_rfl) (by kernel_rfl) (fun _ _ _ h => h) (by rfl) (by intro wq hq; go_simp) (by assumption) ?_
              simp only [Act.put, List.setIfInBounds_toArray, List.set_cons_zero, List.set_cons_succ]
              refine reg_take (i := 8) (d := 39) (.bool true) rfl rfl (by kernel_rfl) (by kernel_rfl) (by kernel_rfl) (fun _ _ _ h => h) (by rfl) (by intro wq hq; go_simp) (by assumption) ?_
              simp only [Act.put, List.setIfInBounds_toArray, List.set_cons_zero, List.set_cons_succ]
              obtain ⟨z0, z1, z2⟩ := FZ50.cells
              have fz := FZ50.free

              refine wpAnyH_ready (rs := [10]) (by kernel_rfl) (by simp) ?_
              refine AllReadyH.cons rfl (fun K hK => ?_) AllReadyH.nil
              go_simp
              have k1 : EdAtL (((v51.setCell ⟨G49, 0, none⟩ (.int .i64 (q))).setCell ⟨G49, 1, none⟩ (.int .i64 (c))).setCell ⟨G49, 2, none⟩ (.string (t))) w.heap.size p c t := EdAtL.putO E1 (fun e => by subst e; exact edL_ne E1 FZ50) _ _ _
              have k2 : EdAtL (((v51.setCell ⟨G49, 0, none⟩ (.int .i64 (q))).setCell ⟨G49, 1, none⟩ (.int .i64 (c))).setCell ⟨G49, 2, none⟩ (.string (t))) (w.heap.size + 1) p2 c2 t2 := EdAtL.putO E2 (fun e => by subst e; exact edL_ne E2 FZ50) _ _ _
              have k_FZ37 : EdAt (((v51.setCell ⟨G49, 0, none⟩ (.int .i64 (q))).setCell ⟨G49, 1, none⟩ (.int .i64 (c))).setCell ⟨G49, 2, none⟩ (.string (t))) G36 (q) (c) (t) := FZ37.putO (by have := nG49; have := FZ37uG49; omega) _ _ _
              have k_FZ50 : EdAt (((v51.setCell ⟨G49, 0, none⟩ (.int .i64 (q))).setCell ⟨G49, 1, none⟩ (.int .i64 (c))).setCell ⟨G49, 2, none⟩ (.string (t))) G49 (q) (c) (t) := FZ50.put (q) (c) (t)
              have kB : Below w.heap.size w (((v51.setCell ⟨G49, 0, none⟩ (.int .i64 (q))).setCell ⟨G49, 1, none⟩ (.int .i64 (c))).setCell ⟨G49, 2, none⟩ (.string (t))) := below_putE (p := q) (c := c) (t := t) HB nG49
              generalize (((v51.setCell ⟨G49, 0, none⟩ (.int .i64 (q))).setCell ⟨G49, 1, none⟩ (.int .i64 (c))).setCell ⟨G49, 2, none⟩ (.string (t))) = v52 at k1 k2 k_FZ37 k_FZ50 kB ⊢
              clear z0 z1 z2 fz E1 E2 HB hHeld FZ37 FZ50
              have E1 := k1
              have E2 := k2
              have HB := kB
              have FZ37 := k_FZ37
              have FZ50 := k_FZ50
              clear k1 k2 k_FZ37 k_FZ50 kB
              refine hK.out _ _ ⟨E1, E2⟩ (fun hHeld => ?_)
              clear hK
              refine reg_take (i := 11) (d := 11) (.bool true) rfl rfl (by kernel_rfl) (by kernel_rfl) (by kernel_rfl) (fun _ _ _ h => h) (by rfl) (by intro wq hq; go_simp) (by assumption) ?_
              simp only [Act.put, List.setIfInBounds_toArray, List.set_cons_zero, List.set_cons_succ]
              refine wpAnyH_done (by kernel_rfl) ?_ _
              clear hHeld
              obtain ⟨c0, c1, c2x⟩ := FZ37.cells
              obtain ⟨d0, d1, d2⟩ := FZ50.cells
              go_wp2_with fail
              refine (eqEdit_same _ _ _ _).mono ?_
              rintro e w9 ⟨rfl, hbn⟩
              go_wp2
              go_ret
              exact ⟨rfl, below_next HB hbn⟩
          · skip
            go_simp
            have hwl0 := E1.lt
            have hl_FZ37 := FZ37.lt
            replace E1 := E1.alloc (.cells #[.int .i64 0, .int .i64 0, .string ⟨#[]⟩] 24)
            replace E2 := E2.alloc (.cells #[.int .i64 0, .int .i64 0, .string ⟨#[]⟩] 24)
            replace FZ37 := FZ37.alloc (.cells #[.int .i64 0, .int .i64 0, .string ⟨#[]⟩] 24)
            have FZ55 := EdAt.new v41 0 0 ⟨#[]⟩
            replace HB := HB.alloc HB.size (.cells #[.int .i64 0, .int .i64 0, .string ⟨#[]⟩] 24)
            have nG54 : w.heap.size ≤ v41.heap.size := Nat.le_of_lt hwl0
            have FZ37uG54 : G36 < v41.heap.size := hl_FZ37
            generalize (v41.alloc (.cells #[.int .i64 0, .int .i64 0, .string ⟨#[]⟩] 24)) = v53 at E1 E2 FZ37 FZ55 HB ⊢
            generalize v41.heap.size = G54 at FZ55 nG54 FZ37uG54 ⊢
            clear hwl0 hl_FZ37
            refine hK.out _ _ ⟨E1, E2⟩ (fun hHeld2 => ?_)
            clear hK hHeld
            have hHeld := hHeld2
            clear hHeld2
            refine wpAnyH_ready (rs := [3]) (by kernel_rfl) (by simp) ?_
            refine AllReadyH.cons rfl (fun K hK => ?_) AllReadyH.nil
            go_simp
            refine (toEdit_any p2 c2 t2 v53).mono ?_
            rintro e v56 ⟨rfl, hbn⟩
            replace E1 := E1.below hbn E1.lt
            replace E2 := E2.below hbn E2.lt
            replace FZ37 := FZ37.below hbn FZ37.lt
            replace FZ55 := FZ55.below hbn FZ55.lt
            replace HB := below_next HB hbn
            clear hbn
            refine hK.out _ _ ⟨E1, E2⟩ (fun hHeld2 => ?_)
            clear hK hHeld
            have hHeld := hHeld2
            clear hHeld2
            refine wpAnyH_ready (rs := [5]) (by kernel_rfl) (by simp) ?_
            refine AllReadyH.cons rfl (fun K hK => ?_) AllReadyH.nil
            go_simp
            refine (i_ShiftEdit_some p c t p2 c2 t2 many q v56 (by omega) (by omega) HS.out).mono ?_
            rintro e v57 ⟨rfl, hbn⟩
            replace E1 := E1.below hbn E1.lt
            replace E2 := E2.below hbn E2.lt
            replace FZ37 := FZ37.below hbn FZ37.lt
            replace FZ55 := FZ55.below hbn FZ55.lt
            replace HB := below_next HB hbn
            clear hbn
            refine hK.out _ _ ⟨E1, E2⟩ (fun hHeld2 => ?_)
            clear hK hHeld
            have hHeld := hHeld2
            clear hHeld2
            refine reg_take (i := 6) (d := 31) (.tuple #[edV (q) (c) (t), .bool true]) rfl rfl (by kernel_rfl) (by kernel_rfl) (by kernel_rfl) (fun _ _ _ h => h) (by rfl) (by intro wq hq; go_simp) (by assumption) ?_
            simp only [Act.put, List.setIfInBounds_toArray, List.set_cons_zero, List.set_cons_succ]
            refine reg_take (i := 7) (d := 38) (edV (q) (c) (t)) rfl rfl (by kernel_rfl) (by kernel_rfl) (by kernel_rfl) (fun _ _ _ h => h) (by rfl) (by intro wq hq; go_simp) (by assumption) ?_
            simp only [Act.put, List.setIfInBounds_toArray, List.set_cons_zero, List.set_cons_succ]
            refine reg_take (i := 8) (d := 39) (.bool true) rfl rfl (by kernel_rfl) (by kernel_rfl) (by kernel_rfl) (fun _ _ _ h => h) (by rfl) (by intro wq hq; go_simp) (by assumption) ?_
            simp only [Act.put, List.setIfInBounds_toArray, List.set_cons_zero, List.set_cons_succ]
            obtain ⟨z0, z1, z2⟩ := FZ55.cells
            have fz := FZ55.free

            refine wpAnyH_ready (rs := [10]) (by kernel_rfl) (by simp) ?_
            refine AllReadyH.cons rfl (fun K hK => ?_) AllReadyH.nil
            go_simp
            have k1 : EdAtL (((v57.setCell ⟨G54, 0, none⟩ (.int .i64 (q))).setCell ⟨G54, 1, none⟩ (.int .i64 (c))).setCell ⟨G54, 2, none⟩ (.string (t))) w.heap.size p c t := EdAtL.putO E1 (fun e => by subst e; exact edL_ne E1 FZ55) _ _ _
            have k2 : EdAtL (((v57.setCell ⟨G54, 0, none⟩ (.int .i64 (q))).setCell ⟨G54, 1, none⟩ (.int .i64 (c))).setCell ⟨G54, 2, none⟩ (.string (t))) (w.heap.size + 1) p2 c2 t2 := EdAtL.putO E2 (fun e => by subst e; exact edL_ne E2 FZ55) _ _ _
            have k_FZ37 : EdAt (((v57.setCell ⟨G54, 0, none⟩ (.int .i64 (q))).setCell ⟨G54, 1, none⟩ (.int .i64 (c))).setCell ⟨G54, 2, none⟩ (.string (t))) G36 (q) (c) (t) := FZ37.putO (by have := nG54; have := FZ37uG54; omega) _ _ _
            have k_FZ55 : EdAt (((v57.setCell ⟨G54, 0, none⟩ (.int .i64 (q))).setCell ⟨G54, 1, none⟩ (.int .i64 (c))).setCell ⟨G54, 2, none⟩ (.string (t))) G54 (q) (c) (t) := FZ55.put (q) (c) (t)
            have kB : Below w.heap.size w (((v57.setCell ⟨G54, 0, none⟩ (.int .i64 (q))).setCell ⟨G54, 1, none⟩ (.int .i64 (c))).setCell ⟨G54, 2, none⟩ (.string (t))) := below_putE (p := q) (c := c) (t := t) HB nG54
            generalize (((v57.setCell ⟨G54, 0, none⟩ (.int .i64 (q))).setCell ⟨G54, 1, none⟩ (.int .i64 (c))).setCell ⟨G54, 2, none⟩ (.string (t))) = v58 at k1 k2 k_FZ37 k_FZ55 kB ⊢
            clear z0 z1 z2 fz E1 E2 HB hHeld FZ37 FZ55
            have E1 := k1
            have E2 := k2
            have HB := kB
            have FZ37 := k_FZ37
            have FZ55 := k_FZ55
            clear k1 k2 k_FZ37 k_FZ55 kB
            refine hK.out _ _ ⟨E1, E2⟩ (fun hHeld => ?_)
            clear hK
            refine reg_take (i := 11) (d := 11) (.bool true) rfl rfl (by kernel_rfl) (by kernel_rfl) (by kernel_rfl) (fun _ _ _ h => h) (by rfl) (by intro wq hq; go_simp) (by assumption) ?_
            simp only [Act.put, List.setIfInBounds_toArray, List.set_cons_zero, List.set_cons_succ]
            refine wpAnyH_done (by kernel_rfl) ?_ _
            clear hHeld
            obtain ⟨c0, c1, c2x⟩ := FZ37.cells
            obtain ⟨d0, d1, d2⟩ := FZ55.cells
            go_wp2_with fail
            refine (eqEdit_same _ _ _ _).mono ?_
            rintro e w9 ⟨rfl, hbn⟩
            go_wp2
            go_ret
            exact ⟨rfl, below_next HB hbn⟩
        · skip
          go_simp
          have hwl0 := E1.lt
          have hl_FZ37 := FZ37.lt
          replace E1 := E1.alloc (.cells #[.int .i64 0, .int .i64 0, .string ⟨#[]⟩] 24)
          replace E2 := E2.alloc (.cells #[.int .i64 0, .int .i64 0, .string ⟨#[]⟩] 24)
          replace FZ37 := FZ37.alloc (.cells #[.int .i64 0, .int .i64 0, .string ⟨#[]⟩] 24)
          have FZ61 := EdAt.new v40 0 0 ⟨#[]⟩
          replace HB := HB.alloc HB.size (.cells #[.int .i64 0, .int .i64 0, .string ⟨#[]⟩] 24)
          have nG60 : w.heap.size ≤ v40.heap.size := Nat.le_of_lt hwl0
          have FZ37uG60 : G36 < v40.heap.size := hl_FZ37
          generalize (v40.alloc (.cells #[.int .i64 0, .int .i64 0, .string ⟨#[]⟩] 24)) = v59 at E1 E2 FZ37 FZ61 HB ⊢
          generalize v40.heap.size = G60 at FZ61 nG60 FZ37uG60 ⊢
          clear hwl0 hl_FZ37
          refine hK.out _ _ ⟨E1, E2⟩ (fun hHeld2 => ?_)
          clear hK hHeld
          have hHeld := hHeld2
          clear hHeld2
          refine wpAnyH_ready (rs := [1]) (by kernel_rfl) (by simp) ?_
          refine AllReadyH.cons rfl (fun K hK => ?_) AllReadyH.nil
          go_simp
          refine (toEdit_any p c t v59).mono ?_
          rintro e v62 ⟨rfl, hbn⟩
          replace E1 := E1.below hbn E1.lt
          replace E2 := E2.below hbn E2.lt
          replace FZ37 := FZ37.below hbn FZ37.lt
          replace FZ61 := FZ61.below hbn FZ61.lt
          replace HB := below_next HB hbn
          clear hbn
          refine hK.out _ _ ⟨E1, E2⟩ (fun hHeld2 => ?_)
          clear hK hHeld
          have hHeld := hHeld2
          clear hHeld2
          refine wpAnyH_ready (rs := [3]) (by kernel_rfl) (by simp) ?_
          refine AllReadyH.cons rfl (fun K hK => ?_) AllReadyH.nil
          go_simp
          refine (toEdit_any p2 c2 t2 v62).mono ?_
          rintro e v63 ⟨rfl, hbn⟩
          replace E1 := E1.below hbn E1.lt
          replace E2 := E2.below hbn E2.lt
          replace FZ37 := FZ37.below hbn FZ37.lt
          replace FZ61 := FZ61.below hbn FZ61.lt
          replace HB := below_next HB hbn
          clear hbn
          refine hK.out _ _ ⟨E1, E2⟩ (fun hHeld2 => ?_)
          clear hK hHeld
          have hHeld := hHeld2
          clear hHeld2
          refine wpAnyH_ready (rs := [5]) (by kernel_rfl) (by simp) ?_
          refine AllReadyH.cons rfl (fun K hK => ?_) AllReadyH.nil
          go_simp
          refine (i_ShiftEdit_some p c t p2 c2 t2 many q v63 (by omega) (by omega) HS.out).mono ?_
          rintro e v64 ⟨rfl, hbn⟩
          replace E1 := E1.below hbn E1.lt
          replace E2 := E2.below hbn E2.lt
          replace FZ37 := FZ37.below hbn FZ37.lt
          replace FZ61 := FZ61.below hbn FZ61.lt
          replace HB := below_next HB hbn
          clear hbn
          refine hK.out _ _ ⟨E1, E2⟩ (fun hHeld2 => ?_)
          clear hK hHeld
          have hHeld := hHeld2
          clear hHeld2
          refine reg_take (i := 6) (d := 31) (.tuple #[edV (q) (c) (t), .bool true]) rfl rfl (by kernel_rfl) (by kernel_rfl) (by kernel_rfl) (fun _ _ _ h => h) (by rfl) (by intro wq hq; go_simp) (by assumption) ?_
          simp only [Act.put, List.setIfInBounds_toArray, List.set_cons_zero, List.set_cons_succ]
          refine reg_take (i := 7) (d := 38) (edV (q) (c) (t)) rfl rfl (by kernel_rfl) (by kernel_rfl) (by kernel_rfl) (fun _ _ _ h => h) (by rfl) (by intro wq hq; go_simp) (by assumption) ?_
          simp only [Act.put, List.setIfInBounds_toArray, List.set_cons_zero, List.set_cons_succ]
          refine reg_take (i := 8) (d := 39) (.bool true) rfl rfl (by kernel_rfl) (by kernel_rfl) (by kernel_rfl) (fun _ _ _ h => h) (by rfl) (by intro wq hq; go_simp) (by assumption) ?_
          simp only [Act.put, List.setIfInBounds_toArray, List.set_cons_zero, List.set_cons_succ]
          obtain ⟨z0, z1, z2⟩ := FZ61.cells
          have fz := FZ61.free

          refine wpAnyH_ready (rs := [10]) (by kernel_rfl) (by simp) ?_
          refine AllReadyH.cons rfl (fun K hK => ?_) AllReadyH.nil
          go_simp
          have k1 : EdAtL (((v64.setCell ⟨G60, 0, none⟩ (.int .i64 (q))).setCell ⟨G60, 1, none⟩ (.int .i64 (c))).setCell ⟨G60, 2, none⟩ (.string (t))) w.heap.size p c t := EdAtL.putO E1 (fun e => by subst e; exact edL_ne E1 FZ61) _ _ _
          have k2 : EdAtL (((v64.setCell ⟨G60, 0, none⟩ (.int .i64 (q))).setCell ⟨G60, 1, none⟩ (.int .i64 (c))).setCell ⟨G60, 2, none⟩ (.string (t))) (w.heap.size + 1) p2 c2 t2 := EdAtL.putO E2 (fun e => by subst e; exact edL_ne E2 FZ61) _ _ _
          have k_FZ37 : EdAt (((v64.setCell ⟨G60, 0, none⟩ (.int .i64 (q))).setCell ⟨G60, 1, none⟩ (.int .i64 (c))).setCell ⟨G60, 2, none⟩ (.string (t))) G36 (q) (c) (t) := FZ37.putO (by have := nG60; have := FZ37uG60; omega) _ _ _
          have k_FZ61 : EdAt (((v64.setCell ⟨G60, 0, none⟩ (.int .i64 (q))).setCell ⟨G60, 1, none⟩ (.int .i64 (c))).setCell ⟨G60, 2, none⟩ (.string (t))) G60 (q) (c) (t) := FZ61.put (q) (c) (t)
          have kB : Below w.heap.size w (((v64.setCell ⟨G60, 0, none⟩ (.int .i64 (q))).setCell ⟨G60, 1, none⟩ (.int .i64 (c))).setCell ⟨G60, 2, none⟩ (.string (t))) := below_putE (p := q) (c := c) (t := t) HB nG60
          generalize (((v64.setCell ⟨G60, 0, none⟩ (.int .i64 (q))).setCell ⟨G60, 1, none⟩ (.int .i64 (c))).setCell ⟨G60, 2, none⟩ (.string (t))) = v65 at k1 k2 k_FZ37 k_FZ61 kB ⊢
          clear z0 z1 z2 fz E1 E2 HB hHeld FZ37 FZ61
          have E1 := k1
          have E2 := k2
          have HB := kB
          have FZ37 := k_FZ37
          have FZ61 := k_FZ61
          clear k1 k2 k_FZ37 k_FZ61 kB
          refine hK.out _ _ ⟨E1, E2⟩ (fun hHeld => ?_)
          clear hK
          refine reg_take (i := 11) (d := 11) (.bool true) rfl rfl (by kernel_rfl) (by kernel_rfl) (by kernel_rfl) (fun _ _ _ h => h) (by rfl) (by intro wq hq; go_simp) (by assumption) ?_
          simp only [Act.put, List.setIfInBounds_toArray, List.set_cons_zero, List.set_cons_succ]
          refine wpAnyH_done (by kernel_rfl) ?_ _
          clear hHeld
          obtain ⟨c0, c1, c2x⟩ := FZ37.cells
          obtain ⟨d0, d1, d2⟩ := FZ61.cells
          go_wp2_with fail
          refine (eqEdit_same _ _ _ _).mono ?_
          rintro e w9 ⟨rfl, hbn⟩
          go_wp2
          go_ret
          exact ⟨rfl, below_next HB hbn⟩
    · skip
      go_simp
      have hwl0 := E1.lt
      replace E1 := E1.alloc (.cells #[.int .i64 0, .int .i64 0, .string ⟨#[]⟩] 24)
      replace E2 := E2.alloc (.cells #[.int .i64 0, .int .i64 0, .string ⟨#[]⟩] 24)
      have FZ68 := EdAt.new v2 0 0 ⟨#[]⟩
      replace HB := HB.alloc HB.size (.cells #[.int .i64 0, .int .i64 0, .string ⟨#[]⟩] 24)
      have nG67 : w.heap.size ≤ v2.heap.size := Nat.le_of_lt hwl0
      generalize (v2.alloc (.cells #[.int .i64 0, .int .i64 0, .string ⟨#[]⟩] 24)) = v66 at E1 E2 FZ68 HB ⊢
      generalize v2.heap.size = G67 at FZ68 nG67  ⊢
      clear hwl0 
      refine hK.out _ _ ⟨E1, E2⟩ (fun hHeld2 => ?_)
      clear hK hHeld
      have hHeld := hHeld2
      clear hHeld2
      refine wpAnyH_ready (rs := [3]) (by kernel_rfl) (by simp) ?_
      refine AllReadyH.cons rfl (fun K hK => ?_) AllReadyH.nil
      go_simp
      refine (toEdit_any p2 c2 t2 v66).mono ?_
      rintro e v69 ⟨rfl, hbn⟩
      replace E1 := E1.below hbn E1.lt
      replace E2 := E2.below hbn E2.lt
      replace FZ68 := FZ68.below hbn FZ68.lt
      replace HB := below_next HB hbn
      clear hbn
      refine hK.out _ _ ⟨E1, E2⟩ (fun hHeld2 => ?_)
      clear hK hHeld
      have hHeld := hHeld2
      clear hHeld2
      refine wpAnyH_ready (rs := [5]) (by kernel_rfl) (by simp) ?_
      refine AllReadyH.cons rfl (fun K hK => ?_) AllReadyH.nil
      go_simp
      refine (s_ShiftEdit_some p c t p2 c2 t2 many q v69 (by omega) (by omega) HS.out).mono ?_
      rintro e v70 ⟨rfl, hbn⟩
      replace E1 := E1.below hbn E1.lt
      replace E2 := E2.below hbn E2.lt
      replace FZ68 := FZ68.below hbn FZ68.lt
      replace HB := below_next HB hbn
      clear hbn
      refine hK.out _ _ ⟨E1, E2⟩ (fun hHeld2 => ?_)
      clear hK hHeld
      have hHeld := hHeld2
      clear hHeld2
      refine reg_take (i := 6) (d := 22) (.tuple #[edV (q) (c) (t), .bool true]) rfl rfl (by kernel_rfl) (by kernel_rfl) (by kernel_rfl) (fun _ _ _ h => h) (by rfl) (by intro wq hq; go_simp) (by assumption) ?_
      simp only [Act.put, List.setIfInBounds_toArray, List.set_cons_zero, List.set_cons_succ]
      refine reg_take (i := 7) (d := 29) (edV (q) (c) (t)) rfl rfl (by kernel_rfl) (by kernel_rfl) (by kernel_rfl) (fun _ _ _ h => h) (by rfl) (by intro wq hq; go_simp) (by assumption) ?_
      simp only [Act.put, List.setIfInBounds_toArray, List.set_cons_zero, List.set_cons_succ]
      refine reg_take (i := 8) (d := 30) (.bool true) rfl rfl (by kernel_rfl) (by kernel_rfl) (by kernel_rfl) (fun _ _ _ h => h) (by rfl) (by intro wq hq; go_simp) (by assumption) ?_
      simp only [Act.put, List.setIfInBounds_toArray, List.set_cons_zero, List.set_cons_succ]
      obtain ⟨z0, z1, z2⟩ := FZ68.cells
      have fz := FZ68.free

      refine wpAnyH_ready (rs := [10]) (by kernel_rfl) (by simp) ?_
      refine AllReadyH.cons rfl (fun K hK => ?_) AllReadyH.nil
      go_simp
      have k1 : EdAtL (((v70.setCell ⟨G67, 0, none⟩ (.int .i64 (q))).setCell ⟨G67, 1, none⟩ (.int .i64 (c))).setCell ⟨G67, 2, none⟩ (.string (t))) w.heap.size p c t := EdAtL.putO E1 (fun e => by subst e; exact edL_ne E1 FZ68) _ _ _
      have k2 : EdAtL (((v70.setCell ⟨G67, 0, none⟩ (.int .i64 (q))).setCell ⟨G67, 1, none⟩ (.int .i64 (c))).setCell ⟨G67, 2, none⟩ (.string (t))) (w.heap.size + 1) p2 c2 t2 := EdAtL.putO E2 (fun e => by subst e; exact edL_ne E2 FZ68) _ _ _
      have k_FZ68 : EdAt (((v70.setCell ⟨G67, 0, none⟩ (.int .i64 (q))).setCell ⟨G67, 1, none⟩ (.int .i64 (c))).setCell ⟨G67, 2, none⟩ (.string (t))) G67 (q) (c) (t) := FZ68.put (q) (c) (t)
      have kB : Below w.heap.size w (((v70.setCell ⟨G67, 0, none⟩ (.int .i64 (q))).setCell ⟨G67, 1, none⟩ (.int .i64 (c))).setCell ⟨G67, 2, none⟩ (.string (t))) := below_putE (p := q) (c := c) (t := t) HB nG67
      generalize (((v70.setCell ⟨G67, 0, none⟩ (.int .i64 (q))).setCell ⟨G67, 1, none⟩ (.int .i64 (c))).setCell ⟨G67, 2, none⟩ (.string (t))) = v71 at k1 k2 k_FZ68 kB ⊢
      clear z0 z1 z2 fz E1 E2 HB hHeld FZ68
      have E1 := k1
      have E2 := k2
      have HB := kB
      have FZ68 := k_FZ68
      clear k1 k2 k_FZ68 kB
      refine hK.out _ _ ⟨E1, E2⟩ (fun hHeld => ?_)
      clear hK
      refine reg_take (i := 11) (d := 9) (.bool true) rfl rfl (by kernel_rfl) (by kernel_rfl) (by kernel_rfl) (fun _ _ _ h => h) (by rfl) (by intro wq hq; go_simp) (by assumption) ?_
      simp only [Act.put, List.setIfInBounds_toArray, List.set_cons_zero, List.set_cons_succ]
      refine wpAnyH_done (by kernel_rfl) ?_ _
      clear hHeld
      go_wp2_with fail
      obtain ⟨l0, l1, l2⟩ := E1.cells
      obtain ⟨m0, m1, m2⟩ := E2.cells
      refine wp_region_held_drew (S := fun wy => EdAtL wy w.heap.size p c t ∧ EdAtL wy (w.heap.size + 1) p2 c2 t2) (by kernel_rfl) (⟨E1, E2⟩) (fun hHeld => ?_)
      refine reg_take (i := 0) (d := 32) (edV p c t) rfl rfl (by kernel_rfl) (by kernel_rfl) (by kernel_rfl) (fun _ _ _ h => h) (by rfl) (by intro wq hq; obtain ⟨q0, q1, q2⟩ := hq.1.cells; obtain ⟨q3, q4, q5⟩ := hq.2.cells; go_simp) (by assumption) ?_
      simp only [Act.put, List.setIfInBounds_toArray, List.set_cons_zero, List.set_cons_succ]
      refine reg_take (i := 2) (d := 34) (edV p2 c2 t2) rfl rfl (by kernel_rfl) (by kernel_rfl) (by kernel_rfl) (fun _ _ _ h => h) (by rfl) (by intro wq hq; obtain ⟨q0, q1, q2⟩ := hq.1.cells; obtain ⟨q3, q4, q5⟩ := hq.2.cells; go_simp) (by assumption) ?_
      simp only [Act.put, List.setIfInBounds_toArray, List.set_cons_zero, List.set_cons_succ]
      refine reg_take (i := 4) (d := 36) (.int .i64 many) rfl rfl (by kernel_rfl) (by kernel_rfl) (by kernel_rfl) (fun _ _ _ h => h) (by rfl) (by intro wq hq; obtain ⟨q0, q1, q2⟩ := hq.1.cells; obtain ⟨q3, q4, q5⟩ := hq.2.cells; go_simp) (by assumption) ?_
      simp only [Act.put, List.setIfInBounds_toArray, List.set_cons_zero, List.set_cons_succ]
      clear l0 l1 l2 m0 m1 m2
      replace E1 : EdAtL v71.drew w.heap.size p c t := E1
      replace E2 : EdAtL v71.drew (w.heap.size + 1) p2 c2 t2 := E2
      replace FZ68 : EdAt v71.drew G67 (q) (c) (t) := FZ68
      replace HB : Below w.heap.size w v71.drew := HB.drew
      generalize v71.drew = v72 at E1 E2 FZ68 HB hHeld ⊢
      refine wpAnyH_ready (rs := [1, 9]) (by kernel_rfl) (by simp) ?_
      refine AllReadyH.cons rfl (fun K hK => ?_) (AllReadyH.cons rfl (fun K hK => ?_) AllReadyH.nil)
      · skip
        go_simp
        refine (toEdit_any p c t v72).mono ?_
        rintro e v73 ⟨rfl, hbn⟩
        replace E1 := E1.below hbn E1.lt
        replace E2 := E2.below hbn E2.lt
        replace FZ68 := FZ68.below hbn FZ68.lt
        replace HB := below_next HB hbn
        clear hbn
        refine hK.out _ _ ⟨E1, E2⟩ (fun hHeld2 => ?_)
        clear hK hHeld
        have hHeld := hHeld2
        clear hHeld2
        refine wpAnyH_ready (rs := [3, 9]) (by kernel_rfl) (by simp) ?_
        refine AllReadyH.cons rfl (fun K hK => ?_) (AllReadyH.cons rfl (fun K hK => ?_) AllReadyH.nil)
        · skip
          go_simp
          refine (toEdit_any p2 c2 t2 v73).mono ?_
          rintro e v74 ⟨rfl, hbn⟩
          replace E1 := E1.below hbn E1.lt
          replace E2 := E2.below hbn E2.lt
          replace FZ68 := FZ68.below hbn FZ68.lt
          replace HB := below_next HB hbn
          clear hbn
          refine hK.out _ _ ⟨E1, E2⟩ (fun hHeld2 => ?_)
          clear hK hHeld
          have hHeld := hHeld2
          clear hHeld2
          refine wpAnyH_ready (rs := [5, 9]) (by kernel_rfl) (by simp) ?_
          refine AllReadyH.cons rfl (fun K hK => ?_) (AllReadyH.cons rfl (fun K hK => ?_) AllReadyH.nil)
          · skip
            go_simp
            refine (i_ShiftEdit_some p c t p2 c2 t2 many q v74 (by omega) (by omega) HS.out).mono ?_
            rintro e v75 ⟨rfl, hbn⟩
            replace E1 := E1.below hbn E1.lt
            replace E2 := E2.below hbn E2.lt
            replace FZ68 := FZ68.below hbn FZ68.lt
            replace HB := below_next HB hbn
            clear hbn
            refine hK.out _ _ ⟨E1, E2⟩ (fun hHeld2 => ?_)
            clear hK hHeld
            have hHeld := hHeld2
            clear hHeld2
            refine reg_take (i := 6) (d := 31) (.tuple #[edV (q) (c) (t), .bool true]) rfl rfl (by kernel_rfl) (by kernel_rfl) (by kernel_rfl) (fun _ _ _ h => h) (by rfl) (by intro wq hq; go_simp) (by assumption) ?_
            simp only [Act.put, List.setIfInBounds_toArray, List.set_cons_zero, List.set_cons_succ]
            refine reg_take (i := 7) (d := 38) (edV (q) (c) (t)) rfl rfl (by kernel_rfl) (by kernel_rfl) (by kernel_rfl) (fun _ _ _ h => h) (by rfl) (by intro wq hq; go_simp) (by assumption) ?_
            simp only [Act.put, List.setIfInBounds_toArray, List.set_cons_zero, List.set_cons_succ]
            refine reg_take (i := 8) (d := 39) (.bool true) rfl rfl (by kernel_rfl) (by kernel_rfl) (by kernel_rfl) (fun _ _ _ h => h) (by rfl) (by intro wq hq; go_simp) (by assumption) ?_
            simp only [Act.put, List.setIfInBounds_toArray, List.set_cons_zero, List.set_cons_succ]
            refine wpAnyH_ready (rs := [9]) (by kernel_rfl) (by simp) ?_
            refine AllReadyH.cons rfl (fun K hK => ?_) AllReadyH.nil
            go_simp
            have hwl0 := E1.lt
            have hl_FZ68 := FZ68.lt
            replace E1 := E1.alloc (.cells #[.int .i64 0, .int .i64 0, .string ⟨#[]⟩] 24)
            replace E2 := E2.alloc (.cells #[.int .i64 0, .int .i64 0, .string ⟨#[]⟩] 24)
            replace FZ68 := FZ68.alloc (.cells #[.int .i64 0, .int .i64 0, .string ⟨#[]⟩] 24)
            have FZ78 := EdAt.new v75 0 0 ⟨#[]⟩
            replace HB := HB.alloc HB.size (.cells #[.int .i64 0, .int .i64 0, .string ⟨#[]⟩] 24)
            have nG77 : w.heap.size ≤ v75.heap.size := Nat.le_of_lt hwl0
            have FZ68uG77 : G67 < v75.heap.size := hl_FZ68
            generalize (v75.alloc (.cells #[.int .i64 0, .int .i64 0, .string ⟨#[]⟩] 24)) = v76 at E1 E2 FZ68 FZ78 HB ⊢
            generalize v75.heap.size = G77 at FZ78 nG77 FZ68uG77 ⊢
            clear hwl0 hl_FZ68
            refine hK.out _ _ ⟨E1, E2⟩ (fun hHeld2 => ?_)
            clear hK hHeld
            have hHeld := hHeld2
            clear hHeld2
            obtain ⟨z0, z1, z2⟩ := FZ78.cells
            have fz := FZ78.free

            refine wpAnyH_ready (rs := [10]) (by kernel_rfl) (by simp) ?_
            refine AllReadyH.cons rfl (fun K hK => ?_) AllReadyH.nil
            go_simp
            have k1 : EdAtL (((v76.setCell ⟨G77, 0, none⟩ (.int .i64 (q))).setCell ⟨G77, 1, none⟩ (.int .i64 (c))).setCell ⟨G77, 2, none⟩ (.string (t))) w.heap.size p c t := EdAtL.putO E1 (fun e => by subst e; exact edL_ne E1 FZ78) _ _ _
            have k2 : EdAtL (((v76.setCell ⟨G77, 0, none⟩ (.int .i64 (q))).setCell ⟨G77, 1, none⟩ (.int .i64 (c))).setCell ⟨G77, 2, none⟩ (.string (t))) (w.heap.size + 1) p2 c2 t2 := EdAtL.putO E2 (fun e => by subst e; exact edL_ne E2 FZ78) _ _ _
            have k_FZ68 : EdAt (((v76.setCell ⟨G77, 0, none⟩ (.int .i64 (q))).setCell ⟨G77, 1, none⟩ (.int .i64 (c))).setCell ⟨G77, 2, none⟩ (.string (t))) G67 (q) (c) (t) := FZ68.putO (by have := nG77; have := FZ68uG77; omega) _ _ _
            have k_FZ78 : EdAt (((v76.setCell ⟨G77, 0, none⟩ (.int .i64 (q))).setCell ⟨G77, 1, none⟩ (.int .i64 (c))).setCell ⟨G77, 2, none⟩ (.string (t))) G77 (q) (c) (t) := FZ78.put (q) (c) (t)
            have kB : Below w.heap.size w (((v76.setCell ⟨G77, 0, none⟩ (.int .i64 (q))).setCell ⟨G77, 1, none⟩ (.int .i64 (c))).setCell ⟨G77, 2, none⟩ (.string (t))) := below_putE (p := q) (c := c) (t := t) HB nG77
            generalize (((v76.setCell ⟨G77, 0, none⟩ (.int .i64 (q))).setCell ⟨G77, 1, none⟩ (.int .i64 (c))).setCell ⟨G77, 2, none⟩ (.string (t))) = v79 at k1 k2 k_FZ68 k_FZ78 kB ⊢
            clear z0 z1 z2 fz E1 E2 HB hHeld FZ68 FZ78
            have E1 := k1
            have E2 := k2
            have HB := kB
            have FZ68 := k_FZ68
            have FZ78 := k_FZ78
            clear k1 k2 k_FZ68 k_FZ78 kB
            refine hK.out _ _ ⟨E1, E2⟩ (fun hHeld => ?_)
            clear hK
            refine reg_take (i := 11) (d := 11) (.bool true) rfl rfl (by kernel_rfl) (by kernel_rfl) (by kernel_rfl) (fun _ _ _ h => h) (by rfl) (by intro wq hq; go_simp) (by assumption) ?_
            simp only [Act.put, List.setIfInBounds_toArray, List.set_cons_zero, List.set_cons_succ]
            refine wpAnyH_done (by kernel_rfl) ?_ _
            clear hHeld
            obtain ⟨c0, c1, c2x⟩ := FZ68.cells
            obtain ⟨d0, d1, d2⟩ := FZ78.cells
            go_wp2_with fail
            refine (eqEdit_same _ _ _ _).mono ?_
            rintro e w9 ⟨rfl, hbn⟩
            go_wp2
            go_ret
            exact ⟨rfl, below_next HB hbn⟩
          · skip
            go_simp
            have hwl0 := E1.lt
            have hl_FZ68 := FZ68.lt
            replace E1 := E1.alloc (.cells #[.int .i64 0, .int .i64 0, .string ⟨#[]⟩] 24)
            replace E2 := E2.alloc (.cells #[.int .i64 0, .int .i64 0, .string ⟨#[]⟩] 24)
            replace FZ68 := FZ68.alloc (.cells #[.int .i64 0, .int .i64 0, .string ⟨#[]⟩] 24)
            have FZ82 := EdAt.new v74 0 0 ⟨#[]⟩
            replace HB := HB.alloc HB.size (.cells #[.int .i64 0, .int .i64 0, .string ⟨#[]⟩] 24)
            have nG81 : w.heap.size ≤ v74.heap.size := Nat.le_of_lt hwl0
            have FZ68uG81 : G67 < v74.heap.size := hl_FZ68
            generalize (v74.alloc (.cells #[.int .i64 0, .int .i64 0, .string ⟨#[]⟩] 24)) = v80 at E1 E2 FZ68 FZ82 HB ⊢
            generalize v74.heap.size = G81 at FZ82 nG81 FZ68uG81 ⊢
            clear hwl0 hl_FZ68
            refine hK.out _ _ ⟨E1, E2⟩ (fun hHeld2 => ?_)
            clear hK hHeld
            have hHeld := hHeld2
            clear hHeld2
            refine wpAnyH_ready (rs := [5]) (by kernel_rfl) (by simp) ?_
            refine AllReadyH.cons rfl (fun K hK => ?_) AllReadyH.nil
            go_simp
            refine (i_ShiftEdit_some p c t p2 c2 t2 many q v80 (by omega) (by omega) HS.out).mono ?_
            rintro e v83 ⟨rfl, hbn⟩
            replace E1 := E1.below hbn E1.lt
            replace E2 := E2.below hbn E2.lt
            replace FZ68 := FZ68.below hbn FZ68.lt
            replace FZ82 := FZ82.below hbn FZ82.lt
            replace HB := below_next HB hbn
            clear hbn
            refine hK.out _ _ ⟨E1, E2⟩ (fun hHeld2 => ?_)
            clear hK hHeld
            have hHeld := hHeld2
            clear hHeld2
            refine reg_take (i := 6) (d := 31) (.tuple #[edV (q) (c) (t), .bool true]) rfl rfl (by kernel_rfl) (by kernel_rfl) (by kernel_rfl) (fun _ _ _ h => h) (by rfl) (by intro wq hq; go_simp) (by assumption) ?_
            simp only [Act.put, List.setIfInBounds_toArray, List.set_cons_zero, List.set_cons_succ]
            refine reg_take (i := 7) (d := 38) (edV (q) (c) (t)) rfl rfl (by kernel_rfl) (by kernel_rfl) (by kernel_rfl) (fun _ _ _ h => h) (by rfl) (by intro wq hq; go_simp) (by assumption) ?_
            simp only [Act.put, List.setIfInBounds_toArray, List.set_cons_zero, List.set_cons_succ]
            refine reg_take (i := 8) (d := 39) (.bool true) rfl rfl (by kernel_rfl) (by kernel_rfl) (by kernel_rfl) (fun _ _ _ h => h) (by rfl) (by intro wq hq; go_simp) (by assumption) ?_
            simp only [Act.put, List.setIfInBounds_toArray, List.set_cons_zero, List.set_cons_succ]
            obtain ⟨z0, z1, z2⟩ := FZ82.cells
            have fz := FZ82.free

            refine wpAnyH_ready (rs := [10]) (by kernel_rfl) (by simp) ?_
            refine AllReadyH.cons rfl (fun K hK => ?_) AllReadyH.nil
            go_simp
            have k1 : EdAtL (((v83.setCell ⟨G81, 0, none⟩ (.int .i64 (q))).setCell ⟨G81, 1, none⟩ (.int .i64 (c))).setCell ⟨G81, 2, none⟩ (.string (t))) w.heap.size p c t := EdAtL.putO E1 (fun e => by subst e; exact edL_ne E1 FZ82) _ _ _
            have k2 : EdAtL (((v83.setCell ⟨G81, 0, none⟩ (.int .i64 (q))).setCell ⟨G81, 1, none⟩ (.int .i64 (c))).setCell ⟨G81, 2, none⟩ (.string (t))) (w.heap.size + 1) p2 c2 t2 := EdAtL.putO E2 (fun e => by subst e; exact edL_ne E2 FZ82) _ _ _
            have k_FZ68 : EdAt (((v83.setCell ⟨G81, 0, none⟩ (.int .i64 (q))).setCell ⟨G81, 1, none⟩ (.int .i64 (c))).setCell ⟨G81, 2, none⟩ (.string (t))) G67 (q) (c) (t) := FZ68.putO (by have := nG81; have := FZ68uG81; omega) _ _ _
            have k_FZ82 : EdAt (((v83.setCell ⟨G81, 0, none⟩ (.int .i64 (q))).setCell ⟨G81, 1, none⟩ (.int .i64 (c))).setCell ⟨G81, 2, none⟩ (.string (t))) G81 (q) (c) (t) := FZ82.put (q) (c) (t)
            have kB : Below w.heap.size w (((v83.setCell ⟨G81, 0, none⟩ (.int .i64 (q))).setCell ⟨G81, 1, none⟩ (.int .i64 (c))).setCell ⟨G81, 2, none⟩ (.string (t))) := below_putE (p := q) (c := c) (t := t) HB nG81
            generalize (((v83.setCell ⟨G81, 0, none⟩ (.int .i64 (q))).setCell ⟨G81, 1, none⟩ (.int .i64 (c))).setCell ⟨G81, 2, none⟩ (.string (t))) = v84 at k1 k2 k_FZ68 k_FZ82 kB ⊢
            clear z0 z1 z2 fz E1 E2 HB hHeld FZ68 FZ82
            have E1 := k1
            have E2 := k2
            have HB := kB
            have FZ68 := k_FZ68
            have FZ82 := k_FZ82
            clear k1 k2 k_FZ68 k_FZ82 kB
            refine hK.out _ _ ⟨E1, E2⟩ (fun hHeld => ?_)
            clear hK
            refine reg_take (i := 11) (d := 11) (.bool true) rfl rfl (by kernel_rfl) (by kernel_rfl) (by kernel_rfl) (fun _ _ _ h => h) (by rfl) (by intro wq hq; go_simp) (by assumption) ?_
            simp only [Act.put, List.setIfInBounds_toArray, List.set_cons_zero, List.set_cons_succ]
            refine wpAnyH_done (by kernel_rfl) ?_ _
            clear hHeld
            obtain ⟨c0, c1, c2x⟩ := FZ68.cells
            obtain ⟨d0, d1, d2⟩ := FZ82.cells
            go_wp2_with fail
            refine (eqEdit_same _ _ _ _).mono ?_
            rintro e w9 ⟨rfl, hbn⟩
            go_wp2
            go_ret
            exact ⟨rfl, below_next HB hbn⟩
        · skip
          go_simp
          have hwl0 := E1.lt
          have hl_FZ68 := FZ68.lt
          replace E1 := E1.alloc (.cells #[.int .i64 0, .int .i64 0, .string ⟨#[]⟩] 24)
          replace E2 := E2.alloc (.cells #[.int .i64 0, .int .i64 0, .string ⟨#[]⟩] 24)
          replace FZ68 := FZ68.alloc (.cells #[.int .i64 0, .int .i64 0, .string ⟨#[]⟩] 24)
          have FZ87 := EdAt.new v73 0 0 ⟨#[]⟩
          replace HB := HB.alloc HB.size (.cells #[.int .i64 0, .int .i64 0, .string ⟨#[]⟩] 24)
          have nG86 : w.heap.size ≤ v73.heap.size := Nat.le_of_lt hwl0
          have FZ68uG86 : G67 < v73.heap.size := hl_FZ68
          generalize (v73.alloc (.cells #[.int .i64 0, .int .i64 0, .string ⟨#[]⟩] 24)) = v85 at E1 E2 FZ68 FZ87 HB ⊢
          generalize v73.heap.size = G86 at FZ87 nG86 FZ68uG86 ⊢
          clear hwl0 hl_FZ68
          refine hK.out _ _ ⟨E1, E2⟩ (fun hHeld2 => ?_)
          clear hK hHeld
          have hHeld := hHeld2
          clear hHeld2
          refine wpAnyH_ready (rs := [3]) (by kernel_rfl) (by simp) ?_
          refine AllReadyH.cons rfl (fun K hK => ?_) AllReadyH.nil
          go_simp
          refine (toEdit_any p2 c2 t2 v85).mono ?_
          rintro e v88 ⟨rfl, hbn⟩
          replace E1 := E1.below hbn E1.lt
          replace E2 := E2.below hbn E2.lt
          replace FZ68 := FZ68.below hbn FZ68.lt
          replace FZ87 := FZ87.below hbn FZ87.lt
          replace HB := below_next HB hbn
          clear hbn
          refine hK.out _ _ ⟨E1, E2⟩ (fun hHeld2 => ?_)
          clear hK hHeld
          have hHeld := hHeld2
          clear hHeld2
          refine wpAnyH_ready (rs := [5]) (by kernel_rfl) (by simp) ?_
          refine AllReadyH.cons rfl (fun K hK => ?_) AllReadyH.nil
          go_simp
          refine (i_ShiftEdit_some p c t p2 c2 t2 many q v88 (by omega) (by omega) HS.out).mono ?_
          rintro e v89 ⟨rfl, hbn⟩
          replace E1 := E1.below hbn E1.lt
          replace E2 := E2.below hbn E2.lt
          replace FZ68 := FZ68.below hbn FZ68.lt
          replace FZ87 := FZ87.below hbn FZ87.lt
          replace HB := below_next HB hbn
          clear hbn
          refine hK.out _ _ ⟨E1, E2⟩ (fun hHeld2 => ?_)
          clear hK hHeld
          have hHeld := hHeld2
          clear hHeld2
          refine reg_take (i := 6) (d := 31) (.tuple #[edV (q) (c) (t), .bool true]) rfl rfl (by kernel_rfl) (by kernel_rfl) (by kernel_rfl) (fun _ _ _ h => h) (by rfl) (by intro wq hq; go_simp) (by assumption) ?_
          simp only [Act.put, List.setIfInBounds_toArray, List.set_cons_zero, List.set_cons_succ]
          refine reg_take (i := 7) (d := 38) (edV (q) (c) (t)) rfl rfl (by kernel_rfl) (by kernel_rfl) (by kernel_rfl) (fun _ _ _ h => h) (by rfl) (by intro wq hq; go_simp) (by assumption) ?_
          simp only [Act.put, List.setIfInBounds_toArray, List.set_cons_zero, List.set_cons_succ]
          refine reg_take (i := 8) (d := 39) (.bool true) rfl rfl (by kernel_rfl) (by kernel_rfl) (by kernel_rfl) (fun _ _ _ h => h) (by rfl) (by intro wq hq; go_simp) (by assumption) ?_
          simp only [Act.put, List.setIfInBounds_toArray, List.set_cons_zero, List.set_cons_succ]
          obtain ⟨z0, z1, z2⟩ := FZ87.cells
          have fz := FZ87.free

          refine wpAnyH_ready (rs := [10]) (by kernel_rfl) (by simp) ?_
          refine AllReadyH.cons rfl (fun K hK => ?_) AllReadyH.nil
          go_simp
          have k1 : EdAtL (((v89.setCell ⟨G86, 0, none⟩ (.int .i64 (q))).setCell ⟨G86, 1, none⟩ (.int .i64 (c))).setCell ⟨G86, 2, none⟩ (.string (t))) w.heap.size p c t := EdAtL.putO E1 (fun e => by subst e; exact edL_ne E1 FZ87) _ _ _
          have k2 : EdAtL (((v89.setCell ⟨G86, 0, none⟩ (.int .i64 (q))).setCell ⟨G86, 1, none⟩ (.int .i64 (c))).setCell ⟨G86, 2, none⟩ (.string (t))) (w.heap.size + 1) p2 c2 t2 := EdAtL.putO E2 (fun e => by subst e; exact edL_ne E2 FZ87) _ _ _
          have k_FZ68 : EdAt (((v89.setCell ⟨G86, 0, none⟩ (.int .i64 (q))).setCell ⟨G86, 1, none⟩ (.int .i64 (c))).setCell ⟨G86, 2, none⟩ (.string (t))) G67 (q) (c) (t) := FZ68.putO (by have := nG86; have := FZ68uG86; omega) _ _ _
          have k_FZ87 : EdAt (((v89.setCell ⟨G86, 0, none⟩ (.int .i64 (q))).setCell ⟨G86, 1, none⟩ (.int .i64 (c))).setCell ⟨G86, 2, none⟩ (.string (t))) G86 (q) (c) (t) := FZ87.put (q) (c) (t)
          have kB : Below w.heap.size w (((v89.setCell ⟨G86, 0, none⟩ (.int .i64 (q))).setCell ⟨G86, 1, none⟩ (.int .i64 (c))).setCell ⟨G86, 2, none⟩ (.string (t))) := below_putE (p := q) (c := c) (t := t) HB nG86
          generalize (((v89.setCell ⟨G86, 0, none⟩ (.int .i64 (q))).setCell ⟨G86, 1, none⟩ (.int .i64 (c))).setCell ⟨G86, 2, none⟩ (.string (t))) = v90 at k1 k2 k_FZ68 k_FZ87 kB ⊢
          clear z0 z1 z2 fz E1 E2 HB hHeld FZ68 FZ87
          have E1 := k1
          have E2 := k2
          have HB := kB
          have FZ68 := k_FZ68
          have FZ87 := k_FZ87
          clear k1 k2 k_FZ68 k_FZ87 kB
          refine hK.out _ _ ⟨E1, E2⟩ (fun hHeld => ?_)
          clear hK
          refine reg_take (i := 11) (d := 11) (.bool true) rfl rfl (by kernel_rfl) (by kernel_rfl) (by kernel_rfl) (fun _ _ _ h => h) (by rfl) (by intro wq hq; go_simp) (by assumption) ?_
          simp only [Act.put, List.setIfInBounds_toArray, List.set_cons_zero, List.set_cons_succ]
          refine wpAnyH_done (by kernel_rfl) ?_ _
          clear hHeld
          obtain ⟨c0, c1, c2x⟩ := FZ68.cells
          obtain ⟨d0, d1, d2⟩ := FZ87.cells
          go_wp2_with fail
          refine (eqEdit_same _ _ _ _).mono ?_
          rintro e w9 ⟨rfl, hbn⟩
          go_wp2
          go_ret
          exact ⟨rfl, below_next HB hbn⟩
      · skip
        go_simp
        have hwl0 := E1.lt
        have hl_FZ68 := FZ68.lt
        replace E1 := E1.alloc (.cells #[.int .i64 0, .int .i64 0, .string ⟨#[]⟩] 24)
        replace E2 := E2.alloc (.cells #[.int .i64 0, .int .i64 0, .string ⟨#[]⟩] 24)
        replace FZ68 := FZ68.alloc (.cells #[.int .i64 0, .int .i64 0, .string ⟨#[]⟩] 24)
        have FZ93 := EdAt.new v72 0 0 ⟨#[]⟩
        replace HB := HB.alloc HB.size (.cells #[.int .i64 0, .int .i64 0, .string ⟨#[]⟩] 24)
        have nG92 : w.heap.size ≤ v72.heap.size := Nat.le_of_lt hwl0
        have FZ68uG92 : G67 < v72.heap.size := hl_FZ68
        generalize (v72.alloc (.cells #[.int .i64 0, .int .i64 0, .string ⟨#[]⟩] 24)) = v91 at E1 E2 FZ68 FZ93 HB ⊢
        generalize v72.heap.size = G92 at FZ93 nG92 FZ68uG92 ⊢
        clear hwl0 hl_FZ68
        refine hK.out _ _ ⟨E1, E2⟩ (fun hHeld2 => ?_)
        clear hK hHeld
        have hHeld := hHeld2
        clear hHeld2
        refine wpAnyH_ready (rs := [1]) (by kernel_rfl) (by simp) ?_
        refine AllReadyH.cons rfl (fun K hK => ?_) AllReadyH.nil
        go_simp
        refine (toEdit_any p c t v91).mono ?_
        rintro e v94 ⟨rfl, hbn⟩
        replace E1 := E1.below hbn E1.lt
        replace E2 := E2.below hbn E2.lt
        replace FZ68 := FZ68.below hbn FZ68.lt
        replace FZ93 := FZ93.below hbn FZ93.lt
        replace HB := below_next HB hbn
        clear hbn
        refine hK.out _ _ ⟨E1, E2⟩ (fun hHeld2 => ?_)
        clear hK hHeld
        have hHeld := hHeld2
        clear hHeld2
        refine wpAnyH_ready (rs := [3]) (by kernel_rfl) (by simp) ?_
        refine AllReadyH.cons rfl (fun K hK => ?_) AllReadyH.nil
        go_simp
        refine (toEdit_any p2 c2 t2 v94).mono ?_
        rintro e v95 ⟨rfl, hbn⟩
        replace E1 := E1.below hbn E1.lt
        replace E2 := E2.below hbn E2.lt
        replace FZ68 := FZ68.below hbn FZ68.lt
        replace FZ93 := FZ93.below hbn FZ93.lt
        replace HB := below_next HB hbn
        clear hbn
        refine hK.out _ _ ⟨E1, E2⟩ (fun hHeld2 => ?_)
        clear hK hHeld
        have hHeld := hHeld2
        clear hHeld2
        refine wpAnyH_ready (rs := [5]) (by kernel_rfl) (by simp) ?_
        refine AllReadyH.cons rfl (fun K hK => ?_) AllReadyH.nil
        go_simp
        refine (i_ShiftEdit_some p c t p2 c2 t2 many q v95 (by omega) (by omega) HS.out).mono ?_
        rintro e v96 ⟨rfl, hbn⟩
        replace E1 := E1.below hbn E1.lt
        replace E2 := E2.below hbn E2.lt
        replace FZ68 := FZ68.below hbn FZ68.lt
        replace FZ93 := FZ93.below hbn FZ93.lt
        replace HB := below_next HB hbn
        clear hbn
        refine hK.out _ _ ⟨E1, E2⟩ (fun hHeld2 => ?_)
        clear hK hHeld
        have hHeld := hHeld2
        clear hHeld2
        refine reg_take (i := 6) (d := 31) (.tuple #[edV (q) (c) (t), .bool true]) rfl rfl (by kernel_rfl) (by kernel_rfl) (by kernel_rfl) (fun _ _ _ h => h) (by rfl) (by intro wq hq; go_simp) (by assumption) ?_
        simp only [Act.put, List.setIfInBounds_toArray, List.set_cons_zero, List.set_cons_succ]
        refine reg_take (i := 7) (d := 38) (edV (q) (c) (t)) rfl rfl (by kernel_rfl) (by kernel_rfl) (by kernel_rfl) (fun _ _ _ h => h) (by rfl) (by intro wq hq; go_simp) (by assumption) ?_
        simp only [Act.put, List.setIfInBounds_toArray, List.set_cons_zero, List.set_cons_succ]
        refine reg_take (i := 8) (d := 39) (.bool true) rfl rfl (by kernel_rfl) (by kernel_rfl) (by kernel_rfl) (fun _ _ _ h => h) (by rfl) (by intro wq hq; go_simp) (by assumption) ?_
        simp only [Act.put, List.setIfInBounds_toArray, List.set_cons_zero, List.set_cons_succ]
        obtain ⟨z0, z1, z2⟩ := FZ93.cells
        have fz := FZ93.free

        refine wpAnyH_ready (rs := [10]) (by kernel_rfl) (by simp) ?_
        refine AllReadyH.cons rfl (fun K hK => ?_) AllReadyH.nil
        go_simp
        have k1 : EdAtL (((v96.setCell ⟨G92, 0, none⟩ (.int .i64 (q))).setCell ⟨G92, 1, none⟩ (.int .i64 (c))).setCell ⟨G92, 2, none⟩ (.string (t))) w.heap.size p c t := EdAtL.putO E1 (fun e => by subst e; exact edL_ne E1 FZ93) _ _ _
        have k2 : EdAtL (((v96.setCell ⟨G92, 0, none⟩ (.int .i64 (q))).setCell ⟨G92, 1, none⟩ (.int .i64 (c))).setCell ⟨G92, 2, none⟩ (.string (t))) (w.heap.size + 1) p2 c2 t2 := EdAtL.putO E2 (fun e => by subst e; exact edL_ne E2 FZ93) _ _ _
        have k_FZ68 : EdAt (((v96.setCell ⟨G92, 0, none⟩ (.int .i64 (q))).setCell ⟨G92, 1, none⟩ (.int .i64 (c))).setCell ⟨G92, 2, none⟩ (.string (t))) G67 (q) (c) (t) := FZ68.putO (by have := nG92; have := FZ68uG92; omega) _ _ _
        have k_FZ93 : EdAt (((v96.setCell ⟨G92, 0, none⟩ (.int .i64 (q))).setCell ⟨G92, 1, none⟩ (.int .i64 (c))).setCell ⟨G92, 2, none⟩ (.string (t))) G92 (q) (c) (t) := FZ93.put (q) (c) (t)
        have kB : Below w.heap.size w (((v96.setCell ⟨G92, 0, none⟩ (.int .i64 (q))).setCell ⟨G92, 1, none⟩ (.int .i64 (c))).setCell ⟨G92, 2, none⟩ (.string (t))) := below_putE (p := q) (c := c) (t := t) HB nG92
        generalize (((v96.setCell ⟨G92, 0, none⟩ (.int .i64 (q))).setCell ⟨G92, 1, none⟩ (.int .i64 (c))).setCell ⟨G92, 2, none⟩ (.string (t))) = v97 at k1 k2 k_FZ68 k_FZ93 kB ⊢
        clear z0 z1 z2 fz E1 E2 HB hHeld FZ68 FZ93
        have E1 := k1
        have E2 := k2
        have HB := kB
        have FZ68 := k_FZ68
        have FZ93 := k_FZ93
        clear k1 k2 k_FZ68 k_FZ93 kB
        refine hK.out _ _ ⟨E1, E2⟩ (fun hHeld => ?_)
        clear hK
        refine reg_take (i := 11) (d := 11) (.bool true) rfl rfl (by kernel_rfl) (by kernel_rfl) (by kernel_rfl) (fun _ _ _ h => h) (by rfl) (by intro wq hq; go_simp) (by assumption) ?_
        simp only [Act.put, List.setIfInBounds_toArray, List.set_cons_zero, List.set_cons_succ]
        refine wpAnyH_done (by kernel_rfl) ?_ _
        clear hHeld
        obtain ⟨c0, c1, c2x⟩ := FZ68.cells
        obtain ⟨d0, d1, d2⟩ := FZ93.cells
        go_wp2_with fail
        refine (eqEdit_same _ _ _ _).mono ?_
        rintro e w9 ⟨rfl, hbn⟩
        go_wp2
        go_ret
        exact ⟨rfl, below_next HB hbn⟩
  · skip
    go_simp
    have hwl0 := E1.lt
    replace E1 := E1.alloc (.cells #[.int .i64 0, .int .i64 0, .string ⟨#[]⟩] 24)
    replace E2 := E2.alloc (.cells #[.int .i64 0, .int .i64 0, .string ⟨#[]⟩] 24)
    have FZ100 := EdAt.new v1 0 0 ⟨#[]⟩
    replace HB := HB.alloc HB.size (.cells #[.int .i64 0, .int .i64 0, .string ⟨#[]⟩] 24)
    have nG99 : w.heap.size ≤ v1.heap.size := Nat.le_of_lt hwl0
    generalize (v1.alloc (.cells #[.int .i64 0, .int .i64 0, .string ⟨#[]⟩] 24)) = v98 at E1 E2 FZ100 HB ⊢
    generalize v1.heap.size = G99 at FZ100 nG99  ⊢
    clear hwl0 
    refine hK.out _ _ ⟨E1, E2⟩ (fun hHeld2 => ?_)
    clear hK hHeld
    have hHeld := hHeld2
    clear hHeld2
    refine wpAnyH_ready (rs := [1]) (by kernel_rfl) (by simp) ?_
    refine AllReadyH.cons rfl (fun K hK => ?_) AllReadyH.nil
    go_simp
    refine (toEdit_any p c t v98).mono ?_
    rintro e v101 ⟨rfl, hbn⟩
    replace E1 := E1.below hbn E1.lt
    replace E2 := E2.below hbn E2.lt
    replace FZ100 := FZ100.below hbn FZ100.lt
    replace HB := below_next HB hbn
    clear hbn
    refine hK.out _ _ ⟨E1, E2⟩ (fun hHeld2 => ?_)
    clear hK hHeld
    have hHeld := hHeld2
    clear hHeld2
    refine wpAnyH_ready (rs := [3]) (by kernel_rfl) (by simp) ?_
    refine AllReadyH.cons rfl (fun K hK => ?_) AllReadyH.nil
    go_simp
    refine (toEdit_any p2 c2 t2 v101).mono ?_
    rintro e v102 ⟨rfl, hbn⟩
    replace E1 := E1.below hbn E1.lt
    replace E2 := E2.below hbn E2.lt
    replace FZ100 := FZ100.below hbn FZ100.lt
    replace HB := below_next HB hbn
    clear hbn
    refine hK.out _ _ ⟨E1, E2⟩ (fun hHeld2 => ?_)
    clear hK hHeld
    have hHeld := hHeld2
    clear hHeld2
    refine wpAnyH_ready (rs := [5]) (by kernel_rfl) (by simp) ?_
    refine AllReadyH.cons rfl (fun K hK => ?_) AllReadyH.nil
    go_simp
    refine (s_ShiftEdit_some p c t p2 c2 t2 many q v102 (by omega) (by omega) HS.out).mono ?_
    rintro e v103 ⟨rfl, hbn⟩
    replace E1 := E1.below hbn E1.lt
    replace E2 := E2.below hbn E2.lt
    replace FZ100 := FZ100.below hbn FZ100.lt
    replace HB := below_next HB hbn
    clear hbn
    refine hK.out _ _ ⟨E1, E2⟩ (fun hHeld2 => ?_)
    clear hK hHeld
    have hHeld := hHeld2
    clear hHeld2
    refine reg_take (i := 6) (d := 22) (.tuple #[edV (q) (c) (t), .bool true]) rfl rfl (by kernel_rfl) (by kernel_rfl) (by kernel_rfl) (fun _ _ _ h => h) (by rfl) (by intro wq hq; go_simp) (by assumption) ?_
    simp only [Act.put, List.setIfInBounds_toArray, List.set_cons_zero, List.set_cons_succ]
    refine reg_take (i := 7) (d := 29) (edV (q) (c) (t)) rfl rfl (by kernel_rfl) (by kernel_rfl) (by kernel_rfl) (fun _ _ _ h => h) (by rfl) (by intro wq hq; go_simp) (by assumption) ?_
    simp only [Act.put, List.setIfInBounds_toArray, List.set_cons_zero, List.set_cons_succ]
    refine reg_take (i := 8) (d := 30) (.bool true) rfl rfl (by kernel_rfl) (by kernel_rfl) (by kernel_rfl) (fun _ _ _ h => h) (by rfl) (by intro wq hq; go_simp) (by assumption) ?_
    simp only [Act.put, List.setIfInBounds_toArray, List.set_cons_zero, List.set_cons_succ]
    obtain ⟨z0, z1, z2⟩ := FZ100.cells
    have fz := FZ100.free

    refine wpAnyH_ready (rs := [10]) (by kernel_rfl) (by simp) ?_
    refine AllReadyH.cons rfl (fun K hK => ?_) AllReadyH.nil
    go_simp
    have k1 : EdAtL (((v103.setCell ⟨G99, 0, none⟩ (.int .i64 (q))).setCell ⟨G99, 1, none⟩ (.int .i64 (c))).setCell ⟨G99, 2, none⟩ (.string (t))) w.heap.size p c t := EdAtL.putO E1 (fun e => by subst e; exact edL_ne E1 FZ100) _ _ _
    have k2 : EdAtL (((v103.setCell ⟨G99, 0, none⟩ (.int .i64 (q))).setCell ⟨G99, 1, none⟩ (.int .i64 (c))).setCell ⟨G99, 2, none⟩ (.string (t))) (w.heap.size + 1) p2 c2 t2 := EdAtL.putO E2 (fun e => by subst e; exact edL_ne E2 FZ100) _ _ _
    have k_FZ100 : EdAt (((v103.setCell ⟨G99, 0, none⟩ (.int .i64 (q))).setCell ⟨G99, 1, none⟩ (.int .i64 (c))).setCell ⟨G99, 2, none⟩ (.string (t))) G99 (q) (c) (t) := FZ100.put (q) (c) (t)
    have kB : Below w.heap.size w (((v103.setCell ⟨G99, 0, none⟩ (.int .i64 (q))).setCell ⟨G99, 1, none⟩ (.int .i64 (c))).setCell ⟨G99, 2, none⟩ (.string (t))) := below_putE (p := q) (c := c) (t := t) HB nG99
    generalize (((v103.setCell ⟨G99, 0, none⟩ (.int .i64 (q))).setCell ⟨G99, 1, none⟩ (.int .i64 (c))).setCell ⟨G99, 2, none⟩ (.string (t))) = v104 at k1 k2 k_FZ100 kB ⊢
    clear z0 z1 z2 fz E1 E2 HB hHeld FZ100
    have E1 := k1
    have E2 := k2
    have HB := kB
    have FZ100 := k_FZ100
    clear k1 k2 k_FZ100 kB
    refine hK.out _ _ ⟨E1, E2⟩ (fun hHeld => ?_)
    clear hK
    refine reg_take (i := 11) (d := 9) (.bool true) rfl rfl (by kernel_rfl) (by kernel_rfl) (by kernel_rfl) (fun _ _ _ h => h) (by rfl) (by intro wq hq; go_simp) (by assumption) ?_
    simp only [Act.put, List.setIfInBounds_toArray, List.set_cons_zero, List.set_cons_succ]
    refine wpAnyH_done (by kernel_rfl) ?_ _
    clear hHeld
    go_wp2_with fail
    obtain ⟨l0, l1, l2⟩ := E1.cells
    obtain ⟨m0, m1, m2⟩ := E2.cells
    refine wp_region_held_drew (S := fun wy => EdAtL wy w.heap.size p c t ∧ EdAtL wy (w.heap.size + 1) p2 c2 t2) (by kernel_rfl) (⟨E1, E2⟩) (fun hHeld => ?_)
    refine reg_take (i := 0) (d := 32) (edV p c t) rfl rfl (by kernel_rfl) (by kernel_rfl) (by kernel_rfl) (fun _ _ _ h => h) (by rfl) (by intro wq hq; obtain ⟨q0, q1, q2⟩ := hq.1.cells; obtain ⟨q3, q4, q5⟩ := hq.2.cells; go_simp) (by assumption) ?_
    simp only [Act.put, List.setIfInBounds_toArray, List.set_cons_zero, List.set_cons_succ]
    refine reg_take (i := 2) (d := 34) (edV p2 c2 t2) rfl rfl (by kernel_rfl) (by kernel_rfl) (by kernel_rfl) (fun _ _ _ h => h) (by rfl) (by intro wq hq; obtain ⟨q0, q1, q2⟩ := hq.1.cells; obtain ⟨q3, q4, q5⟩ := hq.2.cells; go_simp) (by assumption) ?_
    simp only [Act.put, List.setIfInBounds_toArray, List.set_cons_zero, List.set_cons_succ]
    refine reg_take (i := 4) (d := 36) (.int .i64 many) rfl rfl (by kernel_rfl) (by kernel_rfl) (by kernel_rfl) (fun _ _ _ h => h) (by rfl) (by intro wq hq; obtain ⟨q0, q1, q2⟩ := hq.1.cells; obtain ⟨q3, q4, q5⟩ := hq.2.cells; go_simp) (by assumption) ?_
    simp only [Act.put, List.setIfInBounds_toArray, List.set_cons_zero, List.set_cons_succ]
    clear l0 l1 l2 m0 m1 m2
    replace E1 : EdAtL v104.drew w.heap.size p c t := E1
    replace E2 : EdAtL v104.drew (w.heap.size + 1) p2 c2 t2 := E2
    replace FZ100 : EdAt v104.drew G99 (q) (c) (t) := FZ100
    replace HB : Below w.heap.size w v104.drew := HB.drew
    generalize v104.drew = v105 at E1 E2 FZ100 HB hHeld ⊢
    refine wpAnyH_ready (rs := [1, 9]) (by kernel_rfl) (by simp) ?_
    refine AllReadyH.cons rfl (fun K hK => ?_) (AllReadyH.cons rfl (fun K hK => ?_) AllReadyH.nil)
    · skip
      go_simp
      refine (toEdit_any p c t v105).mono ?_
      rintro e v106 ⟨rfl, hbn⟩
      replace E1 := E1.below hbn E1.lt
      replace E2 := E2.below hbn E2.lt
      replace FZ100 := FZ100.below hbn FZ100.lt
      replace HB := below_next HB hbn
      clear hbn
      refine hK.out _ _ ⟨E1, E2⟩ (fun hHeld2 => ?_)
      clear hK hHeld
      have hHeld := hHeld2
      clear hHeld2
      refine wpAnyH_ready (rs := [3, 9]) (by kernel_rfl) (by simp) ?_
      refine AllReadyH.cons rfl (fun K hK => ?_) (AllReadyH.cons rfl (fun K hK => ?_) AllReadyH.nil)
      · skip
        go_simp
        refine (toEdit_any p2 c2 t2 v106).mono ?_
        rintro e v107 ⟨rfl, hbn⟩
        replace E1 := E1.below hbn E1.lt
        replace E2 := E2.below hbn E2.lt
        replace FZ100 := FZ100.below hbn FZ100.lt
        replace HB := below_next HB hbn
        clear hbn
        refine hK.out _ _ ⟨E1, E2⟩ (fun hHeld2 => ?_)
        clear hK hHeld
        have hHeld := hHeld2
        clear hHeld2
        refine wpAnyH_ready (rs := [5, 9]) (by kernel_rfl) (by simp) ?_
        refine AllReadyH.cons rfl (fun K hK => ?_) (AllReadyH.cons rfl (fun K hK => ?_) AllReadyH.nil)
        · skip
          go_simp
          refine (i_ShiftEdit_some p c t p2 c2 t2 many q v107 (by omega) (by omega) HS.out).mono ?_
          rintro e v108 ⟨rfl, hbn⟩
          replace E1 := E1.below hbn E1.lt
          replace E2 := E2.below hbn E2.lt
          replace FZ100 := FZ100.below hbn FZ100.lt
          replace HB := below_next HB hbn
          clear hbn
          refine hK.out _ _ ⟨E1, E2⟩ (fun hHeld2 => ?_)
          clear hK hHeld
          have hHeld := hHeld2
          clear hHeld2
          refine reg_take (i := 6) (d := 31) (.tuple #[edV (q) (c) (t), .bool true]) rfl rfl (by kernel_rfl) (by kernel_rfl) (by kernel_rfl) (fun _ _ _ h => h) (by rfl) (by intro wq hq; go_simp) (by assumption) ?_
          simp only [Act.put, List.setIfInBounds_toArray, List.set_cons_zero, List.set_cons_succ]
          refine reg_take (i := 7) (d := 38) (edV (q) (c) (t)) rfl rfl (by kernel_rfl) (by kernel_rfl) (by kernel_rfl) (fun _ _ _ h => h) (by rfl) (by intro wq hq; go_simp) (by assumption) ?_
          simp only [Act.put, List.setIfInBounds_toArray, List.set_cons_zero, List.set_cons_succ]
          refine reg_take (i := 8) (d := 39) (.bool true) rfl rfl (by kernel_rfl) (by kernel_rfl) (by kernel_rfl) (fun _ _ _ h => h) (by rfl) (by intro wq hq; go_simp) (by assumption) ?_
          simp only [Act.put, List.setIfInBounds_toArray, List.set_cons_zero, List.set_cons_succ]
          refine wpAnyH_ready (rs := [9]) (by kernel_rfl) (by simp) ?_
          refine AllReadyH.cons rfl (fun K hK => ?_) AllReadyH.nil
          go_simp
          have hwl0 := E1.lt
          have hl_FZ100 := FZ100.lt
          replace E1 := E1.alloc (.cells #[.int .i64 0, .int .i64 0, .string ⟨#[]⟩] 24)
          replace E2 := E2.alloc (.cells #[.int .i64 0, .int .i64 0, .string ⟨#[]⟩] 24)
          replace FZ100 := FZ100.alloc (.cells #[.int .i64 0, .int .i64 0, .string ⟨#[]⟩] 24)
          have FZ111 := EdAt.new v108 0 0 ⟨#[]⟩
          replace HB := HB.alloc HB.size (.cells #[.int .i64 0, .int .i64 0, .string ⟨#[]⟩] 24)
          have nG110 : w.heap.size ≤ v108.heap.size := Nat.le_of_lt hwl0
          have FZ100uG110 : G99 < v108.heap.size := hl_FZ100
          generalize (v108.alloc (.cells #[.int .i64 0, .int .i64 0, .string ⟨#[]⟩] 24)) = v109 at E1 E2 FZ100 FZ111 HB ⊢
          generalize v108.heap.size = G110 at FZ111 nG110 FZ100uG110 ⊢
          clear hwl0 hl_FZ100
          refine hK.out _ _ ⟨E1, E2⟩ (fun hHeld2 => ?_)
          clear hK hHeld
          have hHeld := hHeld2
          clear hHeld2
          obtain ⟨z0, z1, z2⟩ := FZ111.cells
          have fz := FZ111.free

          refine wpAnyH_ready (rs := [10]) (by kernel_rfl) (by simp) ?_
          refine AllReadyH.cons rfl (fun K hK => ?_) AllReadyH.nil
          go_simp
          have k1 : EdAtL (((v109.setCell ⟨G110, 0, none⟩ (.int .i64 (q))).setCell ⟨G110, 1, none⟩ (.int .i64 (c))).setCell ⟨G110, 2, none⟩ (.string (t))) w.heap.size p c t := EdAtL.putO E1 (fun e => by subst e; exact edL_ne E1 FZ111) _ _ _
          have k2 : EdAtL (((v109.setCell ⟨G110, 0, none⟩ (.int .i64 (q))).setCell ⟨G110, 1, none⟩ (.int .i64 (c))).setCell ⟨G110, 2, none⟩ (.string (t))) (w.heap.size + 1) p2 c2 t2 := EdAtL.putO E2 (fun e => by subst e; exact edL_ne E2 FZ111) _ _ _
          have k_FZ100 : EdAt (((v109.setCell ⟨G110, 0, none⟩ (.int .i64 (q))).setCell ⟨G110, 1, none⟩ (.int .i64 (c))).setCell ⟨G110, 2, none⟩ (.string (t))) G99 (q) (c) (t) := FZ100.putO (by have := nG110; have := FZ100uG110; omega) _ _ _
          have k_FZ111 : EdAt (((v109.setCell ⟨G110, 0, none⟩ (.int .i64 (q))).setCell ⟨G110, 1, none⟩ (.int .i64 (c))).setCell ⟨G110, 2, none⟩ (.string (t))) G110 (q) (c) (t) := FZ111.put (q) (c) (t)
          have kB : Below w.heap.size w (((v109.setCell ⟨G110, 0, none⟩ (.int .i64 (q))).setCell ⟨G110, 1, none⟩ (.int .i64 (c))).setCell ⟨G110, 2, none⟩ (.string (t))) := below_putE (p := q) (c := c) (t := t) HB nG110
          generalize (((v109.setCell ⟨G110, 0, none⟩ (.int .i64 (q))).setCell ⟨G110, 1, none⟩ (.int .i64 (c))).setCell ⟨G110, 2, none⟩ (.string (t))) = v112 at k1 k2 k_FZ100 k_FZ111 kB ⊢
          clear z0 z1 z2 fz E1 E2 HB hHeld FZ100 FZ111
          have E1 := k1
          have E2 := k2
          have HB := kB
          have FZ100 := k_FZ100
          have FZ111 := k_FZ111
          clear k1 k2 k_FZ100 k_FZ111 kB
          refine hK.out _ _ ⟨E1, E2⟩ (fun hHeld => ?_)
          clear hK
          refine reg_take (i := 11) (d := 11) (.bool true) rfl rfl (by kernel_rfl) (by kernel_rfl) (by kernel_rfl) (fun _ _ _ h => h) (by rfl) (by intro wq hq; go_simp) (by assumption) ?_
          simp only [Act.put, List.setIfInBounds_toArray, List.set_cons_zero, List.set_cons_succ]
          refine wpAnyH_done (by kernel_rfl) ?_ _
          clear hHeld
          obtain ⟨c0, c1, c2x⟩ := FZ100.cells
          obtain ⟨d0, d1, d2⟩ := FZ111.cells
          go_wp2_with fail
          refine (eqEdit_same _ _ _ _).mono ?_
          rintro e w9 ⟨rfl, hbn⟩
          go_wp2
          go_ret
          exact ⟨rfl, below_next HB hbn⟩
        · skip
          go_simp
          have hwl0 := E1.lt
          have hl_FZ100 := FZ100.lt
          replace E1 := E1.alloc (.cells #[.int .i64 0, .int .i64 0, .string ⟨#[]⟩] 24)
          replace E2 := E2.alloc (.cells #[.int .i64 0, .int .i64 0, .string ⟨#[]⟩] 24)
          replace FZ100 := FZ100.alloc (.cells #[.int .i64 0, .int .i64 0, .string ⟨#[]⟩] 24)
          have FZ115 := EdAt.new v107 0 0 ⟨#[]⟩
          replace HB := HB.alloc HB.size (.cells #[.int .i64 0, .int .i64 0, .string ⟨#[]⟩] 24)
          have nG114 : w.heap.size ≤ v107.heap.size := Nat.le_of_lt hwl0
          have FZ100uG114 : G99 < v107.heap.size := hl_FZ100
          generalize (v107.alloc (.cells #[.int .i64 0, .int .i64 0, .string ⟨#[]⟩] 24)) = v113 at E1 E2 FZ100 FZ115 HB ⊢
          generalize v107.heap.size = G114 at FZ115 nG114 FZ100uG114 ⊢
          clear hwl0 hl_FZ100
          refine hK.out _ _ ⟨E1, E2⟩ (fun hHeld2 => ?_)
          clear hK hHeld
          have hHeld := hHeld2
          clear hHeld2
          refine wpAnyH_ready (rs := [5]) (by kernel_rfl) (by simp) ?_
          refine AllReadyH.cons rfl (fun K hK => ?_) AllReadyH.nil
          go_simp
          refine (i_ShiftEdit_some p c t p2 c2 t2 many q v113 (by omega) (by omega) HS.out).mono ?_
          rintro e v116 ⟨rfl, hbn⟩
          replace E1 := E1.below hbn E1.lt
          replace E2 := E2.below hbn E2.lt
          replace FZ100 := FZ100.below hbn FZ100.lt
          replace FZ115 := FZ115.below hbn FZ115.lt
          replace HB := below_next HB hbn
          clear hbn
          refine hK.out _ _ ⟨E1, E2⟩ (fun hHeld2 => ?_)
          clear hK hHeld
          have hHeld := hHeld2
          clear hHeld2
          refine reg_take (i := 6) (d := 31) (.tuple #[edV (q) (c) (t), .bool true]) rfl rfl (by kernel_rfl) (by kernel_rfl) (by kernel_rfl) (fun _ _ _ h => h) (by rfl) (by intro wq hq; go_simp) (by assumption) ?_
          simp only [Act.put, List.setIfInBounds_toArray, List.set_cons_zero, List.set_cons_succ]
          refine reg_take (i := 7) (d := 38) (edV (q) (c) (t)) rfl rfl (by kernel_rfl) (by kernel_rfl) (by kernel_rfl) (fun _ _ _ h => h) (by rfl) (by intro wq hq; go_simp) (by assumption) ?_
          simp only [Act.put, List.setIfInBounds_toArray, List.set_cons_zero, List.set_cons_succ]
          refine reg_take (i := 8) (d := 39) (.bool true) rfl rfl (by kernel_rfl) (by kernel_rfl) (by kernel_rfl) (fun _ _ _ h => h) (by rfl) (by intro wq hq; go_simp) (by assumption) ?_
          simp only [Act.put, List.setIfInBounds_toArray, List.set_cons_zero, List.set_cons_succ]
          obtain ⟨z0, z1, z2⟩ := FZ115.cells
          have fz := FZ115.free

          refine wpAnyH_ready (rs := [10]) (by kernel_rfl) (by simp) ?_
          refine AllReadyH.cons rfl (fun K hK => ?_) AllReadyH.nil
          go_simp
          have k1 : EdAtL (((v116.setCell ⟨G114, 0, none⟩ (.int .i64 (q))).setCell ⟨G114, 1, none⟩ (.int .i64 (c))).setCell ⟨G114, 2, none⟩ (.string (t))) w.heap.size p c t := EdAtL.putO E1 (fun e => by subst e; exact edL_ne E1 FZ115) _ _ _
          have k2 : EdAtL (((v116.setCell ⟨G114, 0, none⟩ (.int .i64 (q))).setCell ⟨G114, 1, none⟩ (.int .i64 (c))).setCell ⟨G114, 2, none⟩ (.string (t))) (w.heap.size + 1) p2 c2 t2 := EdAtL.putO E2 (fun e => by subst e; exact edL_ne E2 FZ115) _ _ _
          have k_FZ100 : EdAt (((v116.setCell ⟨G114, 0, none⟩ (.int .i64 (q))).setCell ⟨G114, 1, none⟩ (.int .i64 (c))).setCell ⟨G114, 2, none⟩ (.string (t))) G99 (q) (c) (t) := FZ100.putO (by have := nG114; have := FZ100uG114; omega) _ _ _
          have k_FZ115 : EdAt (((v116.setCell ⟨G114, 0, none⟩ (.int .i64 (q))).setCell ⟨G114, 1, none⟩ (.int .i64 (c))).setCell ⟨G114, 2, none⟩ (.string (t))) G114 (q) (c) (t) := FZ115.put (q) (c) (t)
          have kB : Below w.heap.size w (((v116.setCell ⟨G114, 0, none⟩ (.int .i64 (q))).setCell ⟨G114, 1, none⟩ (.int .i64 (c))).setCell ⟨G114, 2, none⟩ (.string (t))) := below_putE (p := q) (c := c) (t := t) HB nG114
          generalize (((v116.setCell ⟨G114, 0, none⟩ (.int .i64 (q))).setCell ⟨G114, 1, none⟩ (.int .i64 (c))).setCell ⟨G114, 2, none⟩ (.string (t))) = v117 at k1 k2 k_FZ100 k_FZ115 kB ⊢
          clear z0 z1 z2 fz E1 E2 HB hHeld FZ100 FZ115
          have E1 := k1
          have E2 := k2
          have HB := kB
          have FZ100 := k_FZ100
          have FZ115 := k_FZ115
          clear k1 k2 k_FZ100 k_FZ115 kB
          refine hK.out _ _ ⟨E1, E2⟩ (fun hHeld => ?_)
          clear hK
          refine reg_take (i := 11) (d := 11) (.bool true) rfl rfl (by kernel_rfl) (by kernel_rfl) (by kernel_rfl) (fun _ _ _ h => h) (by rfl) (by intro wq hq; go_simp) (by assumption) ?_
          simp only [Act.put, List.setIfInBounds_toArray, List.set_cons_zero, List.set_cons_succ]
          refine wpAnyH_done (by kernel_rfl) ?_ _
          clear hHeld
          obtain ⟨c0, c1, c2x⟩ := FZ100.cells
          obtain ⟨d0, d1, d2⟩ := FZ115.cells
          go_wp2_with fail
          refine (eqEdit_same _ _ _ _).mono ?_
          rintro e w9 ⟨rfl, hbn⟩
          go_wp2
          go_ret
          exact ⟨rfl, below_next HB hbn⟩
      · skip
        go_simp
        have hwl0 := E1.lt
        have hl_FZ100 := FZ100.lt
        replace E1 := E1.alloc (.cells #[.int .i64 0, .int .i64 0, .string ⟨#[]⟩] 24)
        replace E2 := E2.alloc (.cells #[.int .i64 0, .int .i64 0, .string ⟨#[]⟩] 24)
        replace FZ100 := FZ100.alloc (.cells #[.int .i64 0, .int .i64 0, .string ⟨#[]⟩] 24)
        have FZ120 := EdAt.new v106 0 0 ⟨#[]⟩
        replace HB := HB.alloc HB.size (.cells #[.int .i64 0, .int .i64 0, .string ⟨#[]⟩] 24)
        have nG119 : w.heap.size ≤ v106.heap.size := Nat.le_of_lt hwl0
        have FZ100uG119 : G99 < v106.heap.size := hl_FZ100
        generalize (v106.alloc (.cells #[.int .i64 0, .int .i64 0, .string ⟨#[]⟩] 24)) = v118 at E1 E2 FZ100 FZ120 HB ⊢
        generalize v106.heap.size = G119 at FZ120 nG119 FZ100uG119 ⊢
        clear hwl0 hl_FZ100
        refine hK.out _ _ ⟨E1, E2⟩ (fun hHeld2 => ?_)
        clear hK hHeld
        have hHeld := hHeld2
        clear hHeld2
        refine wpAnyH_ready (rs := [3]) (by kernel_rfl) (by simp) ?_
        refine AllReadyH.cons rfl (fun K hK => ?_) AllReadyH.nil
        go_simp
        refine (toEdit_any p2 c2 t2 v118).mono ?_
        rintro e v121 ⟨rfl, hbn⟩
        replace E1 := E1.below hbn E1.lt
        replace E2 := E2.below hbn E2.lt
        replace FZ100 := FZ100.below hbn FZ100.lt
        replace FZ120 := FZ120.below hbn FZ120.lt
        replace HB := below_next HB hbn
        clear hbn
        refine hK.out _ _ ⟨E1, E2⟩ (fun hHeld2 => ?_)
        clear hK hHeld
        have hHeld := hHeld2
        clear hHeld2
        refine wpAnyH_ready (rs := [5]) (by kernel_rfl) (by simp) ?_
        refine AllReadyH.cons rfl (fun K hK => ?_) AllReadyH.nil
        go_simp
        refine (i_ShiftEdit_some p c t p2 c2 t2 many q v121 (by omega) (by omega) HS.out).mono ?_
        rintro e v122 ⟨rfl, hbn⟩
        replace E1 := E1.below hbn E1.lt
        replace E2 := E2.below hbn E2.lt
        replace FZ100 := FZ100.below hbn FZ100.lt
        replace FZ120 := FZ120.below hbn FZ120.lt
        replace HB := below_next HB hbn
        clear hbn
        refine hK.out _ _ ⟨E1, E2⟩ (fun hHeld2 => ?_)
        clear hK hHeld
        have hHeld := hHeld2
        clear hHeld2
        refine reg_take (i := 6) (d := 31) (.tuple #[edV (q) (c) (t), .bool true]) rfl rfl (by kernel_rfl) (by kernel_rfl) (by kernel_rfl) (fun _ _ _ h => h) (by rfl) (by intro wq hq; go_simp) (by assumption) ?_
        simp only [Act.put, List.setIfInBounds_toArray, List.set_cons_zero, List.set_cons_succ]
        refine reg_take (i := 7) (d := 38) (edV (q) (c) (t)) rfl rfl (by kernel_rfl) (by kernel_rfl) (by kernel_rfl) (fun _ _ _ h => h) (by rfl) (by intro wq hq; go_simp) (by assumption) ?_
        simp only [Act.put, List.setIfInBounds_toArray, List.set_cons_zero, List.set_cons_succ]
        refine reg_take (i := 8) (d := 39) (.bool true) rfl rfl (by kernel_rfl) (by kernel_rfl) (by kernel_rfl) (fun _ _ _ h => h) (by rfl) (by intro wq hq; go_simp) (by assumption) ?_
        simp only [Act.put, List.setIfInBounds_toArray, List.set_cons_zero, List.set_cons_succ]
        obtain ⟨z0, z1, z2⟩ := FZ120.cells
        have fz := FZ120.free

        refine wpAnyH_ready (rs := [10]) (by kernel_rfl) (by simp) ?_
        refine AllReadyH.cons rfl (fun K hK => ?_) AllReadyH.nil
        go_simp
        have k1 : EdAtL (((v122.setCell ⟨G119, 0, none⟩ (.int .i64 (q))).setCell ⟨G119, 1, none⟩ (.int .i64 (c))).setCell ⟨G119, 2, none⟩ (.string (t))) w.heap.size p c t := EdAtL.putO E1 (fun e => by subst e; exact edL_ne E1 FZ120) _ _ _
        have k2 : EdAtL (((v122.setCell ⟨G119, 0, none⟩ (.int .i64 (q))).setCell ⟨G119, 1, none⟩ (.int .i64 (c))).setCell ⟨G119, 2, none⟩ (.string (t))) (w.heap.size + 1) p2 c2 t2 := EdAtL.putO E2 (fun e => by subst e; exact edL_ne E2 FZ120) _ _ _
        have k_FZ100 : EdAt (((v122.setCell ⟨G119, 0, none⟩ (.int .i64 (q))).setCell ⟨G119, 1, none⟩ (.int .i64 (c))).setCell ⟨G119, 2, none⟩ (.string (t))) G99 (q) (c) (t) := FZ100.putO (by have := nG119; have := FZ100uG119; omega) _ _ _
        have k_FZ120 : EdAt (((v122.setCell ⟨G119, 0, none⟩ (.int .i64 (q))).setCell ⟨G119, 1, none⟩ (.int .i64 (c))).setCell ⟨G119, 2, none⟩ (.string (t))) G119 (q) (c) (t) := FZ120.put (q) (c) (t)
        have kB : Below w.heap.size w (((v122.setCell ⟨G119, 0, none⟩ (.int .i64 (q))).setCell ⟨G119, 1, none⟩ (.int .i64 (c))).setCell ⟨G119, 2, none⟩ (.string (t))) := below_putE (p := q) (c := c) (t := t) HB nG119
        generalize (((v122.setCell ⟨G119, 0, none⟩ (.int .i64 (q))).setCell ⟨G119, 1, none⟩ (.int .i64 (c))).setCell ⟨G119, 2, none⟩ (.string (t))) = v123 at k1 k2 k_FZ100 k_FZ120 kB ⊢
        clear z0 z1 z2 fz E1 E2 HB hHeld FZ100 FZ120
        have E1 := k1
        have E2 := k2
        have HB := kB
        have FZ100 := k_FZ100
        have FZ120 := k_FZ120
        clear k1 k2 k_FZ100 k_FZ120 kB
        refine hK.out _ _ ⟨E1, E2⟩ (fun hHeld => ?_)
        clear hK
        refine reg_take (i := 11) (d := 11) (.bool true) rfl rfl (by kernel_rfl) (by kernel_rfl) (by kernel_rfl) (fun _ _ _ h => h) (by rfl) (by intro wq hq; go_simp) (by assumption) ?_
        simp only [Act.put, List.setIfInBounds_toArray, List.set_cons_zero, List.set_cons_succ]
        refine wpAnyH_done (by kernel_rfl) ?_ _
        clear hHeld
        obtain ⟨c0, c1, c2x⟩ := FZ100.cells
        obtain ⟨d0, d1, d2⟩ := FZ120.cells
        go_wp2_with fail
        refine (eqEdit_same _ _ _ _).mono ?_
        rintro e w9 ⟨rfl, hbn⟩
        go_wp2
        go_ret
        exact ⟨rfl, below_next HB hbn⟩
    · skip
      go_simp
      have hwl0 := E1.lt
      have hl_FZ100 := FZ100.lt
      replace E1 := E1.alloc (.cells #[.int .i64 0, .int .i64 0, .string ⟨#[]⟩] 24)
      replace E2 := E2.alloc (.cells #[.int .i64 0, .int .i64 0, .string ⟨#[]⟩] 24)
      replace FZ100 := FZ100.alloc (.cells #[.int .i64 0, .int .i64 0, .string ⟨#[]⟩] 24)
      have FZ126 := EdAt.new v105 0 0 ⟨#[]⟩
      replace HB := HB.alloc HB.size (.cells #[.int .i64 0, .int .i64 0, .string ⟨#[]⟩] 24)
      have nG125 : w.heap.size ≤ v105.heap.size := Nat.le_of_lt hwl0
      have FZ100uG125 : G99 < v105.heap.size := hl_FZ100
      generalize (v105.alloc (.cells #[.int .i64 0, .int .i64 0, .string ⟨#[]⟩] 24)) = v124 at E1 E2 FZ100 FZ126 HB ⊢
      generalize v105.heap.size = G125 at FZ126 nG125 FZ100uG125 ⊢
      clear hwl0 hl_FZ100
      refine hK.out _ _ ⟨E1, E2⟩ (fun hHeld2 => ?_)
      clear hK hHeld
      have hHeld := hHeld2
      clear hHeld2
      refine wpAnyH_ready (rs := [1]) (by kernel_rfl) (by simp) ?_
      refine AllReadyH.cons rfl (fun K hK => ?_) AllReadyH.nil
      go_simp
      refine (toEdit_any p c t v124).mono ?_
      rintro e v127 ⟨rfl, hbn⟩
      replace E1 := E1.below hbn E1.lt
      replace E2 := E2.below hbn E2.lt
      replace FZ100 := FZ100.below hbn FZ100.lt
      replace FZ126 := FZ126.below hbn FZ126.lt
      replace HB := below_next HB hbn
      clear hbn
      refine hK.out _ _ ⟨E1, E2⟩ (fun hHeld2 => ?_)
      clear hK hHeld
      have hHeld := hHeld2
      clear hHeld2
      refine wpAnyH_ready (rs := [3]) (by kernel_rfl) (by simp) ?_
      refine AllReadyH.cons rfl (fun K hK => ?_) AllReadyH.nil
      go_simp
      refine (toEdit_any p2 c2 t2 v127).mono ?_
      rintro e v128 ⟨rfl, hbn⟩
      replace E1 := E1.below hbn E1.lt
      replace E2 := E2.below hbn E2.lt
      replace FZ100 := FZ100.below hbn FZ100.lt
      replace FZ126 := FZ126.below hbn FZ126.lt
      replace HB := below_next HB hbn
      clear hbn
      refine hK.out _ _ ⟨E1, E2⟩ (fun hHeld2 => ?_)
      clear hK hHeld
      have hHeld := hHeld2
      clear hHeld2
      refine wpAnyH_ready (rs := [5]) (by kernel_rfl) (by simp) ?_
      refine AllReadyH.cons rfl (fun K hK => ?_) AllReadyH.nil
      go_simp
      refine (i_ShiftEdit_some p c t p2 c2 t2 many q v128 (by omega) (by omega) HS.out).mono ?_
      rintro e v129 ⟨rfl, hbn⟩
      replace E1 := E1.below hbn E1.lt
      replace E2 := E2.below hbn E2.lt
      replace FZ100 := FZ100.below hbn FZ100.lt
      replace FZ126 := FZ126.below hbn FZ126.lt
      replace HB := below_next HB hbn
      clear hbn
      refine hK.out _ _ ⟨E1, E2⟩ (fun hHeld2 => ?_)
      clear hK hHeld
      have hHeld := hHeld2
      clear hHeld2
      refine reg_take (i := 6) (d := 31) (.tuple #[edV (q) (c) (t), .bool true]) rfl rfl (by kernel_rfl) (by kernel_rfl) (by kernel_rfl) (fun _ _ _ h => h) (by rfl) (by intro wq hq; go_simp) (by assumption) ?_
      simp only [Act.put, List.setIfInBounds_toArray, List.set_cons_zero, List.set_cons_succ]
      refine reg_take (i := 7) (d := 38) (edV (q) (c) (t)) rfl rfl (by kernel_rfl) (by kernel_rfl) (by kernel_rfl) (fun _ _ _ h => h) (by rfl) (by intro wq hq; go_simp) (by assumption) ?_
      simp only [Act.put, List.setIfInBounds_toArray, List.set_cons_zero, List.set_cons_succ]
      refine reg_take (i := 8) (d := 39) (.bool true) rfl rfl (by kernel_rfl) (by kernel_rfl) (by kernel_rfl) (fun _ _ _ h => h) (by rfl) (by intro wq hq; go_simp) (by assumption) ?_
      simp only [Act.put, List.setIfInBounds_toArray, List.set_cons_zero, List.set_cons_succ]
      obtain ⟨z0, z1, z2⟩ := FZ126.cells
      have fz := FZ126.free

      refine wpAnyH_ready (rs := [10]) (by kernel_rfl) (by simp) ?_
      refine AllReadyH.cons rfl (fun K hK => ?_) AllReadyH.nil
      go_simp
      have k1 : EdAtL (((v129.setCell ⟨G125, 0, none⟩ (.int .i64 (q))).setCell ⟨G125, 1, none⟩ (.int .i64 (c))).setCell ⟨G125, 2, none⟩ (.string (t))) w.heap.size p c t := EdAtL.putO E1 (fun e => by subst e; exact edL_ne E1 FZ126) _ _ _
      have k2 : EdAtL (((v129.setCell ⟨G125, 0, none⟩ (.int .i64 (q))).setCell ⟨G125, 1, none⟩ (.int .i64 (c))).setCell ⟨G125, 2, none⟩ (.string (t))) (w.heap.size + 1) p2 c2 t2 := EdAtL.putO E2 (fun e => by subst e; exact edL_ne E2 FZ126) _ _ _
      have k_FZ100 : EdAt (((v129.setCell ⟨G125, 0, none⟩ (.int .i64 (q))).setCell ⟨G125, 1, none⟩ (.int .i64 (c))).setCell ⟨G125, 2, none⟩ (.string (t))) G99 (q) (c) (t) := FZ100.putO (by have := nG125; have := FZ100uG125; omega) _ _ _
      have k_FZ126 : EdAt (((v129.setCell ⟨G125, 0, none⟩ (.int .i64 (q))).setCell ⟨G125, 1, none⟩ (.int .i64 (c))).setCell ⟨G125, 2, none⟩ (.string (t))) G125 (q) (c) (t) := FZ126.put (q) (c) (t)
      have kB : Below w.heap.size w (((v129.setCell ⟨G125, 0, none⟩ (.int .i64 (q))).setCell ⟨G125, 1, none⟩ (.int .i64 (c))).setCell ⟨G125, 2, none⟩ (.string (t))) := below_putE (p := q) (c := c) (t := t) HB nG125
      generalize (((v129.setCell ⟨G125, 0, none⟩ (.int .i64 (q))).setCell ⟨G125, 1, none⟩ (.int .i64 (c))).setCell ⟨G125, 2, none⟩ (.string (t))) = v130 at k1 k2 k_FZ100 k_FZ126 kB ⊢
      clear z0 z1 z2 fz E1 E2 HB hHeld FZ100 FZ126
      have E1 := k1
      have E2 := k2
      have HB := kB
      have FZ100 := k_FZ100
      have FZ126 := k_FZ126
      clear k1 k2 k_FZ100 k_FZ126 kB
      refine hK.out _ _ ⟨E1, E2⟩ (fun hHeld => ?_)
      clear hK
      refine reg_take (i := 11) (d := 11) (.bool true) rfl rfl (by kernel_rfl) (by kernel_rfl) (by kernel_rfl) (fun _ _ _ h => h) (by rfl) (by intro wq hq; go_simp) (by assumption) ?_
      simp only [Act.put, List.setIfInBounds_toArray, List.set_cons_zero, List.set_cons_succ]
      refine wpAnyH_done (by kernel_rfl) ?_ _
      clear hHeld
      obtain ⟨c0, c1, c2x⟩ := FZ100.cells
      obtain ⟨d0, d1, d2⟩ := FZ126.cells
      go_wp2_with fail
      refine (eqEdit_same _ _ _ _).mono ?_
      rintro e w9 ⟨rfl, hbn⟩
      go_wp2
      go_ret
      exact ⟨rfl, below_next HB hbn⟩
end Go.Proofs.Ythlamidlcbnchaa
