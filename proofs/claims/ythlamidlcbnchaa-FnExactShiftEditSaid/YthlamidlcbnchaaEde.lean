
/- The exact laws of edits. -/
import Derived.Test.YthlamidlcbnchaaEdc
import Derived.OpenShut
namespace Go.Proofs.Ythlamidlcbnchaa
open Go.RowKit Go.WideShapes Go.ChangeShapes

def EdAtL (w : World) (g : Nat) (p c : Int) (t : ByteArray) : Prop := w.heap[g]? = some (.cells #[.int .i64 p, .int .i64 c, .string t] 40 (0, 0))
theorem EdAtL.new (w : World) (p c : Int) (t : ByteArray) : EdAtL (w.alloc (.cells #[.int .i64 p, .int .i64 c, .string t] 40)) w.heap.size p c t := heap_alloc_new w _
theorem EdAtL.lt {w : World} {g : Nat} {p c : Int} {t : ByteArray} (h : EdAtL w g p c t) : g < w.heap.size := (Array.getElem?_eq_some_iff.1 h).1
theorem EdAtL.below {w w' : World} {g B : Nat} {p c : Int} {t : ByteArray} (h : EdAtL w g p c t) (hb : Below B w w') (hg : g < B) : EdAtL w' g p c t := (hb.block g hg).trans h
theorem EdAtL.cells {w : World} {g : Nat} {p c : Int} {t : ByteArray} (h : EdAtL w g p c t) :
    w.cell? ⟨g, 0, none⟩ = some (.int .i64 p) ∧ w.cell? ⟨g, 1, none⟩ = some (.int .i64 c) ∧ w.cell? ⟨g, 2, none⟩ = some (.string t) := by
  refine ⟨?_, ?_, ?_⟩ <;> (rw [cell_of_row w g _ _ _ _ h]; rfl)
theorem EdAtL.alloc {w : World} {g : Nat} {p c : Int} {t : ByteArray} (h : EdAtL w g p c t) (o : Obj) : EdAtL (w.alloc o) g p c t := h.below ((Below.refl _ _).alloc (Nat.le_refl _) o) h.lt
theorem lbox (w : World) (p c : Int) (t : ByteArray) : Below w.heap.size w (w.alloc (.cells #[.int .i64 p, .int .i64 c, .string t] 40)) := (Below.refl _ _).alloc (Nat.le_refl _) _

set_option maxHeartbeats 1000000 in
theorem szEdit_yes (p c left : Int) (t : ByteArray) (w : World) (h0 : (t.size : Int) ≤ left) (h1 : left ≤ 1048576) :
    Calls Try.prog 28 #[edV p c t, .int .i64 left] w fun e w' => e = .returned (.int .i64 (left - (t.size : Int))) ∧ Below w.heap.size w w' := by
  have u : IntKind.i64.wrap (left - (t.size : Int)) = left - (t.size : Int) := IntWalk.i64_in _ (by omega)
  have d : decide (left - (t.size : Int) < 0) = false := decide_eq_false (by omega)
  go_enter Try.func28, Try.ntmps28
  go_wp2
  go_ret
  exact ⟨rfl, lbox w p c t⟩
set_option maxHeartbeats 1000000 in
theorem szEdit_no (p c left : Int) (t : ByteArray) (w : World) (ht : t.size ≤ 9223372036854775807) (h2 : 0 ≤ left) (h0 : left < (t.size : Int)) (h1 : left ≤ 1048576) :
    Calls Try.prog 28 #[edV p c t, .int .i64 left] w fun e w' => e = .returned (.int .i64 (-1)) ∧ Below w.heap.size w w' := by
  have u : IntKind.i64.wrap (left - (t.size : Int)) = left - (t.size : Int) := IntWalk.i64_in _ (by omega)
  have d : decide (left - (t.size : Int) < 0) = true := decide_eq_true (by omega)
  go_enter Try.func28, Try.ntmps28
  go_wp2
  go_ret
  exact ⟨rfl, lbox w p c t⟩
set_option maxHeartbeats 1000000 in
theorem toEdit_any (p c : Int) (t : ByteArray) (w : World) :
    Calls Try.prog 29 #[edV p c t] w fun e w' => e = .returned (edV p c t) ∧ Below w.heap.size w w' := by
  go_enter Try.func29, Try.ntmps29
  go_wp2
  have hk := (EdAt.new (w.alloc (.cells #[.int .i64 p, .int .i64 c, .string t] 40)) p c t).alloc (.cells #[.int .i64 p, .int .i64 c, .string t] 24)
  rw [World.size_alloc] at hk
  simp only [EdAt] at hk
  refine bodyPost_ret (results_cell_row rfl _ _ (w.heap.size + 1) _ _ _ _ rfl hk Try.underlying24 rfl (by kernel_rfl)) rfl ?_
  exact ⟨rfl, (((Below.refl _ _).alloc (Nat.le_refl _) _).alloc (by rw [World.size_alloc]; omega) _).alloc (by rw [World.size_alloc, World.size_alloc]; omega) _⟩
set_option maxHeartbeats 1000000 in
theorem eqEdit_same (p c : Int) (t : ByteArray) (w : World) :
    Calls Try.prog 30 #[edV p c t, edV p c t] w fun e w' => e = .returned (.bool true) ∧ Below w.heap.size w w' := by
  go_enter Try.func30, Try.ntmps30
  go_wp2
  go_ret
  exact ⟨rfl, (ebox2 w p c t p c t).2.2⟩
set_option maxHeartbeats 4000000 in
theorem exApplyEdit_walk (s : ByteArray) (p c : Int) (t : ByteArray) (w : World) (ws : s.size ≤ maxLen) (wt : t.size ≤ maxLen) :
    Calls Try.prog 10 #[.string s, edV p c t] w fun e w' => e = .returned (.bool true) ∧ Below w.heap.size w w' := by
  unfold maxLen at ws wt
  by_cases hbig : s.size ≤ 1048576
  · by_cases hbt : t.size ≤ 1048576
    · by_cases hok : ValidT s.data.toList ∧ CanE p c t s.size
      · obtain ⟨hv, hc⟩ := hok
        obtain ⟨m, q, d, e1, e2, e3, e4, e5, e6, e7, e8⟩ := hc.nat
        subst e2 e3
        clear e1
        have HV := Lib.hid hv
        have HC := Lib.hid hc
        clear hv hc e7
        have E1 := EdAtL.new w (q : Int) (d : Int) t
        have HB : Below w.heap.size w (w.alloc (.cells #[.int .i64 (q : Int), .int .i64 (d : Int), .string t] 40)) := (Below.refl _ _).alloc (Nat.le_refl _) _
        go_enter Try.func10, Try.ntmps10
        go_wp2_with fail
        generalize (w.alloc (.cells #[.int .i64 (q : Int), .int .i64 (d : Int), .string t] 40)) = wA at E1 HB ⊢
        obtain ⟨c00a, c00b, c00c⟩ := E1.cells
        refine (szEdit_yes _ _ 1048576 t _ (by omega) (by omega)).mono ?_
        rintro e w1 ⟨rfl, hb1⟩
        replace E1 := E1.below hb1 E1.lt
        replace HB := below_next HB hb1
        clear hb1 c00a c00b c00c
        obtain ⟨c10a, c10b, c10c⟩ := E1.cells
        go_wp2_with fail
        refine (toEdit_any (q : Int) (d : Int) t _).mono ?_
        rintro e w2 ⟨rfl, hb2⟩
        replace E1 := E1.below hb2 E1.lt
        replace HB := below_next HB hb2
        clear hb2 c10a c10b c10c
        obtain ⟨c20a, c20b, c20c⟩ := E1.cells
        go_wp2_with fail
        refine (s_ApplyEdit_yes s t q d _ hbig hbt HV.out HC.out).mono ?_
        rintro e w3 ⟨rfl, hb3⟩
        replace E1 := E1.below hb3 E1.lt
        replace HB := below_next HB hb3
        clear hb3 c20a c20b c20c
        obtain ⟨c30a, c30b, c30c⟩ := E1.cells
        go_wp2_with fail
        refine (toEdit_any (q : Int) (d : Int) t _).mono ?_
        rintro e w4 ⟨rfl, hb4⟩
        replace E1 := E1.below hb4 E1.lt
        replace HB := below_next HB hb4
        clear hb4 c30a c30b c30c
        obtain ⟨c40a, c40b, c40c⟩ := E1.cells
        go_wp2_with fail
        refine (i_ApplyEdit_yes s t q d _ hbig hbt HV.out HC.out).mono ?_
        rintro e w5 ⟨rfl, hb5⟩
        replace E1 := E1.below hb5 E1.lt
        replace HB := below_next HB hb5
        clear hb5 c40a c40b c40c
        obtain ⟨c50a, c50b, c50c⟩ := E1.cells
        go_wp2
        go_ret
        exact ⟨rfl, HB⟩
      · have HN := Lib.hid hok
        clear hok
        have E1 := EdAtL.new w p c t
        have HB : Below w.heap.size w (w.alloc (.cells #[.int .i64 p, .int .i64 c, .string t] 40)) := (Below.refl _ _).alloc (Nat.le_refl _) _
        go_enter Try.func10, Try.ntmps10
        go_wp2_with fail
        generalize (w.alloc (.cells #[.int .i64 p, .int .i64 c, .string t] 40)) = wA at E1 HB ⊢
        obtain ⟨c00a, c00b, c00c⟩ := E1.cells
        refine (szEdit_yes _ _ 1048576 t _ (by omega) (by omega)).mono ?_
        rintro e w1 ⟨rfl, hb1⟩
        replace E1 := E1.below hb1 E1.lt
        replace HB := below_next HB hb1
        clear hb1 c00a c00b c00c
        obtain ⟨c10a, c10b, c10c⟩ := E1.cells
        go_wp2_with fail
        refine (toEdit_any p c t _).mono ?_
        rintro e w2 ⟨rfl, hb2⟩
        replace E1 := E1.below hb2 E1.lt
        replace HB := below_next HB hb2
        clear hb2 c10a c10b c10c
        obtain ⟨c20a, c20b, c20c⟩ := E1.cells
        go_wp2_with fail
        refine (s_ApplyEdit_no s t p c _ hbig hbt HN.out).mono ?_
        rintro e w3 ⟨rfl, hb3⟩
        replace E1 := E1.below hb3 E1.lt
        replace HB := below_next HB hb3
        clear hb3 c20a c20b c20c
        obtain ⟨c30a, c30b, c30c⟩ := E1.cells
        go_wp2_with fail
        refine (toEdit_any p c t _).mono ?_
        rintro e w4 ⟨rfl, hb4⟩
        replace E1 := E1.below hb4 E1.lt
        replace HB := below_next HB hb4
        clear hb4 c30a c30b c30c
        obtain ⟨c40a, c40b, c40c⟩ := E1.cells
        go_wp2_with fail
        refine (i_ApplyEdit_no s t p c _ hbig hbt HN.out).mono ?_
        rintro e w5 ⟨rfl, hb5⟩
        replace E1 := E1.below hb5 E1.lt
        replace HB := below_next HB hb5
        clear hb5 c40a c40b c40c
        obtain ⟨c50a, c50b, c50c⟩ := E1.cells
        go_wp2
        go_ret
        exact ⟨rfl, HB⟩
    · have hl : (1048576 : Int) < (t.size : Int) := by omega
      have E1 := EdAtL.new w p c t
      have HB : Below w.heap.size w (w.alloc (.cells #[.int .i64 p, .int .i64 c, .string t] 40)) := (Below.refl _ _).alloc (Nat.le_refl _) _
      go_enter Try.func10, Try.ntmps10
      go_wp2_with fail
      generalize (w.alloc (.cells #[.int .i64 p, .int .i64 c, .string t] 40)) = wA at E1 HB ⊢
      obtain ⟨c00a, c00b, c00c⟩ := E1.cells
      refine (szEdit_no _ _ 1048576 t _ (by omega) (by omega) (by omega) (by omega)).mono ?_
      rintro e w1 ⟨rfl, hb1⟩
      replace E1 := E1.below hb1 E1.lt
      replace HB := below_next HB hb1
      clear hb1 c00a c00b c00c
      obtain ⟨c10a, c10b, c10c⟩ := E1.cells
      go_wp2
      go_ret
      exact ⟨rfl, HB⟩
  · have d : decide (s.size ≤ 1048576) = false := decide_eq_false hbig
    have hl : (1048576 : Int) < (s.size : Int) := by omega
    have E1 := EdAtL.new w p c t
    have HB : Below w.heap.size w (w.alloc (.cells #[.int .i64 p, .int .i64 c, .string t] 40)) := (Below.refl _ _).alloc (Nat.le_refl _) _
    go_enter Try.func10, Try.ntmps10
    go_wp2
    go_ret
    exact ⟨rfl, HB⟩
set_option maxHeartbeats 4000000 in
theorem exInvertEdit_walk (s : ByteArray) (p c : Int) (t : ByteArray) (w : World) (ws : s.size ≤ maxLen) (wt : t.size ≤ maxLen) :
    Calls Try.prog 11 #[.string s, edV p c t] w fun e w' => e = .returned (.bool true) ∧ Below w.heap.size w w' := by
  unfold maxLen at ws wt
  by_cases hbig : s.size ≤ 1048576
  · by_cases hbt : t.size ≤ 1048576
    · by_cases hok : ValidT s.data.toList ∧ CanE p c t s.size
      · obtain ⟨hv, hc⟩ := hok
        obtain ⟨m, q, d, e1, e2, e3, e4, e5, e6, e7, e8⟩ := hc.nat
        subst e2 e3
        clear e1
        have HV := Lib.hid hv
        have HC := Lib.hid hc
        clear hv hc e7
        have E1 := EdAtL.new w (q : Int) (d : Int) t
        have HB : Below w.heap.size w (w.alloc (.cells #[.int .i64 (q : Int), .int .i64 (d : Int), .string t] 40)) := (Below.refl _ _).alloc (Nat.le_refl _) _
        go_enter Try.func11, Try.ntmps11
        go_wp2_with fail
        generalize (w.alloc (.cells #[.int .i64 (q : Int), .int .i64 (d : Int), .string t] 40)) = wA at E1 HB ⊢
        obtain ⟨c00a, c00b, c00c⟩ := E1.cells
        refine (szEdit_yes _ _ 1048576 t _ (by omega) (by omega)).mono ?_
        rintro e w1 ⟨rfl, hb1⟩
        replace E1 := E1.below hb1 E1.lt
        replace HB := below_next HB hb1
        clear hb1 c00a c00b c00c
        obtain ⟨c10a, c10b, c10c⟩ := E1.cells
        go_wp2_with fail
        refine (toEdit_any (q : Int) (d : Int) t _).mono ?_
        rintro e w2 ⟨rfl, hb2⟩
        replace E1 := E1.below hb2 E1.lt
        replace HB := below_next HB hb2
        clear hb2 c10a c10b c10c
        obtain ⟨c20a, c20b, c20c⟩ := E1.cells
        go_wp2_with fail
        refine (s_InvertEdit_yes s t q d _ hbig hbt HV.out HC.out).mono ?_
        rintro e w3 ⟨rfl, hb3⟩
        replace E1 := E1.below hb3 E1.lt
        replace HB := below_next HB hb3
        clear hb3 c20a c20b c20c
        obtain ⟨c30a, c30b, c30c⟩ := E1.cells
        clear c30a c30b c30c
        replace E1 := E1.alloc (.cells #[.int .i64 ((q : Int)), .int .i64 ((t.size : Int)), .string (s.extract q (q + d))] 24)
        have E2 := EdAt.new w3 ((q : Int)) ((t.size : Int)) (s.extract q (q + d))
        replace HB := HB.alloc HB.size (.cells #[.int .i64 ((q : Int)), .int .i64 ((t.size : Int)), .string (s.extract q (q + d))] 24)
        obtain ⟨c30a, c30b, c30c⟩ := E1.cells
        obtain ⟨c31a, c31b, c31c⟩ := E2.cells
        go_wp2_with fail
        refine (toEdit_any (q : Int) (d : Int) t _).mono ?_
        rintro e w4 ⟨rfl, hb4⟩
        replace E1 := E1.below hb4 E1.lt
        replace E2 := E2.below hb4 E2.lt
        replace HB := below_next HB hb4
        clear hb4 c30a c30b c30c c31a c31b c31c
        obtain ⟨c40a, c40b, c40c⟩ := E1.cells
        obtain ⟨c41a, c41b, c41c⟩ := E2.cells
        go_wp2_with fail
        refine (i_InvertEdit_yes s t q d _ hbig hbt HV.out HC.out).mono ?_
        rintro e w5 ⟨rfl, hb5⟩
        replace E1 := E1.below hb5 E1.lt
        replace E2 := E2.below hb5 E2.lt
        replace HB := below_next HB hb5
        clear hb5 c40a c40b c40c c41a c41b c41c
        obtain ⟨c50a, c50b, c50c⟩ := E1.cells
        obtain ⟨c51a, c51b, c51c⟩ := E2.cells
        clear c50a c50b c50c c51a c51b c51c
        replace E1 := E1.alloc (.cells #[.int .i64 ((q : Int)), .int .i64 ((t.size : Int)), .string (s.extract q (q + d))] 24)
        replace E2 := E2.alloc (.cells #[.int .i64 ((q : Int)), .int .i64 ((t.size : Int)), .string (s.extract q (q + d))] 24)
        have E3 := EdAt.new w5 ((q : Int)) ((t.size : Int)) (s.extract q (q + d))
        replace HB := HB.alloc HB.size (.cells #[.int .i64 ((q : Int)), .int .i64 ((t.size : Int)), .string (s.extract q (q + d))] 24)
        obtain ⟨c50a, c50b, c50c⟩ := E1.cells
        obtain ⟨c51a, c51b, c51c⟩ := E2.cells
        obtain ⟨c52a, c52b, c52c⟩ := E3.cells
        go_wp2_with fail
        refine (eqEdit_same _ _ _ _).mono ?_
        rintro e w6 ⟨rfl, hb6⟩
        replace E1 := E1.below hb6 E1.lt
        replace E2 := E2.below hb6 E2.lt
        replace E3 := E3.below hb6 E3.lt
        replace HB := below_next HB hb6
        clear hb6 c50a c50b c50c c51a c51b c51c c52a c52b c52c
        obtain ⟨c60a, c60b, c60c⟩ := E1.cells
        obtain ⟨c61a, c61b, c61c⟩ := E2.cells
        obtain ⟨c62a, c62b, c62c⟩ := E3.cells
        go_wp2
        go_ret
        exact ⟨rfl, HB⟩
      · have HN := Lib.hid hok
        clear hok
        have E1 := EdAtL.new w p c t
        have HB : Below w.heap.size w (w.alloc (.cells #[.int .i64 p, .int .i64 c, .string t] 40)) := (Below.refl _ _).alloc (Nat.le_refl _) _
        go_enter Try.func11, Try.ntmps11
        go_wp2_with fail
        generalize (w.alloc (.cells #[.int .i64 p, .int .i64 c, .string t] 40)) = wA at E1 HB ⊢
        obtain ⟨c00a, c00b, c00c⟩ := E1.cells
        refine (szEdit_yes _ _ 1048576 t _ (by omega) (by omega)).mono ?_
        rintro e w1 ⟨rfl, hb1⟩
        replace E1 := E1.below hb1 E1.lt
        replace HB := below_next HB hb1
        clear hb1 c00a c00b c00c
        obtain ⟨c10a, c10b, c10c⟩ := E1.cells
        go_wp2_with fail
        refine (toEdit_any p c t _).mono ?_
        rintro e w2 ⟨rfl, hb2⟩
        replace E1 := E1.below hb2 E1.lt
        replace HB := below_next HB hb2
        clear hb2 c10a c10b c10c
        obtain ⟨c20a, c20b, c20c⟩ := E1.cells
        go_wp2_with fail
        refine (s_InvertEdit_no s t p c _ hbig hbt HN.out).mono ?_
        rintro e w3 ⟨rfl, hb3⟩
        replace E1 := E1.below hb3 E1.lt
        replace HB := below_next HB hb3
        clear hb3 c20a c20b c20c
        obtain ⟨c30a, c30b, c30c⟩ := E1.cells
        clear c30a c30b c30c
        replace E1 := E1.alloc (.cells #[.int .i64 (0), .int .i64 (0), .string (⟨#[]⟩)] 24)
        have E2 := EdAt.new w3 (0) (0) (⟨#[]⟩)
        replace HB := HB.alloc HB.size (.cells #[.int .i64 (0), .int .i64 (0), .string (⟨#[]⟩)] 24)
        obtain ⟨c30a, c30b, c30c⟩ := E1.cells
        obtain ⟨c31a, c31b, c31c⟩ := E2.cells
        go_wp2_with fail
        refine (toEdit_any p c t _).mono ?_
        rintro e w4 ⟨rfl, hb4⟩
        replace E1 := E1.below hb4 E1.lt
        replace E2 := E2.below hb4 E2.lt
        replace HB := below_next HB hb4
        clear hb4 c30a c30b c30c c31a c31b c31c
        obtain ⟨c40a, c40b, c40c⟩ := E1.cells
        obtain ⟨c41a, c41b, c41c⟩ := E2.cells
        go_wp2_with fail
        refine (i_InvertEdit_no s t p c _ hbig hbt HN.out).mono ?_
        rintro e w5 ⟨rfl, hb5⟩
        replace E1 := E1.below hb5 E1.lt
        replace E2 := E2.below hb5 E2.lt
        replace HB := below_next HB hb5
        clear hb5 c40a c40b c40c c41a c41b c41c
        obtain ⟨c50a, c50b, c50c⟩ := E1.cells
        obtain ⟨c51a, c51b, c51c⟩ := E2.cells
        clear c50a c50b c50c c51a c51b c51c
        replace E1 := E1.alloc (.cells #[.int .i64 (0), .int .i64 (0), .string (⟨#[]⟩)] 24)
        replace E2 := E2.alloc (.cells #[.int .i64 (0), .int .i64 (0), .string (⟨#[]⟩)] 24)
        have E3 := EdAt.new w5 (0) (0) (⟨#[]⟩)
        replace HB := HB.alloc HB.size (.cells #[.int .i64 (0), .int .i64 (0), .string (⟨#[]⟩)] 24)
        obtain ⟨c50a, c50b, c50c⟩ := E1.cells
        obtain ⟨c51a, c51b, c51c⟩ := E2.cells
        obtain ⟨c52a, c52b, c52c⟩ := E3.cells
        go_wp2_with fail
        refine (eqEdit_same _ _ _ _).mono ?_
        rintro e w6 ⟨rfl, hb6⟩
        replace E1 := E1.below hb6 E1.lt
        replace E2 := E2.below hb6 E2.lt
        replace E3 := E3.below hb6 E3.lt
        replace HB := below_next HB hb6
        clear hb6 c50a c50b c50c c51a c51b c51c c52a c52b c52c
        obtain ⟨c60a, c60b, c60c⟩ := E1.cells
        obtain ⟨c61a, c61b, c61c⟩ := E2.cells
        obtain ⟨c62a, c62b, c62c⟩ := E3.cells
        go_wp2
        go_ret
        exact ⟨rfl, HB⟩
    · have hl : (1048576 : Int) < (t.size : Int) := by omega
      have E1 := EdAtL.new w p c t
      have HB : Below w.heap.size w (w.alloc (.cells #[.int .i64 p, .int .i64 c, .string t] 40)) := (Below.refl _ _).alloc (Nat.le_refl _) _
      go_enter Try.func11, Try.ntmps11
      go_wp2_with fail
      generalize (w.alloc (.cells #[.int .i64 p, .int .i64 c, .string t] 40)) = wA at E1 HB ⊢
      obtain ⟨c00a, c00b, c00c⟩ := E1.cells
      refine (szEdit_no _ _ 1048576 t _ (by omega) (by omega) (by omega) (by omega)).mono ?_
      rintro e w1 ⟨rfl, hb1⟩
      replace E1 := E1.below hb1 E1.lt
      replace HB := below_next HB hb1
      clear hb1 c00a c00b c00c
      obtain ⟨c10a, c10b, c10c⟩ := E1.cells
      go_wp2
      go_ret
      exact ⟨rfl, HB⟩
  · have d : decide (s.size ≤ 1048576) = false := decide_eq_false hbig
    have hl : (1048576 : Int) < (s.size : Int) := by omega
    have E1 := EdAtL.new w p c t
    have HB : Below w.heap.size w (w.alloc (.cells #[.int .i64 p, .int .i64 c, .string t] 40)) := (Below.refl _ _).alloc (Nat.le_refl _) _
    go_enter Try.func11, Try.ntmps11
    go_wp2
    go_ret
    exact ⟨rfl, HB⟩
set_option maxHeartbeats 4000000 in
theorem exMoveMark_walk (k p c : Int) (t : ByteArray) (many : Int) (w : World) (wt : t.size ≤ maxLen) :
    Calls Try.prog 12 #[.int .i64 k, edV p c t, .int .i64 many] w fun e w' => e = .returned (.bool true) ∧ Below w.heap.size w w' := by
  unfold maxLen at wt
  obtain ⟨v, hv⟩ : ∃ v, mvA k p c t many = v := ⟨_, rfl⟩
  have HV := Lib.hid hv
  clear hv
  by_cases hbt : t.size ≤ 1048576
  · have E1 := EdAtL.new w p c t
    have HB : Below w.heap.size w (w.alloc (.cells #[.int .i64 p, .int .i64 c, .string t] 40)) := (Below.refl _ _).alloc (Nat.le_refl _) _
    go_enter Try.func12, Try.ntmps12
    go_wp2_with fail
    generalize (w.alloc (.cells #[.int .i64 p, .int .i64 c, .string t] 40)) = wA at E1 HB ⊢
    obtain ⟨c00a, c00b, c00c⟩ := E1.cells
    refine (szEdit_yes _ _ 1048576 t _ (by omega) (by omega)).mono ?_
    rintro e w1 ⟨rfl, hb1⟩
    replace E1 := E1.below hb1 E1.lt
    replace HB := below_next HB hb1
    clear hb1 c00a c00b c00c
    obtain ⟨c10a, c10b, c10c⟩ := E1.cells
    go_wp2_with fail
    refine (toEdit_any p c t _).mono ?_
    rintro e w2 ⟨rfl, hb2⟩
    replace E1 := E1.below hb2 E1.lt
    replace HB := below_next HB hb2
    clear hb2 c10a c10b c10c
    obtain ⟨c20a, c20b, c20c⟩ := E1.cells
    go_wp2_with fail
    refine (s_MoveMark k p c many v t _ hbt HV.out).mono ?_
    rintro e w3 ⟨rfl, hb3⟩
    replace E1 := E1.below hb3 E1.lt
    replace HB := below_next HB hb3
    clear hb3 c20a c20b c20c
    obtain ⟨c30a, c30b, c30c⟩ := E1.cells
    go_wp2_with fail
    refine (toEdit_any p c t _).mono ?_
    rintro e w4 ⟨rfl, hb4⟩
    replace E1 := E1.below hb4 E1.lt
    replace HB := below_next HB hb4
    clear hb4 c30a c30b c30c
    obtain ⟨c40a, c40b, c40c⟩ := E1.cells
    go_wp2_with fail
    refine (i_MoveMark k p c many v t _ hbt HV.out).mono ?_
    rintro e w5 ⟨rfl, hb5⟩
    replace E1 := E1.below hb5 E1.lt
    replace HB := below_next HB hb5
    clear hb5 c40a c40b c40c
    obtain ⟨c50a, c50b, c50c⟩ := E1.cells
    go_wp2
    go_ret
    exact ⟨rfl, HB⟩
  · have E1 := EdAtL.new w p c t
    have HB : Below w.heap.size w (w.alloc (.cells #[.int .i64 p, .int .i64 c, .string t] 40)) := (Below.refl _ _).alloc (Nat.le_refl _) _
    go_enter Try.func12, Try.ntmps12
    go_wp2_with fail
    generalize (w.alloc (.cells #[.int .i64 p, .int .i64 c, .string t] 40)) = wA at E1 HB ⊢
    obtain ⟨c00a, c00b, c00c⟩ := E1.cells
    refine (szEdit_no _ _ 1048576 t _ (by omega) (by omega) (by omega) (by omega)).mono ?_
    rintro e w1 ⟨rfl, hb1⟩
    replace E1 := E1.below hb1 E1.lt
    replace HB := below_next HB hb1
    clear hb1 c00a c00b c00c
    obtain ⟨c10a, c10b, c10c⟩ := E1.cells
    go_wp2
    go_ret
    exact ⟨rfl, HB⟩
end Go.Proofs.Ythlamidlcbnchaa
