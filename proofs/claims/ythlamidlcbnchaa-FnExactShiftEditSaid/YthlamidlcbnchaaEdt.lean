
/- The exact law of ShiftEdit, whole. -/
import Derived.Test.YthlamidlcbnchaaEds
import Derived.Test.YthlamidlcbnchaaEdo
namespace Go.Proofs.Ythlamidlcbnchaa
open Go.RowKit Go.WideShapes Go.ChangeShapes

set_option maxHeartbeats 16000000 in
theorem exShiftEdit_walk (p c : Int) (t : ByteArray) (p2 c2 : Int) (t2 : ByteArray) (many : Int) (w : World) (wt : t.size ≤ maxLen) (wt2 : t2.size ≤ maxLen) :
    Calls Try.prog 13 #[edV p c t, edV p2 c2 t2, .int .i64 many] w fun e w' => e = .returned (.bool true) ∧ Below w.heap.size w w' := by
  unfold maxLen at wt wt2
  by_cases hbt : t.size ≤ 1048576
  · by_cases hbt2 : (t2.size : Int) ≤ 1048576 - (t.size : Int)
    · cases hs : shP p c t p2 c2 t2 many with
      | some q => exact exShift_some p c t p2 c2 t2 many q w (by unfold maxLen; omega) (by unfold maxLen; omega) hbt hbt2 hs
      | none => exact exShift_none p c t p2 c2 t2 many w (by unfold maxLen; omega) (by unfold maxLen; omega) hbt hbt2 hs
    · skip
      have E1 := (EdAtL.new w p c t).alloc (.cells #[.int .i64 p2, .int .i64 c2, .string t2] 40)
      have E2 := EdAtL.new (w.alloc (.cells #[.int .i64 p, .int .i64 c, .string t] 40)) p2 c2 t2
      rw [World.size_alloc] at E2
      have HB : Below w.heap.size w ((w.alloc (.cells #[.int .i64 p, .int .i64 c, .string t] 40)).alloc (.cells #[.int .i64 p2, .int .i64 c2, .string t2] 40)) := ((Below.refl _ _).alloc (Nat.le_refl _) _).alloc (by rw [World.size_alloc]; omega) _
      go_enter Try.func13, Try.ntmps13
      go_wp2_with fail
      generalize ((w.alloc (.cells #[.int .i64 p, .int .i64 c, .string t] 40)).alloc (.cells #[.int .i64 p2, .int .i64 c2, .string t2] 40)) = wA at E1 E2 HB ⊢
      obtain ⟨c0a, c0b, c0c⟩ := E1.cells
      obtain ⟨d0a, d0b, d0c⟩ := E2.cells
      refine (szEdit_yes p c 1048576 t _ (by omega) (by omega)).mono ?_
      rintro e w1 ⟨rfl, hbn⟩
      replace E1 := E1.below hbn E1.lt
      replace E2 := E2.below hbn E2.lt
      replace HB := below_next HB hbn
      clear hbn c0a c0b c0c d0a d0b d0c
      obtain ⟨c0a, c0b, c0c⟩ := E1.cells
      obtain ⟨d0a, d0b, d0c⟩ := E2.cells
      go_wp2_with fail
      refine (szEdit_no p2 c2 (1048576 - (t.size : Int)) t2 _ (by omega) (by omega) (by omega) (by omega)).mono ?_
      rintro e w2 ⟨rfl, hbn⟩
      replace E1 := E1.below hbn E1.lt
      replace E2 := E2.below hbn E2.lt
      replace HB := below_next HB hbn
      clear hbn c0a c0b c0c d0a d0b d0c
      obtain ⟨c0a, c0b, c0c⟩ := E1.cells
      obtain ⟨d0a, d0b, d0c⟩ := E2.cells
      go_wp2
      go_ret
      exact ⟨rfl, HB⟩
  · skip
    have E1 := (EdAtL.new w p c t).alloc (.cells #[.int .i64 p2, .int .i64 c2, .string t2] 40)
    have E2 := EdAtL.new (w.alloc (.cells #[.int .i64 p, .int .i64 c, .string t] 40)) p2 c2 t2
    rw [World.size_alloc] at E2
    have HB : Below w.heap.size w ((w.alloc (.cells #[.int .i64 p, .int .i64 c, .string t] 40)).alloc (.cells #[.int .i64 p2, .int .i64 c2, .string t2] 40)) := ((Below.refl _ _).alloc (Nat.le_refl _) _).alloc (by rw [World.size_alloc]; omega) _
    go_enter Try.func13, Try.ntmps13
    go_wp2_with fail
    generalize ((w.alloc (.cells #[.int .i64 p, .int .i64 c, .string t] 40)).alloc (.cells #[.int .i64 p2, .int .i64 c2, .string t2] 40)) = wA at E1 E2 HB ⊢
    obtain ⟨c0a, c0b, c0c⟩ := E1.cells
    obtain ⟨d0a, d0b, d0c⟩ := E2.cells
    refine (szEdit_no p c 1048576 t _ (by omega) (by omega) (by omega) (by omega)).mono ?_
    rintro e w1 ⟨rfl, hbn⟩
    replace E1 := E1.below hbn E1.lt
    replace E2 := E2.below hbn E2.lt
    replace HB := below_next HB hbn
    clear hbn c0a c0b c0c d0a d0b d0c
    obtain ⟨c0a, c0b, c0c⟩ := E1.cells
    obtain ⟨d0a, d0b, d0c⟩ := E2.cells
    go_wp2
    go_ret
    exact ⟨rfl, HB⟩
end Go.Proofs.Ythlamidlcbnchaa
