
/- NewFlow, IsSafe, IsDone: both sides. -/
import Derived.Test.YtlkhpfknmdimbaaFc
namespace Go.Proofs.Ytlkhpfknmdimbaa
open Go.RowKit

def zF : FL := ⟨0, 0, 0, 0, 0, 0, 0, 0, 0, false, false, 0⟩
/-- an answer: a line, which owns its signals -/
def FlowOut (l : FL) (P : List PSig) (w : World) (e : Ending) (w' : World) : Prop :=
  ∃ a n c, e = .returned (flV l (.slice a n c)) ∧ OwnSg w' w.heap.size (.slice a n c) P ∧ Below w.heap.size w w'
theorem FlAt.free {w : World} {g : Nat} {l : FL} {s : Value} (h : FlAt w g l s) (i : Nat) : w.frozen? ⟨g, i, none⟩ = false := frozen_of_row w g i _ _ h
/-- the line is written into block g -/
def putFl (w : World) (g : Nat) (l : FL) (s : Value) : World := ((((((((((((w.setCell ⟨g, 0, none⟩ (.int .i64 l.size)).setCell ⟨g, 1, none⟩ (.int .i64 l.high)).setCell ⟨g, 2, none⟩ (.int .i64 l.low)).setCell ⟨g, 3, none⟩ (.int .i64 l.delay)).setCell ⟨g, 4, none⟩ (.int .i64 l.every)).setCell ⟨g, 5, none⟩ (.int .i64 l.left)).setCell ⟨g, 6, none⟩ (.int .i64 l.held)).setCell ⟨g, 7, none⟩ (.int .i64 l.printed)).setCell ⟨g, 8, none⟩ (.int .i64 l.lost)).setCell ⟨g, 9, none⟩ (.bool l.stopped)).setCell ⟨g, 10, none⟩ (.bool l.asked)).setCell ⟨g, 11, none⟩ s).setCell ⟨g, 12, none⟩ (.int .i64 l.clock)
theorem FlAt.put {w : World} {g : Nat} {l0 : FL} {s0 : Value} (h : FlAt w g l0 s0) (l : FL) (s : Value) : FlAt (putFl w g l s) g l s := by
  unfold FlAt flC at h
  have h0 := heap_setCell_same _ g 0 _ _ (.int .i64 l.size) h
  have h1 := heap_setCell_same _ g 1 _ _ (.int .i64 l.high) h0
  have h2 := heap_setCell_same _ g 2 _ _ (.int .i64 l.low) h1
  have h3 := heap_setCell_same _ g 3 _ _ (.int .i64 l.delay) h2
  have h4 := heap_setCell_same _ g 4 _ _ (.int .i64 l.every) h3
  have h5 := heap_setCell_same _ g 5 _ _ (.int .i64 l.left) h4
  have h6 := heap_setCell_same _ g 6 _ _ (.int .i64 l.held) h5
  have h7 := heap_setCell_same _ g 7 _ _ (.int .i64 l.printed) h6
  have h8 := heap_setCell_same _ g 8 _ _ (.int .i64 l.lost) h7
  have h9 := heap_setCell_same _ g 9 _ _ (.bool l.stopped) h8
  have h10 := heap_setCell_same _ g 10 _ _ (.bool l.asked) h9
  have h11 := heap_setCell_same _ g 11 _ _ s h10
  have h12 := heap_setCell_same _ g 12 _ _ (.int .i64 l.clock) h11
  rw [FlAt, putFl, h12]
  simp [flC]
theorem putFl_other (w : World) (g k : Nat) (l : FL) (s : Value) (h : k ≠ g) : (putFl w g l s).heap[k]? = w.heap[k]? := by
  unfold putFl
  repeat rw [heap_setCell_other _ _ k _ (by simpa using h)]
theorem below_put {B : Nat} {w w1 : World} {g : Nat} {l : FL} {s : Value} (h : Below B w w1) (hg : B ≤ g) : Below B w (putFl w1 g l s) := by
  unfold putFl
  iterate 13 refine Below.setCell ?_ (by exact hg) _
  exact h
theorem SigsAt.nil (w : World) : SigsAt w (.slice none 0 0) [] := ⟨none, 0, rfl, Nat.le_refl _, by omega, .inl rfl⟩
set_option maxHeartbeats 400000 in
theorem i_NewFlow_yes (a0 a1 a2 a3 a4 a5 : Int) (w : World) (hv : Hid (ValidF ⟨a0, a1, a2, a3, a4, a5, 0, 0, 0, false, false, 0⟩ [])) :
    Calls Try.prog 24 #[.int .i64 a0, .int .i64 a1, .int .i64 a2, .int .i64 a3, .int .i64 a4, .int .i64 a5] w fun e w' => FlowOut ⟨a0, a1, a2, a3, a4, a5, 0, 0, 0, false, false, 0⟩ [] w e w' := by
  have HV : Hid (∀ w, Calls Try.prog 19 #[flV ⟨a0, a1, a2, a3, a4, a5, 0, 0, 0, false, false, 0⟩ (.slice none 0 0)] w fun e w' => e = .returned (.bool true) ∧ Below w.heap.size w w') := fun w => i_ValidFlow _ _ [] true w (SigsAt.nil w) (show _ ↔ _ from ⟨fun _ => hv.out, fun _ => rfl⟩)
  simp only [flV, flC] at HV
  go_enter Try.func24, Try.ntmps24
  go_wp2_with fail
  refine (HV.out _).mono ?_
  rintro e w1 ⟨rfl, hb1⟩
  have hz0 := (FlAt.new w zF (.slice none 0 0)).below ((Below.refl _ _).alloc (Nat.le_refl _) (.cells (flC ⟨a0, a1, a2, a3, a4, a5, 0, 0, 0, false, false, 0⟩ (.slice none 0 0)) 25)) (by rw [World.size_alloc]; omega)
  have HZ := keptF (hz0.below hb1 (by simp; omega))
  have hl0 := FlAt.new (w.alloc (.cells (flC zF (.slice none 0 0)) 25)) ⟨a0, a1, a2, a3, a4, a5, 0, 0, 0, false, false, 0⟩ (.slice none 0 0)
  rw [World.size_alloc] at hl0
  have HL := keptF (hl0.below hb1 (by simp))
  have HB1 : Hid (Below w.heap.size w w1) := below_next ((Below.refl _ _).alloc (Nat.le_refl _) _ |>.alloc (by simp) _) hb1
  obtain ⟨c0, c1, c2, c3, c4, c5, c6, c7, c8, c9, c10, c11, c12⟩ := HL.out.cells
  obtain ⟨z0, z1, z2, z3, z4, z5, z6, z7, z8, z9, z10, z11, z12⟩ := HZ.out.cells
  have f := HZ.out.free
  simp only at c0 c1 c2 c3 c4 c5 c6 c7 c8 c9 c10 c11 c12
  clear hb1 hz0 hl0
  go_wp2
  have hk := HZ.out.put ⟨a0, a1, a2, a3, a4, a5, 0, 0, 0, false, false, 0⟩ (.slice none 0 0)
  have hB := below_put (l := ⟨a0, a1, a2, a3, a4, a5, 0, 0, 0, false, false, 0⟩) (s := .slice none 0 0) HB1.out (Nat.le_refl _)
  simp only [FlAt, putFl, flC] at hk hB
  refine bodyPost_ret (results_cell_row rfl _ _ w.heap.size _ _ _ _ rfl hk Try.underlying25 rfl (by kernel_rfl)) rfl ?_
  exact ⟨_, _, _, rfl, OwnSg.nil _ _, hB⟩
set_option maxHeartbeats 400000 in
theorem i_NewFlow_no (a0 a1 a2 a3 a4 a5 : Int) (w : World) (hv : Hid (¬ ValidF ⟨a0, a1, a2, a3, a4, a5, 0, 0, 0, false, false, 0⟩ [])) :
    Calls Try.prog 24 #[.int .i64 a0, .int .i64 a1, .int .i64 a2, .int .i64 a3, .int .i64 a4, .int .i64 a5] w fun e w' => FlowOut zF [] w e w' := by
  have HV : Hid (∀ w, Calls Try.prog 19 #[flV ⟨a0, a1, a2, a3, a4, a5, 0, 0, 0, false, false, 0⟩ (.slice none 0 0)] w fun e w' => e = .returned (.bool false) ∧ Below w.heap.size w w') := fun w => i_ValidFlow _ _ [] false w (SigsAt.nil w) (show _ ↔ _ from ⟨fun h => by simp at h, fun h => absurd h hv.out⟩)
  simp only [flV, flC] at HV
  go_enter Try.func24, Try.ntmps24
  go_wp2_with fail
  refine (HV.out _).mono ?_
  rintro e w1 ⟨rfl, hb1⟩
  have hz0 := (FlAt.new w zF (.slice none 0 0)).below ((Below.refl _ _).alloc (Nat.le_refl _) (.cells (flC ⟨a0, a1, a2, a3, a4, a5, 0, 0, 0, false, false, 0⟩ (.slice none 0 0)) 25)) (by rw [World.size_alloc]; omega)
  have HZ := keptF (hz0.below hb1 (by simp; omega))
  have hl0 := FlAt.new (w.alloc (.cells (flC zF (.slice none 0 0)) 25)) ⟨a0, a1, a2, a3, a4, a5, 0, 0, 0, false, false, 0⟩ (.slice none 0 0)
  rw [World.size_alloc] at hl0
  have HL := keptF (hl0.below hb1 (by simp))
  have HB1 : Hid (Below w.heap.size w w1) := below_next ((Below.refl _ _).alloc (Nat.le_refl _) _ |>.alloc (by simp) _) hb1
  obtain ⟨c0, c1, c2, c3, c4, c5, c6, c7, c8, c9, c10, c11, c12⟩ := HL.out.cells
  obtain ⟨z0, z1, z2, z3, z4, z5, z6, z7, z8, z9, z10, z11, z12⟩ := HZ.out.cells
  have f := HZ.out.free
  simp only at c0 c1 c2 c3 c4 c5 c6 c7 c8 c9 c10 c11 c12
  clear hb1 hz0 hl0
  go_wp2
  have hk := HZ.out.put zF (.slice none 0 0)
  have hB := below_put (l := zF) (s := .slice none 0 0) HB1.out (Nat.le_refl _)
  simp only [FlAt, putFl, flC, zF] at hk hB
  refine bodyPost_ret (results_cell_row rfl _ _ w.heap.size _ _ _ _ rfl hk Try.underlying25 rfl (by kernel_rfl)) rfl ?_
  exact ⟨_, _, _, rfl, OwnSg.nil _ _, hB⟩
end Go.Proofs.Ytlkhpfknmdimbaa
