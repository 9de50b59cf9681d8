
/- NewFlow of the model. -/
import Derived.Test.YtlkhpfknmdimbaaFd
namespace Go.Proofs.Ytlkhpfknmdimbaa
open Go.RowKit

set_option maxHeartbeats 400000 in
theorem s_NewFlow_yes (a0 a1 a2 a3 a4 a5 : Int) (w : World) (hv : Hid (ValidF ⟨a0, a1, a2, a3, a4, a5, 0, 0, 0, false, false, 0⟩ [])) :
    Calls Try.prog 25 #[.int .i64 a0, .int .i64 a1, .int .i64 a2, .int .i64 a3, .int .i64 a4, .int .i64 a5] w fun e w' => FlowOut ⟨a0, a1, a2, a3, a4, a5, 0, 0, 0, false, false, 0⟩ [] w e w' := by
  have HV : Hid (∀ w g, Calls Try.prog 44 #[flV ⟨a0, a1, a2, a3, a4, a5, 0, 0, 0, false, false, 0⟩ (.slice (some ⟨g, 0, none⟩) 0 0)] w fun e w' => e = .returned (.bool true) ∧ Below w.heap.size w w') := fun w g => s_validFlow _ _ [] true w ⟨_, 0, rfl, Nat.le_refl _, by omega, .inl rfl⟩ (show _ ↔ _ from ⟨fun _ => hv.out, fun _ => rfl⟩)
  simp only [flV, flC] at HV
  go_enter Try.func25, Try.ntmps25
  go_wp2_with fail
  refine (HV.out _ _).mono ?_
  rintro e w1 ⟨rfl, hb1⟩
  have hz0 := FlAt.new w zF (.slice none 0 0)
  have hs0 := OwnSg.made (w.alloc (.cells (flC zF (.slice none 0 0)) 25)) w.heap.size (by rw [World.size_alloc]; omega)
  rw [World.size_alloc] at hs0
  have hba : Below w.heap.size w (w.alloc (.cells (flC zF (.slice none 0 0)) 25)) := (Below.refl _ _).alloc (Nat.le_refl _) _
  have hsa : (w.alloc (.cells (flC zF (.slice none 0 0)) 25)).heap.size = w.heap.size + 1 := World.size_alloc _ _
  have hz1 := hz0.below ((Below.refl _ _).alloc (Nat.le_refl _) (.cells #[] 53)) (by rw [hsa]; omega)
  have hbb := hba.alloc (by rw [hsa]; omega) (.cells #[] 53)
  have hsb : ((w.alloc (.cells (flC zF (.slice none 0 0)) 25)).alloc (.cells #[] 53)).heap.size = w.heap.size + 1 + 1 := by rw [World.size_alloc, hsa]
  have hz2 := hz1.below ((Below.refl _ _).alloc (Nat.le_refl _) (.cells (flC ⟨a0, a1, a2, a3, a4, a5, 0, 0, 0, false, false, 0⟩ (.slice (some ⟨w.heap.size + 1, 0, none⟩) 0 0)) 25)) (by rw [hsb]; omega)
  have hs2 := hs0.below ((Below.refl _ _).alloc (Nat.le_refl _) (.cells (flC ⟨a0, a1, a2, a3, a4, a5, 0, 0, 0, false, false, 0⟩ (.slice (some ⟨w.heap.size + 1, 0, none⟩) 0 0)) 25))
  have hbc := hbb.alloc (by rw [hsb]; omega) (.cells (flC ⟨a0, a1, a2, a3, a4, a5, 0, 0, 0, false, false, 0⟩ (.slice (some ⟨w.heap.size + 1, 0, none⟩) 0 0)) 25)
  have hl2 := FlAt.new ((w.alloc (.cells (flC zF (.slice none 0 0)) 25)).alloc (.cells #[] 53)) ⟨a0, a1, a2, a3, a4, a5, 0, 0, 0, false, false, 0⟩ (.slice (some ⟨w.heap.size + 1, 0, none⟩) 0 0)
  rw [hsb] at hl2
  have HZ := keptF (hz2.below hb1 (by simp; omega))
  have HS := keptF (hs2.below hb1)
  have HL := keptF (hl2.below hb1 (by simp))
  have HB1 : Hid (Below w.heap.size w w1) := below_next hbc hb1
  obtain ⟨c0, c1, c2, c3, c4, c5, c6, c7, c8, c9, c10, c11, c12⟩ := HL.out.cells
  obtain ⟨z0, z1, z2, z3, z4, z5, z6, z7, z8, z9, z10, z11, z12⟩ := HZ.out.cells
  have f := HZ.out.free
  simp only at c0 c1 c2 c3 c4 c5 c6 c7 c8 c9 c10 c11 c12
  clear hb1 hz0 hs0 hba hsa hz1 hbb hsb hz2 hs2 hbc hl2
  go_wp2
  have hk := HZ.out.put ⟨a0, a1, a2, a3, a4, a5, 0, 0, 0, false, false, 0⟩ (.slice (some ⟨w.heap.size + 1, 0, none⟩) 0 0)
  have hB := below_put (l := ⟨a0, a1, a2, a3, a4, a5, 0, 0, 0, false, false, 0⟩) (s := (.slice (some ⟨w.heap.size + 1, 0, none⟩) 0 0)) HB1.out (Nat.le_refl _)
  have hO := HS.out.of_block (w' := putFl w1 w.heap.size ⟨a0, a1, a2, a3, a4, a5, 0, 0, 0, false, false, 0⟩ (.slice (some ⟨w.heap.size + 1, 0, none⟩) 0 0)) (fun k hk => putFl_other _ _ _ _ _ (by have h9 : w.heap.size + 1 = k := Option.some.inj hk; omega))
  simp only [FlAt, putFl, flC] at hk hB hO
  refine bodyPost_ret (results_cell_row rfl _ _ w.heap.size _ _ _ _ rfl hk Try.underlying25 rfl (by kernel_rfl)) rfl ?_
  exact ⟨_, _, _, rfl, hO, hB⟩
set_option maxHeartbeats 400000 in
theorem s_NewFlow_no (a0 a1 a2 a3 a4 a5 : Int) (w : World) (hv : Hid (¬ ValidF ⟨a0, a1, a2, a3, a4, a5, 0, 0, 0, false, false, 0⟩ [])) :
    Calls Try.prog 25 #[.int .i64 a0, .int .i64 a1, .int .i64 a2, .int .i64 a3, .int .i64 a4, .int .i64 a5] w fun e w' => FlowOut zF [] w e w' := by
  have HV : Hid (∀ w g, Calls Try.prog 44 #[flV ⟨a0, a1, a2, a3, a4, a5, 0, 0, 0, false, false, 0⟩ (.slice (some ⟨g, 0, none⟩) 0 0)] w fun e w' => e = .returned (.bool false) ∧ Below w.heap.size w w') := fun w g => s_validFlow _ _ [] false w ⟨_, 0, rfl, Nat.le_refl _, by omega, .inl rfl⟩ (show _ ↔ _ from ⟨fun h => by simp at h, fun h => absurd h hv.out⟩)
  simp only [flV, flC] at HV
  go_enter Try.func25, Try.ntmps25
  go_wp2_with fail
  refine (HV.out _ _).mono ?_
  rintro e w1 ⟨rfl, hb1⟩
  have hz0 := FlAt.new w zF (.slice none 0 0)
  have hs0 := OwnSg.made (w.alloc (.cells (flC zF (.slice none 0 0)) 25)) w.heap.size (by rw [World.size_alloc]; omega)
  rw [World.size_alloc] at hs0
  have hba : Below w.heap.size w (w.alloc (.cells (flC zF (.slice none 0 0)) 25)) := (Below.refl _ _).alloc (Nat.le_refl _) _
  have hsa : (w.alloc (.cells (flC zF (.slice none 0 0)) 25)).heap.size = w.heap.size + 1 := World.size_alloc _ _
  have hz1 := hz0.below ((Below.refl _ _).alloc (Nat.le_refl _) (.cells #[] 53)) (by rw [hsa]; omega)
  have hbb := hba.alloc (by rw [hsa]; omega) (.cells #[] 53)
  have hsb : ((w.alloc (.cells (flC zF (.slice none 0 0)) 25)).alloc (.cells #[] 53)).heap.size = w.heap.size + 1 + 1 := by rw [World.size_alloc, hsa]
  have hz2 := hz1.below ((Below.refl _ _).alloc (Nat.le_refl _) (.cells (flC ⟨a0, a1, a2, a3, a4, a5, 0, 0, 0, false, false, 0⟩ (.slice (some ⟨w.heap.size + 1, 0, none⟩) 0 0)) 25)) (by rw [hsb]; omega)
  have hs2 := hs0.below ((Below.refl _ _).alloc (Nat.le_refl _) (.cells (flC ⟨a0, a1, a2, a3, a4, a5, 0, 0, 0, false, false, 0⟩ (.slice (some ⟨w.heap.size + 1, 0, none⟩) 0 0)) 25))
  have hbc := hbb.alloc (by rw [hsb]; omega) (.cells (flC ⟨a0, a1, a2, a3, a4, a5, 0, 0, 0, false, false, 0⟩ (.slice (some ⟨w.heap.size + 1, 0, none⟩) 0 0)) 25)
  have hl2 := FlAt.new ((w.alloc (.cells (flC zF (.slice none 0 0)) 25)).alloc (.cells #[] 53)) ⟨a0, a1, a2, a3, a4, a5, 0, 0, 0, false, false, 0⟩ (.slice (some ⟨w.heap.size + 1, 0, none⟩) 0 0)
  rw [hsb] at hl2
  have HZ := keptF (hz2.below hb1 (by simp; omega))
  have HS := keptF (hs2.below hb1)
  have HL := keptF (hl2.below hb1 (by simp))
  have HB1 : Hid (Below w.heap.size w w1) := below_next hbc hb1
  obtain ⟨c0, c1, c2, c3, c4, c5, c6, c7, c8, c9, c10, c11, c12⟩ := HL.out.cells
  obtain ⟨z0, z1, z2, z3, z4, z5, z6, z7, z8, z9, z10, z11, z12⟩ := HZ.out.cells
  have f := HZ.out.free
  simp only at c0 c1 c2 c3 c4 c5 c6 c7 c8 c9 c10 c11 c12
  clear hb1 hz0 hs0 hba hsa hz1 hbb hsb hz2 hs2 hbc hl2
  go_wp2
  have hk := HZ.out.put zF (.slice none 0 0)
  have hB := below_put (l := zF) (s := (.slice none 0 0)) HB1.out (Nat.le_refl _)
  simp only [FlAt, putFl, flC, zF] at hk hB
  refine bodyPost_ret (results_cell_row rfl _ _ w.heap.size _ _ _ _ rfl hk Try.underlying25 rfl (by kernel_rfl)) rfl ?_
  exact ⟨_, _, _, rfl, OwnSg.nil _ _, hB⟩
/-- the line that NewFlow answers -/
def newL (a0 a1 a2 a3 a4 a5 : Int) (l : FL) : Prop := (ValidF ⟨a0, a1, a2, a3, a4, a5, 0, 0, 0, false, false, 0⟩ [] ∧ l = ⟨a0, a1, a2, a3, a4, a5, 0, 0, 0, false, false, 0⟩) ∨ (¬ ValidF ⟨a0, a1, a2, a3, a4, a5, 0, 0, 0, false, false, 0⟩ [] ∧ l = zF)
theorem newL_ex (a0 a1 a2 a3 a4 a5 : Int) : ∃ l, newL a0 a1 a2 a3 a4 a5 l := by
  by_cases h : ValidF ⟨a0, a1, a2, a3, a4, a5, 0, 0, 0, false, false, 0⟩ []
  · exact ⟨_, .inl ⟨h, rfl⟩⟩
  · exact ⟨_, .inr ⟨h, rfl⟩⟩
theorem i_NewFlow (a0 a1 a2 a3 a4 a5 : Int) (l : FL) (w : World) (hl : Hid (newL a0 a1 a2 a3 a4 a5 l)) :
    Calls Try.prog 24 #[.int .i64 a0, .int .i64 a1, .int .i64 a2, .int .i64 a3, .int .i64 a4, .int .i64 a5] w fun e w' => FlowOut l [] w e w' := by
  rcases hl.out with ⟨h, rfl⟩ | ⟨h, rfl⟩
  · exact i_NewFlow_yes _ _ _ _ _ _ w h
  · exact i_NewFlow_no _ _ _ _ _ _ w h
theorem s_NewFlow (a0 a1 a2 a3 a4 a5 : Int) (l : FL) (w : World) (hl : Hid (newL a0 a1 a2 a3 a4 a5 l)) :
    Calls Try.prog 25 #[.int .i64 a0, .int .i64 a1, .int .i64 a2, .int .i64 a3, .int .i64 a4, .int .i64 a5] w fun e w' => FlowOut l [] w e w' := by
  rcases hl.out with ⟨h, rfl⟩ | ⟨h, rfl⟩
  · exact s_NewFlow_yes _ _ _ _ _ _ w h
  · exact s_NewFlow_no _ _ _ _ _ _ w h
end Go.Proofs.Ytlkhpfknmdimbaa
