
/- The exact law of NewFlow. -/
import Derived.Test.YtlkhpfknmdimbaaFh
namespace Go.Proofs.Ytlkhpfknmdimbaa
open Go.RowKit

theorem markSigs_nil (a : Option Addr) (c : Nat) (k : Int) (w : World) :
    Calls Try.prog 55 #[.slice a 0 c, .int .i64 k] w fun e w' => e = .returned (.int .i64 k) ∧ w = w' := by
  go_enter Try.func55, Try.ntmps55
  go_wp2
  go_loop [1, 5] (fun x i => x = .int .i64 k ∧ i = .int .i64 0) (fun _ _ => 0)
  case atStart => exact ⟨rfl, rfl⟩
  case round =>
    obtain ⟨rfl, rfl⟩ := hrel
    go_wp2
    go_ret
    exact ⟨rfl, rfl⟩
theorem heldSigs_nil (a : Option Addr) (c : Nat) (k : Int) (w : World) :
    Calls Try.prog 56 #[.slice a 0 c, .int .i64 k] w fun e w' => e = .returned (.int .i64 k) ∧ w = w' := by
  go_enter Try.func56, Try.ntmps56
  go_wp2
  go_loop [1, 5] (fun x i => x = .int .i64 k ∧ i = .int .i64 0) (fun _ _ => 0)
  case atStart => exact ⟨rfl, rfl⟩
  case round =>
    obtain ⟨rfl, rfl⟩ := hrel
    go_wp2
    go_ret
    exact ⟨rfl, rfl⟩
set_option maxHeartbeats 1000000 in
theorem markFlow_nil (l : FL) (a : Option Addr) (c : Nat) (w : World) :
    Calls Try.prog 37 #[flV l (.slice a 0 c), .int .i64 1] w fun e w' => e = .returned (.int .i64 1) ∧ Below w.heap.size w w' := by
  obtain ⟨v0, v1, v2, v3, v4, v5, v6, v7, v8, v9, v10, v12⟩ := l
  simp only [flV, flC]
  have hB : Below w.heap.size w (w.alloc (.cells #[.int .i64 v0, .int .i64 v1, .int .i64 v2, .int .i64 v3, .int .i64 v4, .int .i64 v5, .int .i64 v6, .int .i64 v7, .int .i64 v8, .bool v9, .bool v10, .slice a 0 c, .int .i64 v12] 25)) := (Below.refl _ _).alloc (Nat.le_refl _) _
  go_enter Try.func37, Try.ntmps37
  go_wp2_with fail
  refine (markSigs_nil _ _ _ _).mono ?_
  rintro e w' ⟨rfl, rfl⟩
  go_wp2
  go_ret
  exact ⟨rfl, hB⟩
set_option maxHeartbeats 1000000 in
theorem heldFlow_nil (l : FL) (a : Option Addr) (c : Nat) (w : World) :
    Calls Try.prog 38 #[flV l (.slice a 0 c), .int .i64 1] w fun e w' => e = .returned (.int .i64 1) ∧ Below w.heap.size w w' := by
  obtain ⟨v0, v1, v2, v3, v4, v5, v6, v7, v8, v9, v10, v12⟩ := l
  simp only [flV, flC]
  have hB : Below w.heap.size w (w.alloc (.cells #[.int .i64 v0, .int .i64 v1, .int .i64 v2, .int .i64 v3, .int .i64 v4, .int .i64 v5, .int .i64 v6, .int .i64 v7, .int .i64 v8, .bool v9, .bool v10, .slice a 0 c, .int .i64 v12] 25)) := (Below.refl _ _).alloc (Nat.le_refl _) _
  go_enter Try.func38, Try.ntmps38
  go_wp2_with fail
  refine (heldSigs_nil _ _ _ _).mono ?_
  rintro e w' ⟨rfl, rfl⟩
  go_wp2
  go_ret
  exact ⟨rfl, hB⟩
set_option maxRecDepth 20000 in
set_option maxHeartbeats 1000000 in
theorem exNewFlow_walk (a0 a1 a2 a3 a4 a5 : Int) (w : World) :
    Calls Try.prog 14 #[.int .i64 a0, .int .i64 a1, .int .i64 a2, .int .i64 a3, .int .i64 a4, .int .i64 a5] w fun e w' => e = .returned (.bool true) ∧ Below w.heap.size w w' := by
  obtain ⟨l, hl⟩ := newL_ex a0 a1 a2 a3 a4 a5
  have HN := keptF hl
  have HI : Hid (∀ w, Calls Try.prog 24 #[.int .i64 a0, .int .i64 a1, .int .i64 a2, .int .i64 a3, .int .i64 a4, .int .i64 a5] w fun e w' => FlowOut l [] w e w') := fun w => i_NewFlow a0 a1 a2 a3 a4 a5 l w HN
  have HS : Hid (∀ w, Calls Try.prog 25 #[.int .i64 a0, .int .i64 a1, .int .i64 a2, .int .i64 a3, .int .i64 a4, .int .i64 a5] w fun e w' => FlowOut l [] w e w') := fun w => s_NewFlow a0 a1 a2 a3 a4 a5 l w HN
  have HE : Hid (∀ w s t, SigsAt w s [] → SigsAt w t [] → Calls Try.prog 36 #[flV l s, flV l t] w fun e w' => e = .returned (.bool true) ∧ Below w.heap.size w w') := fun w s t h1 h2 => eqFlow_same l s t [] w h1 h2
  have HM : Hid (∀ w a c, Calls Try.prog 37 #[flV l (.slice a 0 c), .int .i64 1] w fun e w' => e = .returned (.int .i64 1) ∧ Below w.heap.size w w') := fun w a c => markFlow_nil l a c w
  have HH : Hid (∀ w a c, Calls Try.prog 38 #[flV l (.slice a 0 c), .int .i64 1] w fun e w' => e = .returned (.int .i64 1) ∧ Below w.heap.size w w') := fun w a c => heldFlow_nil l a c w
  clear hl HN
  obtain ⟨v0, v1, v2, v3, v4, v5, v6, v7, v8, v9, v10, v12⟩ := l
  simp only [flV, flC, FlowOut] at HI HS HE HM HH
  go_enter Try.func14, Try.ntmps14
  go_wp2_with fail
  refine (HS.out w).mono ?_
  rintro e w1 ⟨b1, n1, d1, rfl, hO1, hb1⟩
  obtain rfl : n1 = 0 := hO1.len.symm
  have hal1 : Below w1.heap.size w1 (w1.alloc (.cells #[.int .i64 v0, .int .i64 v1, .int .i64 v2, .int .i64 v3, .int .i64 v4, .int .i64 v5, .int .i64 v6, .int .i64 v7, .int .i64 v8, .bool v9, .bool v10, .slice b1 0 d1, .int .i64 v12] 25)) := (Below.refl _ _).alloc (Nat.le_refl _) _
  have HO1 := keptF (hO1.at.below hal1)
  have HF1 : Hid (FlAt (w1.alloc (.cells #[.int .i64 v0, .int .i64 v1, .int .i64 v2, .int .i64 v3, .int .i64 v4, .int .i64 v5, .int .i64 v6, .int .i64 v7, .int .i64 v8, .bool v9, .bool v10, .slice b1 0 d1, .int .i64 v12] 25)) w1.heap.size ⟨v0, v1, v2, v3, v4, v5, v6, v7, v8, v9, v10, v12⟩ (.slice b1 0 d1)) := FlAt.new w1 ⟨v0, v1, v2, v3, v4, v5, v6, v7, v8, v9, v10, v12⟩ (.slice b1 0 d1)
  have HB1 := keptF (below_next hb1 hal1)
  clear hO1 hb1 hal1
  go_wp2_with fail
  generalize (w1.alloc (.cells #[.int .i64 v0, .int .i64 v1, .int .i64 v2, .int .i64 v3, .int .i64 v4, .int .i64 v5, .int .i64 v6, .int .i64 v7, .int .i64 v8, .bool v9, .bool v10, .slice b1 0 d1, .int .i64 v12] 25)) = wA at HO1 HF1 HB1 ⊢
  refine (HI.out wA).mono ?_
  rintro e w2 ⟨b2, n2, d2, rfl, hO2, hb2⟩
  obtain rfl : n2 = 0 := hO2.len.symm
  have hal2 : Below w2.heap.size w2 (w2.alloc (.cells #[.int .i64 v0, .int .i64 v1, .int .i64 v2, .int .i64 v3, .int .i64 v4, .int .i64 v5, .int .i64 v6, .int .i64 v7, .int .i64 v8, .bool v9, .bool v10, .slice b2 0 d2, .int .i64 v12] 25)) := (Below.refl _ _).alloc (Nat.le_refl _) _
  have HO2 := keptF (hO2.at.below hal2)
  have HF2 : Hid (FlAt (w2.alloc (.cells #[.int .i64 v0, .int .i64 v1, .int .i64 v2, .int .i64 v3, .int .i64 v4, .int .i64 v5, .int .i64 v6, .int .i64 v7, .int .i64 v8, .bool v9, .bool v10, .slice b2 0 d2, .int .i64 v12] 25)) w2.heap.size ⟨v0, v1, v2, v3, v4, v5, v6, v7, v8, v9, v10, v12⟩ (.slice b2 0 d2)) := FlAt.new w2 ⟨v0, v1, v2, v3, v4, v5, v6, v7, v8, v9, v10, v12⟩ (.slice b2 0 d2)
  have HO12 := keptF ((HO1.out.below hb2).below hal2)
  have hf1 := HF1.out.below hb2 HF1.out.lt
  have HF12 := keptF (hf1.below hal2 hf1.lt)
  have HB2 := keptF (below_next HB1.out (below_next hb2 hal2))
  clear hO2 hb2 hal2 hf1 HO1 HF1 HB1
  obtain ⟨c0, c1, c2, c3, c4, c5, c6, c7, c8, c9, c10, c11, c12⟩ := HF12.out.cells
  simp only at c0 c1 c2 c3 c4 c5 c6 c7 c8 c9 c10 c11 c12
  obtain ⟨z0, z1, z2, z3, z4, z5, z6, z7, z8, z9, z10, z11, z12⟩ := HF2.out.cells
  simp only at z0 z1 z2 z3 z4 z5 z6 z7 z8 z9 z10 z11 z12
  go_wp2_with fail
  clear c0 c1 c2 c3 c4 c5 c6 c7 c8 c9 c10 c11 c12 z0 z1 z2 z3 z4 z5 z6 z7 z8 z9 z10 z11 z12
  generalize (w2.alloc (.cells #[.int .i64 v0, .int .i64 v1, .int .i64 v2, .int .i64 v3, .int .i64 v4, .int .i64 v5, .int .i64 v6, .int .i64 v7, .int .i64 v8, .bool v9, .bool v10, .slice b2 0 d2, .int .i64 v12] 25)) = wB at HO2 HF2 HO12 HF12 HB2 ⊢
  refine (HE.out wB _ _ HO2.out HO12.out).mono ?_
  rintro e w3 ⟨rfl, hb3⟩
  have HO3 := keptF (HO2.out.below hb3)
  have HF3 := keptF (HF2.out.below hb3 HF2.out.lt)
  have HO13 := keptF (HO12.out.below hb3)
  have HF13 := keptF (HF12.out.below hb3 HF12.out.lt)
  have HB3 := keptF (below_next HB2.out hb3)
  clear hb3 HO2 HF2 HO12 HF12 HB2
  obtain ⟨z0, z1, z2, z3, z4, z5, z6, z7, z8, z9, z10, z11, z12⟩ := HF3.out.cells
  simp only at z0 z1 z2 z3 z4 z5 z6 z7 z8 z9 z10 z11 z12
  go_wp2_with fail
  refine (HM.out w3 b2 d2).mono ?_
  rintro e w4 ⟨rfl, hb4⟩
  have HO4 := keptF (HO3.out.below hb4)
  have HF4 := keptF (HF3.out.below hb4 HF3.out.lt)
  have HO14 := keptF (HO13.out.below hb4)
  have HF14 := keptF (HF13.out.below hb4 HF13.out.lt)
  have HB4 := keptF (below_next HB3.out hb4)
  clear z0 z1 z2 z3 z4 z5 z6 z7 z8 z9 z10 z11 z12 hb4 HO3 HF3 HO13 HF13 HB3
  obtain ⟨z0, z1, z2, z3, z4, z5, z6, z7, z8, z9, z10, z11, z12⟩ := HF4.out.cells
  simp only at z0 z1 z2 z3 z4 z5 z6 z7 z8 z9 z10 z11 z12
  go_wp2_with fail
  refine (HH.out w4 b2 d2).mono ?_
  rintro e w5 ⟨rfl, hb5⟩
  have HF5 := keptF (HF4.out.below hb5 HF4.out.lt)
  have HO15 := keptF (HO14.out.below hb5)
  have HF15 := keptF (HF14.out.below hb5 HF14.out.lt)
  have HB5 := keptF (below_next HB4.out hb5)
  clear z0 z1 z2 z3 z4 z5 z6 z7 z8 z9 z10 z11 z12 hb5 HO4 HF4 HO14 HF14 HB4
  go_wp2_with fail
  refine (HI.out w5).mono ?_
  rintro e w6 ⟨b3, n3, d3, rfl, hO6, hb6⟩
  obtain rfl : n3 = 0 := hO6.len.symm
  have hal6 : Below w6.heap.size w6 (w6.alloc (.cells #[.int .i64 v0, .int .i64 v1, .int .i64 v2, .int .i64 v3, .int .i64 v4, .int .i64 v5, .int .i64 v6, .int .i64 v7, .int .i64 v8, .bool v9, .bool v10, .slice b3 0 d3, .int .i64 v12] 25)) := (Below.refl _ _).alloc (Nat.le_refl _) _
  have HO6 := keptF (hO6.at.below hal6)
  have HF6 : Hid (FlAt (w6.alloc (.cells #[.int .i64 v0, .int .i64 v1, .int .i64 v2, .int .i64 v3, .int .i64 v4, .int .i64 v5, .int .i64 v6, .int .i64 v7, .int .i64 v8, .bool v9, .bool v10, .slice b3 0 d3, .int .i64 v12] 25)) w6.heap.size ⟨v0, v1, v2, v3, v4, v5, v6, v7, v8, v9, v10, v12⟩ (.slice b3 0 d3)) := FlAt.new w6 ⟨v0, v1, v2, v3, v4, v5, v6, v7, v8, v9, v10, v12⟩ (.slice b3 0 d3)
  have HO16 := keptF ((HO15.out.below hb6).below hal6)
  have hf1 := HF15.out.below hb6 HF15.out.lt
  have HF16 := keptF (hf1.below hal6 hf1.lt)
  have hf2 := HF5.out.below hb6 HF5.out.lt
  have HF26 := keptF (hf2.below hal6 hf2.lt)
  have HB6 := keptF (below_next HB5.out (below_next hb6 hal6))
  clear hO6 hb6 hal6 hf1 hf2 HO15 HF15 HF5 HB5
  obtain ⟨c0, c1, c2, c3, c4, c5, c6, c7, c8, c9, c10, c11, c12⟩ := HF16.out.cells
  simp only at c0 c1 c2 c3 c4 c5 c6 c7 c8 c9 c10 c11 c12
  obtain ⟨z0, z1, z2, z3, z4, z5, z6, z7, z8, z9, z10, z11, z12⟩ := HF6.out.cells
  simp only at z0 z1 z2 z3 z4 z5 z6 z7 z8 z9 z10 z11 z12
  go_wp2_with fail
  clear c0 c1 c2 c3 c4 c5 c6 c7 c8 c9 c10 c11 c12 z0 z1 z2 z3 z4 z5 z6 z7 z8 z9 z10 z11 z12
  generalize (w6.alloc (.cells #[.int .i64 v0, .int .i64 v1, .int .i64 v2, .int .i64 v3, .int .i64 v4, .int .i64 v5, .int .i64 v6, .int .i64 v7, .int .i64 v8, .bool v9, .bool v10, .slice b3 0 d3, .int .i64 v12] 25)) = wC at HO6 HF6 HO16 HF16 HF26 HB6 ⊢
  refine (HE.out wC _ _ HO6.out HO16.out).mono ?_
  rintro e w7 ⟨rfl, hb7⟩
  have HF7 := keptF (HF26.out.below hb7 HF26.out.lt)
  have HB7 := keptF (below_next HB6.out hb7)
  clear hb7 HO6 HF6 HO16 HF16 HF26 HB6
  obtain ⟨z0, z1, z2, z3, z4, z5, z6, z7, z8, z9, z10, z11, z12⟩ := HF7.out.cells
  simp only at z0 z1 z2 z3 z4 z5 z6 z7 z8 z9 z10 z11 z12
  go_wp2_with fail
  refine (HH.out w7 b2 d2).mono ?_
  rintro e w8 ⟨rfl, hb8⟩
  have HB8 := keptF (below_next HB7.out hb8)
  clear z0 z1 z2 z3 z4 z5 z6 z7 z8 z9 z10 z11 z12 hb8
  go_wp2
  go_ret
  exact ⟨rfl, HB8.out⟩
end Go.Proofs.Ytlkhpfknmdimbaa
