
/- The exact laws of ValidFlow, IsSafe and IsDone. -/
import Derived.Test.YtlkhpfknmdimbaaFg
import Derived.Deep.RegionHeld3
namespace Go.Proofs.Ytlkhpfknmdimbaa
open Go.RowKit

/-- block g holds the line, as the laws have it -/
def FlAtL (w : World) (g : Nat) (l : FL) (s : Value) : Prop := w.heap[g]? = some (.cells (flC l s) 39 (0, 0))
theorem FlAtL.new (w : World) (l : FL) (s : Value) : FlAtL (w.alloc (.cells (flC l s) 39)) w.heap.size l s := heap_alloc_new w _
theorem FlAtL.lt {w : World} {g : Nat} {l : FL} {s : Value} (h : FlAtL w g l s) : g < w.heap.size := (Array.getElem?_eq_some_iff.1 h).1
theorem FlAtL.below {w w' : World} {g B : Nat} {l : FL} {s : Value} (h : FlAtL w g l s) (hb : Below B w w') (hg : g < B) : FlAtL w' g l s := (hb.block g hg).trans h
theorem FlAtL.cells {w : World} {g : Nat} {l : FL} {s : Value} (h : FlAtL w g l s) :
    w.cell? ⟨g, 0, none⟩ = some (.int .i64 l.size) ∧ w.cell? ⟨g, 1, none⟩ = some (.int .i64 l.high) ∧ w.cell? ⟨g, 2, none⟩ = some (.int .i64 l.low) ∧ w.cell? ⟨g, 3, none⟩ = some (.int .i64 l.delay) ∧ w.cell? ⟨g, 4, none⟩ = some (.int .i64 l.every) ∧ w.cell? ⟨g, 5, none⟩ = some (.int .i64 l.left) ∧ w.cell? ⟨g, 6, none⟩ = some (.int .i64 l.held) ∧ w.cell? ⟨g, 7, none⟩ = some (.int .i64 l.printed) ∧ w.cell? ⟨g, 8, none⟩ = some (.int .i64 l.lost) ∧ w.cell? ⟨g, 9, none⟩ = some (.bool l.stopped) ∧ w.cell? ⟨g, 10, none⟩ = some (.bool l.asked) ∧ w.cell? ⟨g, 11, none⟩ = some s ∧ w.cell? ⟨g, 12, none⟩ = some (.int .i64 l.clock) := by
  refine ⟨?_, ?_, ?_, ?_, ?_, ?_, ?_, ?_, ?_, ?_, ?_, ?_, ?_⟩ <;> (rw [cell_of_row w g _ _ _ _ h]; rfl)
set_option maxRecDepth 20000 in
set_option maxHeartbeats 2000000 in
theorem exValidFlow_walk (l : FL) (s : Value) (P : List PSig) (w : World) (hx : SigsAt w s P) :
    Calls Try.prog 13 #[flV l s] w fun e w' => e = .returned (.bool true) ∧ Below w.heap.size w w' := by
  have HX := keptF hx
  obtain ⟨a, cp, rfl, _⟩ := hx
  obtain ⟨n, hn⟩ : ∃ n, P.length = n := ⟨_, rfl⟩
  rw [hn] at HX ⊢
  have HN := keptF hn
  obtain ⟨b, hbv⟩ : ∃ b : Bool, (b = true ↔ ValidF l P) := by
    by_cases h : ValidF l P
    · exact ⟨true, by simp [h]⟩
    · exact ⟨false, by simp [h]⟩
  have HV := keptF hbv
  have hbb : (b != b) = false := by cases b <;> rfl
  have HI : Hid (∀ w s, SigsAt w s P → Calls Try.prog 19 #[flV l s] w fun e w' => e = .returned (.bool b) ∧ Below w.heap.size w w') := fun w s h => i_ValidFlow l s P b w h HV
  have HS : Hid (∀ w s, SigsAt w s P → Calls Try.prog 20 #[flV l s] w fun e w' => e = .returned (.bool b) ∧ Below w.heap.size w w') := fun w s h => s_ValidFlow l s P b w h HV
  have HT : Hid (∀ w, n ≤ 1048576 → SigsAt w (.slice a n cp) P → Calls Try.prog 35 #[flV l (.slice a n cp)] w fun e w' => FlowOut l P w e w') := fun w h1 h2 => toFlow_any l _ P n w h2 h1 HN
  have HZ : Hid (∀ w, SigsAt w (.slice a n cp) P → Calls Try.prog 34 #[flV l (.slice a n cp), .int .i64 1048576] w fun e w' => (∃ k : Int, e = .returned (.int .i64 k) ∧ (k = -1 ∨ (0 ≤ k ∧ k ≤ 1048576 ∧ P.length ≤ 1048576))) ∧ Below w.heap.size w w') := fun w h => szFlow_any l _ P w h
  have HE : Hid (∀ w s t, SigsAt w s P → SigsAt w t P → Calls Try.prog 36 #[flV l s, flV l t] w fun e w' => e = .returned (.bool true) ∧ Below w.heap.size w w') := fun w s t h1 h2 => eqFlow_same l s t P w h1 h2
  have hB : Below w.heap.size w (w.alloc (.cells (flC l (.slice a n cp)) 39)) := (Below.refl _ _).alloc (Nat.le_refl _) _
  have hL := FlAtL.new w l (.slice a n cp)
  have HB := keptF hB
  have HX1 := keptF (HX.out.below hB)
  have HL := keptF hL
  clear hn hbv hB hL
  obtain ⟨v0, v1, v2, v3, v4, v5, v6, v7, v8, v9, v10, v12⟩ := l
  simp only [flV, flC, FlowOut] at HB HX1 HL HI HS HT HZ HE ⊢
  go_enter Try.func13, Try.ntmps13
  go_wp2_with fail
  generalize (w.alloc (.cells #[.int .i64 v0, .int .i64 v1, .int .i64 v2, .int .i64 v3, .int .i64 v4, .int .i64 v5, .int .i64 v6, .int .i64 v7, .int .i64 v8, .bool v9, .bool v10, .slice a n cp, .int .i64 v12] 39)) = wA at HB HX1 HL ⊢
  refine (HZ.out _ HX1.out).mono ?_
  rintro e w1 ⟨⟨k, rfl, hk⟩, hb1⟩
  have HL1 := keptF (HL.out.below hb1 HL.out.lt)
  have HXa := keptF (HX1.out.below hb1)
  have HB1 := keptF (below_next HB.out hb1)
  clear hb1 HL HX1 HB
  rcases hk with rfl | ⟨k0, k1, k2⟩
  · go_wp2
    go_ret
    exact ⟨rfl, HB1.out⟩
  · have d1 : decide (k < 0) = false := decide_eq_false (by omega)
    have hn20 : n ≤ 1048576 := by rw [← HN.out]; exact k2
    clear k2
    obtain ⟨c0, c1, c2, c3, c4, c5, c6, c7, c8, c9, c10, c11, c12⟩ := HL1.out.cells
    simp only at c0 c1 c2 c3 c4 c5 c6 c7 c8 c9 c10 c11 c12
    go_wp2_with fail
    refine (HT.out w1 hn20 HXa.out).mono ?_
    rintro e w2 ⟨a2, n2, c2', rfl, hO2, hb2⟩
    have HO2 := keptF hO2.at
    have HL2 := keptF (HL1.out.below hb2 HL1.out.lt)
    have HXb := keptF (HXa.out.below hb2)
    have HB2 := keptF (below_next HB1.out hb2)
    clear hO2 hb2
    clear c0 c1 c2 c3 c4 c5 c6 c7 c8 c9 c10 c11 c12
    go_wp2_with fail
    refine (HS.out w2 _ HO2.out).mono ?_
    rintro e w3 ⟨rfl, hb3⟩
    have HL3 := keptF (HL2.out.below hb3 HL2.out.lt)
    have HXc := keptF (HXb.out.below hb3)
    have HB3 := keptF (below_next HB2.out hb3)
    clear hb3
    obtain ⟨c0, c1, c2, c3, c4, c5, c6, c7, c8, c9, c10, c11, c12⟩ := HL3.out.cells
    simp only at c0 c1 c2 c3 c4 c5 c6 c7 c8 c9 c10 c11 c12
    go_wp2_with fail
    refine (HT.out w3 hn20 HXc.out).mono ?_
    rintro e w4 ⟨a4, n4, c4', rfl, hO4, hb4⟩
    have hal : Below w4.heap.size w4 (w4.alloc (.cells #[.int .i64 v0, .int .i64 v1, .int .i64 v2, .int .i64 v3, .int .i64 v4, .int .i64 v5, .int .i64 v6, .int .i64 v7, .int .i64 v8, .bool v9, .bool v10, .slice a4 n4 c4', .int .i64 v12] 25)) := (Below.refl _ _).alloc (Nat.le_refl _) _
    have HO4 := keptF (hO4.at.below hal)
    have HF4 : Hid (FlAt (w4.alloc (.cells #[.int .i64 v0, .int .i64 v1, .int .i64 v2, .int .i64 v3, .int .i64 v4, .int .i64 v5, .int .i64 v6, .int .i64 v7, .int .i64 v8, .bool v9, .bool v10, .slice a4 n4 c4', .int .i64 v12] 25)) w4.heap.size ⟨v0, v1, v2, v3, v4, v5, v6, v7, v8, v9, v10, v12⟩ (.slice a4 n4 c4')) := FlAt.new w4 ⟨v0, v1, v2, v3, v4, v5, v6, v7, v8, v9, v10, v12⟩ (.slice a4 n4 c4')
    have HL4 := keptF ((HL3.out.below hb4 HL3.out.lt).below hal (HL3.out.below hb4 HL3.out.lt).lt)
    have HXd := keptF ((HXc.out.below hb4).below hal)
    have HB4 := keptF (below_next (below_next HB3.out hb4) hal)
    clear hO4 hb4 hal
    clear c0 c1 c2 c3 c4 c5 c6 c7 c8 c9 c10 c11 c12
    go_wp2_with fail
    generalize (w4.alloc (.cells #[.int .i64 v0, .int .i64 v1, .int .i64 v2, .int .i64 v3, .int .i64 v4, .int .i64 v5, .int .i64 v6, .int .i64 v7, .int .i64 v8, .bool v9, .bool v10, .slice a4 n4 c4', .int .i64 v12] 25)) = w5 at HO4 HF4 HL4 HXd HB4 ⊢
    refine (HI.out w5 _ HO4.out).mono ?_
    rintro e w6 ⟨rfl, hb6⟩
    have HF6 := keptF (HF4.out.below hb6 HF4.out.lt)
    have HL6 := keptF (HL4.out.below hb6 HL4.out.lt)
    have HO6 := keptF (HO4.out.below hb6)
    have HXe := keptF (HXd.out.below hb6)
    have HB6 := keptF (below_next HB4.out hb6)
    clear hb6
    have HK : Hid (∀ wx, Below w6.heap.size w6 wx → (wx.cell? ⟨w.heap.size, 0, none⟩ = some (.int .i64 v0) ∧ wx.cell? ⟨w.heap.size, 1, none⟩ = some (.int .i64 v1) ∧ wx.cell? ⟨w.heap.size, 2, none⟩ = some (.int .i64 v2) ∧ wx.cell? ⟨w.heap.size, 3, none⟩ = some (.int .i64 v3) ∧ wx.cell? ⟨w.heap.size, 4, none⟩ = some (.int .i64 v4) ∧ wx.cell? ⟨w.heap.size, 5, none⟩ = some (.int .i64 v5) ∧ wx.cell? ⟨w.heap.size, 6, none⟩ = some (.int .i64 v6) ∧ wx.cell? ⟨w.heap.size, 7, none⟩ = some (.int .i64 v7) ∧ wx.cell? ⟨w.heap.size, 8, none⟩ = some (.int .i64 v8) ∧ wx.cell? ⟨w.heap.size, 9, none⟩ = some (.bool v9) ∧ wx.cell? ⟨w.heap.size, 10, none⟩ = some (.bool v10) ∧ wx.cell? ⟨w.heap.size, 11, none⟩ = some (.slice a n cp) ∧ wx.cell? ⟨w.heap.size, 12, none⟩ = some (.int .i64 v12)) ∧ (wx.cell? ⟨w4.heap.size, 0, none⟩ = some (.int .i64 v0) ∧ wx.cell? ⟨w4.heap.size, 1, none⟩ = some (.int .i64 v1) ∧ wx.cell? ⟨w4.heap.size, 2, none⟩ = some (.int .i64 v2) ∧ wx.cell? ⟨w4.heap.size, 3, none⟩ = some (.int .i64 v3) ∧ wx.cell? ⟨w4.heap.size, 4, none⟩ = some (.int .i64 v4) ∧ wx.cell? ⟨w4.heap.size, 5, none⟩ = some (.int .i64 v5) ∧ wx.cell? ⟨w4.heap.size, 6, none⟩ = some (.int .i64 v6) ∧ wx.cell? ⟨w4.heap.size, 7, none⟩ = some (.int .i64 v7) ∧ wx.cell? ⟨w4.heap.size, 8, none⟩ = some (.int .i64 v8) ∧ wx.cell? ⟨w4.heap.size, 9, none⟩ = some (.bool v9) ∧ wx.cell? ⟨w4.heap.size, 10, none⟩ = some (.bool v10) ∧ wx.cell? ⟨w4.heap.size, 11, none⟩ = some (.slice a4 n4 c4') ∧ wx.cell? ⟨w4.heap.size, 12, none⟩ = some (.int .i64 v12))) := fun wx hb => ⟨(HL6.out.below hb HL6.out.lt).cells, (HF6.out.below hb HF6.out.lt).cells⟩
    have HD0 : Hid (Below w6.heap.size w6 w6.drew) := (Below.refl _ _).drew
    go_wp2_with fail
    go_region_held3 (fun wx => (wx.cell? ⟨w.heap.size, 0, none⟩ = some (.int .i64 v0) ∧ wx.cell? ⟨w.heap.size, 1, none⟩ = some (.int .i64 v1) ∧ wx.cell? ⟨w.heap.size, 2, none⟩ = some (.int .i64 v2) ∧ wx.cell? ⟨w.heap.size, 3, none⟩ = some (.int .i64 v3) ∧ wx.cell? ⟨w.heap.size, 4, none⟩ = some (.int .i64 v4) ∧ wx.cell? ⟨w.heap.size, 5, none⟩ = some (.int .i64 v5) ∧ wx.cell? ⟨w.heap.size, 6, none⟩ = some (.int .i64 v6) ∧ wx.cell? ⟨w.heap.size, 7, none⟩ = some (.int .i64 v7) ∧ wx.cell? ⟨w.heap.size, 8, none⟩ = some (.int .i64 v8) ∧ wx.cell? ⟨w.heap.size, 9, none⟩ = some (.bool v9) ∧ wx.cell? ⟨w.heap.size, 10, none⟩ = some (.bool v10) ∧ wx.cell? ⟨w.heap.size, 11, none⟩ = some (.slice a n cp) ∧ wx.cell? ⟨w.heap.size, 12, none⟩ = some (.int .i64 v12)) ∧ (wx.cell? ⟨w4.heap.size, 0, none⟩ = some (.int .i64 v0) ∧ wx.cell? ⟨w4.heap.size, 1, none⟩ = some (.int .i64 v1) ∧ wx.cell? ⟨w4.heap.size, 2, none⟩ = some (.int .i64 v2) ∧ wx.cell? ⟨w4.heap.size, 3, none⟩ = some (.int .i64 v3) ∧ wx.cell? ⟨w4.heap.size, 4, none⟩ = some (.int .i64 v4) ∧ wx.cell? ⟨w4.heap.size, 5, none⟩ = some (.int .i64 v5) ∧ wx.cell? ⟨w4.heap.size, 6, none⟩ = some (.int .i64 v6) ∧ wx.cell? ⟨w4.heap.size, 7, none⟩ = some (.int .i64 v7) ∧ wx.cell? ⟨w4.heap.size, 8, none⟩ = some (.int .i64 v8) ∧ wx.cell? ⟨w4.heap.size, 9, none⟩ = some (.bool v9) ∧ wx.cell? ⟨w4.heap.size, 10, none⟩ = some (.bool v10) ∧ wx.cell? ⟨w4.heap.size, 11, none⟩ = some (.slice a4 n4 c4') ∧ wx.cell? ⟨w4.heap.size, 12, none⟩ = some (.int .i64 v12))) (first | assumption | exact HK.out _ HD0.out | exact HK.out _ (below_next HD0.out hb7) | exact HK.out _ HD8.out) (first | (go_at_call 35; (with_reducible refine (HT.out _ hn20 (HXe.out.below HD0.out)).mono ?_); rintro e w7 ⟨a7, n7, c7', rfl, hO7, hb7⟩; have HO7 := keptF hO7.at; have HO67 := keptF ((HO6.out.below HD0.out).below hb7); have HB7 := keptF (below_next HB6.out (below_next HD0.out hb7))) | (go_at_call 36; (with_reducible refine (HE.out _ _ _ HO67.out HO7.out).mono ?_); rintro e w8 ⟨rfl, hb8⟩; have HB8 := keptF (below_next HB7.out hb8); have HD8 := keptF (below_next (below_next HD0.out hb7) hb8)))
    all_goals
      go_wp2
      go_ret
      exact ⟨rfl, HB8.out⟩
set_option maxRecDepth 20000 in
set_option maxHeartbeats 2000000 in
theorem exIsSafe_walk (l : FL) (s : Value) (P : List PSig) (w : World) (hx : SigsAt w s P) :
    Calls Try.prog 16 #[flV l s] w fun e w' => e = .returned (.bool true) ∧ Below w.heap.size w w' := by
  have HX := keptF hx
  obtain ⟨a, cp, rfl, _⟩ := hx
  obtain ⟨n, hn⟩ : ∃ n, P.length = n := ⟨_, rfl⟩
  rw [hn] at HX ⊢
  have HN := keptF hn
  obtain ⟨b, hbv⟩ : ∃ b : Bool, (b = true ↔ SafeF l P) := by
    by_cases h : SafeF l P
    · exact ⟨true, by simp [h]⟩
    · exact ⟨false, by simp [h]⟩
  have HV := keptF hbv
  have hbb : (b != b) = false := by cases b <;> rfl
  have HI : Hid (∀ w s, SigsAt w s P → Calls Try.prog 26 #[flV l s] w fun e w' => e = .returned (.bool b) ∧ Below w.heap.size w w') := fun w s h => i_IsSafe l s P b w h HV
  have HS : Hid (∀ w s, SigsAt w s P → Calls Try.prog 31 #[flV l s] w fun e w' => e = .returned (.bool b) ∧ Below w.heap.size w w') := fun w s h => s_IsSafe l s P b w h HV
  have HT : Hid (∀ w, n ≤ 1048576 → SigsAt w (.slice a n cp) P → Calls Try.prog 35 #[flV l (.slice a n cp)] w fun e w' => FlowOut l P w e w') := fun w h1 h2 => toFlow_any l _ P n w h2 h1 HN
  have HZ : Hid (∀ w, SigsAt w (.slice a n cp) P → Calls Try.prog 34 #[flV l (.slice a n cp), .int .i64 1048576] w fun e w' => (∃ k : Int, e = .returned (.int .i64 k) ∧ (k = -1 ∨ (0 ≤ k ∧ k ≤ 1048576 ∧ P.length ≤ 1048576))) ∧ Below w.heap.size w w') := fun w h => szFlow_any l _ P w h
  have HE : Hid (∀ w s t, SigsAt w s P → SigsAt w t P → Calls Try.prog 36 #[flV l s, flV l t] w fun e w' => e = .returned (.bool true) ∧ Below w.heap.size w w') := fun w s t h1 h2 => eqFlow_same l s t P w h1 h2
  have hB : Below w.heap.size w (w.alloc (.cells (flC l (.slice a n cp)) 39)) := (Below.refl _ _).alloc (Nat.le_refl _) _
  have hL := FlAtL.new w l (.slice a n cp)
  have HB := keptF hB
  have HX1 := keptF (HX.out.below hB)
  have HL := keptF hL
  clear hn hbv hB hL
  obtain ⟨v0, v1, v2, v3, v4, v5, v6, v7, v8, v9, v10, v12⟩ := l
  simp only [flV, flC, FlowOut] at HB HX1 HL HI HS HT HZ HE ⊢
  go_enter Try.func16, Try.ntmps16
  go_wp2_with fail
  generalize (w.alloc (.cells #[.int .i64 v0, .int .i64 v1, .int .i64 v2, .int .i64 v3, .int .i64 v4, .int .i64 v5, .int .i64 v6, .int .i64 v7, .int .i64 v8, .bool v9, .bool v10, .slice a n cp, .int .i64 v12] 39)) = wA at HB HX1 HL ⊢
  refine (HZ.out _ HX1.out).mono ?_
  rintro e w1 ⟨⟨k, rfl, hk⟩, hb1⟩
  have HL1 := keptF (HL.out.below hb1 HL.out.lt)
  have HXa := keptF (HX1.out.below hb1)
  have HB1 := keptF (below_next HB.out hb1)
  clear hb1 HL HX1 HB
  rcases hk with rfl | ⟨k0, k1, k2⟩
  · go_wp2
    go_ret
    exact ⟨rfl, HB1.out⟩
  · have d1 : decide (k < 0) = false := decide_eq_false (by omega)
    have hn20 : n ≤ 1048576 := by rw [← HN.out]; exact k2
    clear k2
    obtain ⟨c0, c1, c2, c3, c4, c5, c6, c7, c8, c9, c10, c11, c12⟩ := HL1.out.cells
    simp only at c0 c1 c2 c3 c4 c5 c6 c7 c8 c9 c10 c11 c12
    go_wp2_with fail
    refine (HT.out w1 hn20 HXa.out).mono ?_
    rintro e w2 ⟨a2, n2, c2', rfl, hO2, hb2⟩
    have HO2 := keptF hO2.at
    have HL2 := keptF (HL1.out.below hb2 HL1.out.lt)
    have HXb := keptF (HXa.out.below hb2)
    have HB2 := keptF (below_next HB1.out hb2)
    clear hO2 hb2
    clear c0 c1 c2 c3 c4 c5 c6 c7 c8 c9 c10 c11 c12
    go_wp2_with fail
    refine (HS.out w2 _ HO2.out).mono ?_
    rintro e w3 ⟨rfl, hb3⟩
    have HL3 := keptF (HL2.out.below hb3 HL2.out.lt)
    have HXc := keptF (HXb.out.below hb3)
    have HB3 := keptF (below_next HB2.out hb3)
    clear hb3
    obtain ⟨c0, c1, c2, c3, c4, c5, c6, c7, c8, c9, c10, c11, c12⟩ := HL3.out.cells
    simp only at c0 c1 c2 c3 c4 c5 c6 c7 c8 c9 c10 c11 c12
    go_wp2_with fail
    refine (HT.out w3 hn20 HXc.out).mono ?_
    rintro e w4 ⟨a4, n4, c4', rfl, hO4, hb4⟩
    have hal : Below w4.heap.size w4 (w4.alloc (.cells #[.int .i64 v0, .int .i64 v1, .int .i64 v2, .int .i64 v3, .int .i64 v4, .int .i64 v5, .int .i64 v6, .int .i64 v7, .int .i64 v8, .bool v9, .bool v10, .slice a4 n4 c4', .int .i64 v12] 25)) := (Below.refl _ _).alloc (Nat.le_refl _) _
    have HO4 := keptF (hO4.at.below hal)
    have HF4 : Hid (FlAt (w4.alloc (.cells #[.int .i64 v0, .int .i64 v1, .int .i64 v2, .int .i64 v3, .int .i64 v4, .int .i64 v5, .int .i64 v6, .int .i64 v7, .int .i64 v8, .bool v9, .bool v10, .slice a4 n4 c4', .int .i64 v12] 25)) w4.heap.size ⟨v0, v1, v2, v3, v4, v5, v6, v7, v8, v9, v10, v12⟩ (.slice a4 n4 c4')) := FlAt.new w4 ⟨v0, v1, v2, v3, v4, v5, v6, v7, v8, v9, v10, v12⟩ (.slice a4 n4 c4')
    have HL4 := keptF ((HL3.out.below hb4 HL3.out.lt).below hal (HL3.out.below hb4 HL3.out.lt).lt)
    have HXd := keptF ((HXc.out.below hb4).below hal)
    have HB4 := keptF (below_next (below_next HB3.out hb4) hal)
    clear hO4 hb4 hal
    clear c0 c1 c2 c3 c4 c5 c6 c7 c8 c9 c10 c11 c12
    go_wp2_with fail
    generalize (w4.alloc (.cells #[.int .i64 v0, .int .i64 v1, .int .i64 v2, .int .i64 v3, .int .i64 v4, .int .i64 v5, .int .i64 v6, .int .i64 v7, .int .i64 v8, .bool v9, .bool v10, .slice a4 n4 c4', .int .i64 v12] 25)) = w5 at HO4 HF4 HL4 HXd HB4 ⊢
    refine (HI.out w5 _ HO4.out).mono ?_
    rintro e w6 ⟨rfl, hb6⟩
    have HF6 := keptF (HF4.out.below hb6 HF4.out.lt)
    have HL6 := keptF (HL4.out.below hb6 HL4.out.lt)
    have HO6 := keptF (HO4.out.below hb6)
    have HXe := keptF (HXd.out.below hb6)
    have HB6 := keptF (below_next HB4.out hb6)
    clear hb6
    have HK : Hid (∀ wx, Below w6.heap.size w6 wx → (wx.cell? ⟨w.heap.size, 0, none⟩ = some (.int .i64 v0) ∧ wx.cell? ⟨w.heap.size, 1, none⟩ = some (.int .i64 v1) ∧ wx.cell? ⟨w.heap.size, 2, none⟩ = some (.int .i64 v2) ∧ wx.cell? ⟨w.heap.size, 3, none⟩ = some (.int .i64 v3) ∧ wx.cell? ⟨w.heap.size, 4, none⟩ = some (.int .i64 v4) ∧ wx.cell? ⟨w.heap.size, 5, none⟩ = some (.int .i64 v5) ∧ wx.cell? ⟨w.heap.size, 6, none⟩ = some (.int .i64 v6) ∧ wx.cell? ⟨w.heap.size, 7, none⟩ = some (.int .i64 v7) ∧ wx.cell? ⟨w.heap.size, 8, none⟩ = some (.int .i64 v8) ∧ wx.cell? ⟨w.heap.size, 9, none⟩ = some (.bool v9) ∧ wx.cell? ⟨w.heap.size, 10, none⟩ = some (.bool v10) ∧ wx.cell? ⟨w.heap.size, 11, none⟩ = some (.slice a n cp) ∧ wx.cell? ⟨w.heap.size, 12, none⟩ = some (.int .i64 v12)) ∧ (wx.cell? ⟨w4.heap.size, 0, none⟩ = some (.int .i64 v0) ∧ wx.cell? ⟨w4.heap.size, 1, none⟩ = some (.int .i64 v1) ∧ wx.cell? ⟨w4.heap.size, 2, none⟩ = some (.int .i64 v2) ∧ wx.cell? ⟨w4.heap.size, 3, none⟩ = some (.int .i64 v3) ∧ wx.cell? ⟨w4.heap.size, 4, none⟩ = some (.int .i64 v4) ∧ wx.cell? ⟨w4.heap.size, 5, none⟩ = some (.int .i64 v5) ∧ wx.cell? ⟨w4.heap.size, 6, none⟩ = some (.int .i64 v6) ∧ wx.cell? ⟨w4.heap.size, 7, none⟩ = some (.int .i64 v7) ∧ wx.cell? ⟨w4.heap.size, 8, none⟩ = some (.int .i64 v8) ∧ wx.cell? ⟨w4.heap.size, 9, none⟩ = some (.bool v9) ∧ wx.cell? ⟨w4.heap.size, 10, none⟩ = some (.bool v10) ∧ wx.cell? ⟨w4.heap.size, 11, none⟩ = some (.slice a4 n4 c4') ∧ wx.cell? ⟨w4.heap.size, 12, none⟩ = some (.int .i64 v12))) := fun wx hb => ⟨(HL6.out.below hb HL6.out.lt).cells, (HF6.out.below hb HF6.out.lt).cells⟩
    have HD0 : Hid (Below w6.heap.size w6 w6.drew) := (Below.refl _ _).drew
    go_wp2_with fail
    go_region_held3 (fun wx => (wx.cell? ⟨w.heap.size, 0, none⟩ = some (.int .i64 v0) ∧ wx.cell? ⟨w.heap.size, 1, none⟩ = some (.int .i64 v1) ∧ wx.cell? ⟨w.heap.size, 2, none⟩ = some (.int .i64 v2) ∧ wx.cell? ⟨w.heap.size, 3, none⟩ = some (.int .i64 v3) ∧ wx.cell? ⟨w.heap.size, 4, none⟩ = some (.int .i64 v4) ∧ wx.cell? ⟨w.heap.size, 5, none⟩ = some (.int .i64 v5) ∧ wx.cell? ⟨w.heap.size, 6, none⟩ = some (.int .i64 v6) ∧ wx.cell? ⟨w.heap.size, 7, none⟩ = some (.int .i64 v7) ∧ wx.cell? ⟨w.heap.size, 8, none⟩ = some (.int .i64 v8) ∧ wx.cell? ⟨w.heap.size, 9, none⟩ = some (.bool v9) ∧ wx.cell? ⟨w.heap.size, 10, none⟩ = some (.bool v10) ∧ wx.cell? ⟨w.heap.size, 11, none⟩ = some (.slice a n cp) ∧ wx.cell? ⟨w.heap.size, 12, none⟩ = some (.int .i64 v12)) ∧ (wx.cell? ⟨w4.heap.size, 0, none⟩ = some (.int .i64 v0) ∧ wx.cell? ⟨w4.heap.size, 1, none⟩ = some (.int .i64 v1) ∧ wx.cell? ⟨w4.heap.size, 2, none⟩ = some (.int .i64 v2) ∧ wx.cell? ⟨w4.heap.size, 3, none⟩ = some (.int .i64 v3) ∧ wx.cell? ⟨w4.heap.size, 4, none⟩ = some (.int .i64 v4) ∧ wx.cell? ⟨w4.heap.size, 5, none⟩ = some (.int .i64 v5) ∧ wx.cell? ⟨w4.heap.size, 6, none⟩ = some (.int .i64 v6) ∧ wx.cell? ⟨w4.heap.size, 7, none⟩ = some (.int .i64 v7) ∧ wx.cell? ⟨w4.heap.size, 8, none⟩ = some (.int .i64 v8) ∧ wx.cell? ⟨w4.heap.size, 9, none⟩ = some (.bool v9) ∧ wx.cell? ⟨w4.heap.size, 10, none⟩ = some (.bool v10) ∧ wx.cell? ⟨w4.heap.size, 11, none⟩ = some (.slice a4 n4 c4') ∧ wx.cell? ⟨w4.heap.size, 12, none⟩ = some (.int .i64 v12))) (first | assumption | exact HK.out _ HD0.out | exact HK.out _ (below_next HD0.out hb7) | exact HK.out _ HD8.out) (first | (go_at_call 35; (with_reducible refine (HT.out _ hn20 (HXe.out.below HD0.out)).mono ?_); rintro e w7 ⟨a7, n7, c7', rfl, hO7, hb7⟩; have HO7 := keptF hO7.at; have HO67 := keptF ((HO6.out.below HD0.out).below hb7); have HB7 := keptF (below_next HB6.out (below_next HD0.out hb7))) | (go_at_call 36; (with_reducible refine (HE.out _ _ _ HO67.out HO7.out).mono ?_); rintro e w8 ⟨rfl, hb8⟩; have HB8 := keptF (below_next HB7.out hb8); have HD8 := keptF (below_next (below_next HD0.out hb7) hb8)))
    all_goals
      go_wp2
      go_ret
      exact ⟨rfl, HB8.out⟩
set_option maxRecDepth 20000 in
set_option maxHeartbeats 2000000 in
theorem exIsDone_walk (l : FL) (s : Value) (P : List PSig) (w : World) (hx : SigsAt w s P) :
    Calls Try.prog 17 #[flV l s] w fun e w' => e = .returned (.bool true) ∧ Below w.heap.size w w' := by
  have HX := keptF hx
  obtain ⟨a, cp, rfl, _⟩ := hx
  obtain ⟨n, hn⟩ : ∃ n, P.length = n := ⟨_, rfl⟩
  rw [hn] at HX ⊢
  have HN := keptF hn
  obtain ⟨b, hbv⟩ : ∃ b : Bool, (b = true ↔ DoneF l P) := by
    by_cases h : DoneF l P
    · exact ⟨true, by simp [h]⟩
    · exact ⟨false, by simp [h]⟩
  have HV := keptF hbv
  have hbb : (b != b) = false := by cases b <;> rfl
  have HI : Hid (∀ w s, SigsAt w s P → Calls Try.prog 27 #[flV l s] w fun e w' => e = .returned (.bool b) ∧ Below w.heap.size w w') := fun w s h => i_IsDone l s P b w h HV
  have HS : Hid (∀ w s, SigsAt w s P → Calls Try.prog 33 #[flV l s] w fun e w' => e = .returned (.bool b) ∧ Below w.heap.size w w') := fun w s h => s_IsDone l s P b w h HV
  have HT : Hid (∀ w, n ≤ 1048576 → SigsAt w (.slice a n cp) P → Calls Try.prog 35 #[flV l (.slice a n cp)] w fun e w' => FlowOut l P w e w') := fun w h1 h2 => toFlow_any l _ P n w h2 h1 HN
  have HZ : Hid (∀ w, SigsAt w (.slice a n cp) P → Calls Try.prog 34 #[flV l (.slice a n cp), .int .i64 1048576] w fun e w' => (∃ k : Int, e = .returned (.int .i64 k) ∧ (k = -1 ∨ (0 ≤ k ∧ k ≤ 1048576 ∧ P.length ≤ 1048576))) ∧ Below w.heap.size w w') := fun w h => szFlow_any l _ P w h
  have HE : Hid (∀ w s t, SigsAt w s P → SigsAt w t P → Calls Try.prog 36 #[flV l s, flV l t] w fun e w' => e = .returned (.bool true) ∧ Below w.heap.size w w') := fun w s t h1 h2 => eqFlow_same l s t P w h1 h2
  have hB : Below w.heap.size w (w.alloc (.cells (flC l (.slice a n cp)) 39)) := (Below.refl _ _).alloc (Nat.le_refl _) _
  have hL := FlAtL.new w l (.slice a n cp)
  have HB := keptF hB
  have HX1 := keptF (HX.out.below hB)
  have HL := keptF hL
  clear hn hbv hB hL
  obtain ⟨v0, v1, v2, v3, v4, v5, v6, v7, v8, v9, v10, v12⟩ := l
  simp only [flV, flC, FlowOut] at HB HX1 HL HI HS HT HZ HE ⊢
  go_enter Try.func17, Try.ntmps17
  go_wp2_with fail
  generalize (w.alloc (.cells #[.int .i64 v0, .int .i64 v1, .int .i64 v2, .int .i64 v3, .int .i64 v4, .int .i64 v5, .int .i64 v6, .int .i64 v7, .int .i64 v8, .bool v9, .bool v10, .slice a n cp, .int .i64 v12] 39)) = wA at HB HX1 HL ⊢
  refine (HZ.out _ HX1.out).mono ?_
  rintro e w1 ⟨⟨k, rfl, hk⟩, hb1⟩
  have HL1 := keptF (HL.out.below hb1 HL.out.lt)
  have HXa := keptF (HX1.out.below hb1)
  have HB1 := keptF (below_next HB.out hb1)
  clear hb1 HL HX1 HB
  rcases hk with rfl | ⟨k0, k1, k2⟩
  · go_wp2
    go_ret
    exact ⟨rfl, HB1.out⟩
  · have d1 : decide (k < 0) = false := decide_eq_false (by omega)
    have hn20 : n ≤ 1048576 := by rw [← HN.out]; exact k2
    clear k2
    obtain ⟨c0, c1, c2, c3, c4, c5, c6, c7, c8, c9, c10, c11, c12⟩ := HL1.out.cells
    simp only at c0 c1 c2 c3 c4 c5 c6 c7 c8 c9 c10 c11 c12
    go_wp2_with fail
    refine (HT.out w1 hn20 HXa.out).mono ?_
    rintro e w2 ⟨a2, n2, c2', rfl, hO2, hb2⟩
    have HO2 := keptF hO2.at
    have HL2 := keptF (HL1.out.below hb2 HL1.out.lt)
    have HXb := keptF (HXa.out.below hb2)
    have HB2 := keptF (below_next HB1.out hb2)
    clear hO2 hb2
    clear c0 c1 c2 c3 c4 c5 c6 c7 c8 c9 c10 c11 c12
    go_wp2_with fail
    refine (HS.out w2 _ HO2.out).mono ?_
    rintro e w3 ⟨rfl, hb3⟩
    have HL3 := keptF (HL2.out.below hb3 HL2.out.lt)
    have HXc := keptF (HXb.out.below hb3)
    have HB3 := keptF (below_next HB2.out hb3)
    clear hb3
    obtain ⟨c0, c1, c2, c3, c4, c5, c6, c7, c8, c9, c10, c11, c12⟩ := HL3.out.cells
    simp only at c0 c1 c2 c3 c4 c5 c6 c7 c8 c9 c10 c11 c12
    go_wp2_with fail
    refine (HT.out w3 hn20 HXc.out).mono ?_
    rintro e w4 ⟨a4, n4, c4', rfl, hO4, hb4⟩
    have hal : Below w4.heap.size w4 (w4.alloc (.cells #[.int .i64 v0, .int .i64 v1, .int .i64 v2, .int .i64 v3, .int .i64 v4, .int .i64 v5, .int .i64 v6, .int .i64 v7, .int .i64 v8, .bool v9, .bool v10, .slice a4 n4 c4', .int .i64 v12] 25)) := (Below.refl _ _).alloc (Nat.le_refl _) _
    have HO4 := keptF (hO4.at.below hal)
    have HF4 : Hid (FlAt (w4.alloc (.cells #[.int .i64 v0, .int .i64 v1, .int .i64 v2, .int .i64 v3, .int .i64 v4, .int .i64 v5, .int .i64 v6, .int .i64 v7, .int .i64 v8, .bool v9, .bool v10, .slice a4 n4 c4', .int .i64 v12] 25)) w4.heap.size ⟨v0, v1, v2, v3, v4, v5, v6, v7, v8, v9, v10, v12⟩ (.slice a4 n4 c4')) := FlAt.new w4 ⟨v0, v1, v2, v3, v4, v5, v6, v7, v8, v9, v10, v12⟩ (.slice a4 n4 c4')
    have HL4 := keptF ((HL3.out.below hb4 HL3.out.lt).below hal (HL3.out.below hb4 HL3.out.lt).lt)
    have HXd := keptF ((HXc.out.below hb4).below hal)
    have HB4 := keptF (below_next (below_next HB3.out hb4) hal)
    clear hO4 hb4 hal
    clear c0 c1 c2 c3 c4 c5 c6 c7 c8 c9 c10 c11 c12
    go_wp2_with fail
    generalize (w4.alloc (.cells #[.int .i64 v0, .int .i64 v1, .int .i64 v2, .int .i64 v3, .int .i64 v4, .int .i64 v5, .int .i64 v6, .int .i64 v7, .int .i64 v8, .bool v9, .bool v10, .slice a4 n4 c4', .int .i64 v12] 25)) = w5 at HO4 HF4 HL4 HXd HB4 ⊢
    refine (HI.out w5 _ HO4.out).mono ?_
    rintro e w6 ⟨rfl, hb6⟩
    have HF6 := keptF (HF4.out.below hb6 HF4.out.lt)
    have HL6 := keptF (HL4.out.below hb6 HL4.out.lt)
    have HO6 := keptF (HO4.out.below hb6)
    have HXe := keptF (HXd.out.below hb6)
    have HB6 := keptF (below_next HB4.out hb6)
    clear hb6
    have HK : Hid (∀ wx, Below w6.heap.size w6 wx → (wx.cell? ⟨w.heap.size, 0, none⟩ = some (.int .i64 v0) ∧ wx.cell? ⟨w.heap.size, 1, none⟩ = some (.int .i64 v1) ∧ wx.cell? ⟨w.heap.size, 2, none⟩ = some (.int .i64 v2) ∧ wx.cell? ⟨w.heap.size, 3, none⟩ = some (.int .i64 v3) ∧ wx.cell? ⟨w.heap.size, 4, none⟩ = some (.int .i64 v4) ∧ wx.cell? ⟨w.heap.size, 5, none⟩ = some (.int .i64 v5) ∧ wx.cell? ⟨w.heap.size, 6, none⟩ = some (.int .i64 v6) ∧ wx.cell? ⟨w.heap.size, 7, none⟩ = some (.int .i64 v7) ∧ wx.cell? ⟨w.heap.size, 8, none⟩ = some (.int .i64 v8) ∧ wx.cell? ⟨w.heap.size, 9, none⟩ = some (.bool v9) ∧ wx.cell? ⟨w.heap.size, 10, none⟩ = some (.bool v10) ∧ wx.cell? ⟨w.heap.size, 11, none⟩ = some (.slice a n cp) ∧ wx.cell? ⟨w.heap.size, 12, none⟩ = some (.int .i64 v12)) ∧ (wx.cell? ⟨w4.heap.size, 0, none⟩ = some (.int .i64 v0) ∧ wx.cell? ⟨w4.heap.size, 1, none⟩ = some (.int .i64 v1) ∧ wx.cell? ⟨w4.heap.size, 2, none⟩ = some (.int .i64 v2) ∧ wx.cell? ⟨w4.heap.size, 3, none⟩ = some (.int .i64 v3) ∧ wx.cell? ⟨w4.heap.size, 4, none⟩ = some (.int .i64 v4) ∧ wx.cell? ⟨w4.heap.size, 5, none⟩ = some (.int .i64 v5) ∧ wx.cell? ⟨w4.heap.size, 6, none⟩ = some (.int .i64 v6) ∧ wx.cell? ⟨w4.heap.size, 7, none⟩ = some (.int .i64 v7) ∧ wx.cell? ⟨w4.heap.size, 8, none⟩ = some (.int .i64 v8) ∧ wx.cell? ⟨w4.heap.size, 9, none⟩ = some (.bool v9) ∧ wx.cell? ⟨w4.heap.size, 10, none⟩ = some (.bool v10) ∧ wx.cell? ⟨w4.heap.size, 11, none⟩ = some (.slice a4 n4 c4') ∧ wx.cell? ⟨w4.heap.size, 12, none⟩ = some (.int .i64 v12))) := fun wx hb => ⟨(HL6.out.below hb HL6.out.lt).cells, (HF6.out.below hb HF6.out.lt).cells⟩
    have HD0 : Hid (Below w6.heap.size w6 w6.drew) := (Below.refl _ _).drew
    go_wp2_with fail
    go_region_held3 (fun wx => (wx.cell? ⟨w.heap.size, 0, none⟩ = some (.int .i64 v0) ∧ wx.cell? ⟨w.heap.size, 1, none⟩ = some (.int .i64 v1) ∧ wx.cell? ⟨w.heap.size, 2, none⟩ = some (.int .i64 v2) ∧ wx.cell? ⟨w.heap.size, 3, none⟩ = some (.int .i64 v3) ∧ wx.cell? ⟨w.heap.size, 4, none⟩ = some (.int .i64 v4) ∧ wx.cell? ⟨w.heap.size, 5, none⟩ = some (.int .i64 v5) ∧ wx.cell? ⟨w.heap.size, 6, none⟩ = some (.int .i64 v6) ∧ wx.cell? ⟨w.heap.size, 7, none⟩ = some (.int .i64 v7) ∧ wx.cell? ⟨w.heap.size, 8, none⟩ = some (.int .i64 v8) ∧ wx.cell? ⟨w.heap.size, 9, none⟩ = some (.bool v9) ∧ wx.cell? ⟨w.heap.size, 10, none⟩ = some (.bool v10) ∧ wx.cell? ⟨w.heap.size, 11, none⟩ = some (.slice a n cp) ∧ wx.cell? ⟨w.heap.size, 12, none⟩ = some (.int .i64 v12)) ∧ (wx.cell? ⟨w4.heap.size, 0, none⟩ = some (.int .i64 v0) ∧ wx.cell? ⟨w4.heap.size, 1, none⟩ = some (.int .i64 v1) ∧ wx.cell? ⟨w4.heap.size, 2, none⟩ = some (.int .i64 v2) ∧ wx.cell? ⟨w4.heap.size, 3, none⟩ = some (.int .i64 v3) ∧ wx.cell? ⟨w4.heap.size, 4, none⟩ = some (.int .i64 v4) ∧ wx.cell? ⟨w4.heap.size, 5, none⟩ = some (.int .i64 v5) ∧ wx.cell? ⟨w4.heap.size, 6, none⟩ = some (.int .i64 v6) ∧ wx.cell? ⟨w4.heap.size, 7, none⟩ = some (.int .i64 v7) ∧ wx.cell? ⟨w4.heap.size, 8, none⟩ = some (.int .i64 v8) ∧ wx.cell? ⟨w4.heap.size, 9, none⟩ = some (.bool v9) ∧ wx.cell? ⟨w4.heap.size, 10, none⟩ = some (.bool v10) ∧ wx.cell? ⟨w4.heap.size, 11, none⟩ = some (.slice a4 n4 c4') ∧ wx.cell? ⟨w4.heap.size, 12, none⟩ = some (.int .i64 v12))) (first | assumption | exact HK.out _ HD0.out | exact HK.out _ (below_next HD0.out hb7) | exact HK.out _ HD8.out) (first | (go_at_call 35; (with_reducible refine (HT.out _ hn20 (HXe.out.below HD0.out)).mono ?_); rintro e w7 ⟨a7, n7, c7', rfl, hO7, hb7⟩; have HO7 := keptF hO7.at; have HO67 := keptF ((HO6.out.below HD0.out).below hb7); have HB7 := keptF (below_next HB6.out (below_next HD0.out hb7))) | (go_at_call 36; (with_reducible refine (HE.out _ _ _ HO67.out HO7.out).mono ?_); rintro e w8 ⟨rfl, hb8⟩; have HB8 := keptF (below_next HB7.out hb8); have HD8 := keptF (below_next (below_next HD0.out hb7) hb8)))
    all_goals
      go_wp2
      go_ret
      exact ⟨rfl, HB8.out⟩
end Go.Proofs.Ytlkhpfknmdimbaa
