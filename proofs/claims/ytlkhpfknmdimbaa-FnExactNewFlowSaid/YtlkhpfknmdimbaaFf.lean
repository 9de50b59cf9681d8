
/- IsSafe and IsDone of both sides. -/
import Derived.Test.YtlkhpfknmdimbaaFe
namespace Go.Proofs.Ytlkhpfknmdimbaa
open Go.RowKit

def SafeF (l : FL) (P : List PSig) : Prop := ValidF l P ∧ l.high + l.delay ≤ l.size + 1
def DoneF (l : FL) (P : List PSig) : Prop := ValidF l P ∧ l.left = 0 ∧ l.held = 0
set_option maxHeartbeats 400000 in
theorem i_IsSafe (l : FL) (s : Value) (P : List PSig) (b : Bool) (w : World) (hx : SigsAt w s P) (hb : Hid (b = true ↔ SafeF l P)) :
    Calls Try.prog 26 #[flV l s] w fun e w' => e = .returned (.bool b) ∧ Below w.heap.size w w' := by
  have HX := keptF hx
  obtain ⟨a, cp, rfl, _⟩ := hx
  obtain ⟨n, hn⟩ : ∃ n, P.length = n := ⟨_, rfl⟩
  rw [hn] at HX ⊢
  have hB : Below w.heap.size w (w.alloc (.cells (flC l (.slice a n cp)) 25)) := (Below.refl _ _).alloc (Nat.le_refl _) _
  have HB := keptF hB
  have HX1 := keptF (HX.out.below hB)
  obtain ⟨v, hv⟩ : ∃ v : Bool, (v = true ↔ ValidF l P) := by
    by_cases h : ValidF l P
    · exact ⟨true, by simp [h]⟩
    · exact ⟨false, by simp [h]⟩
  have HV := keptF hv
  have HS : Hid (∀ w, SigsAt w (.slice a n cp) P → Calls Try.prog 19 #[flV l (.slice a n cp)] w fun e w' => e = .returned (.bool v) ∧ Below w.heap.size w w') := fun w h => i_ValidFlow l _ P v w h HV
  clear hn hB hv
  cases v with
  | false =>
    have HF : Hid (b = false) := by
      show _ = _
      cases hbb : b
      · rfl
      · exact absurd (HV.out.2 (hb.out.1 hbb).1) (by simp)
    obtain ⟨v0, v1, v2, v3, v4, v5, v6, v7, v8, v9, v10, v12⟩ := l
    simp only [flV, flC] at HB HX1 HS ⊢
    go_enter Try.func26, Try.ntmps26
    go_wp2_with fail
    refine (HS.out _ HX1.out).mono ?_
    rintro e w1 ⟨rfl, hb1⟩
    have HB1 := keptF (below_next HB.out hb1)
    go_wp2
    go_ret
    exact ⟨ret_bool HF.out.symm, HB1.out⟩
  | true =>
    have hval : ValidF l P := HV.out.1 rfl
    have hsu := hval.1
    have hco := hval.2.1
    obtain ⟨v0, v1, v2, v3, v4, v5, v6, v7, v8, v9, v10, v12⟩ := l
    simp only [SetUp, Counted, In] at hsu hco
    have HBI : Hid (b = decide (v1 + v3 ≤ v0 + 1)) := by
      show _ = _
      have h2 : (b = true ↔ v1 + v3 ≤ v0 + 1) := ⟨fun h => (hb.out.1 h).2, fun h => hb.out.2 ⟨hval, h⟩⟩
      cases b
      · exact (decide_eq_false (fun h => by have := h2.2 h; simp at this)).symm
      · exact (decide_eq_true (h2.1 rfl)).symm
    clear hb hval HV
    simp only [flV, flC] at HB HX1 HS ⊢
    have HFL := fun w1 (hb1 : Below (w.alloc (.cells #[.int .i64 v0, .int .i64 v1, .int .i64 v2, .int .i64 v3, .int .i64 v4, .int .i64 v5, .int .i64 v6, .int .i64 v7, .int .i64 v8, .bool v9, .bool v10, .slice a n cp, .int .i64 v12] 25)).heap.size _ w1) => (FlAt.new w ⟨v0, v1, v2, v3, v4, v5, v6, v7, v8, v9, v10, v12⟩ (.slice a n cp)).below hb1 (by show _ < (World.alloc _ _).heap.size; rw [World.size_alloc]; omega)
    have HFL := keptF HFL
    go_enter Try.func26, Try.ntmps26
    go_wp2_with fail
    refine (HS.out _ HX1.out).mono ?_
    rintro e w1 ⟨rfl, hb1⟩
    have HF1 := keptF (HFL.out _ hb1)
    have HB1 := keptF (below_next HB.out hb1)
    obtain ⟨c0, c1, c2, c3, c4, c5, c6, c7, c8, c9, c10, c11, c12⟩ := HF1.out.cells
    simp only at c0 c1 c2 c3 c4 c5 c6 c7 c8 c9 c10 c11 c12
    clear hb1
    have u1 : IntKind.i64.wrap (v1 + v3) = v1 + v3 := IntWalk.i64_in _ (by omega)
    have u2 : IntKind.i64.wrap (v0 + 1) = v0 + 1 := IntWalk.i64_in _ (by omega)
    by_cases hc : v1 + v3 ≤ v0 + 1
    · have d1 : decide (v1 + v3 ≤ v0 + 1) = true := decide_eq_true hc
      have HT : Hid (b = true) := by show _ = _; rw [HBI.out]; exact d1
      clear hc hsu hco
      go_wp2
      go_ret
      exact ⟨ret_bool HT.out.symm, HB1.out⟩
    · have d1 : decide (v1 + v3 ≤ v0 + 1) = false := decide_eq_false hc
      have HT : Hid (b = false) := by show _ = _; rw [HBI.out]; exact d1
      clear hc hsu hco
      go_wp2
      go_ret
      exact ⟨ret_bool HT.out.symm, HB1.out⟩
set_option maxHeartbeats 400000 in
theorem s_IsSafe (l : FL) (s : Value) (P : List PSig) (b : Bool) (w : World) (hx : SigsAt w s P) (hb : Hid (b = true ↔ SafeF l P)) :
    Calls Try.prog 31 #[flV l s] w fun e w' => e = .returned (.bool b) ∧ Below w.heap.size w w' := by
  have HX := keptF hx
  obtain ⟨a, cp, rfl, _⟩ := hx
  obtain ⟨n, hn⟩ : ∃ n, P.length = n := ⟨_, rfl⟩
  rw [hn] at HX ⊢
  have hB : Below w.heap.size w (w.alloc (.cells (flC l (.slice a n cp)) 25)) := (Below.refl _ _).alloc (Nat.le_refl _) _
  have HB := keptF hB
  have HX1 := keptF (HX.out.below hB)
  obtain ⟨v, hv⟩ : ∃ v : Bool, (v = true ↔ ValidF l P) := by
    by_cases h : ValidF l P
    · exact ⟨true, by simp [h]⟩
    · exact ⟨false, by simp [h]⟩
  have HV := keptF hv
  have HS : Hid (∀ w, SigsAt w (.slice a n cp) P → Calls Try.prog 44 #[flV l (.slice a n cp)] w fun e w' => e = .returned (.bool v) ∧ Below w.heap.size w w') := fun w h => s_validFlow l _ P v w h HV
  clear hn hB hv
  cases v with
  | false =>
    have HF : Hid (b = false) := by
      show _ = _
      cases hbb : b
      · rfl
      · exact absurd (HV.out.2 (hb.out.1 hbb).1) (by simp)
    obtain ⟨v0, v1, v2, v3, v4, v5, v6, v7, v8, v9, v10, v12⟩ := l
    simp only [flV, flC] at HB HX1 HS ⊢
    go_enter Try.func31, Try.ntmps31
    go_wp2_with fail
    refine (HS.out _ HX1.out).mono ?_
    rintro e w1 ⟨rfl, hb1⟩
    have HB1 := keptF (below_next HB.out hb1)
    go_wp2
    go_ret
    exact ⟨ret_bool HF.out.symm, HB1.out⟩
  | true =>
    have hval : ValidF l P := HV.out.1 rfl
    have hsu := hval.1
    have hco := hval.2.1
    obtain ⟨v0, v1, v2, v3, v4, v5, v6, v7, v8, v9, v10, v12⟩ := l
    simp only [SetUp, Counted, In] at hsu hco
    have HBI : Hid (b = decide (v1 + v3 ≤ v0 + 1)) := by
      show _ = _
      have h2 : (b = true ↔ v1 + v3 ≤ v0 + 1) := ⟨fun h => (hb.out.1 h).2, fun h => hb.out.2 ⟨hval, h⟩⟩
      cases b
      · exact (decide_eq_false (fun h => by have := h2.2 h; simp at this)).symm
      · exact (decide_eq_true (h2.1 rfl)).symm
    clear hb hval HV
    simp only [flV, flC] at HB HX1 HS ⊢
    have HFL := fun w1 (hb1 : Below (w.alloc (.cells #[.int .i64 v0, .int .i64 v1, .int .i64 v2, .int .i64 v3, .int .i64 v4, .int .i64 v5, .int .i64 v6, .int .i64 v7, .int .i64 v8, .bool v9, .bool v10, .slice a n cp, .int .i64 v12] 25)).heap.size _ w1) => (FlAt.new w ⟨v0, v1, v2, v3, v4, v5, v6, v7, v8, v9, v10, v12⟩ (.slice a n cp)).below hb1 (by show _ < (World.alloc _ _).heap.size; rw [World.size_alloc]; omega)
    have HFL := keptF HFL
    go_enter Try.func31, Try.ntmps31
    go_wp2_with fail
    refine (HS.out _ HX1.out).mono ?_
    rintro e w1 ⟨rfl, hb1⟩
    have HF1 := keptF (HFL.out _ hb1)
    have HB1 := keptF (below_next HB.out hb1)
    obtain ⟨c0, c1, c2, c3, c4, c5, c6, c7, c8, c9, c10, c11, c12⟩ := HF1.out.cells
    simp only at c0 c1 c2 c3 c4 c5 c6 c7 c8 c9 c10 c11 c12
    clear hb1
    have u1 : IntKind.i64.wrap (v1 + v3) = v1 + v3 := IntWalk.i64_in _ (by omega)
    have u2 : IntKind.i64.wrap (v0 + 1) = v0 + 1 := IntWalk.i64_in _ (by omega)
    by_cases hc : v1 + v3 ≤ v0 + 1
    · have d1 : decide (v1 + v3 ≤ v0 + 1) = true := decide_eq_true hc
      have HT : Hid (b = true) := by show _ = _; rw [HBI.out]; exact d1
      clear hc hsu hco
      go_wp2
      go_ret
      exact ⟨ret_bool HT.out.symm, HB1.out⟩
    · have d1 : decide (v1 + v3 ≤ v0 + 1) = false := decide_eq_false hc
      have HT : Hid (b = false) := by show _ = _; rw [HBI.out]; exact d1
      clear hc hsu hco
      go_wp2
      go_ret
      exact ⟨ret_bool HT.out.symm, HB1.out⟩
set_option maxHeartbeats 400000 in
theorem i_IsDone (l : FL) (s : Value) (P : List PSig) (b : Bool) (w : World) (hx : SigsAt w s P) (hb : Hid (b = true ↔ DoneF l P)) :
    Calls Try.prog 27 #[flV l s] w fun e w' => e = .returned (.bool b) ∧ Below w.heap.size w w' := by
  have HX := keptF hx
  obtain ⟨a, cp, rfl, _⟩ := hx
  obtain ⟨n, hn⟩ : ∃ n, P.length = n := ⟨_, rfl⟩
  rw [hn] at HX ⊢
  have hB : Below w.heap.size w (w.alloc (.cells (flC l (.slice a n cp)) 25)) := (Below.refl _ _).alloc (Nat.le_refl _) _
  have HB := keptF hB
  have HX1 := keptF (HX.out.below hB)
  obtain ⟨v, hv⟩ : ∃ v : Bool, (v = true ↔ ValidF l P) := by
    by_cases h : ValidF l P
    · exact ⟨true, by simp [h]⟩
    · exact ⟨false, by simp [h]⟩
  have HV := keptF hv
  have HS : Hid (∀ w, SigsAt w (.slice a n cp) P → Calls Try.prog 19 #[flV l (.slice a n cp)] w fun e w' => e = .returned (.bool v) ∧ Below w.heap.size w w') := fun w h => i_ValidFlow l _ P v w h HV
  clear hn hB hv
  cases v with
  | false =>
    have HF : Hid (b = false) := by
      show _ = _
      cases hbb : b
      · rfl
      · exact absurd (HV.out.2 (hb.out.1 hbb).1) (by simp)
    obtain ⟨v0, v1, v2, v3, v4, v5, v6, v7, v8, v9, v10, v12⟩ := l
    simp only [flV, flC] at HB HX1 HS ⊢
    go_enter Try.func27, Try.ntmps27
    go_wp2_with fail
    refine (HS.out _ HX1.out).mono ?_
    rintro e w1 ⟨rfl, hb1⟩
    have HB1 := keptF (below_next HB.out hb1)
    go_wp2
    go_ret
    exact ⟨ret_bool HF.out.symm, HB1.out⟩
  | true =>
    have hval : ValidF l P := HV.out.1 rfl
    have hsu := hval.1
    have hco := hval.2.1
    obtain ⟨v0, v1, v2, v3, v4, v5, v6, v7, v8, v9, v10, v12⟩ := l
    simp only [SetUp, Counted, In] at hsu hco
    have HBI : Hid (b = decide (v5 = 0 ∧ v6 = 0)) := by
      show _ = _
      have h2 : (b = true ↔ v5 = 0 ∧ v6 = 0) := ⟨fun h => (hb.out.1 h).2, fun h => hb.out.2 ⟨hval, h⟩⟩
      cases b
      · exact (decide_eq_false (fun h => by have := h2.2 h; simp at this)).symm
      · exact (decide_eq_true (h2.1 rfl)).symm
    clear hb hval HV
    simp only [flV, flC] at HB HX1 HS ⊢
    have HFL := fun w1 (hb1 : Below (w.alloc (.cells #[.int .i64 v0, .int .i64 v1, .int .i64 v2, .int .i64 v3, .int .i64 v4, .int .i64 v5, .int .i64 v6, .int .i64 v7, .int .i64 v8, .bool v9, .bool v10, .slice a n cp, .int .i64 v12] 25)).heap.size _ w1) => (FlAt.new w ⟨v0, v1, v2, v3, v4, v5, v6, v7, v8, v9, v10, v12⟩ (.slice a n cp)).below hb1 (by show _ < (World.alloc _ _).heap.size; rw [World.size_alloc]; omega)
    have HFL := keptF HFL
    go_enter Try.func27, Try.ntmps27
    go_wp2_with fail
    refine (HS.out _ HX1.out).mono ?_
    rintro e w1 ⟨rfl, hb1⟩
    have HF1 := keptF (HFL.out _ hb1)
    have HB1 := keptF (below_next HB.out hb1)
    obtain ⟨c0, c1, c2, c3, c4, c5, c6, c7, c8, c9, c10, c11, c12⟩ := HF1.out.cells
    simp only at c0 c1 c2 c3 c4 c5 c6 c7 c8 c9 c10 c11 c12
    clear hb1
    by_cases h1 : v5 = 0
    · have e1 : (v5 == 0) = true := by simp [h1]
      by_cases h2 : v6 = 0
      · have e2 : (v6 == 0) = true := by simp [h2]
        have HT : Hid (b = true) := by show _ = _; rw [HBI.out]; exact decide_eq_true ⟨h1, h2⟩
        clear h1 h2 hsu hco
        go_wp2
        go_ret
        exact ⟨ret_bool HT.out.symm, HB1.out⟩
      · have e2 : (v6 == 0) = false := by simp [h2]
        have HT : Hid (b = false) := by show _ = _; rw [HBI.out]; exact decide_eq_false fun h => h2 h.2
        clear h1 h2 hsu hco
        go_wp2
        go_ret
        exact ⟨ret_bool HT.out.symm, HB1.out⟩
    · have e1 : (v5 == 0) = false := by simp [h1]
      have HT : Hid (b = false) := by show _ = _; rw [HBI.out]; exact decide_eq_false fun h => h1 h.1
      clear h1 hsu hco
      go_wp2
      go_ret
      exact ⟨ret_bool HT.out.symm, HB1.out⟩
set_option maxHeartbeats 400000 in
theorem s_IsDone (l : FL) (s : Value) (P : List PSig) (b : Bool) (w : World) (hx : SigsAt w s P) (hb : Hid (b = true ↔ DoneF l P)) :
    Calls Try.prog 33 #[flV l s] w fun e w' => e = .returned (.bool b) ∧ Below w.heap.size w w' := by
  have HX := keptF hx
  obtain ⟨a, cp, rfl, _⟩ := hx
  obtain ⟨n, hn⟩ : ∃ n, P.length = n := ⟨_, rfl⟩
  rw [hn] at HX ⊢
  have hB : Below w.heap.size w (w.alloc (.cells (flC l (.slice a n cp)) 25)) := (Below.refl _ _).alloc (Nat.le_refl _) _
  have HB := keptF hB
  have HX1 := keptF (HX.out.below hB)
  obtain ⟨v, hv⟩ : ∃ v : Bool, (v = true ↔ ValidF l P) := by
    by_cases h : ValidF l P
    · exact ⟨true, by simp [h]⟩
    · exact ⟨false, by simp [h]⟩
  have HV := keptF hv
  have HS : Hid (∀ w, SigsAt w (.slice a n cp) P → Calls Try.prog 44 #[flV l (.slice a n cp)] w fun e w' => e = .returned (.bool v) ∧ Below w.heap.size w w') := fun w h => s_validFlow l _ P v w h HV
  clear hn hB hv
  cases v with
  | false =>
    have HF : Hid (b = false) := by
      show _ = _
      cases hbb : b
      · rfl
      · exact absurd (HV.out.2 (hb.out.1 hbb).1) (by simp)
    obtain ⟨v0, v1, v2, v3, v4, v5, v6, v7, v8, v9, v10, v12⟩ := l
    simp only [flV, flC] at HB HX1 HS ⊢
    go_enter Try.func33, Try.ntmps33
    go_wp2_with fail
    refine (HS.out _ HX1.out).mono ?_
    rintro e w1 ⟨rfl, hb1⟩
    have HB1 := keptF (below_next HB.out hb1)
    go_wp2
    go_ret
    exact ⟨ret_bool HF.out.symm, HB1.out⟩
  | true =>
    have hval : ValidF l P := HV.out.1 rfl
    have hsu := hval.1
    have hco := hval.2.1
    obtain ⟨v0, v1, v2, v3, v4, v5, v6, v7, v8, v9, v10, v12⟩ := l
    simp only [SetUp, Counted, In] at hsu hco
    have HBI : Hid (b = decide (v5 = 0 ∧ v6 = 0)) := by
      show _ = _
      have h2 : (b = true ↔ v5 = 0 ∧ v6 = 0) := ⟨fun h => (hb.out.1 h).2, fun h => hb.out.2 ⟨hval, h⟩⟩
      cases b
      · exact (decide_eq_false (fun h => by have := h2.2 h; simp at this)).symm
      · exact (decide_eq_true (h2.1 rfl)).symm
    clear hb hval HV
    simp only [flV, flC] at HB HX1 HS ⊢
    have HFL := fun w1 (hb1 : Below (w.alloc (.cells #[.int .i64 v0, .int .i64 v1, .int .i64 v2, .int .i64 v3, .int .i64 v4, .int .i64 v5, .int .i64 v6, .int .i64 v7, .int .i64 v8, .bool v9, .bool v10, .slice a n cp, .int .i64 v12] 25)).heap.size _ w1) => (FlAt.new w ⟨v0, v1, v2, v3, v4, v5, v6, v7, v8, v9, v10, v12⟩ (.slice a n cp)).below hb1 (by show _ < (World.alloc _ _).heap.size; rw [World.size_alloc]; omega)
    have HFL := keptF HFL
    go_enter Try.func33, Try.ntmps33
    go_wp2_with fail
    refine (HS.out _ HX1.out).mono ?_
    rintro e w1 ⟨rfl, hb1⟩
    have HF1 := keptF (HFL.out _ hb1)
    have HB1 := keptF (below_next HB.out hb1)
    obtain ⟨c0, c1, c2, c3, c4, c5, c6, c7, c8, c9, c10, c11, c12⟩ := HF1.out.cells
    simp only at c0 c1 c2 c3 c4 c5 c6 c7 c8 c9 c10 c11 c12
    clear hb1
    by_cases h1 : v5 = 0
    · have e1 : (v5 == 0) = true := by simp [h1]
      by_cases h2 : v6 = 0
      · have e2 : (v6 == 0) = true := by simp [h2]
        have HT : Hid (b = true) := by show _ = _; rw [HBI.out]; exact decide_eq_true ⟨h1, h2⟩
        clear h1 h2 hsu hco
        go_wp2
        go_ret
        exact ⟨ret_bool HT.out.symm, HB1.out⟩
      · have e2 : (v6 == 0) = false := by simp [h2]
        have HT : Hid (b = false) := by show _ = _; rw [HBI.out]; exact decide_eq_false fun h => h2 h.2
        clear h1 h2 hsu hco
        go_wp2
        go_ret
        exact ⟨ret_bool HT.out.symm, HB1.out⟩
    · have e1 : (v5 == 0) = false := by simp [h1]
      have HT : Hid (b = false) := by show _ = _; rw [HBI.out]; exact decide_eq_false fun h => h1 h.1
      clear h1 hsu hco
      go_wp2
      go_ret
      exact ⟨ret_bool HT.out.symm, HB1.out⟩
end Go.Proofs.Ytlkhpfknmdimbaa
