
/- Displays: what a display is in memory; when it is valid, both sides. -/
import Derived.Test.YtfgnckafpnobhaaLb
import Derived.Test.YtfgnckafpnobhaaVal
import Derived.Test.YtfgnckafpnobhaaLc
import Derived.Test.YtfgnckafpnobhaaIb
import Derived.Test.YtfgnckafpnobhaaRange
import Derived.Deep.QuietTactic
import Derived.BigQuiet
namespace Go.Proofs.Ytfgnckafpnobhaa
open Go.RowKit

theorem kepD {p : Prop} (h : p) : Hid p := h
theorem boolOfD (p : Prop) : ∃ b : Bool, b = true ↔ p := by
  by_cases h : p
  · exact ⟨true, by simp [h]⟩
  · exact ⟨false, by simp [h]⟩
theorem bool_no {b : Bool} {p : Prop} (h : b = true ↔ p) (k : ¬ p) : b = false := by
  cases b with
  | true => exact absurd (h.1 rfl) k
  | false => rfl
theorem below_drewD {B : Nat} {a w : World} (h : Below B a w) (n : Nat) : Below B a (w.drewN n) := ⟨h.os, h.tape, h.output, h.size, h.block⟩
abbrev dspV (c p : Value) (s t : Int) : Value := .agg #[c, p, .int .i64 s, .int .i64 t]
abbrev dspO (c p : Value) (s t : Int) : Obj := .cells #[c, p, .int .i64 s, .int .i64 t] 25
def SortedP (P : List Int) (k : Nat) : Prop := ∀ i, i + 1 < k → P.getD i 0 ≤ P.getD (i + 1) 0
/-- places of m cells -/
def PlOk (P : List Int) (m : Nat) : Prop := P.length = m ∧ InTo P 59 P.length ∧ SortedP P P.length
/-- the display is valid -/
def VDp (C P : List Int) (s t : Int) : Prop := ValidL C ∧ PlOk P C.length ∧ (1 ≤ t ∧ t ≤ 40) ∧ (s = 0 ∨ ((1 ≤ s ∧ s ≤ (C.length : Int) - 1) ∧ s.tmod t = 0))
theorem VDp.start {C P : List Int} {s t : Int} (h : VDp C P s t) : 0 ≤ s ∧ (s = 0 ∨ s ≤ (C.length : Int) - 1) ∧ s.tmod t = 0 := by
  obtain ⟨_, _, _, h | ⟨h1, h2⟩⟩ := h
  · subst h; exact ⟨by omega, .inl rfl, by simp⟩
  · exact ⟨by omega, .inr h1.2, h2⟩
/-- the display lies in a block of its own -/
def BoxD (w : World) (g : Nat) (c p : Value) (s t : Int) : Prop := w.heap[g]? = some (.cells #[c, p, .int .i64 s, .int .i64 t] 25 (0, 0))
theorem BoxD.lt {w : World} {g : Nat} {c p : Value} {s t : Int} (h : BoxD w g c p s t) : g < w.heap.size := (Array.getElem?_eq_some_iff.1 h).1
theorem BoxD.below {w w' : World} {g B : Nat} {c p : Value} {s t : Int} (h : BoxD w g c p s t) (hb : Below B w w') (hg : g < B) : BoxD w' g c p s t := (hb.block g hg).trans h
theorem BoxD.cells {w : World} {g : Nat} {c p : Value} {s t : Int} (h : BoxD w g c p s t) :
    w.cell? ⟨g, 0, none⟩ = some c ∧ w.cell? ⟨g, 1, none⟩ = some p ∧ w.cell? ⟨g, 2, none⟩ = some (.int .i64 s) ∧ w.cell? ⟨g, 3, none⟩ = some (.int .i64 t) := by
  refine ⟨?_, ?_, ?_, ?_⟩ <;> (rw [cell_of_row w g _ _ _ _ h]; rfl)
theorem dbox (w : World) (c p : Value) (s t : Int) : BoxD (w.alloc (dspO c p s t)) w.heap.size c p s t ∧ Below w.heap.size w (w.alloc (dspO c p s t)) :=
  ⟨heap_alloc_new w _, (Below.refl _ _).alloc (Nat.le_refl _) _⟩
theorem i_valid_d (w : World) (u : Value) (zs : List Int) (b : Bool) (hx : IntsAt w u zs) (hb : Hid (b = true ↔ ValidL zs)) :
    Calls Try.prog 20 #[u] w fun e w' => e = .returned (.bool b) ∧ w = w' := by
  have h := i_ValidCells w u zs hx
  have hb' : decide (ValidL zs) = b := by
    cases b with
    | true => exact decide_eq_true (hb.out.1 rfl)
    | false => exact decide_eq_false (fun k => by have := hb.out.2 k; cases this)
  rw [hb'] at h
  exact h
theorem s_valid_d (w : World) (u : Value) (zs : List Int) (b : Bool) (hx : IntsAt w u zs) (hb : Hid (b = true ↔ ValidL zs)) :
    Calls Try.prog 67 #[u] w fun e w' => e = .returned (.bool b) ∧ w = w' := by
  have h := s_validCells w u zs hx
  have hb' : decide (ValidL zs) = b := by
    cases b with
    | true => exact decide_eq_true (hb.out.1 rfl)
    | false => exact decide_eq_false (fun k => by have := hb.out.2 k; cases this)
  rw [hb'] at h
  exact h
theorem s_range_d (n lo hi : Int) (w : World) (b : Bool) (hb : Hid (b = true ↔ (lo ≤ n ∧ n ≤ hi))) :
    Calls Try.prog 57 #[.int .i64 n, .int .i64 lo, .int .i64 hi] w fun e w' => e = .returned (.bool b) ∧ w = w' := by
  cases b with
  | true =>
    obtain ⟨h0, h1⟩ := hb.out.1 rfl
    exact inRange_yes n lo hi w h0 h1
  | false =>
    have h : ¬ (lo ≤ n ∧ n ≤ hi) := fun k => by have := hb.out.2 k; cases this
    exact inRange_no n lo hi w (by omega)
theorem i_within_d (n lo hi : Int) (w : World) (b : Bool) (hb : Hid (b = true ↔ (lo ≤ n ∧ n ≤ hi))) :
    Calls Try.prog 49 #[.int .i64 n, .int .i64 lo, .int .i64 hi] w fun e w' => e = .returned (.bool b) ∧ w = w' := by
  cases b with
  | true =>
    obtain ⟨h0, h1⟩ := hb.out.1 rfl
    exact i_within_yes n lo hi w h0 h1
  | false =>
    have h : ¬ (lo ≤ n ∧ n ≤ hi) := fun k => by have := hb.out.2 k; cases this
    exact i_within_no n lo hi w (by omega)
set_option maxHeartbeats 2000000 in
theorem i_arePlaces (w : World) (u : Value) (P : List Int) (m : Nat) (b : Bool) (hx : IntsAt w u P) (hm : m ≤ 9223372036854775807) (hb : Hid (b = true ↔ PlOk P m)) :
    Calls Try.prog 47 #[u, .int .i64 m] w fun e w' => e = .returned (.bool b) ∧ Below w.heap.size w w' := by
  have HX := keptI hx
  obtain ⟨a, n, cp, rfl, hn, x1, x2, x3⟩ := hx.partsI
  have HN := Lib.hid hn
  have HX3 := keptI x3
  clear hx x3
  by_cases hnm : n = m
  · subst hnm
    obtain ⟨b1, hb1⟩ := boolOfD (InTo P 59 P.length)
    have HB1 := Lib.hid hb1
    clear hb1 hn
    go_enter Try.func47, Try.ntmps47
    go_wp2_with fail
    refine (i_areWithin w _ P 59 HX.out).mono ?_
    rintro e w' ⟨b2, rfl, rfl, hb2⟩
    cases b2 with
    | false =>
      have HF : Hid (b = false) := bool_no hb.out (fun h => by have := hb2.2 h.2.1; cases this)
      clear hb2
      go_wp2
      go_ret
      exact ⟨by rw [HF.out]; rfl, Below.refl _ _⟩
    | true =>
      have HI := Lib.hid (hb2.1 rfl)
      clear hb2
      go_wp2
      go_loopw [5] (fun i wr => ∃ k : Nat, 1 ≤ k ∧ k ≤ n + 1 ∧ i = .int .i64 k ∧ Hid (SortedP P k) ∧ Below w.heap.size w wr) (fun i _ => n + 1 - (intOf i).toNat)
      case atStart => exact ⟨1, by omega, by omega, rfl, fun i hi => by omega, Below.refl _ _⟩
      case round =>
        obtain ⟨k, hk1, hk, rfl, hS, hbb⟩ := hrel
        by_cases hlt : k < n
        · obtain ⟨g, off, rfl, hc⟩ : ∃ g off, a = some ⟨g, off, none⟩ ∧ ∀ i, i < n → w.cell? ⟨g, off + i, none⟩ = some (.int .i64 (P.getD i 0)) := by
            rcases HX3.out with h | h
            · omega
            · exact h
          obtain ⟨j, hj⟩ : ∃ j, j + 1 = k := ⟨k - 1, by omega⟩
          obtain ⟨x, hx⟩ : ∃ x, P.getD j 0 = x := ⟨_, rfl⟩
          obtain ⟨y, hy⟩ : ∃ y, P.getD k 0 = y := ⟨_, rfl⟩
          have c0 := hc j (by omega)
          have c1 := hc k hlt
          rw [hx] at c0
          rw [hy] at c1
          have c0 := (hbb.cell (World.block_lt_of_cell? w _ c0)).trans c0
          have c1 := (hbb.cell (World.block_lt_of_cell? w _ c1)).trans c1
          have u1 : IntKind.i64.wrap ((k : Int) - 1) = (j : Int) := by rw [show ((k : Int) - 1) = (j : Int) from by omega]; exact IntWalk.i64_in _ (by omega)
          have q1 : (k : Int) < (n : Int) := by omega
          have q0 : (0 : Int) ≤ (k : Int) := by omega
          have q2 : (j : Int) < (n : Int) := by omega
          have q3 : (0 : Int) ≤ (j : Int) := by omega
          have q4 : j < n := by omega
          have HXX := Lib.hid hx
          have HYY := Lib.hid hy
          have HJ := Lib.hid hj
          clear hc hx hy hj
          by_cases hyx : y < x
          · have d1 : decide (y < x) = true := decide_eq_true hyx
            have HF : Hid (b = false) := bool_no hb.out (fun h => by
              have := h.2.2 j (by have := HN.out; have := HJ.out; omega)
              rw [HJ.out, HXX.out, HYY.out] at this
              omega)
            clear hyx
            go_wp2_with fail
            go_quiet (fail)
            go_wp2
            go_ret
            exact ⟨by rw [HF.out]; rfl, below_drewD hbb _⟩
          · have d1 : decide (y < x) = false := decide_eq_false hyx
            have HS : Hid (SortedP P (k + 1)) := fun i hi => by
              by_cases hij : i + 1 < k
              · exact hS.out i hij
              · have e : i = j := by have := HJ.out; omega
                subst e
                rw [HJ.out, HXX.out, HYY.out]
                omega
            clear hyx hS
            go_wp2_with fail
            go_quiet (fail)
            go_wp2
            go_roundw
            case rel => exact ⟨k + 1, by omega, by omega, by go_num, HS, below_drewD hbb _⟩
            case measure => simp [intOf]; omega
        · have HF : Hid (b = true) := hb.out.2 ⟨HN.out, HI.out, fun i hi => hS.out i (by have := HN.out; omega)⟩
          have q1 : ¬ (k : Int) < (n : Int) := by omega
          clear hS
          go_wp2
          go_ret
          exact ⟨by rw [HF.out]; rfl, hbb⟩
  · have HF : Hid (b = false) := bool_no hb.out (fun h => hnm (by rw [← hn]; exact h.1))
    have d1 : ((n : Int) == (m : Int)) = false := by simp; omega
    have d2 : ((n : Int) != (m : Int)) = true := by simp [bne]; omega
    have d3 : decide (n = m) = false := decide_eq_false hnm
    have d4 : (n == m) = false := by simp [hnm]
    have d5 : (n != m) = true := by simp [bne, hnm]
    clear hnm hn
    go_enter Try.func47, Try.ntmps47
    go_wp2
    go_ret
    exact ⟨by rw [HF.out]; rfl, Below.refl _ _⟩
end Go.Proofs.Ytfgnckafpnobhaa
