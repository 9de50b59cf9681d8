
/- Where lines are on pages: both sides. -/
import Derived.Test.YtcjkcjboepojoaaRdB
import Derived.Test.YtcjkcjboepojoaaDrC
import Derived.Test.YtcjkcjboepojoaaRange
import Derived.Test.YtcjkcjboepojoaaLst
import Derived.Deep.QuietTactic
import Derived.BigQuiet
namespace Go.Proofs.Ytcjkcjboepojoaa
open Go.RowKit

theorem keptY {p : Prop} (h : p) : Hid p := h
theorem results_twoY {fn : Func} {t u : Tmp} (h : fn.results = #[.tmp t, .tmp u]) (tmps : Array Value) (P : Program) (w : World) :
    (results fn tmps).run P w = .ok (.tuple #[tmps.getD t undef, tmps.getD u undef]) w := by
  simp [results, h]
/-- the truth value b says whether P holds -/
def BIsY (b : Bool) (P : Prop) : Prop := b = true ↔ P
theorem bisYY {P : Prop} (h : P) : BIsY true P := ⟨fun _ => h, fun _ => rfl⟩
theorem bisNY {P : Prop} (h : ¬ P) : BIsY false P := ⟨fun k => by simp at k, fun k => absurd k h⟩
theorem inBY {b : Bool} {P : Prop} (h : b = true ↔ P) (n : ¬ P) : b = false := by
  cases b with
  | false => rfl
  | true => exact absurd (h.1 rfl) n
theorem boolOfY (P : Prop) : ∃ b : Bool, b = true ↔ P := by
  by_cases h : P
  · exact ⟨true, by simp [h]⟩
  · exact ⟨false, by simp [h]⟩
theorem inRangeY (w : World) (n lo hi : Int) (b : Bool) (hb : Hid (BIsY b (lo ≤ n ∧ n ≤ hi))) :
    Calls Try.prog 17 #[.int .i64 n, .int .i64 lo, .int .i64 hi] w fun e w' => e = .returned (.bool b) ∧ w = w' := by
  cases b with
  | true => have h := hb.out.1 rfl; exact inRange_yes n lo hi w h.1 h.2
  | false => exact inRange_no n lo hi w (by
      have h : ¬ (lo ≤ n ∧ n ≤ hi) := fun k => by have := hb.out.2 k; simp at this
      omega)
theorem i_isHeight_b (w : World) (h : Int) (b : Bool) (hb : Hid (BIsY b (2 ≤ h ∧ h ≤ 30))) :
    Calls Try.prog 16 #[.int .i64 h] w fun e w' => e = .returned (.bool b) ∧ w = w' := by
  by_cases h1 : 2 ≤ h
  · by_cases h2 : h ≤ 30
    · have d1 : decide (2 ≤ h) = true := decide_eq_true h1
      have d2 : decide (h ≤ 30) = true := decide_eq_true h2
      have HF : Hid (b = true) := hb.out.2 ⟨h1, h2⟩
      clear h1 h2
      go_enter Try.func16, Try.ntmps16
      go_wp2
      go_ret
      exact ⟨by rw [HF.out]; rfl, rfl⟩
    · have d1 : decide (2 ≤ h) = true := decide_eq_true h1
      have d2 : decide (h ≤ 30) = false := decide_eq_false h2
      have HF : Hid (b = false) := inBY hb.out fun h => h2 h.2
      clear h1 h2
      go_enter Try.func16, Try.ntmps16
      go_wp2
      go_ret
      exact ⟨by rw [HF.out]; rfl, rfl⟩
  · have d1 : decide (2 ≤ h) = false := decide_eq_false h1
    have HF : Hid (b = false) := inBY hb.out fun h => h1 h.1
    clear h1
    go_enter Try.func16, Try.ntmps16
    go_wp2
    go_ret
    exact ⟨by rw [HF.out]; rfl, rfl⟩
def OkPl (n h : Int) : Prop := (2 ≤ h ∧ h ≤ 30) ∧ 0 ≤ n ∧ n ≤ 199
/-- page a, row b -/
def PlOf (n h a b : Int) : Prop := (OkPl n h ∧ a = n / (h - 1) ∧ b = 1 + n % (h - 1)) ∨ (¬ OkPl n h ∧ a = -1 ∧ b = -1)
theorem plOf_ex (n h : Int) : ∃ a b, PlOf n h a b := by
  by_cases k : OkPl n h
  · exact ⟨_, _, .inl ⟨k, rfl, rfl⟩⟩
  · exact ⟨_, _, .inr ⟨k, rfl, rfl⟩⟩
set_option maxHeartbeats 1000000 in
theorem i_PlaceOfLine (w : World) (n h a b : Int) (hr : Hid (PlOf n h a b)) :
    Calls Try.prog 8 #[.int .i64 n, .int .i64 h] w fun e w' => e = .returned (.tuple #[.int .i64 a, .int .i64 b]) ∧ Below w.heap.size w w' := by
  rcases hr.out with ⟨⟨h1, h2, h3⟩, ha, hb⟩ | ⟨hno, rfl, rfl⟩
  · have H1 : Hid (BIsY true ((2 ≤ h ∧ h ≤ 30))) := bisYY (h1)
    obtain ⟨q1, q2⟩ := h1
    have t1 : n.tdiv (h - 1) = a := by rw [Int.tdiv_eq_ediv_of_nonneg h2, ha]
    have t2 : n.tmod (h - 1) = b - 1 := by rw [Int.tmod_eq_emod_of_nonneg h2, hb]; omega
    have a0 : 0 ≤ a := by rw [ha]; exact Int.ediv_nonneg h2 (by omega)
    have a1 : a ≤ 199 := by rw [ha]; exact Int.le_trans (Int.ediv_le_self _ h2) h3
    have b0 : 1 ≤ b := by have := Int.emod_nonneg n (b := h - 1) (by omega); omega
    have b1 : b ≤ 30 := by have := Int.emod_lt_of_pos n (b := h - 1) (by omega); omega
    have u1 : IntKind.i64.wrap (1 + (b - 1)) = b := by rw [show 1 + (b - 1) = b from by omega]; exact IntWalk.i64_in _ (by omega)
    have d1 : decide (n < 0) = false := decide_eq_false (by omega)
    have d2 : decide (200 ≤ n) = false := decide_eq_false (by omega)
    have d3 : ((h - 1) == 0) = false := by simp; omega
    clear ha hb hr
    go_enter Try.func8, Try.ntmps8
    go_wp2_with (go_at_call 16; refine (i_isHeight_b _ h true H1).mono ?_; rintro e w2 ⟨rfl, rfl⟩)
    go_quiet (fail)
    go_wp2
    refine bodyPost_ret (results_twoY rfl _ _ _) rfl ?_
    exact ⟨rfl, below_drewN (Below.refl _ _) _⟩
  · by_cases h1 : 2 ≤ h ∧ h ≤ 30
    · have H1 : Hid (BIsY true ((2 ≤ h ∧ h ≤ 30))) := bisYY (h1)
      by_cases h2 : n < 0
      · have d1 : decide (n < 0) = true := decide_eq_true h2
        clear hno hr h1
        go_enter Try.func8, Try.ntmps8
        go_wp2_with (go_at_call 16; refine (i_isHeight_b _ h true H1).mono ?_; rintro e w2 ⟨rfl, rfl⟩)
        refine bodyPost_ret (results_twoY rfl _ _ _) rfl ?_
        exact ⟨rfl, Below.refl _ _⟩
      · have d1 : decide (n < 0) = false := decide_eq_false h2
        have d2 : decide (200 ≤ n) = true := decide_eq_true (by
          have : ¬ n ≤ 199 := fun k => hno ⟨h1, by omega, k⟩
          omega)
        clear hno hr h1
        go_enter Try.func8, Try.ntmps8
        go_wp2_with (go_at_call 16; refine (i_isHeight_b _ h true H1).mono ?_; rintro e w2 ⟨rfl, rfl⟩)
        refine bodyPost_ret (results_twoY rfl _ _ _) rfl ?_
        exact ⟨rfl, Below.refl _ _⟩
    · have H1 : Hid (BIsY false ((2 ≤ h ∧ h ≤ 30))) := bisNY fun k => absurd k h1
      clear hno hr h1
      go_enter Try.func8, Try.ntmps8
      go_wp2_with (go_at_call 16; refine (i_isHeight_b _ h false H1).mono ?_; rintro e w2 ⟨rfl, rfl⟩)
      refine bodyPost_ret (results_twoY rfl _ _ _) rfl ?_
      exact ⟨rfl, Below.refl _ _⟩
set_option maxHeartbeats 1000000 in
theorem s_PlaceOfLine (w : World) (n h a b : Int) (hr : Hid (PlOf n h a b)) :
    Calls Try.prog 9 #[.int .i64 n, .int .i64 h] w fun e w' => e = .returned (.tuple #[.int .i64 a, .int .i64 b]) ∧ Below w.heap.size w w' := by
  rcases hr.out with ⟨⟨h1, h2, h3⟩, ha, hb⟩ | ⟨hno, rfl, rfl⟩
  · have H1 : Hid (BIsY true ((2 ≤ h ∧ h ≤ 30))) := bisYY (h1)
    have H2 : Hid (BIsY true ((0 ≤ n ∧ n ≤ 199))) := bisYY (⟨h2, h3⟩)
    obtain ⟨q1, q2⟩ := h1
    have t1 : n.tdiv (h - 1) = a := by rw [Int.tdiv_eq_ediv_of_nonneg h2, ha]
    have t2 : n.tmod (h - 1) = b - 1 := by rw [Int.tmod_eq_emod_of_nonneg h2, hb]; omega
    have a0 : 0 ≤ a := by rw [ha]; exact Int.ediv_nonneg h2 (by omega)
    have a1 : a ≤ 199 := by rw [ha]; exact Int.le_trans (Int.ediv_le_self _ h2) h3
    have b0 : 1 ≤ b := by have := Int.emod_nonneg n (b := h - 1) (by omega); omega
    have b1 : b ≤ 30 := by have := Int.emod_lt_of_pos n (b := h - 1) (by omega); omega
    have u1 : IntKind.i64.wrap (b - 1 + 1) = b := by rw [show b - 1 + 1 = b from by omega]; exact IntWalk.i64_in _ (by omega)
    have d3 : ((h - 1) == 0) = false := by simp; omega
    clear ha hb hr
    go_enter Try.func9, Try.ntmps9
    go_wp2_with fail
    refine (inRangeY _ n 0 199 true H2).mono ?_
    rintro e w2 ⟨rfl, rfl⟩
    go_wp2_with fail
    refine (inRangeY _ h 2 30 true H1).mono ?_
    rintro e w2 ⟨rfl, rfl⟩
    go_wp2_with fail
    go_quiet (fail)
    go_wp2
    refine bodyPost_ret (results_twoY rfl _ _ _) rfl ?_
    exact ⟨rfl, below_drewN (Below.refl _ _) _⟩
  · by_cases h2 : 0 ≤ n ∧ n ≤ 199
    · have H2 : Hid (BIsY true ((0 ≤ n ∧ n ≤ 199))) := bisYY (h2)
      have H1 : Hid (BIsY false ((2 ≤ h ∧ h ≤ 30))) := bisNY fun k => absurd ⟨k, h2⟩ hno
      clear hno hr h2
      go_enter Try.func9, Try.ntmps9
      go_wp2_with fail
      refine (inRangeY _ n 0 199 true H2).mono ?_
      rintro e w2 ⟨rfl, rfl⟩
      go_wp2_with fail
      refine (inRangeY _ h 2 30 false H1).mono ?_
      rintro e w2 ⟨rfl, rfl⟩
      go_wp2
      refine bodyPost_ret (results_twoY rfl _ _ _) rfl ?_
      exact ⟨rfl, Below.refl _ _⟩
    · have H2 : Hid (BIsY false ((0 ≤ n ∧ n ≤ 199))) := bisNY fun k => absurd k h2
      clear hno hr h2
      go_enter Try.func9, Try.ntmps9
      go_wp2_with fail
      refine (inRangeY _ n 0 199 false H2).mono ?_
      rintro e w2 ⟨rfl, rfl⟩
      go_wp2
      refine bodyPost_ret (results_twoY rfl _ _ _) rfl ?_
      exact ⟨rfl, Below.refl _ _⟩
end Go.Proofs.Ytcjkcjboepojoaa
