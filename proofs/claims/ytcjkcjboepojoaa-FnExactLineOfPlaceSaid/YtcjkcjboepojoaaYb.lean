
/- Which line is at a place: both sides. -/
import Derived.Test.YtcjkcjboepojoaaYa
namespace Go.Proofs.Ytcjkcjboepojoaa
open Go.RowKit

def OkLn (p r h : Int) : Prop := (2 ≤ h ∧ h ≤ 30) ∧ (0 ≤ p ∧ p ≤ 199) ∧ (1 ≤ r ∧ r ≤ h - 1)
def LnOf (p r h x : Int) : Prop := (OkLn p r h ∧ p * (h - 1) + r - 1 ≤ 199 ∧ x = p * (h - 1) + r - 1) ∨ (¬ (OkLn p r h ∧ p * (h - 1) + r - 1 ≤ 199) ∧ x = -1)
theorem lnOf_ex (p r h : Int) : ∃ x, LnOf p r h x := by
  by_cases k : OkLn p r h ∧ p * (h - 1) + r - 1 ≤ 199
  · exact ⟨_, .inl ⟨k.1, k.2, rfl⟩⟩
  · exact ⟨_, .inr ⟨k, rfl⟩⟩
theorem mul_bd {p m : Int} (h1 : 0 ≤ p) (h2 : p ≤ 199) (h3 : 1 ≤ m) (h4 : m ≤ 29) : p ≤ p * m ∧ p * m ≤ 199 * 29 := by
  refine ⟨?_, Int.mul_le_mul h2 h4 (by omega) (by omega)⟩
  have := Int.mul_le_mul_of_nonneg_left h3 h1
  omega
set_option maxHeartbeats 1000000 in
theorem i_LineOfPlace (w : World) (p r h x : Int) (hr : Hid (LnOf p r h x)) :
    Calls Try.prog 10 #[.int .i64 p, .int .i64 r, .int .i64 h] w fun e w' => e = .returned (.int .i64 x) ∧ w = w' := by
  by_cases hok : OkLn p r h
  · obtain ⟨h1, ⟨p0, p1⟩, r0, r1⟩ := hok
    have H1 : Hid (BIsY true ((2 ≤ h ∧ h ≤ 30))) := bisYY (h1)
    have hok : OkLn p r h := ⟨h1, ⟨p0, p1⟩, r0, r1⟩
    obtain ⟨q1, q2⟩ := h1
    have hm := mul_bd p0 p1 (m := h - 1) (by omega) (by omega)
    obtain ⟨q, hq⟩ : ∃ q, p * (h - 1) = q := ⟨_, rfl⟩
    have HQ := Lib.hid hq
    rw [hq] at hm
    have d1 : decide (p < 0) = false := decide_eq_false (by omega)
    have d2 : decide (200 ≤ p) = false := decide_eq_false (by omega)
    have d3 : decide (r < 1) = false := decide_eq_false (by omega)
    have d4 : decide (h ≤ r) = false := decide_eq_false (by omega)
    by_cases h5 : q + r - 1 ≤ 199
    · have HX : Hid (x = q + r - 1) := by
        rcases hr.out with ⟨_, _, h⟩ | ⟨h, _⟩
        · show _ = _; rw [h, hq]
        · exact absurd ⟨hok, by rw [hq]; exact h5⟩ h
      have d5 : decide (200 ≤ q + r - 1) = false := decide_eq_false (by omega)
      clear hr hok
      go_enter Try.func10, Try.ntmps10
      go_wp2_with (go_at_call 16; refine (i_isHeight_b _ h true H1).mono ?_; rintro e w2 ⟨rfl, rfl⟩)
      go_ret
      exact ⟨by rw [HX.out]; rfl, rfl⟩
    · have HX : Hid (x = -1) := by
        rcases hr.out with ⟨_, h, _⟩ | ⟨_, h⟩
        · rw [hq] at h; exact absurd h h5
        · exact h
      have d5 : decide (200 ≤ q + r - 1) = true := decide_eq_true (by omega)
      clear hr hok
      go_enter Try.func10, Try.ntmps10
      go_wp2_with (go_at_call 16; refine (i_isHeight_b _ h true H1).mono ?_; rintro e w2 ⟨rfl, rfl⟩)
      go_ret
      exact ⟨by rw [HX.out]; rfl, rfl⟩
  · have HX : Hid (x = -1) := by
      rcases hr.out with ⟨h, _, _⟩ | ⟨_, h⟩
      · exact absurd h hok
      · exact h
    by_cases h1 : 2 ≤ h ∧ h ≤ 30
    · have H1 : Hid (BIsY true ((2 ≤ h ∧ h ≤ 30))) := bisYY (h1)
      by_cases e1 : p < 0
      · have d1 : decide (p < 0) = true := decide_eq_true e1
        clear hr hok h1
        go_enter Try.func10, Try.ntmps10
        go_wp2_with (go_at_call 16; refine (i_isHeight_b _ h true H1).mono ?_; rintro e w2 ⟨rfl, rfl⟩)
        go_ret
        exact ⟨by rw [HX.out]; rfl, rfl⟩
      · have d1 : decide (p < 0) = false := decide_eq_false e1
        by_cases e2 : 200 ≤ p
        · have d2 : decide (200 ≤ p) = true := decide_eq_true e2
          clear hr hok h1
          go_enter Try.func10, Try.ntmps10
          go_wp2_with (go_at_call 16; refine (i_isHeight_b _ h true H1).mono ?_; rintro e w2 ⟨rfl, rfl⟩)
          go_ret
          exact ⟨by rw [HX.out]; rfl, rfl⟩
        · have d2 : decide (200 ≤ p) = false := decide_eq_false e2
          by_cases e3 : r < 1
          · have d3 : decide (r < 1) = true := decide_eq_true e3
            clear hr hok h1
            go_enter Try.func10, Try.ntmps10
            go_wp2_with (go_at_call 16; refine (i_isHeight_b _ h true H1).mono ?_; rintro e w2 ⟨rfl, rfl⟩)
            go_ret
            exact ⟨by rw [HX.out]; rfl, rfl⟩
          · have d3 : decide (r < 1) = false := decide_eq_false e3
            have d4 : decide (h ≤ r) = true := decide_eq_true (by
              have : ¬ r ≤ h - 1 := fun k => hok ⟨h1, ⟨by omega, by omega⟩, by omega, k⟩
              omega)
            clear hr hok h1
            go_enter Try.func10, Try.ntmps10
            go_wp2_with (go_at_call 16; refine (i_isHeight_b _ h true H1).mono ?_; rintro e w2 ⟨rfl, rfl⟩)
            go_ret
            exact ⟨by rw [HX.out]; rfl, rfl⟩
    · have H1 : Hid (BIsY false ((2 ≤ h ∧ h ≤ 30))) := bisNY fun k => absurd k h1
      clear hr hok h1
      go_enter Try.func10, Try.ntmps10
      go_wp2_with (go_at_call 16; refine (i_isHeight_b _ h false H1).mono ?_; rintro e w2 ⟨rfl, rfl⟩)
      go_ret
      exact ⟨by rw [HX.out]; rfl, rfl⟩
set_option maxHeartbeats 1000000 in
theorem s_LineOfPlace (w : World) (p r h x : Int) (hr : Hid (LnOf p r h x)) :
    Calls Try.prog 12 #[.int .i64 p, .int .i64 r, .int .i64 h] w fun e w' => e = .returned (.int .i64 x) ∧ w = w' := by
  by_cases hok : OkLn p r h
  · obtain ⟨h1, h2, h3⟩ := hok
    have H1 : Hid (BIsY true ((2 ≤ h ∧ h ≤ 30))) := bisYY (h1)
    have H2 : Hid (BIsY true ((1 ≤ r ∧ r ≤ h - 1))) := bisYY (h3)
    have H3 : Hid (BIsY true ((0 ≤ p ∧ p ≤ 199))) := bisYY (h2)
    have hok : OkLn p r h := ⟨h1, h2, h3⟩
    obtain ⟨q1, q2⟩ := h1
    obtain ⟨p0, p1⟩ := h2
    obtain ⟨r0, r1⟩ := h3
    have hm := mul_bd p0 p1 (m := h - 1) (by omega) (by omega)
    obtain ⟨q, hq⟩ : ∃ q, p * (h - 1) = q := ⟨_, rfl⟩
    have HQ := Lib.hid hq
    rw [hq] at hm
    by_cases h5 : q + r - 1 ≤ 199
    · have HX : Hid (x = q + r - 1) := by
        rcases hr.out with ⟨_, _, h⟩ | ⟨h, _⟩
        · show _ = _; rw [h, hq]
        · exact absurd ⟨hok, by rw [hq]; exact h5⟩ h
      have d5 : decide (200 ≤ q + r - 1) = false := decide_eq_false (by omega)
      clear hr hok
      go_enter Try.func12, Try.ntmps12
      go_wp2_with fail
      refine (inRangeY _ h 2 30 true H1).mono ?_
      rintro e w2 ⟨rfl, rfl⟩
      go_wp2_with fail
      refine (inRangeY _ r 1 (h - 1) true H2).mono ?_
      rintro e w2 ⟨rfl, rfl⟩
      go_wp2_with fail
      refine (inRangeY _ p 0 199 true H3).mono ?_
      rintro e w2 ⟨rfl, rfl⟩
      go_wp2
      go_ret
      exact ⟨by rw [HX.out]; rfl, rfl⟩
    · have HX : Hid (x = -1) := by
        rcases hr.out with ⟨_, h, _⟩ | ⟨_, h⟩
        · rw [hq] at h; exact absurd h h5
        · exact h
      have d5 : decide (200 ≤ q + r - 1) = true := decide_eq_true (by omega)
      clear hr hok
      go_enter Try.func12, Try.ntmps12
      go_wp2_with fail
      refine (inRangeY _ h 2 30 true H1).mono ?_
      rintro e w2 ⟨rfl, rfl⟩
      go_wp2_with fail
      refine (inRangeY _ r 1 (h - 1) true H2).mono ?_
      rintro e w2 ⟨rfl, rfl⟩
      go_wp2_with fail
      refine (inRangeY _ p 0 199 true H3).mono ?_
      rintro e w2 ⟨rfl, rfl⟩
      go_wp2
      go_ret
      exact ⟨by rw [HX.out]; rfl, rfl⟩
  · have HX : Hid (x = -1) := by
      rcases hr.out with ⟨h, _, _⟩ | ⟨_, h⟩
      · exact absurd h hok
      · exact h
    by_cases h1 : 2 ≤ h ∧ h ≤ 30
    · have H1 : Hid (BIsY true ((2 ≤ h ∧ h ≤ 30))) := bisYY (h1)
      obtain ⟨q1, q2⟩ := h1
      by_cases h2 : 1 ≤ r ∧ r ≤ h - 1
      · have H2 : Hid (BIsY true ((1 ≤ r ∧ r ≤ h - 1))) := bisYY (h2)
        have H3 : Hid (BIsY false ((0 ≤ p ∧ p ≤ 199))) := bisNY fun k => absurd ⟨⟨q1, q2⟩, k, h2⟩ hok
        clear hr hok h2
        go_enter Try.func12, Try.ntmps12
        go_wp2_with fail
        refine (inRangeY _ h 2 30 true H1).mono ?_
        rintro e w2 ⟨rfl, rfl⟩
        go_wp2_with fail
        refine (inRangeY _ r 1 (h - 1) true H2).mono ?_
        rintro e w2 ⟨rfl, rfl⟩
        go_wp2_with fail
        refine (inRangeY _ p 0 199 false H3).mono ?_
        rintro e w2 ⟨rfl, rfl⟩
        go_wp2
        go_ret
        exact ⟨by rw [HX.out]; rfl, rfl⟩
      · have H2 : Hid (BIsY false ((1 ≤ r ∧ r ≤ h - 1))) := bisNY fun k => absurd k h2
        clear hr hok h2
        go_enter Try.func12, Try.ntmps12
        go_wp2_with fail
        refine (inRangeY _ h 2 30 true H1).mono ?_
        rintro e w2 ⟨rfl, rfl⟩
        go_wp2_with fail
        refine (inRangeY _ r 1 (h - 1) false H2).mono ?_
        rintro e w2 ⟨rfl, rfl⟩
        go_wp2
        go_ret
        exact ⟨by rw [HX.out]; rfl, rfl⟩
    · have H1 : Hid (BIsY false ((2 ≤ h ∧ h ≤ 30))) := bisNY fun k => absurd k h1
      clear hr hok h1
      go_enter Try.func12, Try.ntmps12
      go_wp2_with fail
      refine (inRangeY _ h 2 30 false H1).mono ?_
      rintro e w2 ⟨rfl, rfl⟩
      go_wp2
      go_ret
      exact ⟨by rw [HX.out]; rfl, rfl⟩
end Go.Proofs.Ytcjkcjboepojoaa
