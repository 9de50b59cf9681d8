
/- Whether a note wants the mark of its octave: both sides; MusicCells of the program. -/
import Derived.Test.YtfofjjfnejigaaaNua
namespace Go.Proofs.Ytfofjjfnejigaaa
open Go.RowKit

theorem ret_bN {a b : Bool} (h : a = b) : Ending.returned (.bool a) = .returned (.bool b) := by rw [h]
theorem needM_eq {b : Bool} {l p : Int} (hb : BIs b (NeedM l p)) (c : Bool) (hc : c = true ↔ NeedM l p) : c = b := by
  cases b with
  | true => exact hc.2 (hb.1 rfl)
  | false => cases c with
    | false => rfl
    | true => have := hb.2 (hc.1 rfl); simp at this
set_option maxHeartbeats 1000000 in
theorem i_needsMark (w : World) (l p : Int) (b : Bool) (h0 : -1 ≤ l) (h1 : l ≤ 48) (h2 : 0 ≤ p) (h3 : p ≤ 48) (hb : Hid (BIs b (NeedM l p))) :
    Calls Try.prog 32 #[.int .i64 l, .int .i64 p] w fun e w' => e = .returned (.bool b) ∧ w = w' := by
  by_cases hl : l = -1
  · subst hl
    have HB : Hid (true = b) := needM_eq hb.out true ⟨fun _ => .inl (by omega), fun _ => rfl⟩
    clear hb
    go_enter Try.func32, Try.ntmps32
    go_wp2
    go_ret
    exact ⟨ret_bN HB.out, rfl⟩
  · have d0 : (l == -1) = false := by simpa using hl
    have d00 : decide (l < 0) = false := decide_eq_false (by omega)
    obtain ⟨lq, hlq⟩ : ∃ lq, l / 7 = lq := ⟨_, rfl⟩
    obtain ⟨pq, hpq⟩ : ∃ pq, p / 7 = pq := ⟨_, rfl⟩
    have q1 : 0 ≤ lq ∧ lq ≤ 6 ∧ 0 ≤ pq ∧ pq ≤ 6 := by omega
    have x1 : IntKind.i64.wrap lq = lq := IntWalk.i64_in _ (by omega)
    have x2 : IntKind.i64.wrap pq = pq := IntWalk.i64_in _ (by omega)
    have x3 : wrap64 lq = lq := by unfold wrap64; omega
    have x4 : wrap64 pq = pq := by unfold wrap64; omega
    have t1 : l.tdiv 7 = lq := by rw [Int.tdiv_eq_ediv_of_nonneg (by omega), hlq]
    have t2 : p.tdiv 7 = pq := by rw [Int.tdiv_eq_ediv_of_nonneg (by omega), hpq]
    by_cases hs : p < l
    · have e1 : decide (p - l < 0) = true := decide_eq_true (by omega)
      have u1 : IntKind.i64.wrap (-(p - l)) = l - p := by rw [IntWalk.i64_in _ (by omega)]; omega
      have e2 : decide (p - l < l - p) = true := decide_eq_true (by omega)
      by_cases c4 : 4 < l - p
      · have d4 : decide (4 < l - p) = true := decide_eq_true c4
        have HB : Hid (true = b) := needM_eq hb.out true ⟨fun _ => by unfold NeedM; omega, fun _ => rfl⟩
        clear hb hlq hpq
        go_enter Try.func32, Try.ntmps32
        go_wp2
        go_ret
        exact ⟨ret_bN HB.out, rfl⟩
      · have d4 : decide (4 < l - p) = false := decide_eq_false c4
        by_cases c3 : 3 ≤ l - p
        · have d3 : decide (3 ≤ l - p) = true := decide_eq_true c3
          obtain ⟨c, hc⟩ : ∃ c : Bool, (lq != pq) = c := ⟨_, rfl⟩
          have HB : Hid (c = b) := needM_eq hb.out c (by rw [← hc]; unfold NeedM; rw [hlq, hpq]; simp only [bne_iff_ne, ne_eq]; omega)
          clear hb hlq hpq c4 c3
          go_enter Try.func32, Try.ntmps32
          go_wp2
          go_ret
          exact ⟨ret_bN HB.out, rfl⟩
        · have d3 : decide (3 ≤ l - p) = false := decide_eq_false c3
          have HB : Hid (false = b) := needM_eq hb.out false ⟨fun h => by simp at h, fun h => by unfold NeedM at h; omega⟩
          clear hb hlq hpq
          go_enter Try.func32, Try.ntmps32
          go_wp2
          go_ret
          exact ⟨ret_bN HB.out, rfl⟩
    · have e1 : decide (p - l < 0) = false := decide_eq_false (by omega)
      have e2 : decide (p - l < l - p) = false := decide_eq_false (by omega)
      by_cases c4 : 4 < p - l
      · have d4 : decide (4 < p - l) = true := decide_eq_true c4
        have HB : Hid (true = b) := needM_eq hb.out true ⟨fun _ => by unfold NeedM; omega, fun _ => rfl⟩
        clear hb hlq hpq
        go_enter Try.func32, Try.ntmps32
        go_wp2
        go_ret
        exact ⟨ret_bN HB.out, rfl⟩
      · have d4 : decide (4 < p - l) = false := decide_eq_false c4
        by_cases c3 : 3 ≤ p - l
        · have d3 : decide (3 ≤ p - l) = true := decide_eq_true c3
          obtain ⟨c, hc⟩ : ∃ c : Bool, (lq != pq) = c := ⟨_, rfl⟩
          have HB : Hid (c = b) := needM_eq hb.out c (by rw [← hc]; unfold NeedM; rw [hlq, hpq]; simp only [bne_iff_ne, ne_eq]; omega)
          clear hb hlq hpq c4 c3
          go_enter Try.func32, Try.ntmps32
          go_wp2
          go_ret
          exact ⟨ret_bN HB.out, rfl⟩
        · have d3 : decide (3 ≤ p - l) = false := decide_eq_false c3
          have HB : Hid (false = b) := needM_eq hb.out false ⟨fun h => by simp at h, fun h => by unfold NeedM at h; omega⟩
          clear hb hlq hpq
          go_enter Try.func32, Try.ntmps32
          go_wp2
          go_ret
          exact ⟨ret_bN HB.out, rfl⟩
set_option maxHeartbeats 1000000 in
theorem s_needsMark (w : World) (l p : Int) (b : Bool) (h0 : -1 ≤ l) (h1 : l ≤ 48) (h2 : 0 ≤ p) (h3 : p ≤ 48) (hb : Hid (BIs b (NeedM l p))) :
    Calls Try.prog 54 #[.int .i64 l, .int .i64 p] w fun e w' => e = .returned (.bool b) ∧ w = w' := by
  by_cases hl : l = -1
  · subst hl
    have HB : Hid (true = b) := needM_eq hb.out true ⟨fun _ => .inl (by omega), fun _ => rfl⟩
    clear hb
    have d0 : decide (p - -1 < -1 - p) = false := decide_eq_false (by omega)
    go_enter Try.func54, Try.ntmps54
    go_wp2
    go_ret
    exact ⟨ret_bN HB.out, rfl⟩
  · have d0 : (l == -1) = false := by simpa using hl
    have d00 : decide (l < 0) = false := decide_eq_false (by omega)
    obtain ⟨lq, hlq⟩ : ∃ lq, l / 7 = lq := ⟨_, rfl⟩
    obtain ⟨pq, hpq⟩ : ∃ pq, p / 7 = pq := ⟨_, rfl⟩
    have q1 : 0 ≤ lq ∧ lq ≤ 6 ∧ 0 ≤ pq ∧ pq ≤ 6 := by omega
    have x1 : IntKind.i64.wrap lq = lq := IntWalk.i64_in _ (by omega)
    have x2 : IntKind.i64.wrap pq = pq := IntWalk.i64_in _ (by omega)
    have x3 : wrap64 lq = lq := by unfold wrap64; omega
    have x4 : wrap64 pq = pq := by unfold wrap64; omega
    have t1 : l.tdiv 7 = lq := by rw [Int.tdiv_eq_ediv_of_nonneg (by omega), hlq]
    have t2 : p.tdiv 7 = pq := by rw [Int.tdiv_eq_ediv_of_nonneg (by omega), hpq]
    by_cases hs : p < l
    · have e1 : decide (p - l < 0) = true := decide_eq_true (by omega)
      have u1 : IntKind.i64.wrap (-(p - l)) = l - p := by rw [IntWalk.i64_in _ (by omega)]; omega
      have e2 : decide (p - l < l - p) = true := decide_eq_true (by omega)
      by_cases c4 : 4 < l - p
      · have d4 : decide (4 < l - p) = true := decide_eq_true c4
        have HB : Hid (true = b) := needM_eq hb.out true ⟨fun _ => by unfold NeedM; omega, fun _ => rfl⟩
        clear hb hlq hpq
        go_enter Try.func54, Try.ntmps54
        go_wp2
        go_ret
        exact ⟨ret_bN HB.out, rfl⟩
      · have d4 : decide (4 < l - p) = false := decide_eq_false c4
        by_cases c3 : 2 < l - p
        · have d3 : decide (2 < l - p) = true := decide_eq_true c3
          obtain ⟨c, hc⟩ : ∃ c : Bool, (pq != lq) = c := ⟨_, rfl⟩
          have HB : Hid (c = b) := needM_eq hb.out c (by rw [← hc]; unfold NeedM; rw [hlq, hpq]; simp only [bne_iff_ne, ne_eq]; omega)
          clear hb hlq hpq c4 c3
          go_enter Try.func54, Try.ntmps54
          go_wp2
          go_ret
          exact ⟨ret_bN HB.out, rfl⟩
        · have d3 : decide (2 < l - p) = false := decide_eq_false c3
          have HB : Hid (false = b) := needM_eq hb.out false ⟨fun h => by simp at h, fun h => by unfold NeedM at h; omega⟩
          clear hb hlq hpq
          go_enter Try.func54, Try.ntmps54
          go_wp2
          go_ret
          exact ⟨ret_bN HB.out, rfl⟩
    · have e1 : decide (p - l < 0) = false := decide_eq_false (by omega)
      have e2 : decide (p - l < l - p) = false := decide_eq_false (by omega)
      by_cases c4 : 4 < p - l
      · have d4 : decide (4 < p - l) = true := decide_eq_true c4
        have HB : Hid (true = b) := needM_eq hb.out true ⟨fun _ => by unfold NeedM; omega, fun _ => rfl⟩
        clear hb hlq hpq
        go_enter Try.func54, Try.ntmps54
        go_wp2
        go_ret
        exact ⟨ret_bN HB.out, rfl⟩
      · have d4 : decide (4 < p - l) = false := decide_eq_false c4
        by_cases c3 : 2 < p - l
        · have d3 : decide (2 < p - l) = true := decide_eq_true c3
          obtain ⟨c, hc⟩ : ∃ c : Bool, (pq != lq) = c := ⟨_, rfl⟩
          have HB : Hid (c = b) := needM_eq hb.out c (by rw [← hc]; unfold NeedM; rw [hlq, hpq]; simp only [bne_iff_ne, ne_eq]; omega)
          clear hb hlq hpq c4 c3
          go_enter Try.func54, Try.ntmps54
          go_wp2
          go_ret
          exact ⟨ret_bN HB.out, rfl⟩
        · have d3 : decide (2 < p - l) = false := decide_eq_false c3
          have HB : Hid (false = b) := needM_eq hb.out false ⟨fun h => by simp at h, fun h => by unfold NeedM at h; omega⟩
          clear hb hlq hpq
          go_enter Try.func54, Try.ntmps54
          go_wp2
          go_ret
          exact ⟨ret_bN HB.out, rfl⟩
end Go.Proofs.Ytfofjjfnejigaaa
