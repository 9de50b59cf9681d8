
/- ValidCells, in the program and in its model. -/
import Derived.Test.YtfgnckafpnobhaaOwn
import Derived.Test.YtfgnckafpnobhaaRange
import Derived.Test.YtfgnckafpnobhaaIsCell
namespace Go.Proofs.Ytfgnckafpnobhaa
open Go.RowKit

def ValidL (zs : List Int) : Prop := zs.length ≤ 200 ∧ ∀ z ∈ zs, 0 ≤ z ∧ z < 64
instance (zs : List Int) : Decidable (ValidL zs) := inferInstanceAs (Decidable (_ ∧ _))
def CellsUp (zs : List Int) (k : Nat) : Prop := ∀ i, i < k → 0 ≤ zs.getD i 0 ∧ zs.getD i 0 < 64
theorem CellsUp.zero (zs : List Int) : CellsUp zs 0 := fun i h => absurd h (by omega)
theorem CellsUp.succ {zs : List Int} {k : Nat} (h : CellsUp zs k) (e : 0 ≤ zs.getD k 0 ∧ zs.getD k 0 < 64) : CellsUp zs (k + 1) := fun i hi => by
  by_cases hik : i = k
  · subst hik; exact e
  · exact h i (by omega)
theorem CellsUp.all {zs : List Int} {n : Nat} (h : CellsUp zs n) (hn : zs.length = n) : ∀ z ∈ zs, 0 ≤ z ∧ z < 64 := by
  intro z hz
  obtain ⟨i, hi, rfl⟩ := List.getElem_of_mem hz
  have := h i (by omega)
  simpa [List.getD_eq_getElem?_getD, hi] using this
theorem not_valid {zs : List Int} {k n : Nat} {y : Int} (hn : zs.length = n) (hk : k < n) (hy : zs.getD k 0 = y) (e : y < 0 ∨ 64 ≤ y) : ¬ ValidL zs := by
  rintro ⟨_, h⟩
  have hm : y ∈ zs := by
    subst hy
    rw [List.getD_eq_getElem?_getD, List.getElem?_eq_getElem (by omega), Option.getD_some]; exact List.getElem_mem _
  have := h y hm
  omega

set_option maxHeartbeats 1000000 in
theorem i_ValidCells (w : World) (u : Value) (zs : List Int) (hx : IntsAt w u zs) :
    Calls Try.prog 20 #[u] w fun e w' => e = .returned (.bool (decide (ValidL zs))) ∧ w = w' := by
  obtain ⟨a, c, rfl, x1, x2, x3⟩ := hx
  obtain ⟨n, hn⟩ : ∃ n, zs.length = n := ⟨_, rfl⟩
  rw [hn] at x1 x3 ⊢
  have HN := Lib.hid hn
  clear hn
  by_cases hbig : n ≤ 200
  · go_enter Try.func20, Try.ntmps20
    go_wp2
    go_loop [10] (fun i => ∃ k : Nat, k ≤ n ∧ i = .int .i64 k ∧ CellsUp zs k) (fun i => n - (intOf i).toNat)
    case atStart => exact ⟨0, Nat.zero_le _, rfl, CellsUp.zero _⟩
    case round =>
      obtain ⟨k, hk, rfl, hs⟩ := hrel
      by_cases hlt : k < n
      · rcases x3 with rfl | ⟨g, off, rfl, x3⟩
        · exact absurd HN.out (by simp; omega)
        have cx := x3 k hlt
        obtain ⟨y, hy⟩ : ∃ y, zs.getD k 0 = y := ⟨_, rfl⟩
        rw [hy] at cx
        have HY := Lib.hid hy
        clear hy x3
        by_cases e : 0 ≤ y ∧ y < 64
        · obtain ⟨e1, e2⟩ := e
          go_wp2_with (go_at_call 52; refine (i_isCell_yes _ _ e1 e2).mono ?_; rintro e w' ⟨rfl, rfl⟩)
          go_round
          case rel => exact ⟨k + 1, by omega, by go_num, hs.succ (by rw [HY.out]; exact ⟨e1, e2⟩)⟩
          case measure => simp [intOf]; omega
        · have e' : y < 0 ∨ 64 ≤ y := by omega
          clear e
          go_wp2_with (go_at_call 52; refine (i_isCell_no _ _ e').mono ?_; rintro e w' ⟨rfl, rfl⟩)
          go_ret
          exact ⟨ret_bool (decide_eq_false (not_valid HN.out hlt HY.out e')).symm, rfl⟩
      · go_wp2
        go_ret
        obtain rfl : k = n := by omega
        exact ⟨ret_bool (decide_eq_true ⟨by rw [HN.out]; exact hbig, hs.all HN.out⟩).symm, rfl⟩
  · have hbig' : 200 < n := by omega
    go_enter Try.func20, Try.ntmps20
    go_wp2
    go_ret
    exact ⟨ret_bool (decide_eq_false (fun h => hbig (by have := h.1; rw [HN.out] at this; exact this))).symm, rfl⟩

set_option maxHeartbeats 1000000 in
theorem s_validCells (w : World) (u : Value) (zs : List Int) (hx : IntsAt w u zs) :
    Calls Try.prog 67 #[u] w fun e w' => e = .returned (.bool (decide (ValidL zs))) ∧ w = w' := by
  obtain ⟨a, c, rfl, x1, x2, x3⟩ := hx
  obtain ⟨n, hn⟩ : ∃ n, zs.length = n := ⟨_, rfl⟩
  rw [hn] at x1 x3 ⊢
  have HN := Lib.hid hn
  clear hn
  go_enter Try.func67, Try.ntmps67
  go_wp2
  go_loop [3] (fun i => ∃ k : Nat, k ≤ n ∧ i = .int .i64 k ∧ CellsUp zs k) (fun i => n - (intOf i).toNat)
  case atStart => exact ⟨0, Nat.zero_le _, rfl, CellsUp.zero _⟩
  case round =>
    obtain ⟨k, hk, rfl, hs⟩ := hrel
    by_cases hlt : k < n
    · rcases x3 with rfl | ⟨g, off, rfl, x3⟩
      · exact absurd HN.out (by simp; omega)
      have cx := x3 k hlt
      obtain ⟨y, hy⟩ : ∃ y, zs.getD k 0 = y := ⟨_, rfl⟩
      rw [hy] at cx
      have HY := Lib.hid hy
      clear hy x3
      by_cases e : 0 ≤ y ∧ y < 64
      · obtain ⟨e1, e2⟩ := e
        go_wp2_with (go_at_call 75; refine (s_isCell_yes _ _ e1 e2).mono ?_; rintro e w' ⟨rfl, rfl⟩)
        go_round
        case rel => exact ⟨k + 1, by omega, by go_num, hs.succ (by rw [HY.out]; exact ⟨e1, e2⟩)⟩
        case measure => simp [intOf]; omega
      · have e' : y < 0 ∨ 64 ≤ y := by omega
        clear e
        go_wp2_with (go_at_call 75; refine (s_isCell_no _ _ e').mono ?_; rintro e w' ⟨rfl, rfl⟩)
        go_ret
        exact ⟨ret_bool (decide_eq_false (not_valid HN.out hlt HY.out e')).symm, rfl⟩
    · obtain rfl : k = n := by omega
      by_cases hbig : k ≤ 200
      · have d : decide ((k : Int) ≤ 200) = true := decide_eq_true (by omega)
        go_wp2
        go_ret
        exact ⟨ret_bool (decide_eq_true ⟨by rw [HN.out]; exact hbig, hs.all HN.out⟩).symm, rfl⟩
      · have d : decide ((k : Int) ≤ 200) = false := decide_eq_false (by omega)
        go_wp2
        go_ret
        exact ⟨ret_bool (decide_eq_false (fun h => hbig (by have := h.1; rw [HN.out] at this; exact this))).symm, rfl⟩
end Go.Proofs.Ytfgnckafpnobhaa
