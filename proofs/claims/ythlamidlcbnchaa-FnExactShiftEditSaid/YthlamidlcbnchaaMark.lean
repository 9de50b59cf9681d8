
/- MarkCell, in the program and in its model. -/
import Derived.Test.YthlamidlcbnchaaOwn
import Derived.Test.YthlamidlcbnchaaIdx
import Derived.Deep.RegionHeld3
namespace Go.Proofs.Ythlamidlcbnchaa
open Go.RowKit

def markL : List Int := [46, 44, 59, 58, 33, 63, 39, 45]
def markC : List Int := [50, 2, 6, 18, 22, 38, 4, 36]
def markS (k : Nat) : ByteArray := ⟨#[UInt8.ofNat (markL.getD k 0).toNat]⟩
/-- the text is no punctuation mark -/
def NoMark (s : ByteArray) : Prop := ∀ k, k < 8 → s ≠ markS k

set_option maxHeartbeats 2000000 in
theorem i_MarkCell_yes (k : Nat) (s : ByteArray) (v : Int) (w : World) (hk : k < 8) (hs : Hid (s = markS k)) (hv : Hid (markC.getD k 0 = v)) :
    Calls Try.prog 58 #[.string s] w fun e w' => e = .returned (.int .i64 v) ∧ w = w' := by
  rw [hs.out, ← hv.out]
  clear hs hv
  rcases (show k = 0 ∨ k = 1 ∨ k = 2 ∨ k = 3 ∨ k = 4 ∨ k = 5 ∨ k = 6 ∨ k = 7 from by omega) with rfl | rfl | rfl | rfl | rfl | rfl | rfl | rfl
  all_goals
    clear hk
    simp only [markS, markL, markC]
    go_enter Try.func58, Try.ntmps58
    go_wp2
    go_ret
    exact ⟨rfl, rfl⟩

theorem toList_ne {s : ByteArray} (l : List UInt8) (h : s ≠ ⟨l.toArray⟩) : (s.toList == l) = false := by
  simp only [beq_eq_false_iff_ne]
  intro e
  apply h
  rw [ByteArray.toList_eq] at e
  cases s
  simp at e
  rw [← e]
theorem i_MarkCell_no (s : ByteArray) (w : World) (hs : NoMark s) :
    Calls Try.prog 58 #[.string s] w fun e w' => e = .returned (.int .i64 (-1)) ∧ w = w' := by
  have h0 : (s.toList == [46]) = false := toList_ne [46] (hs 0 (by omega))
  have h1 : (s.toList == [44]) = false := toList_ne [44] (hs 1 (by omega))
  have h2 : (s.toList == [59]) = false := toList_ne [59] (hs 2 (by omega))
  have h3 : (s.toList == [58]) = false := toList_ne [58] (hs 3 (by omega))
  have h4 : (s.toList == [33]) = false := toList_ne [33] (hs 4 (by omega))
  have h5 : (s.toList == [63]) = false := toList_ne [63] (hs 5 (by omega))
  have h6 : (s.toList == [39]) = false := toList_ne [39] (hs 6 (by omega))
  have h7 : (s.toList == [45]) = false := toList_ne [45] (hs 7 (by omega))
  clear hs
  go_enter Try.func58, Try.ntmps58
  go_wp2
  go_ret
  exact ⟨rfl, rfl⟩

/-! the model -/
theorem mark_at (k : Nat) (hk : k < 8) : ((((⟨#[46, 44, 59, 58, 33, 63, 39, 45]⟩ : ByteArray)[k]'hk).toNat : Nat) : Int) = markL.getD k 0 := by
  rcases (show k = 0 ∨ k = 1 ∨ k = 2 ∨ k = 3 ∨ k = 4 ∨ k = 5 ∨ k = 6 ∨ k = 7 from by omega) with rfl | rfl | rfl | rfl | rfl | rfl | rfl | rfl <;> rfl
set_option maxHeartbeats 1000000 in
theorem s_markOf (c : Nat) (w : World) :
    Calls Try.prog 53 #[.int .u8 c] w fun e w' => e = .returned (.int .i64 (idx markL c)) ∧ w = w' := by
  go_enter Try.func53, Try.ntmps53
  go_wp2
  go_loop [3] (fun i => ∃ k : Nat, k ≤ 8 ∧ i = .int .i64 k ∧ NotIn markL (c : Int) k) (fun i => 8 - (intOf i).toNat)
  case atStart => exact ⟨0, by omega, rfl, NotIn.zero _ _⟩
  case round =>
    obtain ⟨k, hk, rfl, hn⟩ := hrel
    by_cases hlt : k < 8
    · have hm := mark_at k hlt
      by_cases e : markL.getD k 0 = (c : Int)
      · have e1 : (((((⟨#[46, 44, 59, 58, 33, 63, 39, 45]⟩ : ByteArray)[k]'hlt).toNat : Nat) : Int) == (c : Int)) = true := by rw [hm]; simpa using e
        have HI : Hid (idx markL (c : Int) = k) := idx_hit (by simpa [markL] using hlt) hn e
        clear e hn hk hm
        go_wp2
        go_ret
        exact ⟨by rw [HI.out]; rfl, rfl⟩
      · have e1 : (((((⟨#[46, 44, 59, 58, 33, 63, 39, 45]⟩ : ByteArray)[k]'hlt).toNat : Nat) : Int) == (c : Int)) = false := by rw [hm]; simpa using e
        have hn' : NotIn markL (c : Int) (k + 1) := hn.succ e
        clear e hn hk hm
        go_wp2
        go_round
        case rel => exact ⟨k + 1, by omega, by go_num, hn'⟩
        case measure => simp [intOf]; omega
    · go_wp2
      go_ret
      obtain rfl : k = 8 := by omega
      exact ⟨by rw [idx_none (l := markL) (fun j hj => hn j hj)]; rfl, rfl⟩
theorem s_markOf_v (c : Nat) (r : Int) (w : World) (hr : Hid (idx markL (c : Int) = r)) :
    Calls Try.prog 53 #[.int .u8 c] w fun e w' => e = .returned (.int .i64 r) ∧ w = w' := by
  have := s_markOf c w
  rw [hr.out] at this
  exact this
def MarksOut (k : Nat) (v : Int) (w : World) (e : Ending) (w' : World) : Prop := ∃ g, e = .returned (.slice (some ⟨g, 0, none⟩) 8 8) ∧ w'.cell? ⟨g, k, none⟩ = some (.int .i64 v) ∧ Below w.heap.size w w'
end Go.Proofs.Ythlamidlcbnchaa
