/- Merged: Let LetB Mark MarkB. -/
import Derived.Test.YthojahknocageaaMA
import Derived.Deep.RegionHeld3

/- Letters and digits: plain lists and the contracts of the functions that compute them. -/
namespace Go.Proofs.Ythojahknocageaa
open Go.RowKit

def letL : List Int := [1, 3, 9, 25, 17, 11, 27, 19, 10, 26, 5, 7, 13, 29, 21, 15, 31, 23, 14, 30, 37, 39, 58, 45, 61, 53]
def digL : List Int := [26, 1, 3, 9, 25, 17, 11, 27, 19, 10]
theorem cases26 {n : Int} (h0 : 0 ≤ n) (h1 : n < 26) : n = 0 ∨ n = 1 ∨ n = 2 ∨ n = 3 ∨ n = 4 ∨ n = 5 ∨ n = 6 ∨ n = 7 ∨ n = 8 ∨ n = 9 ∨ n = 10 ∨ n = 11 ∨ n = 12 ∨ n = 13 ∨ n = 14 ∨ n = 15 ∨ n = 16 ∨ n = 17 ∨ n = 18 ∨ n = 19 ∨ n = 20 ∨ n = 21 ∨ n = 22 ∨ n = 23 ∨ n = 24 ∨ n = 25 := by omega
theorem cases10 {n : Int} (h0 : 0 ≤ n) (h1 : n < 10) : n = 0 ∨ n = 1 ∨ n = 2 ∨ n = 3 ∨ n = 4 ∨ n = 5 ∨ n = 6 ∨ n = 7 ∨ n = 8 ∨ n = 9 := by omega

set_option maxHeartbeats 4000000 in
theorem i_letterCell (n : Int) (w : World) (h0 : 0 ≤ n) (h1 : n < 26) :
    Calls Try.prog 61 #[.int .i64 n] w fun e w' => e = .returned (.int .i64 (letL.getD n.toNat 0)) ∧ w = w' := by
  rcases cases26 h0 h1 with rfl | rfl | rfl | rfl | rfl | rfl | rfl | rfl | rfl | rfl | rfl | rfl | rfl | rfl | rfl | rfl | rfl | rfl | rfl | rfl | rfl | rfl | rfl | rfl | rfl | rfl
  all_goals
    clear h0 h1
    go_enter Try.func61, Try.ntmps61
    go_wp2
    go_ret
    exact ⟨rfl, rfl⟩
theorem i_letterCell_no (n : Int) (w : World) (h : n < 0 ∨ 26 ≤ n) :
    Calls Try.prog 61 #[.int .i64 n] w fun e w' => e = .returned (.int .i64 (-1)) ∧ w = w' := by
  rcases h with h | h
  · have d0 : decide (n < 0) = true := decide_eq_true h
    go_enter Try.func61, Try.ntmps61
    go_wp2
    go_ret
    exact ⟨rfl, rfl⟩
  · have d0 : decide (n < 0) = false := decide_eq_false (by omega)
    have d1 : decide (26 ≤ n) = true := decide_eq_true h
    go_enter Try.func61, Try.ntmps61
    go_wp2
    go_ret
    exact ⟨rfl, rfl⟩

set_option maxHeartbeats 4000000 in
theorem s_letterCell (n : Int) (w : World) (h0 : 0 ≤ n) (h1 : n < 26) :
    Calls Try.prog 88 #[.int .i64 n] w fun e w' => e = .returned (.int .i64 (letL.getD n.toNat 0)) ∧ Below w.heap.size w w' := by
  rcases cases26 h0 h1 with rfl | rfl | rfl | rfl | rfl | rfl | rfl | rfl | rfl | rfl | rfl | rfl | rfl | rfl | rfl | rfl | rfl | rfl | rfl | rfl | rfl | rfl | rfl | rfl | rfl | rfl
  all_goals
    clear h0 h1
    go_enter Try.func88, Try.ntmps88
    go_wp2
    go_ret
    exact ⟨rfl, (Below.refl _ _).alloc (Nat.le_refl _) _⟩
end Go.Proofs.Ythojahknocageaa


/- Letters and digits: the contracts of the functions that look for a letter or a digit. -/
namespace Go.Proofs.Ythojahknocageaa
open Go.RowKit

theorem ret_i64 {a b : Int} (h : a = b) : Ending.returned (.int .i64 a) = .returned (.int .i64 b) := by rw [h]

theorem i_letterCell_at (k : Nat) (v : Int) (w : World) (h1 : k < 26) (hv : Hid (letL.getD k 0 = v)) :
    Calls Try.prog 61 #[.int .i64 k] w fun e w' => e = .returned (.int .i64 v) ∧ w = w' := by
  have := i_letterCell k w (by omega) (by omega)
  rw [Int.toNat_natCast, hv.out] at this
  exact this
theorem s_letterCell_at (k : Nat) (v : Int) (w : World) (h1 : k < 26) (hv : Hid (letL.getD k 0 = v)) :
    Calls Try.prog 88 #[.int .i64 k] w fun e w' => e = .returned (.int .i64 v) ∧ Below w.heap.size w w' := by
  have := s_letterCell k w (by omega) (by omega)
  rw [Int.toNat_natCast, hv.out] at this
  exact this

end Go.Proofs.Ythojahknocageaa


/- MarkCell, in the program and in its model. -/
namespace Go.Proofs.Ythojahknocageaa
open Go.RowKit

def markL : List Int := [46, 44, 59, 58, 33, 63, 39, 45]
def markC : List Int := [50, 2, 6, 18, 22, 38, 4, 36]
def markS (k : Nat) : ByteArray := ⟨#[UInt8.ofNat (markL.getD k 0).toNat]⟩
/-- the text is no punctuation mark -/
def NoMark (s : ByteArray) : Prop := ∀ k, k < 8 → s ≠ markS k

set_option maxHeartbeats 2000000 in
theorem i_MarkCell_yes (k : Nat) (s : ByteArray) (v : Int) (w : World) (hk : k < 8) (hs : Hid (s = markS k)) (hv : Hid (markC.getD k 0 = v)) :
    Calls Try.prog 85 #[.string s] w fun e w' => e = .returned (.int .i64 v) ∧ w = w' := by
  rw [hs.out, ← hv.out]
  clear hs hv
  rcases (show k = 0 ∨ k = 1 ∨ k = 2 ∨ k = 3 ∨ k = 4 ∨ k = 5 ∨ k = 6 ∨ k = 7 from by omega) with rfl | rfl | rfl | rfl | rfl | rfl | rfl | rfl
  all_goals
    clear hk
    simp only [markS, markL, markC]
    go_enter Try.func85, Try.ntmps85
    go_wp2
    go_ret
    exact ⟨rfl, rfl⟩

theorem toList_ne {s : ByteArray} (l : List UInt8) (h : s ≠ ⟨l.toArray⟩) : (s.toList == l) = false := by
  simp only [beq_eq_false_iff_ne]
  intro e
  apply h
  rw [ByteArray.toList_eq] at e
  cases s
  simp at e
  rw [← e]
theorem i_MarkCell_no (s : ByteArray) (w : World) (hs : NoMark s) :
    Calls Try.prog 85 #[.string s] w fun e w' => e = .returned (.int .i64 (-1)) ∧ w = w' := by
  have h0 : (s.toList == [46]) = false := toList_ne [46] (hs 0 (by omega))
  have h1 : (s.toList == [44]) = false := toList_ne [44] (hs 1 (by omega))
  have h2 : (s.toList == [59]) = false := toList_ne [59] (hs 2 (by omega))
  have h3 : (s.toList == [58]) = false := toList_ne [58] (hs 3 (by omega))
  have h4 : (s.toList == [33]) = false := toList_ne [33] (hs 4 (by omega))
  have h5 : (s.toList == [63]) = false := toList_ne [63] (hs 5 (by omega))
  have h6 : (s.toList == [39]) = false := toList_ne [39] (hs 6 (by omega))
  have h7 : (s.toList == [45]) = false := toList_ne [45] (hs 7 (by omega))
  clear hs
  go_enter Try.func85, Try.ntmps85
  go_wp2
  go_ret
  exact ⟨rfl, rfl⟩

/-! the model -/
theorem mark_at (k : Nat) (hk : k < 8) : ((((⟨#[46, 44, 59, 58, 33, 63, 39, 45]⟩ : ByteArray)[k]'hk).toNat : Nat) : Int) = markL.getD k 0 := by
  rcases (show k = 0 ∨ k = 1 ∨ k = 2 ∨ k = 3 ∨ k = 4 ∨ k = 5 ∨ k = 6 ∨ k = 7 from by omega) with rfl | rfl | rfl | rfl | rfl | rfl | rfl | rfl <;> rfl
def MarksOut (k : Nat) (v : Int) (w : World) (e : Ending) (w' : World) : Prop := ∃ g, e = .returned (.slice (some ⟨g, 0, none⟩) 8 8) ∧ w'.cell? ⟨g, k, none⟩ = some (.int .i64 v) ∧ Below w.heap.size w w'
theorem s_markCells (k : Nat) (v : Int) (w : World) (hk : k < 8) (hv : Hid (markC.getD k 0 = v)) :
    Calls Try.prog 81 #[] w fun e w' => MarksOut k v w e w' := by
  go_enter Try.func81, Try.ntmps81
  go_wp2
  go_ret
  refine ⟨w.heap.size, rfl, ?_, (Below.refl _ _).alloc (Nat.le_refl _) _⟩
  rw [cell_of_row _ w.heap.size k _ _ _ (heap_alloc_new w _), ← hv.out]
  rcases (show k = 0 ∨ k = 1 ∨ k = 2 ∨ k = 3 ∨ k = 4 ∨ k = 5 ∨ k = 6 ∨ k = 7 from by omega) with rfl | rfl | rfl | rfl | rfl | rfl | rfl | rfl <;> rfl

end Go.Proofs.Ythojahknocageaa


/- The texts that are marks, by their bytes. -/
namespace Go.Proofs.Ythojahknocageaa
open Go.RowKit

theorem mark_cases : ∀ c : Nat, c < 256 → (∃ k : Nat, k < 8 ∧ idx markL (c : Int) = (k : Int) ∧ markL.getD k 0 = (c : Int)) ∨ (idx markL (c : Int) = -1 ∧ ∀ k : Nat, k < 8 → markL.getD k 0 ≠ (c : Int)) := by
  have h : ∀ c : Nat, c < 256 → ((idx markL (c : Int)).toNat < 8 ∧ idx markL (c : Int) = ((idx markL (c : Int)).toNat : Int) ∧ markL.getD (idx markL (c : Int)).toNat 0 = (c : Int)) ∨ (idx markL (c : Int) = -1 ∧ ∀ k : Nat, k < 8 → markL.getD k 0 ≠ (c : Int)) := by decide +kernel
  intro c hc
  rcases h c hc with h | h
  · exact .inl ⟨_, h⟩
  · exact .inr h
theorem markS_eq (b : UInt8) (k : Nat) (h : markL.getD k 0 = (b.toNat : Int)) : (⟨#[b]⟩ : ByteArray) = markS k := by
  unfold markS
  rw [h]
  simp
theorem noMark_long {s : ByteArray} (h : s.size ≠ 1) : NoMark s := by
  rintro k _ rfl
  exact h rfl
theorem noMark_one {b : UInt8} (h : ∀ k : Nat, k < 8 → markL.getD k 0 ≠ (b.toNat : Int)) : NoMark ⟨#[b]⟩ := by
  intro k hk e
  apply h k hk
  unfold markS at e
  have e' : b = UInt8.ofNat (markL.getD k 0).toNat := by
    have := congrArg (fun t : ByteArray => t.data.toList) e
    simpa using this
  rw [e']
  rcases (show k = 0 ∨ k = 1 ∨ k = 2 ∨ k = 3 ∨ k = 4 ∨ k = 5 ∨ k = 6 ∨ k = 7 from by omega) with rfl | rfl | rfl | rfl | rfl | rfl | rfl | rfl <;> rfl
theorem one_byte {s : ByteArray} (h : s.size = 1) : ∃ b, s = ⟨#[b]⟩ := by
  obtain ⟨d⟩ := s
  obtain ⟨l⟩ := d
  have hl : l.length = 1 := by simpa [ByteArray.size] using h
  obtain ⟨b, rfl⟩ := List.length_eq_one_iff.1 hl
  exact ⟨b, rfl⟩

end Go.Proofs.Ythojahknocageaa

