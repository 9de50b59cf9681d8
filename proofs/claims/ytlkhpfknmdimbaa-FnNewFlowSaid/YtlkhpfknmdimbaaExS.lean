
/- The exact laws' own functions on slices of integers: a copy, marks, and whether the marks are held. -/
import Derived.Test.YtlkhpfknmdimbaaOwnS
namespace Go.Proofs.Ytlkhpfknmdimbaa
open Go.RowKit

theorem made_ints (n : Nat) : (madeCells #[Value.int .i64 0] n).toList = ints (List.replicate n 0) := by
  rw [toList_madeCells_one]
  simp [ints]
/-- the first k numbers of zs, and noughts behind them -/
def copied (zs : List Int) (n k : Nat) : List Int := zs.take k ++ List.replicate (n - k) 0
theorem copied_zero (zs : List Int) (n : Nat) : copied zs n 0 = List.replicate n 0 := by simp [copied]
theorem copied_all (zs : List Int) (n : Nat) (h : zs.length = n) : copied zs n n = zs := by simp [copied, ← h]
theorem copied_length (zs : List Int) (n k : Nat) (h : zs.length = n) (hk : k ≤ n) : (copied zs n k).length = n := by simp [copied]; omega
theorem copied_set (zs : List Int) (n k : Nat) (h : zs.length = n) (hk : k < n) : (copied zs n k).set k (zs.getD k 0) = copied zs n (k + 1) := by
  unfold copied
  apply List.ext_getElem?
  intro i
  have h1 : (zs.take k).length = k := by simp; omega
  have h2 : (zs.take (k + 1)).length = k + 1 := by simp; omega
  rw [List.getElem?_set]
  by_cases hik : k = i
  · subst hik
    rw [if_pos rfl, if_pos (by simp; omega), List.getElem?_append_left (by omega), List.getElem?_take, if_pos (by omega)]
    simp [List.getD_eq_getElem?_getD, h, hk]
  · rw [if_neg hik]
    by_cases hlt : i < k
    · rw [List.getElem?_append_left (by omega), List.getElem?_append_left (by omega), List.getElem?_take, List.getElem?_take, if_pos hlt, if_pos (by omega)]
    · rw [List.getElem?_append_right (by omega), List.getElem?_append_right (by omega), h1, h2, List.getElem?_replicate, List.getElem?_replicate]
      congr 1
      simp; omega
/-- the numbers from s on, n of them -/
def countUp (s : Int) (n : Nat) : List Int := (List.range n).map (fun i : Nat => s + (i : Int))
theorem countUp_length (s : Int) (n : Nat) : (countUp s n).length = n := by simp [countUp]
theorem countUp_getD (s : Int) (n k : Nat) (h : k < n) : (countUp s n).getD k 0 = s + k := by simp [countUp, List.getD_eq_getElem?_getD, h]
def marked (zs : List Int) (s : Int) (k : Nat) : List Int := countUp s k ++ zs.drop k
theorem marked_zero (zs : List Int) (s : Int) : marked zs s 0 = zs := by simp [marked, countUp]
theorem marked_all (zs : List Int) (s : Int) : marked zs s zs.length = countUp s zs.length := by simp [marked]
theorem marked_length (zs : List Int) (s : Int) (k : Nat) (hk : k ≤ zs.length) : (marked zs s k).length = zs.length := by simp [marked, countUp_length]; omega
theorem marked_set (zs : List Int) (s : Int) (k : Nat) (hk : k < zs.length) : (marked zs s k).set k (s + k) = marked zs s (k + 1) := by
  unfold marked
  apply List.ext_getElem?
  intro i
  rw [List.getElem?_set]
  by_cases hik : k = i
  · subst hik
    rw [if_pos rfl, if_pos (by simp [countUp_length]; omega), List.getElem?_append_left (by simp [countUp_length])]
    simp [countUp]
  · rw [if_neg hik]
    by_cases hlt : i < k
    · rw [List.getElem?_append_left (by simp [countUp_length]; omega), List.getElem?_append_left (by simp [countUp_length]; omega)]
      simp [countUp, hlt, show i < k + 1 by omega]
    · rw [List.getElem?_append_right (by simp [countUp_length]; omega), List.getElem?_append_right (by simp [countUp_length]; omega), countUp_length, countUp_length, List.getElem?_drop, List.getElem?_drop]
      congr 1
      omega
end Go.Proofs.Ytlkhpfknmdimbaa
