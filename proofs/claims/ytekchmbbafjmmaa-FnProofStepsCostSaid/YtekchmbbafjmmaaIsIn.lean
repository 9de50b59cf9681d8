
/- laws.isIn, laws.ascends: is a number in a list; does a list ascend. -/
import Derived.Test.YtekchmbbafjmmaaLst
import Derived.Deep.QuietTactic
import Derived.BigQuiet
namespace Go.Proofs.Ytekchmbbafjmmaa
open Go.RowKit

/-- the first k numbers are not z -/
def NoneOf (zs : List Int) (z : Int) (k : Nat) : Prop := ∀ i, i < k → zs.getD i 0 ≠ z
theorem NoneOf.zero (zs : List Int) (z : Int) : NoneOf zs z 0 := fun i h => absurd h (by omega)
theorem NoneOf.succ {zs : List Int} {z : Int} {k : Nat} (h : NoneOf zs z k) (e : zs.getD k 0 ≠ z) : NoneOf zs z (k + 1) := fun i hi => by
  by_cases hik : i = k
  · subst hik; exact e
  · exact h i (by omega)
theorem NoneOf.all {zs : List Int} {z : Int} {n : Nat} (h : NoneOf zs z n) (hn : zs.length = n) : z ∉ zs := by
  intro hm
  obtain ⟨i, hi, rfl⟩ := List.getElem_of_mem hm
  exact h i (by omega) (by simp [List.getD_eq_getElem?_getD, hi])
theorem mem_of_getD {zs : List Int} {z : Int} {k n : Nat} (hn : zs.length = n) (hk : k < n) (e : zs.getD k 0 = z) : z ∈ zs := by
  subst e
  rw [List.getD_eq_getElem?_getD, List.getElem?_eq_getElem (by omega), Option.getD_some]; exact List.getElem_mem _

set_option maxHeartbeats 1000000 in
theorem isIn_any (w : World) (u : Value) (zs : List Int) (z : Int) (hx : IntsAt w u zs) :
    Calls Try.prog 33 #[u, .int .i64 z] w fun e w' => e = .returned (.bool (decide (z ∈ zs))) ∧ w = w' := by
  obtain ⟨a, c, rfl, x1, x2, x3⟩ := hx
  obtain ⟨n, hn⟩ : ∃ n, zs.length = n := ⟨_, rfl⟩
  rw [hn] at x1 x3 ⊢
  have HN := Lib.hid hn
  clear hn
  go_enter Try.func33, Try.ntmps33
  go_wp2
  go_loop [5] (fun i => ∃ k : Nat, k ≤ n ∧ i = .int .i64 k ∧ NoneOf zs z k) (fun i => n - (intOf i).toNat)
  case atStart => exact ⟨0, Nat.zero_le _, rfl, NoneOf.zero _ _⟩
  case round =>
    obtain ⟨k, hk, rfl, hs⟩ := hrel
    by_cases hlt : k < n
    · rcases x3 with rfl | ⟨g, off, rfl, x3⟩
      · exact absurd HN.out (by simp; omega)
      have cx := x3 k hlt
      obtain ⟨y, hy⟩ : ∃ y, zs.getD k 0 = y := ⟨_, rfl⟩
      rw [hy] at cx
      have HY := Lib.hid hy
      clear hy x3
      by_cases e : y = z
      · have e1 : (y == z) = true := by simpa using e
        have E := Lib.hid e
        clear e
        go_wp2
        go_ret
        exact ⟨ret_bool (decide_eq_true (mem_of_getD HN.out hlt (HY.out.trans E.out))).symm, rfl⟩
      · have e1 : (y == z) = false := by simpa using e
        have E := Lib.hid e
        clear e
        go_wp2
        go_round
        case rel => exact ⟨k + 1, by omega, by go_num, hs.succ (by rw [HY.out]; exact E.out)⟩
        case measure => simp [intOf]; omega
    · go_wp2
      go_ret
      obtain rfl : k = n := by omega
      exact ⟨ret_bool (decide_eq_false (hs.all HN.out)).symm, rfl⟩

/-- the first k numbers ascend -/
def AscUp (zs : List Int) (k : Nat) : Prop := ∀ i, 1 ≤ i → i < k → zs.getD (i - 1) 0 < zs.getD i 0
theorem AscUp.one (zs : List Int) : AscUp zs 1 := fun i h1 h2 => absurd h1 (by omega)
theorem AscUp.succ {zs : List Int} {k : Nat} (h : AscUp zs k) (e : zs.getD (k - 1) 0 < zs.getD k 0) : AscUp zs (k + 1) := fun i h1 hi => by
  by_cases hik : i = k
  · subst hik; exact e
  · exact h i h1 (by omega)

end Go.Proofs.Ytekchmbbafjmmaa
