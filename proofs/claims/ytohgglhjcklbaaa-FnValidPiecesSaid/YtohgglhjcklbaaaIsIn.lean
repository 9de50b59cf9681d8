
/- laws.isIn, laws.ascends: is a number in a list; does a list ascend. -/
import Derived.Test.YtohgglhjcklbaaaLst
import Derived.Deep.QuietTactic
import Derived.BigQuiet
namespace Go.Proofs.Ytohgglhjcklbaaa
open Go.RowKit

/-- the first k numbers are not z -/
def NoneOf (zs : List Int) (z : Int) (k : Nat) : Prop := ∀ i, i < k → zs.getD i 0 ≠ z
theorem NoneOf.zero (zs : List Int) (z : Int) : NoneOf zs z 0 := fun i h => absurd h (by omega)
theorem NoneOf.succ {zs : List Int} {z : Int} {k : Nat} (h : NoneOf zs z k) (e : zs.getD k 0 ≠ z) : NoneOf zs z (k + 1) := fun i hi => by
  by_cases hik : i = k
  · subst hik; exact e
  · exact h i (by omega)
theorem NoneOf.all {zs : List Int} {z : Int} {n : Nat} (h : NoneOf zs z n) (hn : zs.length = n) : z ∉ zs := by
  intro hm
  obtain ⟨i, hi, rfl⟩ := List.getElem_of_mem hm
  exact h i (by omega) (by simp [List.getD_eq_getElem?_getD, hi])
theorem mem_of_getD {zs : List Int} {z : Int} {k n : Nat} (hn : zs.length = n) (hk : k < n) (e : zs.getD k 0 = z) : z ∈ zs := by
  subst e
  rw [List.getD_eq_getElem?_getD, List.getElem?_eq_getElem (by omega), Option.getD_some]; exact List.getElem_mem _

set_option maxHeartbeats 1000000 in
theorem isIn_any (w : World) (u : Value) (zs : List Int) (z : Int) (hx : IntsAt w u zs) :
    Calls Try.prog 34 #[u, .int .i64 z] w fun e w' => e = .returned (.bool (decide (z ∈ zs))) ∧ w = w' := by
  obtain ⟨a, c, rfl, x1, x2, x3⟩ := hx
  obtain ⟨n, hn⟩ : ∃ n, zs.length = n := ⟨_, rfl⟩
  rw [hn] at x1 x3 ⊢
  have HN := Lib.hid hn
  clear hn
  go_enter Try.func34, Try.ntmps34
  go_wp2
  go_loop [5] (fun i => ∃ k : Nat, k ≤ n ∧ i = .int .i64 k ∧ NoneOf zs z k) (fun i => n - (intOf i).toNat)
  case atStart => exact ⟨0, Nat.zero_le _, rfl, NoneOf.zero _ _⟩
  case round =>
    obtain ⟨k, hk, rfl, hs⟩ := hrel
    by_cases hlt : k < n
    · rcases x3 with rfl | ⟨g, off, rfl, x3⟩
      · exact absurd HN.out (by simp; omega)
      have cx := x3 k hlt
      obtain ⟨y, hy⟩ : ∃ y, zs.getD k 0 = y := ⟨_, rfl⟩
      rw [hy] at cx
      have HY := Lib.hid hy
      clear hy x3
      by_cases e : y = z
      · have e1 : (y == z) = true := by simpa using e
        have E := Lib.hid e
        clear e
        go_wp2
        go_ret
        exact ⟨ret_bool (decide_eq_true (mem_of_getD HN.out hlt (HY.out.trans E.out))).symm, rfl⟩
      · have e1 : (y == z) = false := by simpa using e
        have E := Lib.hid e
        clear e
        go_wp2
        go_round
        case rel => exact ⟨k + 1, by omega, by go_num, hs.succ (by rw [HY.out]; exact E.out)⟩
        case measure => simp [intOf]; omega
    · go_wp2
      go_ret
      obtain rfl : k = n := by omega
      exact ⟨ret_bool (decide_eq_false (hs.all HN.out)).symm, rfl⟩

/-- the first k numbers ascend -/
def AscUp (zs : List Int) (k : Nat) : Prop := ∀ i, 1 ≤ i → i < k → zs.getD (i - 1) 0 < zs.getD i 0
theorem AscUp.one (zs : List Int) : AscUp zs 1 := fun i h1 h2 => absurd h1 (by omega)
theorem AscUp.succ {zs : List Int} {k : Nat} (h : AscUp zs k) (e : zs.getD (k - 1) 0 < zs.getD k 0) : AscUp zs (k + 1) := fun i h1 hi => by
  by_cases hik : i = k
  · subst hik; exact e
  · exact h i h1 (by omega)

/-- ascends answers whether AscUp holds of the whole list: said for a list of which that is known -/
theorem ascends_yes (w : World) (u : Value) (zs : List Int) (hx : IntsAt w u zs) (ha : AscUp zs zs.length) :
    Calls Try.prog 35 #[u] w fun e w' => e = .returned (.bool true) ∧ Below w.heap.size w w' := by
  obtain ⟨a, c, rfl, x1, x2, x3⟩ := hx
  obtain ⟨n, hn⟩ : ∃ n, zs.length = n := ⟨_, rfl⟩
  rw [hn] at x1 x3 ha ⊢
  have HN := Lib.hid hn
  clear hn
  go_enter Try.func35, Try.ntmps35
  go_wp2
  go_loopw [3] (fun i wr => ∃ k : Nat, 1 ≤ k ∧ i = .int .i64 k ∧ k ≤ n + 1 ∧ ∃ q, wr = w.drewN q) (fun i _ => n + 1 - (intOf i).toNat)
  case atStart => exact ⟨1, by omega, rfl, by omega, 0, rfl⟩
  case round =>
    obtain ⟨k, hk1, rfl, hk, q, rfl⟩ := hrel
    by_cases hlt : k < n
    · rcases x3 with rfl | ⟨g, off, rfl, x3⟩
      · exact absurd HN.out (by simp; omega)
      have cx := x3 k hlt
      have cy := x3 (k - 1) (by omega)
      have hxy := ha k hk1 hlt
      obtain ⟨j, rfl⟩ : ∃ j, k = j + 1 := ⟨k - 1, by omega⟩
      rw [Nat.add_sub_cancel] at cy hxy
      obtain ⟨y, hy⟩ : ∃ y, zs.getD (j + 1) 0 = y := ⟨_, rfl⟩
      obtain ⟨x, hx⟩ : ∃ x, zs.getD j 0 = x := ⟨_, rfl⟩
      rw [hy] at cx hxy
      rw [hx] at cy hxy
      have d1 : decide (y ≤ x) = false := decide_eq_false (by omega)
      clear hy hx x3 ha
      have i1 : IntKind.i64.wrap ((j : Int) + 1 - 1) = (j : Int) := by rw [Int.add_sub_cancel]; exact IntWalk.i64_in _ (by omega)
      have i2 : IntKind.i64.wrap (j : Int) = (j : Int) := IntWalk.i64_in _ (by omega)
      have i3 : ((j : Int)).toNat = j := by omega
      have i4 : 0 ≤ (j : Int) := by omega
      have i5 : (j : Int) < n := by omega
      go_wp2
      go_quiet (fail)
      clear i1 i2 i3
      go_wp2
      go_roundw
      case rel => exact ⟨j + 1 + 1, by omega, by go_num, by omega, _, rfl⟩
      case measure => simp [intOf]; omega
    · go_wp2
      go_ret
      exact ⟨rfl, below_drewN (Below.refl _ _) _⟩
end Go.Proofs.Ytohgglhjcklbaaa
