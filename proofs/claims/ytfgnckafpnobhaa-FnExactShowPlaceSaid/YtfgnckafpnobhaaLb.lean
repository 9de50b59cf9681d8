
/- Whether a cell is in a list; one word; one line. -/
import Derived.Test.YtfgnckafpnobhaaLa
import Derived.Test.YtfgnckafpnobhaaRdB
namespace Go.Proofs.Ytfgnckafpnobhaa
open Go.RowKit

def NoneUp (zs : List Int) (c : Int) (k : Nat) : Prop := ∀ i, i < k → zs.getD i 0 ≠ c
theorem NoneUp.zero (zs : List Int) (c : Int) : NoneUp zs c 0 := fun i h => absurd h (by omega)
theorem NoneUp.succ {zs : List Int} {c : Int} {k : Nat} (h : NoneUp zs c k) (e : zs.getD k 0 ≠ c) : NoneUp zs c (k + 1) := fun i hi => by
  by_cases hik : i = k
  · subst hik; exact e
  · exact h i (by omega)
theorem NoneUp.all {zs : List Int} {c : Int} {n : Nat} (h : NoneUp zs c n) (hn : zs.length = n) : c ∉ zs := fun hm => by
  obtain ⟨i, hi, e⟩ := List.getElem_of_mem hm
  refine h i (by omega) ?_
  rw [List.getD_eq_getElem?_getD, List.getElem?_eq_getElem hi, Option.getD_some]
  exact e
theorem mem_at {zs : List Int} {c : Int} {k n : Nat} {y : Int} (hn : zs.length = n) (hk : k < n) (hy : zs.getD k 0 = y) (e : y = c) : c ∈ zs := by
  rw [← e, ← hy]; exact getD_mem (by omega)

set_option maxHeartbeats 1000000 in
theorem s_placeIn_b (w : World) (u : Value) (zs : List Int) (c : Int) (b : Bool) (hx : IntsAt w u zs) (hb : Hid (b = true ↔ c ∈ zs)) :
    Calls Try.prog 100 #[u, .int .i64 c] w fun e w' => ∃ r : Int, e = .returned (.int .i64 r) ∧ w = w' ∧ (b = true → 0 ≤ r) ∧ (b = false → r < 0) := by
  obtain ⟨a, cp, rfl, x1, x2, x3⟩ := hx
  obtain ⟨n, hn⟩ : ∃ n, zs.length = n := ⟨_, rfl⟩
  rw [hn] at x1 x3 ⊢
  have HN := Lib.hid hn
  clear hn
  go_enter Try.func100, Try.ntmps100
  go_wp2
  go_loop [5] (fun i => ∃ k : Nat, k ≤ n ∧ i = .int .i64 k ∧ NoneUp zs c k) (fun i => n - (intOf i).toNat)
  case atStart => exact ⟨0, Nat.zero_le _, rfl, NoneUp.zero _ _⟩
  case round =>
    obtain ⟨k, hk, rfl, hs⟩ := hrel
    by_cases hlt : k < n
    · rcases x3 with rfl | ⟨g, off, rfl, x3⟩
      · exact absurd HN.out (by simp; omega)
      have cx := x3 k hlt
      obtain ⟨y, hy⟩ : ∃ y, zs.getD k 0 = y := ⟨_, rfl⟩
      rw [hy] at cx
      have HY := Lib.hid hy
      clear hy x3
      by_cases e : y = c
      · have e1 : (y == c) = true := by simpa using e
        have HF : Hid (b = true) := hb.out.2 (mem_at HN.out hlt HY.out e)
        clear e
        go_wp2
        go_ret
        exact ⟨k, rfl, rfl, fun _ => by omega, fun h => by rw [HF.out] at h; simp at h⟩
      · have e1 : (y == c) = false := by simpa using e
        have hs' := keptL (hs.succ (by rw [HY.out]; exact e))
        clear e hs
        go_wp2
        go_round
        case rel => exact ⟨k + 1, by omega, by go_num, hs'.out⟩
        case measure => simp [intOf]; omega
    · obtain rfl : k = n := by omega
      have HF : Hid (b = false) := by
        show b = false
        cases b
        · rfl
        · exact absurd (hb.out.1 rfl) (hs.all HN.out)
      clear hs
      go_wp2
      go_ret
      exact ⟨-1, rfl, rfl, fun h => by rw [HF.out] at h; simp at h, fun _ => by omega⟩
theorem s_placeIn_yes (w : World) (u : Value) (zs : List Int) (c : Int) (hx : IntsAt w u zs) (hc : Hid (c ∈ zs)) :
    Calls Try.prog 100 #[u, .int .i64 c] w fun e w' => ∃ r : Int, e = .returned (.int .i64 r) ∧ w = w' ∧ 0 ≤ r :=
  (s_placeIn_b w u zs c true hx (show _ ↔ _ from ⟨fun _ => hc.out, fun _ => rfl⟩)).mono fun _ _ ⟨r, h1, h2, h3, _⟩ => ⟨r, h1, h2, h3 rfl⟩
theorem s_placeIn_no (w : World) (u : Value) (zs : List Int) (c : Int) (hx : IntsAt w u zs) (hc : Hid (c ∉ zs)) :
    Calls Try.prog 100 #[u, .int .i64 c] w fun e w' => ∃ r : Int, e = .returned (.int .i64 r) ∧ w = w' ∧ r < 0 :=
  (s_placeIn_b w u zs c false hx (show _ ↔ _ from ⟨fun h => by simp at h, fun h => absurd h hc.out⟩)).mono fun _ _ ⟨r, h1, h2, _, h4⟩ => ⟨r, h1, h2, h4 rfl⟩
theorem i_ValidCells_b (w : World) (u : Value) (zs : List Int) (b : Bool) (hx : IntsAt w u zs) (hb : Hid (decide (ValidL zs) = b)) :
    Calls Try.prog 20 #[u] w fun e w' => e = .returned (.bool b) ∧ w = w' := by
  have := i_ValidCells w u zs hx
  rw [hb.out] at this
  exact this
theorem s_validCells_b (w : World) (u : Value) (zs : List Int) (b : Bool) (hx : IntsAt w u zs) (hb : Hid (decide (ValidL zs) = b)) :
    Calls Try.prog 67 #[u] w fun e w' => e = .returned (.bool b) ∧ w = w' := by
  have := s_validCells w u zs hx
  rw [hb.out] at this
  exact this
theorem inB {b : Bool} {p : Prop} (h : b = true ↔ p) (k : ¬ p) : b = false := by
  cases b
  · rfl
  · exact absurd (h.1 rfl) k
end Go.Proofs.Ytfgnckafpnobhaa
