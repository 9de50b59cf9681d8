
/- Whether a cell is in a list; one word; one line. -/
import Derived.Test.YtnbppackijjohaaLa
import Derived.Test.YtnbppackijjohaaRdB
namespace Go.Proofs.Ytnbppackijjohaa
open Go.RowKit

def NoneUp (zs : List Int) (c : Int) (k : Nat) : Prop := ∀ i, i < k → zs.getD i 0 ≠ c
theorem NoneUp.zero (zs : List Int) (c : Int) : NoneUp zs c 0 := fun i h => absurd h (by omega)
theorem NoneUp.succ {zs : List Int} {c : Int} {k : Nat} (h : NoneUp zs c k) (e : zs.getD k 0 ≠ c) : NoneUp zs c (k + 1) := fun i hi => by
  by_cases hik : i = k
  · subst hik; exact e
  · exact h i (by omega)
theorem NoneUp.all {zs : List Int} {c : Int} {n : Nat} (h : NoneUp zs c n) (hn : zs.length = n) : c ∉ zs := fun hm => by
  obtain ⟨i, hi, e⟩ := List.getElem_of_mem hm
  refine h i (by omega) ?_
  rw [List.getD_eq_getElem?_getD, List.getElem?_eq_getElem hi, Option.getD_some]
  exact e
theorem mem_at {zs : List Int} {c : Int} {k n : Nat} {y : Int} (hn : zs.length = n) (hk : k < n) (hy : zs.getD k 0 = y) (e : y = c) : c ∈ zs := by
  rw [← e, ← hy]; exact getD_mem (by omega)

set_option maxHeartbeats 1000000 in
theorem i_hasCell_b (w : World) (u : Value) (zs : List Int) (c : Int) (b : Bool) (hx : IntsAt w u zs) (hb : Hid (b = true ↔ c ∈ zs)) :
    Calls Try.prog 68 #[u, .int .i64 c] w fun e w' => e = .returned (.bool b) ∧ w = w' := by
  obtain ⟨a, cp, rfl, x1, x2, x3⟩ := hx
  obtain ⟨n, hn⟩ : ∃ n, zs.length = n := ⟨_, rfl⟩
  rw [hn] at x1 x3 ⊢
  have HN := Lib.hid hn
  clear hn
  go_enter Try.func68, Try.ntmps68
  go_wp2
  go_loop [9] (fun i => ∃ k : Nat, k ≤ n ∧ i = .int .i64 k ∧ NoneUp zs c k) (fun i => n - (intOf i).toNat)
  case atStart => exact ⟨0, Nat.zero_le _, rfl, NoneUp.zero _ _⟩
  case round =>
    obtain ⟨k, hk, rfl, hs⟩ := hrel
    by_cases hlt : k < n
    · rcases x3 with rfl | ⟨g, off, rfl, x3⟩
      · exact absurd HN.out (by simp; omega)
      have cx := x3 k hlt
      obtain ⟨y, hy⟩ : ∃ y, zs.getD k 0 = y := ⟨_, rfl⟩
      rw [hy] at cx
      have HY := Lib.hid hy
      clear hy x3
      by_cases e : y = c
      · have e1 : (y == c) = true := by simpa using e
        have HF : Hid (b = true) := hb.out.2 (mem_at HN.out hlt HY.out e)
        clear e
        go_wp2
        go_ret
        exact ⟨by rw [HF.out]; rfl, rfl⟩
      · have e1 : (y == c) = false := by simpa using e
        have hs' := keptL (hs.succ (by rw [HY.out]; exact e))
        clear e hs
        go_wp2
        go_round
        case rel => exact ⟨k + 1, by omega, by go_num, hs'.out⟩
        case measure => simp [intOf]; omega
    · obtain rfl : k = n := by omega
      have HF : Hid (b = false) := by
        show b = false
        cases b
        · rfl
        · exact absurd (hb.out.1 rfl) (hs.all HN.out)
      clear hs
      go_wp2
      go_ret
      exact ⟨by rw [HF.out]; rfl, rfl⟩
set_option maxHeartbeats 1000000 in
theorem s_placeIn_b (w : World) (u : Value) (zs : List Int) (c : Int) (b : Bool) (hx : IntsAt w u zs) (hb : Hid (b = true ↔ c ∈ zs)) :
    Calls Try.prog 64 #[u, .int .i64 c] w fun e w' => ∃ r : Int, e = .returned (.int .i64 r) ∧ w = w' ∧ (b = true → 0 ≤ r) ∧ (b = false → r < 0) := by
  obtain ⟨a, cp, rfl, x1, x2, x3⟩ := hx
  obtain ⟨n, hn⟩ : ∃ n, zs.length = n := ⟨_, rfl⟩
  rw [hn] at x1 x3 ⊢
  have HN := Lib.hid hn
  clear hn
  go_enter Try.func64, Try.ntmps64
  go_wp2
  go_loop [5] (fun i => ∃ k : Nat, k ≤ n ∧ i = .int .i64 k ∧ NoneUp zs c k) (fun i => n - (intOf i).toNat)
  case atStart => exact ⟨0, Nat.zero_le _, rfl, NoneUp.zero _ _⟩
  case round =>
    obtain ⟨k, hk, rfl, hs⟩ := hrel
    by_cases hlt : k < n
    · rcases x3 with rfl | ⟨g, off, rfl, x3⟩
      · exact absurd HN.out (by simp; omega)
      have cx := x3 k hlt
      obtain ⟨y, hy⟩ : ∃ y, zs.getD k 0 = y := ⟨_, rfl⟩
      rw [hy] at cx
      have HY := Lib.hid hy
      clear hy x3
      by_cases e : y = c
      · have e1 : (y == c) = true := by simpa using e
        have HF : Hid (b = true) := hb.out.2 (mem_at HN.out hlt HY.out e)
        clear e
        go_wp2
        go_ret
        exact ⟨k, rfl, rfl, fun _ => by omega, fun h => by rw [HF.out] at h; simp at h⟩
      · have e1 : (y == c) = false := by simpa using e
        have hs' := keptL (hs.succ (by rw [HY.out]; exact e))
        clear e hs
        go_wp2
        go_round
        case rel => exact ⟨k + 1, by omega, by go_num, hs'.out⟩
        case measure => simp [intOf]; omega
    · obtain rfl : k = n := by omega
      have HF : Hid (b = false) := by
        show b = false
        cases b
        · rfl
        · exact absurd (hb.out.1 rfl) (hs.all HN.out)
      clear hs
      go_wp2
      go_ret
      exact ⟨-1, rfl, rfl, fun h => by rw [HF.out] at h; simp at h, fun _ => by omega⟩
theorem s_placeIn_yes (w : World) (u : Value) (zs : List Int) (c : Int) (hx : IntsAt w u zs) (hc : Hid (c ∈ zs)) :
    Calls Try.prog 64 #[u, .int .i64 c] w fun e w' => ∃ r : Int, e = .returned (.int .i64 r) ∧ w = w' ∧ 0 ≤ r :=
  (s_placeIn_b w u zs c true hx (show _ ↔ _ from ⟨fun _ => hc.out, fun _ => rfl⟩)).mono fun _ _ ⟨r, h1, h2, h3, _⟩ => ⟨r, h1, h2, h3 rfl⟩
theorem s_placeIn_no (w : World) (u : Value) (zs : List Int) (c : Int) (hx : IntsAt w u zs) (hc : Hid (c ∉ zs)) :
    Calls Try.prog 64 #[u, .int .i64 c] w fun e w' => ∃ r : Int, e = .returned (.int .i64 r) ∧ w = w' ∧ r < 0 :=
  (s_placeIn_b w u zs c false hx (show _ ↔ _ from ⟨fun h => by simp at h, fun h => absurd h hc.out⟩)).mono fun _ _ ⟨r, h1, h2, _, h4⟩ => ⟨r, h1, h2, h4 rfl⟩
theorem i_ValidCells_b (w : World) (u : Value) (zs : List Int) (b : Bool) (hx : IntsAt w u zs) (hb : Hid (decide (ValidL zs) = b)) :
    Calls Try.prog 65 #[u] w fun e w' => e = .returned (.bool b) ∧ w = w' := by
  have := i_ValidCells w u zs hx
  rw [hb.out] at this
  exact this
theorem s_validCells_b (w : World) (u : Value) (zs : List Int) (b : Bool) (hx : IntsAt w u zs) (hb : Hid (decide (ValidL zs) = b)) :
    Calls Try.prog 62 #[u] w fun e w' => e = .returned (.bool b) ∧ w = w' := by
  have := s_validCells w u zs hx
  rw [hb.out] at this
  exact this
theorem inB {b : Bool} {p : Prop} (h : b = true ↔ p) (k : ¬ p) : b = false := by
  cases b
  · rfl
  · exact absurd (h.1 rfl) k
set_option maxHeartbeats 1000000 in
theorem i_isItem_b (w : World) (u : Value) (zs : List Int) (m : Int) (b : Bool) (hx : IntsAt w u zs) (hb : Hid (b = true ↔ ItemW m zs)) :
    Calls Try.prog 60 #[u, .int .i64 m] w fun e w' => e = .returned (.bool b) ∧ w = w' := by
  have HX := keptL hx
  obtain ⟨a, cp, rfl, x1, x2, x3⟩ := hx
  obtain ⟨n, hn⟩ : ∃ n, zs.length = n := ⟨_, rfl⟩
  rw [hn] at x1 HX ⊢
  have HN := Lib.hid hn
  clear hn x3
  by_cases h1 : 1 ≤ n
  · by_cases h2 : (n : Int) ≤ m
    · have d2 : decide ((n : Int) ≤ m) = true := decide_eq_true h2
      by_cases h3 : ValidL zs
      · have H3 : Hid (decide (ValidL zs) = true) := decide_eq_true h3
        obtain ⟨q, hq⟩ := boolOf ((0 : Int) ∈ zs)
        have HQ : Hid (q = true ↔ (0 : Int) ∈ zs) := hq
        have HF : Hid (b = !q) := by
          show b = !q
          cases q
          · exact hb.out.2 ⟨by rw [HN.out]; exact h1, by rw [HN.out]; exact h2, h3, fun h => by have := hq.2 h; simp at this⟩
          · exact inB hb.out fun h => h.2.2.2 (hq.1 rfl)
        clear hq h3 h2
        go_enter Try.func60, Try.ntmps60
        go_wp2_with (first | (go_at_call 65; refine (i_ValidCells_b _ _ zs true HX.out H3).mono ?_; rintro e w2 ⟨rfl, rfl⟩) | (go_at_call 68; refine (i_hasCell_b _ _ zs 0 q HX.out HQ).mono ?_; rintro e w2 ⟨rfl, rfl⟩))
        go_ret
        exact ⟨by rw [HF.out]; rfl, rfl⟩
      · have H3 : Hid (decide (ValidL zs) = false) := decide_eq_false h3
        have HF : Hid (b = false) := inB hb.out fun h => h3 h.2.2.1
        clear h3 h2
        go_enter Try.func60, Try.ntmps60
        go_wp2_with (first | (go_at_call 65; refine (i_ValidCells_b _ _ zs false HX.out H3).mono ?_; rintro e w2 ⟨rfl, rfl⟩))
        go_ret
        exact ⟨by rw [HF.out]; rfl, rfl⟩
    · have d2 : decide ((n : Int) ≤ m) = false := decide_eq_false h2
      have HF : Hid (b = false) := inB hb.out fun h => h2 (by have := h.2.1; rw [HN.out] at this; exact this)
      clear h2
      go_enter Try.func60, Try.ntmps60
      go_wp2
      go_ret
      exact ⟨by rw [HF.out]; rfl, rfl⟩
  · have HF : Hid (b = false) := inB hb.out fun h => h1 (by have := h.1; rw [HN.out] at this; exact this)
    obtain rfl : n = 0 := by omega
    go_enter Try.func60, Try.ntmps60
    go_wp2
    go_ret
    exact ⟨by rw [HF.out]; rfl, rfl⟩
end Go.Proofs.Ytnbppackijjohaa
