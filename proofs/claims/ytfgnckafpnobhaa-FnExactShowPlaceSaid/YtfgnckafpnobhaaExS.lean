
/- The exact laws' own functions on slices of integers: a copy, marks, and whether the marks are held. -/
import Derived.Test.YtfgnckafpnobhaaOwnS
namespace Go.Proofs.Ytfgnckafpnobhaa
open Go.RowKit

theorem made_ints (n : Nat) : (madeCells #[Value.int .i64 0] n).toList = ints (List.replicate n 0) := by
  rw [toList_madeCells_one]
  simp [ints]
/-- the first k numbers of zs, and noughts behind them -/
def copied (zs : List Int) (n k : Nat) : List Int := zs.take k ++ List.replicate (n - k) 0
theorem copied_zero (zs : List Int) (n : Nat) : copied zs n 0 = List.replicate n 0 := by simp [copied]
theorem copied_all (zs : List Int) (n : Nat) (h : zs.length = n) : copied zs n n = zs := by simp [copied, ← h]
theorem copied_length (zs : List Int) (n k : Nat) (h : zs.length = n) (hk : k ≤ n) : (copied zs n k).length = n := by simp [copied]; omega
theorem copied_set (zs : List Int) (n k : Nat) (h : zs.length = n) (hk : k < n) : (copied zs n k).set k (zs.getD k 0) = copied zs n (k + 1) := by
  unfold copied
  apply List.ext_getElem?
  intro i
  have h1 : (zs.take k).length = k := by simp; omega
  have h2 : (zs.take (k + 1)).length = k + 1 := by simp; omega
  rw [List.getElem?_set]
  by_cases hik : k = i
  · subst hik
    rw [if_pos rfl, if_pos (by simp; omega), List.getElem?_append_left (by omega), List.getElem?_take, if_pos (by omega)]
    simp [List.getD_eq_getElem?_getD, h, hk]
  · rw [if_neg hik]
    by_cases hlt : i < k
    · rw [List.getElem?_append_left (by omega), List.getElem?_append_left (by omega), List.getElem?_take, List.getElem?_take, if_pos hlt, if_pos (by omega)]
    · rw [List.getElem?_append_right (by omega), List.getElem?_append_right (by omega), h1, h2, List.getElem?_replicate, List.getElem?_replicate]
      congr 1
      simp; omega
/-- the numbers from s on, n of them -/
def countUp (s : Int) (n : Nat) : List Int := (List.range n).map (fun i : Nat => s + (i : Int))
theorem countUp_length (s : Int) (n : Nat) : (countUp s n).length = n := by simp [countUp]
theorem countUp_getD (s : Int) (n k : Nat) (h : k < n) : (countUp s n).getD k 0 = s + k := by simp [countUp, List.getD_eq_getElem?_getD, h]
def marked (zs : List Int) (s : Int) (k : Nat) : List Int := countUp s k ++ zs.drop k
theorem marked_zero (zs : List Int) (s : Int) : marked zs s 0 = zs := by simp [marked, countUp]
theorem marked_all (zs : List Int) (s : Int) : marked zs s zs.length = countUp s zs.length := by simp [marked]
theorem marked_length (zs : List Int) (s : Int) (k : Nat) (hk : k ≤ zs.length) : (marked zs s k).length = zs.length := by simp [marked, countUp_length]; omega
theorem marked_set (zs : List Int) (s : Int) (k : Nat) (hk : k < zs.length) : (marked zs s k).set k (s + k) = marked zs s (k + 1) := by
  unfold marked
  apply List.ext_getElem?
  intro i
  rw [List.getElem?_set]
  by_cases hik : k = i
  · subst hik
    rw [if_pos rfl, if_pos (by simp [countUp_length]; omega), List.getElem?_append_left (by simp [countUp_length])]
    simp [countUp]
  · rw [if_neg hik]
    by_cases hlt : i < k
    · rw [List.getElem?_append_left (by simp [countUp_length]; omega), List.getElem?_append_left (by simp [countUp_length]; omega)]
      simp [countUp, hlt, show i < k + 1 by omega]
    · rw [List.getElem?_append_right (by simp [countUp_length]; omega), List.getElem?_append_right (by simp [countUp_length]; omega), countUp_length, countUp_length, List.getElem?_drop, List.getElem?_drop]
      congr 1
      omega
set_option maxHeartbeats 1000000 in
theorem toIntS_any (w : World) (u : Value) (zs : List Int) (hx : IntsAt w u zs) (hl : zs.length ≤ 1048576) :
    Calls Try.prog 62 #[u] w fun e w' => ∃ v, e = .returned v ∧ OwnInts w' w.heap.size v zs ∧ Below w.heap.size w w' ∧ ∃ g, v = .slice (some ⟨g, 0, none⟩) zs.length zs.length := by
  obtain ⟨i0, hi, hz0, hz1, hz2⟩ := info_parts infoInt
  obtain ⟨a, c, rfl, x1, x2, x3⟩ := hx
  obtain ⟨n, hn⟩ : ∃ n, zs.length = n := ⟨_, rfl⟩
  rw [hn] at x1 x3 hl ⊢
  have HN := Lib.hid hn
  clear hn
  go_enter Try.func62, Try.ntmps62
  go_wp2_with (at_make; refine wpList_make_full _ rfl _ _ 23 rfl w.heap.size 3 i0 (.int .i64 0) 1 Try.underlying23 hi hz0 hz1 .i64 .i64 n n n rfl rfl rfl rfl (by rw [hz2]; omega) (by unfold maxLen; omega) (Nat.le_refl _) ?_)
  intro w1 hown hgr
  rw [made_ints] at hown
  have hB1 : Below w.heap.size w w1 := ⟨hgr.os, hgr.tape, hgr.output, hgr.size, fun k hk => hgr.block k hk (by simp)⟩
  have hO1 : OwnInts w1 w.heap.size (.slice (some ⟨w.heap.size, 0, none⟩) n n) (copied zs n 0) := by
    rw [copied_zero]; unfold OwnInts; rw [List.length_replicate]; exact hown
  clear hown hgr
  go_wp2
  go_loopw [4] (fun i wr => ∃ k : Nat, k ≤ n ∧ i = .int .i64 k ∧ OwnInts wr w.heap.size (.slice (some ⟨w.heap.size, 0, none⟩) n n) (copied zs n k) ∧ Below w.heap.size w wr) (fun i _ => n - (intOf i).toNat)
  case atStart => exact ⟨0, Nat.zero_le _, rfl, hO1, hB1⟩
  case round =>
    clear hO1 hB1
    obtain ⟨k, hk, rfl, hO, hB⟩ := hrel
    by_cases hlt : k < n
    · rcases x3 with rfl | ⟨g, off, rfl, x3⟩
      · exact absurd HN.out (by simp; omega)
      have cx := (hB.cell (World.block_lt_of_cell? w _ (x3 k hlt))).trans (x3 k hlt)
      obtain ⟨y, hy⟩ : ∃ y, zs.getD k 0 = y := ⟨_, rfl⟩
      rw [hy] at cx
      have HY := Lib.hid hy
      have hO2 := hO.store (copied_length zs n k HN.out hk) k y
      rw [← hy, copied_set zs n k HN.out hlt, hy] at hO2
      have hB2 := hB.setCell (p := ⟨w.heap.size, k, none⟩) (Nat.le_refl _) (.int .i64 y)
      have hc := hO.cell (copied_length zs n k HN.out hk) hlt
      have hf := hO.free (copied_length zs n k HN.out hk) k
      clear hy x3 hO hB
      go_wp2
      go_roundw
      case rel => exact ⟨k + 1, by omega, by go_num, hO2, hB2⟩
      case measure => simp [intOf]; omega
    · go_wp2
      go_ret
      obtain rfl : k = n := by omega
      rw [copied_all zs k HN.out] at hO
      exact ⟨_, rfl, hO, hB, _, rfl⟩

set_option maxHeartbeats 1000000 in
theorem markIntS_any (w : World) (base : Nat) (v : Value) (zs : List Int) (s : Int) (hx : OwnInts w base v zs) (hs : ∃ a n c, v = .slice a n c) (h0 : 0 ≤ s) (h1 : s ≤ 1000000000000000000) (hl : zs.length ≤ 4000000000000000000) :
    Calls Try.prog 42 #[v, .int .i64 s] w fun e w' => e = .returned (.int .i64 (s + zs.length)) ∧ OwnInts w' base v (countUp s zs.length) ∧ Below base w w' := by
  obtain ⟨n, hn⟩ : ∃ n, zs.length = n := ⟨_, rfl⟩
  by_cases hn0 : n = 0
  · subst hn0
    obtain rfl : zs = [] := List.length_eq_zero_iff.1 hn
    obtain ⟨a, c, hv, _⟩ := hx.at
    have hx' : OwnInts w base (.slice a 0 c) [] := by rw [hv] at hx; exact hx
    subst hv
    clear hs hn hx
    go_enter Try.func42, Try.ntmps42
    go_wp2
    refine wp_loop_rounds 1 ?_
    rw [rounds_succ]
    go_wp2
    go_ret
    exact ⟨by simp, hx', Below.refl _ _⟩
  · obtain ⟨g, cap, rfl, hbg⟩ := hx.shape (by omega)
    have hO0 : OwnInts w base (.slice (some ⟨g, 0, none⟩) zs.length cap) (marked zs s 0) := by rw [marked_zero]; exact hx
    clear hs hx
    rw [hn] at hl hO0 ⊢
    have HN := Lib.hid hn
    clear hn
    go_enter Try.func42, Try.ntmps42
    go_wp2
    go_loopw [1, 5] (fun m i wr => ∃ k : Nat, k ≤ n ∧ i = .int .i64 k ∧ m = .int .i64 (s + k) ∧ OwnInts wr base (.slice (some ⟨g, 0, none⟩) n cap) (marked zs s k) ∧ Below base w wr) (fun _ i _ => n - (intOf i).toNat)
    case atStart => exact ⟨0, Nat.zero_le _, rfl, by simp, hO0, Below.refl _ _⟩
    case round =>
      clear hO0
      obtain ⟨k, hk, rfl, rfl, hO, hB⟩ := hrel
      by_cases hlt : k < n
      · have hml : (marked zs s k).length = n := by rw [marked_length zs s k (by have := HN.out; omega), HN.out]
        have hO2 := hO.store hml k (s + k)
        rw [marked_set zs s k (by have := HN.out; omega)] at hO2
        have hB2 := hB.setCell (p := ⟨g, k, none⟩) hbg (.int .i64 (s + k))
        have hc := hO.cell hml hlt
        have hf := hO.free hml k
        clear hO hB hml
        go_wp2
        go_roundw
        case rel => exact ⟨k + 1, by omega, by go_num, by go_num, hO2, hB2⟩
        case measure => simp [intOf]; omega
      · go_wp2
        go_ret
        obtain rfl : k = n := by omega
        have h := HN.out
        subst h
        rw [marked_all] at hO
        exact ⟨rfl, hO, hB⟩

set_option maxHeartbeats 1000000 in
theorem heldIntS_any (w : World) (v : Value) (n : Nat) (s : Int) (hx : IntsAt w v (countUp s n)) (h0 : 0 ≤ s) (h1 : s ≤ 1000000000000000000) (hl : n ≤ 4000000000000000000) :
    Calls Try.prog 43 #[v, .int .i64 s] w fun e w' => e = .returned (.int .i64 (s + n)) ∧ w = w' := by
  obtain ⟨a, c, rfl, x1, x2, x3⟩ := hx
  rw [countUp_length] at x1 x3 ⊢
  go_enter Try.func43, Try.ntmps43
  go_wp2
  go_loop [1, 5] (fun m i => ∃ k : Nat, k ≤ n ∧ i = .int .i64 k ∧ m = .int .i64 (s + k)) (fun _ i => n - (intOf i).toNat)
  case atStart => exact ⟨0, Nat.zero_le _, rfl, by simp⟩
  case round =>
    obtain ⟨k, hk, rfl, rfl⟩ := hrel
    by_cases hlt : k < n
    · rcases x3 with x3 | ⟨g, off, rfl, x3⟩
      · exact absurd (congrArg List.length x3) (by rw [countUp_length]; simp; omega)
      have cx := x3 k hlt
      rw [countUp_getD s n k hlt] at cx
      clear x3
      go_wp2
      go_round
      case rel => exact ⟨k + 1, by omega, by go_num, by go_num⟩
      case measure => simp [intOf]; omega
    · go_wp2
      go_ret
      obtain rfl : k = n := by omega
      exact ⟨rfl, rfl⟩
end Go.Proofs.Ytfgnckafpnobhaa
