
/- The draws of lists of cells. -/
import Derived.Test.YtekchmbbafjmmaaDrC
import Derived.Test.YtekchmbbafjmmaaOwnS
namespace Go.Proofs.Ytekchmbbafjmmaa
open Go.RowKit

theorem RD.over {w w' : World} {B R L p S : Nat} {row : Option Nat} (h : RD w B R L p) (hg : w.grownBy w' row) (hr : ∀ k, row = some k → S ≤ k) (hRS : R < S) : RD w' B R L p :=
  h.of_same (fun k hk => hg.block k (by have := h.lt; obtain ⟨_, _, _, h3, _⟩ := h; omega) (fun e => by have := hr k e.symm; obtain ⟨_, _, _, h3, _⟩ := h; omega))
    (hg.block R h.lt (fun e => by have := hr R e.symm; omega))
theorem OwnInts.overR {w w' : World} {S R : Nat} {v : Value} {zs : List Int} (h : OwnInts w S v zs) (hg : w.grownBy w' (some R)) (hRS : R < S) : OwnInts w' S v zs :=
  h.kept hg (by
    cases hv : v.ownBlock with
    | none => exact .inl rfl
    | some k => refine .inr fun e => ?_; injection e with e; have := (h.lt k hv).1; omega)
theorem grown_own {a b c : World} {row row' : Option Nat} (h : a.grownBy b row) (k : b.grownBy c row') (hr : ∀ q, row' = some q → a.heap.size ≤ q) : a.grownBy c row :=
  ⟨k.os.trans h.os, k.tape.trans h.tape, k.output.trans h.output, Nat.le_trans h.size k.size, fun i hi hne => (k.block i (Nat.lt_of_lt_of_le hi h.size) (fun e => by have := hr i e.symm; omega)).trans (h.block i hi hne)⟩
def Between (lo hi : Int) (zs : List Int) : Prop := ∀ z ∈ zs, lo ≤ z ∧ z ≤ hi
theorem Between.nil (lo hi : Int) : Between lo hi [] := fun z h => absurd h (by simp)
theorem Between.snoc {lo hi : Int} {zs : List Int} {z : Int} (h : Between lo hi zs) (h0 : lo ≤ z) (h1 : z ≤ hi) : Between lo hi (zs ++ [z]) := fun y hy => by
  rcases List.mem_append.1 hy with hy | hy
  · exact h y hy
  · obtain rfl : y = z := by simpa using hy
    exact ⟨h0, h1⟩
theorem Between.wide {lo hi lo' hi' : Int} {zs : List Int} (h : Between lo hi zs) (h0 : lo' ≤ lo) (h1 : hi ≤ hi') : Between lo' hi' zs := fun z hz => by have := h z hz; omega
theorem Between.fits {lo hi : Int} {zs : List Int} (h : Between lo hi zs) (h0 : -9223372036854775808 ≤ lo) (h1 : hi ≤ 9223372036854775807) : Fits zs := fun z hz => by have := h z hz; omega
theorem Between.set {lo hi : Int} {zs : List Int} {z : Int} (h : Between lo hi zs) (h0 : lo ≤ z) (h1 : z ≤ hi) (k : Nat) : Between lo hi (zs.set k z) := fun y hy => by
  rcases List.mem_or_eq_of_mem_set hy with hy | rfl
  · exact h y hy
  · exact ⟨h0, h1⟩
/-- behind the append of one number: what is owned, the reader, and what has turned -/
theorem snoc_step {w wr w' : World} {B R L p : Nat} {v v' : Value} {zs : List Int} {z : Int} {o : Obj}
    (hRS : R < w.heap.size) (ho : OwnInts wr w.heap.size v zs) (hrd : RD wr B R L p) (hg : w.grownBy wr (some R))
    (ho' : w'.ownsRow w.heap.size 3 1 v' (zs.length + 1) (ints zs ++ [.int .i64 z])) (hgr : (wr.alloc o).grownBy w' v.ownBlock) :
    OwnInts w' w.heap.size v' (zs ++ [z]) ∧ RD w' B R L p ∧ w.grownBy w' (some R) :=
  ⟨OwnInts.snoc ho', (hrd.alloc o).over hgr (fun k hk => (ho.lt k hk).1) hRS, grown_own (grown_own hg (World.grownBy_alloc wr o none) (by simp)) hgr (fun k hk => (ho.lt k hk).1)⟩

theorem grown_store (w : World) (g k : Nat) (u : Value) : w.grownBy (w.setCell ⟨g, k, none⟩ u) (some g) :=
  ⟨rfl, rfl, rfl, by simp [World.setCell], fun i _ hne => heap_setCell_other w ⟨g, k, none⟩ i u (by simp at hne ⊢; exact hne)⟩
def CellsDrawn (lo hi : Int) (most more : Nat) (w : World) (B R L p : Nat) (e : Ending) (w' : World) : Prop :=
  ∃ v zs p', e = .returned v ∧ OwnInts w' w.heap.size v zs ∧ Between lo hi zs ∧ zs.length ≤ most ∧ RD w' B R L p' ∧ p' ≤ p + more ∧ w.grownBy w' (some R) ∧ ∃ a n c, v = .slice a n c
theorem OwnInts.isSlice {w : World} {base : Nat} {v : Value} {zs : List Int} (h : OwnInts w base v zs) : ∃ a n c, v = .slice a n c := by
  rcases h.2 with ⟨h, _⟩ | ⟨g, cap, _, h, _⟩ <;> exact ⟨_, _, _, h⟩

set_option maxHeartbeats 1000000 in
theorem someCells_any (w : World) (B R L p most : Nat) (h : RD w B R L p) (hp : p ≤ 10000000000) (hm : most ≤ 1000) :
    Calls Try.prog 71 #[.pointer (some ⟨R, 0, none⟩), .int .i64 most] w fun e w' => CellsDrawn 0 63 most (1 + 3 * most) w B R L p e w' := by
  obtain ⟨i0, hi, hz0, hz1, hz2⟩ := info_parts infoInt
  have hR := h.lt
  go_enter Try.func71, Try.ntmps71
  go_wp2_with fail
  refine (pick_any _ B R L p _ (h.alloc _) (by omega) (by omega) (by omega)).mono ?_
  rintro e w1 ⟨k1, rfl, hk1, hrd1, hgr1⟩
  have ho0 : OwnInts w1 w.heap.size (.slice (some ⟨w.heap.size, 0, none⟩) 0 0) [] := (OwnInts.made w w.heap.size (Nat.le_refl _)).overR hgr1 hR
  have hg0 : w.grownBy w1 (some R) := grown_trans (World.grownBy_alloc w _ _) hgr1
  clear hgr1 h
  go_wp2_with fail
  go_loopw [5, 6] (fun v i wr => ∃ (k : Nat) (zs : List Int) (q : Nat), i = .int .i64 k ∧ k + zs.length ≤ most ∧ OwnInts wr w.heap.size v zs ∧ Between 0 63 zs ∧ RD wr B R L q ∧ q ≤ p + 1 + 3 * zs.length ∧ w.grownBy wr (some R)) (fun _ i _ => (intOf i).toNat)
  case atStart => exact ⟨k1, [], p + 1, rfl, by simp; omega, ho0, Between.nil _ _, hrd1, by simp, hg0⟩
  case round =>
    clear ho0 hg0 hrd1
    obtain ⟨k, zs, q, rfl, hk, hown, hbt, hrd, hq, hg⟩ := hrel
    have hsz := hg.size
    by_cases hlt : 0 < k
    · go_wp2_with fail
      refine (pick_any _ B R L q _ hrd (by omega) (by omega) (by omega)).mono ?_
      rintro e w2 ⟨k2, rfl, hk2, hrd2, hgr2⟩
      go_wp2_with fail
      refine (pick_any _ B R L (q + 1) _ hrd2 (by omega) (by omega) (by omega)).mono ?_
      rintro e w3 ⟨k3, rfl, hk3, hrd3, hgr3⟩
      go_wp2_with fail
      have hlt3 := hrd3.lt
      refine (one_any _ B R L (q + 2) w3.heap.size 10 10 [k2, 1, 3, 9, 0, 60, 32, k3, 17, 4] (hrd3.alloc _) (heap_alloc_new w3 _) (by omega) (Lib.hid rfl) (by omega) (by omega) (by omega)).mono ?_
      rintro e w4 ⟨z, rfl, hz, hrd4, hgr4⟩
      have hz' : 0 ≤ z ∧ z ≤ 63 := by simp at hz; omega
      have hgx : wr.grownBy w4 (some R) := grown_trans (grown_trans hgr2 hgr3) (grown_trans (World.grownBy_alloc w3 _ _) hgr4)
      have hown4 := hown.overR hgx hR
      have hg4 := grown_trans hg hgx
      have hsz4 := hg4.size
      clear hz hgr2 hgr3 hgr4 hrd hrd2 hrd3 hown hgx hg
      go_wp2_with (at_builtin; refine wpList_append_own _ rfl _ _ 28 rfl w.heap.size 3 i0 (.int .i64 0) 1 8 Try.underlying28 hi hz0 hz1 hz2 rfl (by decide) _ _ _ rfl (hown4.alloc _) ⟨w4.heap.size, 0, none⟩ 1 1 [.int .i64 z] rfl rfl new_one one_cell (by unfold maxLen; omega) (by omega) (by simp; omega) ?_)
      intro v' w5 hown' hgrow _
      obtain ⟨R1, R2, R3⟩ := snoc_step hR hown4 hrd4 hg4 hown' hgrow
      clear hown' hgrow hown4 hrd4 hg4
      go_wp2
      go_roundw
      case rel => exact ⟨k - 1, zs ++ [z], q + 3, by go_num, by simp; omega, R1, hbt.snoc hz'.1 hz'.2, R2, by simp; omega, R3⟩
      case measure => simp [intOf]; omega
    · go_wp2
      go_ret
      exact ⟨_, zs, q, rfl, hown, hbt, by omega, hrd, by omega, hg, hown.isSlice⟩

set_option maxHeartbeats 1000000 in
theorem anyCells_any (w : World) (B R L p most : Nat) (h : RD w B R L p) (hp : p ≤ 1000000000) (hm : most ≤ 1000) :
    Calls Try.prog 56 #[.pointer (some ⟨R, 0, none⟩), .int .i64 most] w fun e w' => CellsDrawn (-1) 1000 most (4 + 3 * most) w B R L p e w' := by
  have hR := h.lt
  go_enter Try.func56, Try.ntmps56
  go_wp2_with fail
  refine (someCells_any _ B R L p most h (by omega) hm).mono ?_
  rintro e w1 ⟨v, zs, q, rfl, hown, hbt, hl, hrd, hq, hg, a, n, c, rfl⟩
  have hbt : Between (-1) 1000 zs := hbt.wide (by omega) (by omega)
  have hn : Hid (zs.length = n) := by obtain ⟨_, _, hs, _⟩ := hown.at; injection hs with _ h2; exact h2.symm
  have hnl : n ≤ most := by have := hn.out; omega
  by_cases h0 : 0 < n
  · have hsh : ∃ g, a = some ⟨g, 0, none⟩ := by
      obtain ⟨g, cap, hs, _⟩ := hown.shape (by have := hn.out; omega)
      injection hs with h1
      exact ⟨g, h1⟩
    obtain ⟨g, rfl⟩ := hsh
    go_wp2_with fail
    refine (pick_any _ B R L q _ hrd (by omega) (by omega) (by omega)).mono ?_
    rintro e w2 ⟨k2, rfl, hk2, hrd2, hgr2⟩
    have hown2 := hown.overR hgr2 hR
    have hg2 := grown_trans hg hgr2
    clear hown hg hrd hgr2
    by_cases hk0 : k2 = 0
    · subst hk0
      go_wp2_with fail
      refine (pick_any _ B R L (q + 1) _ hrd2 (by omega) (by omega) (by omega)).mono ?_
      rintro e w3 ⟨k3, rfl, hk3, hrd3, hgr3⟩
      go_wp2_with fail
      have hlt3 := hrd3.lt
      refine (one_any _ B R L (q + 2) w3.heap.size 3 3 [-1, 64, 1000] (hrd3.alloc _) (heap_alloc_new w3 _) (by omega) (Lib.hid rfl) (by omega) (by omega) (by omega)).mono ?_
      rintro e w4 ⟨z, rfl, hz, hrd4, hgr4⟩
      have hz' : -1 ≤ z ∧ z ≤ 1000 := by simp at hz; omega
      have hgx : w2.grownBy w4 (some R) := grown_trans hgr3 (grown_trans (World.grownBy_alloc w3 _ _) hgr4)
      have hown4 := hown2.overR hgx hR
      have hg4 := grown_trans hg2 hgx
      have hk3' : k3 < n := by omega
      have hcell := hown4.cell hn.out hk3'
      have hfree := hown4.free hn.out k3
      have hown5 := hown4.store hn.out k3 z
      have hgg : w.heap.size ≤ g := (hown4.lt g rfl).1
      have hg5 := grown_own hg4 (grown_store w4 g k3 (.int .i64 z)) (by intro q hq; injection hq with hq; omega)
      have hrd5 := hrd4.over (S := w.heap.size) (grown_store w4 g k3 (.int .i64 z)) (by intro q hq; injection hq with hq; omega) hR
      clear hz hgr3 hgr4 hrd2 hrd3 hown2 hgx hg2 hown4 hg4 hrd4
      go_wp2
      go_ret
      exact ⟨_, zs.set k3 z, q + 3, rfl, hown5, hbt.set hz'.1 hz'.2 k3, by simp; omega, hrd5, by omega, hg5, _, _, _, rfl⟩
    · have e1 : ((k2 : Int) == 0) = false := by simp; omega
      go_wp2
      go_ret
      exact ⟨_, zs, q + 1, rfl, hown2, hbt, hl, hrd2, by omega, hg2, _, _, _, rfl⟩
  · obtain rfl : n = 0 := by omega
    go_wp2
    go_ret
    exact ⟨_, zs, q, rfl, hown, hbt, hl, hrd, by omega, hg, _, _, _, rfl⟩
end Go.Proofs.Ytekchmbbafjmmaa
