
/- Drawn notes. -/
import Derived.Test.YtfofjjfnejigaaaNta
import Derived.Test.YtfofjjfnejigaaaDrL
namespace Go.Proofs.Ytfofjjfnejigaaa
open Go.RowKit

theorem OwnNt.overR {w w' : World} {S R : Nat} {v : Value} {P : List PNote} (h : OwnNt w S v P) (hg : w.grownBy w' (some R)) (hRS : R < S) : OwnNt w' S v P :=
  World.ownsRow.kept h hg (by
    cases hv : v.ownBlock with
    | none => exact .inl rfl
    | some k => refine .inr fun e => ?_; injection e with e; have := (World.ownsRow.lt h k hv).1; omega)
/-- behind the append of a note: what is owned, the reader, and what has turned -/
theorem note_step {w wr w' : World} {B R L p : Nat} {v v' : Value} {P P' : List PNote} {o : Obj}
    (hRS : R < w.heap.size) (ho : OwnNt wr w.heap.size v P) (hrd : RD wr B R L p) (hg : w.grownBy wr (some R))
    (ho' : OwnNt w' w.heap.size v' P') (hgr : (wr.alloc o).grownBy w' v.ownBlock) :
    OwnNt w' w.heap.size v' P' ∧ RD w' B R L p ∧ w.grownBy w' (some R) :=
  ⟨ho', (hrd.alloc o).over hgr (fun k hk => (World.ownsRow.lt ho k hk).1) hRS, grown_own (grown_own hg (World.grownBy_alloc wr o none) (by simp)) hgr (fun k hk => (World.ownsRow.lt ho k hk).1)⟩
def NotesDrawn (most more : Nat) (w : World) (B R L p : Nat) (e : Ending) (w' : World) : Prop :=
  ∃ a n c P q, e = .returned (.slice a n c) ∧ OwnNt w' w.heap.size (.slice a n c) P ∧ P.length ≤ most ∧ RD w' B R L q ∧ q ≤ p + more ∧ w.grownBy w' (some R)
set_option maxHeartbeats 2000000 in
theorem someNotes_any (w : World) (B R L p : Nat) (h : RD w B R L p) (hp : p ≤ 10000000000) :
    Calls Try.prog 43 #[.pointer (some ⟨R, 0, none⟩)] w fun e w' => NotesDrawn 20 100 w B R L p e w' := by
  have hR := h.lt
  go_enter Try.func43, Try.ntmps43
  go_wp2_with fail
  refine (pick_any _ B R L p _ (h.alloc _) (by omega) (by omega) (by omega)).mono ?_
  rintro e w1 ⟨k1, rfl, hk1, hrd1, hgr1⟩
  have ho1 : OwnNt w1 w.heap.size (.slice (some ⟨w.heap.size, 0, none⟩) 0 0) [] := (OwnNt.made w w.heap.size (Nat.le_refl _)).overR hgr1 hR
  have hg1 : w.grownBy w1 (some R) := grown_trans (World.grownBy_alloc w _ _) hgr1
  have hlt1 := hrd1.lt
  clear hgr1 h
  go_wp2_with fail
  refine (one_any _ B R L (p + 1) w1.heap.size 6 6 [6, 10, 3, 1, 0, 20] (hrd1.alloc _) (heap_alloc_new w1 _) (by omega) (Lib.hid rfl) (by omega) (by omega) (by omega)).mono ?_
  rintro e w2 ⟨z, rfl, hz, hrd2, hgr2⟩
  obtain ⟨K, rfl, hK⟩ : ∃ K : Nat, z = K ∧ K ≤ 20 := by
    refine ⟨z.toNat, ?_, ?_⟩ <;> (simp at hz; omega)
  have hgx : w1.grownBy w2 (some R) := grown_trans (World.grownBy_alloc w1 _ _) hgr2
  have ho2 := ho1.overR hgx hR
  have hg2 := grown_trans hg1 hgx
  clear hgx hgr2 ho1 hg1 hrd1 hz
  go_wp2_with fail
  go_loopw [3, 4, 5] (fun v l i wr => ∃ (k : Nat) (la : Int) (P : List PNote) (q : Nat), i = .int .i64 k ∧ l = .int .i64 la ∧ 0 ≤ la ∧ la ≤ 48 ∧ k + P.length ≤ 20 ∧ OwnNt wr w.heap.size v P ∧ RD wr B R L q ∧ q ≤ p + 2 + 3 * P.length ∧ w.grownBy wr (some R)) (fun _ _ i _ => (intOf i).toNat)
  case atStart => exact ⟨K, k1, [], p + 2, rfl, rfl, by omega, by omega, by simp; omega, ho2, hrd2, by simp, hg2⟩
  case round =>
    clear ho2 hg2 hrd2
    obtain ⟨k, la, P, q, rfl, rfl, hla0, hla1, hk, hown, hrd, hq, hg⟩ := hrel
    have hsz := hg.size
    have hltR := hrd.lt
    obtain ⟨ao, no, co, hoo⟩ := hown.isSlice
    subst hoo
    by_cases hlt : 0 < k
    · go_wp2_with fail
      refine (one_any _ B R L q wr.heap.size 12 12 [0, 1, -1, 2, -2, 3, -3, 4, -4, 5, -7, 9] (hrd.alloc _) (heap_alloc_new wr _) (by omega) (Lib.hid rfl) (by omega) (by omega) (by omega)).mono ?_
      rintro e w3 ⟨z, rfl, hz, hrd3, hgr3⟩
      have hz' : -7 ≤ z ∧ z ≤ 9 := by simp at hz; omega
      have hgx : wr.grownBy w3 (some R) := grown_trans (World.grownBy_alloc wr _ _) hgr3
      have hown3 := hown.overR hgx hR
      have hg3 := grown_trans hg hgx
      have hsz3 := hg3.size
      clear hz hgr3 hrd hown hgx hg
      rcases (show la + z < 0 ∨ la + z = 0 ∨ 48 < la + z ∨ la + z = 48 ∨ (0 < la + z ∧ la + z < 48) by omega) with c1 | c1 | c1 | c1 | ⟨c1, c2⟩
      · go_wp2_with fail
        refine (pick_any _ B R L (q + 1) _ hrd3 (by omega) (by omega) (by omega)).mono ?_
        rintro e w4 ⟨k4, rfl, hk4, hrd4, hgr4⟩
        have hown4 := hown3.overR hgr4 hR
        have hg4 := grown_trans hg3 hgr4
        clear hgr4 hown3 hrd3 hg3
        go_wp2_with fail
        refine (pick_any _ B R L (q + 2) _ (hrd4.alloc _) (by omega) (by omega) (by omega)).mono ?_
        rintro e w5 ⟨k5, rfl, hk5, hrd5, hgr5⟩
        have hR4 := hrd4.lt
        have hbk : w5.heap[w4.heap.size]? = some (.cells #[.int .i64 (0), .int .i64 (k4 : Int)] 35 (0, 0)) := (hgr5.block w4.heap.size (by simp) (fun e => by injection e with e; omega)).trans (heap_alloc_new w4 (.cells #[.int .i64 (0), .int .i64 (k4 : Int)] 35))
        have c0' : w5.cell? ⟨w4.heap.size, 0, none⟩ = some (.int .i64 (0)) := by rw [cell_of_row w5 _ 0 _ _ _ hbk]; rfl
        have c1' : w5.cell? ⟨w4.heap.size, 1, none⟩ = some (.int .i64 (k4 : Int)) := by rw [cell_of_row w5 _ 1 _ _ _ hbk]; rfl
        have f0' : w5.frozen? ⟨w4.heap.size, 0, none⟩ = false := frozen_of_row w5 _ 0 _ _ hbk
        have hgx5 : w4.grownBy w5 (some R) := grown_trans (World.grownBy_alloc w4 _ _) hgr5
        have hown5 := hown4.overR hgx5 hR
        have hg5 := grown_trans hg4 hgx5
        have hs5 := hg5.size
        have hlo : Hid (∀ b, (Value.slice ao no co).ownBlock = some b → b < w4.heap.size) := fun b hb => (World.ownsRow.lt hown4 b hb).2
        have hs4 := hg4.size
        clear hbk hgr5 hgx5 hown4 hrd4 hg4
        by_cases h0 : k5 = 0
        · subst h0
          have HOW : Hid (OwnNt (w5.setCell ⟨w4.heap.size, 0, none⟩ (.int .i64 (-1))) w.heap.size (.slice ao no co) P) := hown5.of_block fun b hb => heap_setCell_other w5 ⟨w4.heap.size, 0, none⟩ b _ (by have := hlo.out b hb; simp; omega)
          have HRW := keptN (hrd5.over (S := w4.heap.size) (grown_store w5 w4.heap.size 0 (.int .i64 (-1))) (by intro q hq; injection hq with hq; omega) hR4)
          have HGW := keptN (grown_own hg5 (grown_store w5 w4.heap.size 0 (.int .i64 (-1))) (by intro q hq; injection hq with hq; omega))
          clear hown5 hrd5 hg5
          have hA2 := noteAt_alloc (w5.setCell ⟨w4.heap.size, 0, none⟩ (.int .i64 (-1))) ⟨-1, (k4 : Int)⟩
          have hsW : (w5.setCell ⟨w4.heap.size, 0, none⟩ (.int .i64 (-1))).heap.size = w5.heap.size := by simp
          rw [hsW] at hA2
          have hOA := HOW.out.below ((Below.refl _ _).alloc (Nat.le_refl _) (.cells #[.int .i64 (-1), .int .i64 (k4 : Int)] 35))
          have HA2 := keptN hA2
          have HOA := keptN hOA
          have hs9 : w.heap.size ≤ ((w5.setCell ⟨w4.heap.size, 0, none⟩ (.int .i64 (-1))).alloc (.cells #[.int .i64 (-1), .int .i64 (k4 : Int)] 35)).heap.size := by simp; omega
          have HS9 := keptN hs9
          clear hA2 hOA hsW hs9
          go_wp2_with (at_builtin; go_loud (refine wpList_append_note rfl _ _ rfl w.heap.size w5.heap.size ⟨-1, (k4 : Int)⟩ rfl rfl HOA.out HA2.out (by omega) HS9.out ?_))
          intro v7 w7 hown7 hgr7
          obtain ⟨R1, R2, R3⟩ := note_step hR HOW.out HRW.out HGW.out hown7 hgr7
          have NXT := keptN (And.intro R1 (And.intro R2 R3))
          clear hown7 hgr7 R1 R2 R3 HOA HA2 HOW HRW HGW
          go_wp2
          go_roundw
          case rel => exact ⟨k - 1, 0, P ++ [⟨-1, (k4 : Int)⟩], q + 3, by go_num, rfl, by omega, by omega, by simp; omega, NXT.out.1, NXT.out.2.1, by simp; omega, NXT.out.2.2⟩
          case measure => simp [intOf]; omega
        · have HOW := keptN hown5
          have HRW := keptN hrd5
          have HGW := keptN hg5
          clear hown5 hrd5 hg5
          have hA2 := noteAt_alloc (w5) ⟨0, (k4 : Int)⟩
          have hsW : (w5).heap.size = w5.heap.size := by simp
          rw [hsW] at hA2
          have hOA := HOW.out.below ((Below.refl _ _).alloc (Nat.le_refl _) (.cells #[.int .i64 (0), .int .i64 (k4 : Int)] 35))
          have HA2 := keptN hA2
          have HOA := keptN hOA
          have hs9 : w.heap.size ≤ ((w5).alloc (.cells #[.int .i64 (0), .int .i64 (k4 : Int)] 35)).heap.size := by simp; omega
          have HS9 := keptN hs9
          clear hA2 hOA hsW hs9
          go_wp2_with (at_builtin; go_loud (refine wpList_append_note rfl _ _ rfl w.heap.size w5.heap.size ⟨0, (k4 : Int)⟩ rfl rfl HOA.out HA2.out (by omega) HS9.out ?_))
          intro v7 w7 hown7 hgr7
          obtain ⟨R1, R2, R3⟩ := note_step hR HOW.out HRW.out HGW.out hown7 hgr7
          have NXT := keptN (And.intro R1 (And.intro R2 R3))
          clear hown7 hgr7 R1 R2 R3 HOA HA2 HOW HRW HGW
          go_wp2
          go_roundw
          case rel => exact ⟨k - 1, 0, P ++ [⟨0, (k4 : Int)⟩], q + 3, by go_num, rfl, by omega, by omega, by simp; omega, NXT.out.1, NXT.out.2.1, by simp; omega, NXT.out.2.2⟩
          case measure => simp [intOf]; omega
      · go_wp2_with fail
        refine (pick_any _ B R L (q + 1) _ hrd3 (by omega) (by omega) (by omega)).mono ?_
        rintro e w4 ⟨k4, rfl, hk4, hrd4, hgr4⟩
        have hown4 := hown3.overR hgr4 hR
        have hg4 := grown_trans hg3 hgr4
        clear hgr4 hown3 hrd3 hg3
        go_wp2_with fail
        refine (pick_any _ B R L (q + 2) _ (hrd4.alloc _) (by omega) (by omega) (by omega)).mono ?_
        rintro e w5 ⟨k5, rfl, hk5, hrd5, hgr5⟩
        have hR4 := hrd4.lt
        have hbk : w5.heap[w4.heap.size]? = some (.cells #[.int .i64 (0), .int .i64 (k4 : Int)] 35 (0, 0)) := (hgr5.block w4.heap.size (by simp) (fun e => by injection e with e; omega)).trans (heap_alloc_new w4 (.cells #[.int .i64 (0), .int .i64 (k4 : Int)] 35))
        have c0' : w5.cell? ⟨w4.heap.size, 0, none⟩ = some (.int .i64 (0)) := by rw [cell_of_row w5 _ 0 _ _ _ hbk]; rfl
        have c1' : w5.cell? ⟨w4.heap.size, 1, none⟩ = some (.int .i64 (k4 : Int)) := by rw [cell_of_row w5 _ 1 _ _ _ hbk]; rfl
        have f0' : w5.frozen? ⟨w4.heap.size, 0, none⟩ = false := frozen_of_row w5 _ 0 _ _ hbk
        have hgx5 : w4.grownBy w5 (some R) := grown_trans (World.grownBy_alloc w4 _ _) hgr5
        have hown5 := hown4.overR hgx5 hR
        have hg5 := grown_trans hg4 hgx5
        have hs5 := hg5.size
        have hlo : Hid (∀ b, (Value.slice ao no co).ownBlock = some b → b < w4.heap.size) := fun b hb => (World.ownsRow.lt hown4 b hb).2
        have hs4 := hg4.size
        clear hbk hgr5 hgx5 hown4 hrd4 hg4
        by_cases h0 : k5 = 0
        · subst h0
          have HOW : Hid (OwnNt (w5.setCell ⟨w4.heap.size, 0, none⟩ (.int .i64 (-1))) w.heap.size (.slice ao no co) P) := hown5.of_block fun b hb => heap_setCell_other w5 ⟨w4.heap.size, 0, none⟩ b _ (by have := hlo.out b hb; simp; omega)
          have HRW := keptN (hrd5.over (S := w4.heap.size) (grown_store w5 w4.heap.size 0 (.int .i64 (-1))) (by intro q hq; injection hq with hq; omega) hR4)
          have HGW := keptN (grown_own hg5 (grown_store w5 w4.heap.size 0 (.int .i64 (-1))) (by intro q hq; injection hq with hq; omega))
          clear hown5 hrd5 hg5
          have hA2 := noteAt_alloc (w5.setCell ⟨w4.heap.size, 0, none⟩ (.int .i64 (-1))) ⟨-1, (k4 : Int)⟩
          have hsW : (w5.setCell ⟨w4.heap.size, 0, none⟩ (.int .i64 (-1))).heap.size = w5.heap.size := by simp
          rw [hsW] at hA2
          have hOA := HOW.out.below ((Below.refl _ _).alloc (Nat.le_refl _) (.cells #[.int .i64 (-1), .int .i64 (k4 : Int)] 35))
          have HA2 := keptN hA2
          have HOA := keptN hOA
          have hs9 : w.heap.size ≤ ((w5.setCell ⟨w4.heap.size, 0, none⟩ (.int .i64 (-1))).alloc (.cells #[.int .i64 (-1), .int .i64 (k4 : Int)] 35)).heap.size := by simp; omega
          have HS9 := keptN hs9
          clear hA2 hOA hsW hs9
          go_wp2_with (at_builtin; go_loud (refine wpList_append_note rfl _ _ rfl w.heap.size w5.heap.size ⟨-1, (k4 : Int)⟩ rfl rfl HOA.out HA2.out (by omega) HS9.out ?_))
          intro v7 w7 hown7 hgr7
          obtain ⟨R1, R2, R3⟩ := note_step hR HOW.out HRW.out HGW.out hown7 hgr7
          have NXT := keptN (And.intro R1 (And.intro R2 R3))
          clear hown7 hgr7 R1 R2 R3 HOA HA2 HOW HRW HGW
          go_wp2
          go_roundw
          case rel => exact ⟨k - 1, 0, P ++ [⟨-1, (k4 : Int)⟩], q + 3, by go_num, rfl, by omega, by omega, by simp; omega, NXT.out.1, NXT.out.2.1, by simp; omega, NXT.out.2.2⟩
          case measure => simp [intOf]; omega
        · have HOW := keptN hown5
          have HRW := keptN hrd5
          have HGW := keptN hg5
          clear hown5 hrd5 hg5
          have hA2 := noteAt_alloc (w5) ⟨0, (k4 : Int)⟩
          have hsW : (w5).heap.size = w5.heap.size := by simp
          rw [hsW] at hA2
          have hOA := HOW.out.below ((Below.refl _ _).alloc (Nat.le_refl _) (.cells #[.int .i64 (0), .int .i64 (k4 : Int)] 35))
          have HA2 := keptN hA2
          have HOA := keptN hOA
          have hs9 : w.heap.size ≤ ((w5).alloc (.cells #[.int .i64 (0), .int .i64 (k4 : Int)] 35)).heap.size := by simp; omega
          have HS9 := keptN hs9
          clear hA2 hOA hsW hs9
          go_wp2_with (at_builtin; go_loud (refine wpList_append_note rfl _ _ rfl w.heap.size w5.heap.size ⟨0, (k4 : Int)⟩ rfl rfl HOA.out HA2.out (by omega) HS9.out ?_))
          intro v7 w7 hown7 hgr7
          obtain ⟨R1, R2, R3⟩ := note_step hR HOW.out HRW.out HGW.out hown7 hgr7
          have NXT := keptN (And.intro R1 (And.intro R2 R3))
          clear hown7 hgr7 R1 R2 R3 HOA HA2 HOW HRW HGW
          go_wp2
          go_roundw
          case rel => exact ⟨k - 1, 0, P ++ [⟨0, (k4 : Int)⟩], q + 3, by go_num, rfl, by omega, by omega, by simp; omega, NXT.out.1, NXT.out.2.1, by simp; omega, NXT.out.2.2⟩
          case measure => simp [intOf]; omega
      · go_wp2_with fail
        refine (pick_any _ B R L (q + 1) _ hrd3 (by omega) (by omega) (by omega)).mono ?_
        rintro e w4 ⟨k4, rfl, hk4, hrd4, hgr4⟩
        have hown4 := hown3.overR hgr4 hR
        have hg4 := grown_trans hg3 hgr4
        clear hgr4 hown3 hrd3 hg3
        go_wp2_with fail
        refine (pick_any _ B R L (q + 2) _ (hrd4.alloc _) (by omega) (by omega) (by omega)).mono ?_
        rintro e w5 ⟨k5, rfl, hk5, hrd5, hgr5⟩
        have hR4 := hrd4.lt
        have hbk : w5.heap[w4.heap.size]? = some (.cells #[.int .i64 (48), .int .i64 (k4 : Int)] 35 (0, 0)) := (hgr5.block w4.heap.size (by simp) (fun e => by injection e with e; omega)).trans (heap_alloc_new w4 (.cells #[.int .i64 (48), .int .i64 (k4 : Int)] 35))
        have c0' : w5.cell? ⟨w4.heap.size, 0, none⟩ = some (.int .i64 (48)) := by rw [cell_of_row w5 _ 0 _ _ _ hbk]; rfl
        have c1' : w5.cell? ⟨w4.heap.size, 1, none⟩ = some (.int .i64 (k4 : Int)) := by rw [cell_of_row w5 _ 1 _ _ _ hbk]; rfl
        have f0' : w5.frozen? ⟨w4.heap.size, 0, none⟩ = false := frozen_of_row w5 _ 0 _ _ hbk
        have hgx5 : w4.grownBy w5 (some R) := grown_trans (World.grownBy_alloc w4 _ _) hgr5
        have hown5 := hown4.overR hgx5 hR
        have hg5 := grown_trans hg4 hgx5
        have hs5 := hg5.size
        have hlo : Hid (∀ b, (Value.slice ao no co).ownBlock = some b → b < w4.heap.size) := fun b hb => (World.ownsRow.lt hown4 b hb).2
        have hs4 := hg4.size
        clear hbk hgr5 hgx5 hown4 hrd4 hg4
        by_cases h0 : k5 = 0
        · subst h0
          have HOW : Hid (OwnNt (w5.setCell ⟨w4.heap.size, 0, none⟩ (.int .i64 (-1))) w.heap.size (.slice ao no co) P) := hown5.of_block fun b hb => heap_setCell_other w5 ⟨w4.heap.size, 0, none⟩ b _ (by have := hlo.out b hb; simp; omega)
          have HRW := keptN (hrd5.over (S := w4.heap.size) (grown_store w5 w4.heap.size 0 (.int .i64 (-1))) (by intro q hq; injection hq with hq; omega) hR4)
          have HGW := keptN (grown_own hg5 (grown_store w5 w4.heap.size 0 (.int .i64 (-1))) (by intro q hq; injection hq with hq; omega))
          clear hown5 hrd5 hg5
          have hA2 := noteAt_alloc (w5.setCell ⟨w4.heap.size, 0, none⟩ (.int .i64 (-1))) ⟨-1, (k4 : Int)⟩
          have hsW : (w5.setCell ⟨w4.heap.size, 0, none⟩ (.int .i64 (-1))).heap.size = w5.heap.size := by simp
          rw [hsW] at hA2
          have hOA := HOW.out.below ((Below.refl _ _).alloc (Nat.le_refl _) (.cells #[.int .i64 (-1), .int .i64 (k4 : Int)] 35))
          have HA2 := keptN hA2
          have HOA := keptN hOA
          have hs9 : w.heap.size ≤ ((w5.setCell ⟨w4.heap.size, 0, none⟩ (.int .i64 (-1))).alloc (.cells #[.int .i64 (-1), .int .i64 (k4 : Int)] 35)).heap.size := by simp; omega
          have HS9 := keptN hs9
          clear hA2 hOA hsW hs9
          go_wp2_with (at_builtin; go_loud (refine wpList_append_note rfl _ _ rfl w.heap.size w5.heap.size ⟨-1, (k4 : Int)⟩ rfl rfl HOA.out HA2.out (by omega) HS9.out ?_))
          intro v7 w7 hown7 hgr7
          obtain ⟨R1, R2, R3⟩ := note_step hR HOW.out HRW.out HGW.out hown7 hgr7
          have NXT := keptN (And.intro R1 (And.intro R2 R3))
          clear hown7 hgr7 R1 R2 R3 HOA HA2 HOW HRW HGW
          go_wp2
          go_roundw
          case rel => exact ⟨k - 1, 48, P ++ [⟨-1, (k4 : Int)⟩], q + 3, by go_num, rfl, by omega, by omega, by simp; omega, NXT.out.1, NXT.out.2.1, by simp; omega, NXT.out.2.2⟩
          case measure => simp [intOf]; omega
        · have HOW := keptN hown5
          have HRW := keptN hrd5
          have HGW := keptN hg5
          clear hown5 hrd5 hg5
          have hA2 := noteAt_alloc (w5) ⟨48, (k4 : Int)⟩
          have hsW : (w5).heap.size = w5.heap.size := by simp
          rw [hsW] at hA2
          have hOA := HOW.out.below ((Below.refl _ _).alloc (Nat.le_refl _) (.cells #[.int .i64 (48), .int .i64 (k4 : Int)] 35))
          have HA2 := keptN hA2
          have HOA := keptN hOA
          have hs9 : w.heap.size ≤ ((w5).alloc (.cells #[.int .i64 (48), .int .i64 (k4 : Int)] 35)).heap.size := by simp; omega
          have HS9 := keptN hs9
          clear hA2 hOA hsW hs9
          go_wp2_with (at_builtin; go_loud (refine wpList_append_note rfl _ _ rfl w.heap.size w5.heap.size ⟨48, (k4 : Int)⟩ rfl rfl HOA.out HA2.out (by omega) HS9.out ?_))
          intro v7 w7 hown7 hgr7
          obtain ⟨R1, R2, R3⟩ := note_step hR HOW.out HRW.out HGW.out hown7 hgr7
          have NXT := keptN (And.intro R1 (And.intro R2 R3))
          clear hown7 hgr7 R1 R2 R3 HOA HA2 HOW HRW HGW
          go_wp2
          go_roundw
          case rel => exact ⟨k - 1, 48, P ++ [⟨48, (k4 : Int)⟩], q + 3, by go_num, rfl, by omega, by omega, by simp; omega, NXT.out.1, NXT.out.2.1, by simp; omega, NXT.out.2.2⟩
          case measure => simp [intOf]; omega
      · go_wp2_with fail
        refine (pick_any _ B R L (q + 1) _ hrd3 (by omega) (by omega) (by omega)).mono ?_
        rintro e w4 ⟨k4, rfl, hk4, hrd4, hgr4⟩
        have hown4 := hown3.overR hgr4 hR
        have hg4 := grown_trans hg3 hgr4
        clear hgr4 hown3 hrd3 hg3
        go_wp2_with fail
        refine (pick_any _ B R L (q + 2) _ (hrd4.alloc _) (by omega) (by omega) (by omega)).mono ?_
        rintro e w5 ⟨k5, rfl, hk5, hrd5, hgr5⟩
        have hR4 := hrd4.lt
        have hbk : w5.heap[w4.heap.size]? = some (.cells #[.int .i64 (48), .int .i64 (k4 : Int)] 35 (0, 0)) := (hgr5.block w4.heap.size (by simp) (fun e => by injection e with e; omega)).trans (heap_alloc_new w4 (.cells #[.int .i64 (48), .int .i64 (k4 : Int)] 35))
        have c0' : w5.cell? ⟨w4.heap.size, 0, none⟩ = some (.int .i64 (48)) := by rw [cell_of_row w5 _ 0 _ _ _ hbk]; rfl
        have c1' : w5.cell? ⟨w4.heap.size, 1, none⟩ = some (.int .i64 (k4 : Int)) := by rw [cell_of_row w5 _ 1 _ _ _ hbk]; rfl
        have f0' : w5.frozen? ⟨w4.heap.size, 0, none⟩ = false := frozen_of_row w5 _ 0 _ _ hbk
        have hgx5 : w4.grownBy w5 (some R) := grown_trans (World.grownBy_alloc w4 _ _) hgr5
        have hown5 := hown4.overR hgx5 hR
        have hg5 := grown_trans hg4 hgx5
        have hs5 := hg5.size
        have hlo : Hid (∀ b, (Value.slice ao no co).ownBlock = some b → b < w4.heap.size) := fun b hb => (World.ownsRow.lt hown4 b hb).2
        have hs4 := hg4.size
        clear hbk hgr5 hgx5 hown4 hrd4 hg4
        by_cases h0 : k5 = 0
        · subst h0
          have HOW : Hid (OwnNt (w5.setCell ⟨w4.heap.size, 0, none⟩ (.int .i64 (-1))) w.heap.size (.slice ao no co) P) := hown5.of_block fun b hb => heap_setCell_other w5 ⟨w4.heap.size, 0, none⟩ b _ (by have := hlo.out b hb; simp; omega)
          have HRW := keptN (hrd5.over (S := w4.heap.size) (grown_store w5 w4.heap.size 0 (.int .i64 (-1))) (by intro q hq; injection hq with hq; omega) hR4)
          have HGW := keptN (grown_own hg5 (grown_store w5 w4.heap.size 0 (.int .i64 (-1))) (by intro q hq; injection hq with hq; omega))
          clear hown5 hrd5 hg5
          have hA2 := noteAt_alloc (w5.setCell ⟨w4.heap.size, 0, none⟩ (.int .i64 (-1))) ⟨-1, (k4 : Int)⟩
          have hsW : (w5.setCell ⟨w4.heap.size, 0, none⟩ (.int .i64 (-1))).heap.size = w5.heap.size := by simp
          rw [hsW] at hA2
          have hOA := HOW.out.below ((Below.refl _ _).alloc (Nat.le_refl _) (.cells #[.int .i64 (-1), .int .i64 (k4 : Int)] 35))
          have HA2 := keptN hA2
          have HOA := keptN hOA
          have hs9 : w.heap.size ≤ ((w5.setCell ⟨w4.heap.size, 0, none⟩ (.int .i64 (-1))).alloc (.cells #[.int .i64 (-1), .int .i64 (k4 : Int)] 35)).heap.size := by simp; omega
          have HS9 := keptN hs9
          clear hA2 hOA hsW hs9
          go_wp2_with (at_builtin; go_loud (refine wpList_append_note rfl _ _ rfl w.heap.size w5.heap.size ⟨-1, (k4 : Int)⟩ rfl rfl HOA.out HA2.out (by omega) HS9.out ?_))
          intro v7 w7 hown7 hgr7
          obtain ⟨R1, R2, R3⟩ := note_step hR HOW.out HRW.out HGW.out hown7 hgr7
          have NXT := keptN (And.intro R1 (And.intro R2 R3))
          clear hown7 hgr7 R1 R2 R3 HOA HA2 HOW HRW HGW
          go_wp2
          go_roundw
          case rel => exact ⟨k - 1, 48, P ++ [⟨-1, (k4 : Int)⟩], q + 3, by go_num, rfl, by omega, by omega, by simp; omega, NXT.out.1, NXT.out.2.1, by simp; omega, NXT.out.2.2⟩
          case measure => simp [intOf]; omega
        · have HOW := keptN hown5
          have HRW := keptN hrd5
          have HGW := keptN hg5
          clear hown5 hrd5 hg5
          have hA2 := noteAt_alloc (w5) ⟨48, (k4 : Int)⟩
          have hsW : (w5).heap.size = w5.heap.size := by simp
          rw [hsW] at hA2
          have hOA := HOW.out.below ((Below.refl _ _).alloc (Nat.le_refl _) (.cells #[.int .i64 (48), .int .i64 (k4 : Int)] 35))
          have HA2 := keptN hA2
          have HOA := keptN hOA
          have hs9 : w.heap.size ≤ ((w5).alloc (.cells #[.int .i64 (48), .int .i64 (k4 : Int)] 35)).heap.size := by simp; omega
          have HS9 := keptN hs9
          clear hA2 hOA hsW hs9
          go_wp2_with (at_builtin; go_loud (refine wpList_append_note rfl _ _ rfl w.heap.size w5.heap.size ⟨48, (k4 : Int)⟩ rfl rfl HOA.out HA2.out (by omega) HS9.out ?_))
          intro v7 w7 hown7 hgr7
          obtain ⟨R1, R2, R3⟩ := note_step hR HOW.out HRW.out HGW.out hown7 hgr7
          have NXT := keptN (And.intro R1 (And.intro R2 R3))
          clear hown7 hgr7 R1 R2 R3 HOA HA2 HOW HRW HGW
          go_wp2
          go_roundw
          case rel => exact ⟨k - 1, 48, P ++ [⟨48, (k4 : Int)⟩], q + 3, by go_num, rfl, by omega, by omega, by simp; omega, NXT.out.1, NXT.out.2.1, by simp; omega, NXT.out.2.2⟩
          case measure => simp [intOf]; omega
      · go_wp2_with fail
        refine (pick_any _ B R L (q + 1) _ hrd3 (by omega) (by omega) (by omega)).mono ?_
        rintro e w4 ⟨k4, rfl, hk4, hrd4, hgr4⟩
        have hown4 := hown3.overR hgr4 hR
        have hg4 := grown_trans hg3 hgr4
        clear hgr4 hown3 hrd3 hg3
        go_wp2_with fail
        refine (pick_any _ B R L (q + 2) _ (hrd4.alloc _) (by omega) (by omega) (by omega)).mono ?_
        rintro e w5 ⟨k5, rfl, hk5, hrd5, hgr5⟩
        have hR4 := hrd4.lt
        have hbk : w5.heap[w4.heap.size]? = some (.cells #[.int .i64 (la + z), .int .i64 (k4 : Int)] 35 (0, 0)) := (hgr5.block w4.heap.size (by simp) (fun e => by injection e with e; omega)).trans (heap_alloc_new w4 (.cells #[.int .i64 (la + z), .int .i64 (k4 : Int)] 35))
        have c0' : w5.cell? ⟨w4.heap.size, 0, none⟩ = some (.int .i64 (la + z)) := by rw [cell_of_row w5 _ 0 _ _ _ hbk]; rfl
        have c1' : w5.cell? ⟨w4.heap.size, 1, none⟩ = some (.int .i64 (k4 : Int)) := by rw [cell_of_row w5 _ 1 _ _ _ hbk]; rfl
        have f0' : w5.frozen? ⟨w4.heap.size, 0, none⟩ = false := frozen_of_row w5 _ 0 _ _ hbk
        have hgx5 : w4.grownBy w5 (some R) := grown_trans (World.grownBy_alloc w4 _ _) hgr5
        have hown5 := hown4.overR hgx5 hR
        have hg5 := grown_trans hg4 hgx5
        have hs5 := hg5.size
        have hlo : Hid (∀ b, (Value.slice ao no co).ownBlock = some b → b < w4.heap.size) := fun b hb => (World.ownsRow.lt hown4 b hb).2
        have hs4 := hg4.size
        clear hbk hgr5 hgx5 hown4 hrd4 hg4
        by_cases h0 : k5 = 0
        · subst h0
          have HOW : Hid (OwnNt (w5.setCell ⟨w4.heap.size, 0, none⟩ (.int .i64 (-1))) w.heap.size (.slice ao no co) P) := hown5.of_block fun b hb => heap_setCell_other w5 ⟨w4.heap.size, 0, none⟩ b _ (by have := hlo.out b hb; simp; omega)
          have HRW := keptN (hrd5.over (S := w4.heap.size) (grown_store w5 w4.heap.size 0 (.int .i64 (-1))) (by intro q hq; injection hq with hq; omega) hR4)
          have HGW := keptN (grown_own hg5 (grown_store w5 w4.heap.size 0 (.int .i64 (-1))) (by intro q hq; injection hq with hq; omega))
          clear hown5 hrd5 hg5
          have hA2 := noteAt_alloc (w5.setCell ⟨w4.heap.size, 0, none⟩ (.int .i64 (-1))) ⟨-1, (k4 : Int)⟩
          have hsW : (w5.setCell ⟨w4.heap.size, 0, none⟩ (.int .i64 (-1))).heap.size = w5.heap.size := by simp
          rw [hsW] at hA2
          have hOA := HOW.out.below ((Below.refl _ _).alloc (Nat.le_refl _) (.cells #[.int .i64 (-1), .int .i64 (k4 : Int)] 35))
          have HA2 := keptN hA2
          have HOA := keptN hOA
          have hs9 : w.heap.size ≤ ((w5.setCell ⟨w4.heap.size, 0, none⟩ (.int .i64 (-1))).alloc (.cells #[.int .i64 (-1), .int .i64 (k4 : Int)] 35)).heap.size := by simp; omega
          have HS9 := keptN hs9
          clear hA2 hOA hsW hs9
          go_wp2_with (at_builtin; go_loud (refine wpList_append_note rfl _ _ rfl w.heap.size w5.heap.size ⟨-1, (k4 : Int)⟩ rfl rfl HOA.out HA2.out (by omega) HS9.out ?_))
          intro v7 w7 hown7 hgr7
          obtain ⟨R1, R2, R3⟩ := note_step hR HOW.out HRW.out HGW.out hown7 hgr7
          have NXT := keptN (And.intro R1 (And.intro R2 R3))
          clear hown7 hgr7 R1 R2 R3 HOA HA2 HOW HRW HGW
          go_wp2
          go_roundw
          case rel => exact ⟨k - 1, la + z, P ++ [⟨-1, (k4 : Int)⟩], q + 3, by go_num, rfl, by omega, by omega, by simp; omega, NXT.out.1, NXT.out.2.1, by simp; omega, NXT.out.2.2⟩
          case measure => simp [intOf]; omega
        · have HOW := keptN hown5
          have HRW := keptN hrd5
          have HGW := keptN hg5
          clear hown5 hrd5 hg5
          have hA2 := noteAt_alloc (w5) ⟨la + z, (k4 : Int)⟩
          have hsW : (w5).heap.size = w5.heap.size := by simp
          rw [hsW] at hA2
          have hOA := HOW.out.below ((Below.refl _ _).alloc (Nat.le_refl _) (.cells #[.int .i64 (la + z), .int .i64 (k4 : Int)] 35))
          have HA2 := keptN hA2
          have HOA := keptN hOA
          have hs9 : w.heap.size ≤ ((w5).alloc (.cells #[.int .i64 (la + z), .int .i64 (k4 : Int)] 35)).heap.size := by simp; omega
          have HS9 := keptN hs9
          clear hA2 hOA hsW hs9
          go_wp2_with (at_builtin; go_loud (refine wpList_append_note rfl _ _ rfl w.heap.size w5.heap.size ⟨la + z, (k4 : Int)⟩ rfl rfl HOA.out HA2.out (by omega) HS9.out ?_))
          intro v7 w7 hown7 hgr7
          obtain ⟨R1, R2, R3⟩ := note_step hR HOW.out HRW.out HGW.out hown7 hgr7
          have NXT := keptN (And.intro R1 (And.intro R2 R3))
          clear hown7 hgr7 R1 R2 R3 HOA HA2 HOW HRW HGW
          go_wp2
          go_roundw
          case rel => exact ⟨k - 1, la + z, P ++ [⟨la + z, (k4 : Int)⟩], q + 3, by go_num, rfl, by omega, by omega, by simp; omega, NXT.out.1, NXT.out.2.1, by simp; omega, NXT.out.2.2⟩
          case measure => simp [intOf]; omega
    · go_wp2
      go_ret
      exact ⟨_, _, _, P, q, rfl, hown, by omega, hrd, by omega, hg⟩
end Go.Proofs.Ytfofjjfnejigaaa
