/- The draws of ValidCells, CellOf and FormatCells. -/
import Derived.Test.YtjffppabpdimkaaDrL
import Derived.Test.YtjffppabpdimkaaDotsO
import Derived.Laws.AppendOwnNone
namespace Go.Proofs.Ytjffppabpdimkaa
open Go.RowKit

def lenOf : Value → Nat | .slice _ n _ => n | _ => 0
theorem OwnInts.lenOf {w : World} {base : Nat} {v : Value} {zs : List Int} (h : OwnInts w base v zs) : lenOf v = zs.length := by
  obtain ⟨_, _, hs, _⟩ := h.at
  rw [hs]; rfl
theorem grown_of_below {a b : World} (h : Below a.heap.size a b) : a.grownBy b none := ⟨h.os, h.tape, h.output, h.size, fun k hk _ => h.block k hk⟩
/-- a draw that hands back a list, and writes new memory alone -/
def ListDrawn (lo hi : Int) (most : Nat) (w : World) (e : Ending) (w' : World) : Prop :=
  ∃ a n c zs, e = .returned (.slice a n c) ∧ IntsAt w' (.slice a n c) zs ∧ Hid (zs.length = n) ∧ Between lo hi zs ∧ n ≤ most ∧ Below w.heap.size w w'
theorem listDrawn_of {lo hi : Int} {most : Nat} {w w' : World} {S : Nat} {v : Value} {zs : List Int} (ho : OwnInts w' S v zs) (hb : Between lo hi zs) (hl : zs.length ≤ most) (hg : Below w.heap.size w w') : ListDrawn lo hi most w (.returned v) w' := by
  have h := ho.at
  have hs := h
  obtain ⟨a, c, rfl, _⟩ := hs
  exact ⟨a, _, c, zs, rfl, h, Lib.hid rfl, hb, hl, hg⟩

set_option maxHeartbeats 1000000 in
theorem drawValidCells_any (w : World) (a : Option Addr) (len cap : Nat) (zs : List Int) (h : RowIn .u8 w a len cap zs) :
    Calls Try.prog 15 #[.slice a len cap] w fun e w' => ListDrawn (-1) 1000 202 w e w' := by
  obtain ⟨i0, hi, hz0, hz1, hz2⟩ := info_parts infoInt
  obtain ⟨h1, h2, h3⟩ := bytesAt_of_row h
  clear h zs
  go_enter Try.func15, Try.ntmps15
  go_wp2_with fail
  refine (newReader_any w _ a len cap h1 (Nat.le_refl _) h2 h3).mono ?_
  rintro e w1 ⟨L, rfl, hrd, hgr⟩
  have hR := hrd.lt
  have hs1 := hgr.size
  go_wp2_with fail
  refine (anyCells_any w1 w.heap.size w.heap.size L 0 12 hrd (by omega) (by omega)).mono ?_
  rintro e w2 ⟨v, zs, q, rfl, hown, hbt, hl, hrd2, hq, hg, a2, n2, c2, rfl⟩
  go_wp2_with fail
  refine (pick_any _ w.heap.size w.heap.size L q _ hrd2 (by omega) (by omega) (by omega)).mono ?_
  rintro e w3 ⟨k3, rfl, hk3, hrd3, hgr3⟩
  have hown3 := hown.overR hgr3 hR
  have hg3 := grown_trans hg hgr3
  clear hown hg hgr3 hrd hrd2
  by_cases hk : k3 = 0
  · subst hk
    have hq3 : q + 1 ≤ 200 := by omega
    obtain ⟨Q, hQ⟩ : ∃ Q, q + 1 = Q := ⟨_, rfl⟩
    rw [hQ] at hrd3 hq3
    clear hQ hq
    go_wp2_with fail
    go_loopw [4] (fun v wr => ∃ (zs : List Int) (q : Nat), OwnInts wr w1.heap.size v zs ∧ Between (-1) 1000 zs ∧ zs.length ≤ 202 ∧ RD wr w.heap.size w.heap.size L q ∧ q ≤ 200 + 2 * zs.length ∧ w1.grownBy wr (some w.heap.size)) (fun v _ => 300 - lenOf v)
    case atStart => exact ⟨zs, Q, hown3, hbt, by omega, hrd3, by omega, hg3⟩
    case round =>
      clear hown3 hbt hl hrd3 hq3 hg3
      obtain ⟨zs, q, hown, hbt, hl, hrd, hq, hg⟩ := hrel
      have hlen := hown.lenOf
      have hh := hown
      obtain ⟨a', n, c, rfl⟩ := hh.isSlice
      have hn : zs.length = n := hlen.symm
      have HN := Lib.hid hn
      have hl' : n ≤ 202 := by omega
      have hq' : q ≤ 200 + 2 * n := by omega
      clear hlen hn hl hq
      go_wp2_with fail
      refine (pick_any _ w.heap.size w.heap.size L q _ hrd (by omega) (by omega) (by omega)).mono ?_
      rintro e w4 ⟨k4, rfl, hk4, hrd4, hgr4⟩
      have hown4 := hown.overR hgr4 hR
      have hg4 := grown_trans hg hgr4
      clear hown hg hgr4 hrd
      by_cases hlt : n < 199 + k4
      · go_wp2_with fail
        refine (pick_any _ w.heap.size w.heap.size L (q + 1) _ hrd4 (by omega) (by omega) (by omega)).mono ?_
        rintro e w5 ⟨k5, rfl, hk5, hrd5, hgr5⟩
        have hown5 := hown4.overR hgr5 hR
        have hg5 := grown_trans hg4 hgr5
        have hsz5 := hg5.size
        clear hown4 hg4 hgr5 hrd4
        have hlz : zs.length ≤ 202 := by have := HN.out; omega
        go_wp2_with (at_builtin; refine wpList_append_own _ rfl _ _ 23 rfl w1.heap.size 3 i0 (.int .i64 0) 1 8 Try.underlying23 hi hz0 hz1 hz2 rfl (by decide) _ _ _ rfl (hown5.alloc _) ⟨w5.heap.size, 0, none⟩ 1 1 [.int .i64 (k5 : Int)] rfl rfl new_one one_cell (by unfold maxLen; omega) (by omega) (by simp; omega) ?_)
        intro v' w6 hown' hgrow _
        obtain ⟨R1, R2, R3⟩ := snoc_step hR hown5 hrd5 hg5 hown' hgrow
        have hl6 := R1.lenOf
        have HL6 := Lib.hid hl6
        clear hown' hgrow hown5 hrd5 hg5 hl6
        go_wp2
        go_roundw
        case rel => exact ⟨zs ++ [(k5 : Int)], q + 2, R1, hbt.snoc (by omega) (by omega), by have := HN.out; simp; omega, R2, by have := HN.out; simp; omega, R3⟩
        case measure => rw [HL6.out]; have := HN.out; simp [lenOf]; omega
      · go_wp2
        go_ret
        exact listDrawn_of hown4 hbt (by have := HN.out; omega) (below_of_grown (grown_new hgr hg4 (Nat.le_refl _)))
  · have e1 : ((k3 : Int) == 0) = false := by simp; omega
    go_wp2
    go_ret
    exact listDrawn_of hown3 hbt (by omega) (below_of_grown (grown_new hgr hg3 (Nat.le_refl _)))

set_option maxHeartbeats 1000000 in
theorem drawFormatCells_any (w : World) (a : Option Addr) (len cap : Nat) (zs : List Int) (h : RowIn .u8 w a len cap zs) :
    Calls Try.prog 30 #[.slice a len cap] w fun e w' => ListDrawn (-1) 1000 10 w e w' := by
  obtain ⟨h1, h2, h3⟩ := bytesAt_of_row h
  clear h zs
  go_enter Try.func30, Try.ntmps30
  go_wp2_with fail
  refine (newReader_any w _ a len cap h1 (Nat.le_refl _) h2 h3).mono ?_
  rintro e w1 ⟨L, rfl, hrd, hgr⟩
  go_wp2_with fail
  refine (anyCells_any w1 w.heap.size w.heap.size L 0 10 hrd (by omega) (by omega)).mono ?_
  rintro e w2 ⟨v, zs, q, rfl, hown, hbt, hl, hrd2, hq, hg, a2, n2, c2, rfl⟩
  go_wp2
  go_ret
  exact listDrawn_of hown hbt hl (below_of_grown (grown_new hgr hg (Nat.le_refl _)))
theorem OwnInts.one (w : World) (z : Int) : OwnInts (w.alloc (.cells #[.int .i64 z] 3)) w.heap.size (.slice (some ⟨w.heap.size, 0, none⟩) 1 1) [z] :=
  ⟨rfl, .inr ⟨w.heap.size, 1, #[.int .i64 z], rfl, Nat.le_refl _, heap_alloc_new w _, Nat.le_refl _, by unfold maxLen; omega, rfl, rfl⟩⟩
theorem dots_between : ∀ c : Nat, c < 64 → Between (-1) 7 (dotsL c) := by
  have h : ∀ c : Nat, c < 64 → ∀ z ∈ dotsL c, (-1 : Int) ≤ z ∧ z ≤ 7 := by decide +kernel
  exact h
theorem ints_oneCell : ∀ (zs : List Int), ∀ u ∈ ints zs, u.oneCell' = true := by
  intro zs u hu
  simp [ints] at hu
  obtain ⟨z, _, rfl⟩ := hu
  rfl

set_option maxHeartbeats 1000000 in
theorem drawCellOf_any (w : World) (a : Option Addr) (len cap : Nat) (zs : List Int) (h : RowIn .u8 w a len cap zs) :
    Calls Try.prog 25 #[.slice a len cap] w fun e w' => ListDrawn (-1) 7 7 w e w' := by
  obtain ⟨i0, hi, hz0, hz1, hz2⟩ := info_parts infoInt
  obtain ⟨h1, h2, h3⟩ := bytesAt_of_row h
  clear h zs
  go_enter Try.func25, Try.ntmps25
  go_wp2_with fail
  refine (newReader_any w _ a len cap h1 (Nat.le_refl _) h2 h3).mono ?_
  rintro e w1 ⟨L, rfl, hrd, hgr⟩
  go_wp2_with fail
  refine (pick_any _ w.heap.size w.heap.size L 0 _ hrd (by omega) (by omega) (by omega)).mono ?_
  rintro e w2 ⟨k2, rfl, hk2, hrd2, hgr2⟩
  have hR := hrd2.lt
  have hk64 : k2 < 64 := by omega
  have hg2 := grown_new hgr hgr2 (Nat.le_refl _)
  clear hgr hgr2 hrd
  go_wp2_with fail
  refine (s_dotsOf k2 _ hk64).mono ?_
  rintro e w3 ⟨v, rfl, hown, hb3, av, n, c, rfl⟩
  have hbt := dots_between k2 hk64
  have hle : (dotsL k2).length ≤ 6 := dotsUp_le k2 6
  obtain ⟨zs, hzs⟩ : ∃ zs, dotsL k2 = zs := ⟨_, rfl⟩
  rw [hzs] at hown hbt hle
  have hn : Hid (zs.length = n) := hown.lenOf.symm
  have hn6 : n ≤ 6 := by have := hn.out; omega
  clear hzs
  have hg23 := grown_of_below hb3
  have hrd3 := hrd2.grown hg23
  have hg3 : w2.grownBy w3 (some w.heap.size) := grown_none hg23 _
  have hs2 := hg2.size
  clear hg23 hb3 hrd2
  go_wp2_with fail
  refine (pick_any _ w.heap.size w.heap.size L 1 _ hrd3 (by omega) (by omega) (by omega)).mono ?_
  rintro e w4 ⟨k4, rfl, hk4, hrd4, hgr4⟩
  have hown4 := hown.overR hgr4 hR
  have hg4 := grown_trans hg3 hgr4
  have hsz4 := hg4.size
  clear hown hg3 hgr4 hrd3
  by_cases hk0 : k4 = 0
  · subst hk0
    go_wp2_with fail
    have hlt4 := hrd4.lt
    refine (one_any _ w.heap.size w.heap.size L 2 w4.heap.size 5 5 [7, 0, 6, 3, -1] (hrd4.alloc _) (heap_alloc_new w4 _) (by omega) (Lib.hid rfl) (by omega) (by omega) (by omega)).mono ?_
    rintro e w5 ⟨z, rfl, hz, hrd5, hgr5⟩
    have hz' : -1 ≤ z ∧ z ≤ 7 := by simp at hz; omega
    have hgx := grown_trans (World.grownBy_alloc w4 (.cells #[.int .i64 7, .int .i64 0, .int .i64 6, .int .i64 3, .int .i64 (-1)] 3) _) hgr5
    have hown5 := hown4.overR hgx hR
    have hg5 := grown_trans hg4 hgx
    have hsz5 := hg5.size
    clear hz hgr5 hgx hown4 hg4
    go_wp2_with (at_builtin; refine wpList_append_own _ rfl _ _ 23 rfl w2.heap.size 3 i0 (.int .i64 0) 1 8 Try.underlying23 hi hz0 hz1 hz2 rfl (by decide) _ _ _ rfl (hown5.alloc _) ⟨w5.heap.size, 0, none⟩ 1 1 [.int .i64 z] rfl rfl new_one one_cell (by unfold maxLen; omega) (by omega) (by simp; omega) ?_)
    intro v' w6 hown' hgrow _
    obtain ⟨R1, R2, R3⟩ := snoc_step hR hown5 hrd5 hg5 hown' hgrow
    clear hown' hgrow hown5 hrd5 hg5
    go_wp2
    go_ret
    exact listDrawn_of R1 (hbt.snoc hz'.1 hz'.2) (by simp; omega) (below_of_grown (grown_new hg2 R3 (Nat.le_refl _)))
  · have e0 : ((k4 : Int) == 0) = false := by simp; omega
    by_cases hk1 : k4 = 1
    · subst hk1
      go_wp2_with fail
      have hlt4 := hrd4.lt
      refine (one_any _ w.heap.size w.heap.size L 2 w4.heap.size 4 4 [0, 1, -1, 6] (hrd4.alloc _) (heap_alloc_new w4 _) (by omega) (Lib.hid rfl) (by omega) (by omega) (by omega)).mono ?_
      rintro e w5 ⟨z, rfl, hz, hrd5, hgr5⟩
      have hz' : -1 ≤ z ∧ z ≤ 7 := by simp at hz; omega
      have hgx := grown_trans (World.grownBy_alloc w4 (.cells #[.int .i64 0, .int .i64 1, .int .i64 (-1), .int .i64 6] 3) _) hgr5
      have hown5 := hown4.overR hgx hR
      have hg5 := grown_trans hg4 hgx
      have hsz5 := hg5.size
      clear hz hgr5 hgx hown4 hg4
      have hOne := OwnInts.one w5 z
      have hown6 : OwnInts (w5.alloc (.cells #[.int .i64 z] 3)) w2.heap.size (.slice av n c) zs := hown5.alloc _
      have hg6 : w2.grownBy (w5.alloc (.cells #[.int .i64 z] 3)) (some w.heap.size) := grown_own hg5 (World.grownBy_alloc w5 _ none) (by simp)
      have hfin : ∀ (v' : Value) (w7 : World), w7.ownsRow w5.heap.size 3 1 v' (1 + n) (ints [z] ++ ints zs) → (w5.alloc (.cells #[.int .i64 z] 3)).grownBy w7 (some w5.heap.size) → ListDrawn (-1) 7 7 w (.returned v') w7 := by
        intro v' w7 hown' hgrow
        have hO : OwnInts w7 w5.heap.size v' ([z] ++ zs) := by
          unfold OwnInts
          rw [List.length_append, show ints ([z] ++ zs) = ints [z] ++ ints zs from by simp [ints], hn.out]
          exact hown'
        refine listDrawn_of hO (fun y hy => ?_) (by have := hn.out; simp; omega) (below_of_grown (grown_new hg2 (grown_own hg6 hgrow (by intro q hq; injection hq with hq; omega)) (Nat.le_refl _)))
        rcases List.mem_append.1 hy with hy | hy
        · obtain rfl : y = z := by simpa using hy
          exact hz'
        · exact hbt y hy
      have HF := Lib.hid hfin
      have hsz : w5.heap.size ≤ (w5.alloc (.cells #[.int .i64 z] 3)).heap.size := (World.grownBy_alloc w5 (.cells #[.int .i64 z] 3) none).size
      rcases hown6.2 with ⟨hv, hn0⟩ | ⟨g, cap', cur, hv, hbg, hrest⟩
      · injection hv with v1 v2 v3
        subst v1 v2 v3
        clear hown5 hg5 hrd5 hfin hg6
        have hz : zs = [] := List.length_eq_zero_iff.1 hn0
        have hE := HF.out _ (w5.alloc (.cells #[.int .i64 z] 3)) (by subst hz; exact hOne) (by exact ⟨rfl, rfl, rfl, Nat.le_refl _, fun k _ _ => rfl⟩)
        clear hz hn0
        go_wp2_with (at_builtin; refine wpList_append_own_none rfl _ _ 23 rfl w5.heap.size 3 i0 1 Try.underlying23 hi _ _ _ rfl hOne rfl ?_)
        go_ret
        exact hE
      · injection hv with v1 v2 v3
        subst v1 v3
        clear v2
        have hcells := hown6.cells (g := g) rfl
        clear hown5 hg5 hrd5 hfin hg6
        go_wp2_with (at_builtin; go_loud (refine wpList_append_own _ rfl _ _ 23 rfl w5.heap.size 3 i0 (.int .i64 0) 1 8 Try.underlying23 hi hz0 hz1 hz2 rfl (by decide) _ _ _ rfl hOne ⟨g, 0, none⟩ n c (ints zs) rfl (by rw [ints_length, hn.out]; omega) hcells (ints_oneCell zs) (by unfold maxLen; simp; omega) (by simp; omega) hsz ?_))
        intro v' w7 hown' hgrow _
        have hE := HF.out v' w7 (by simpa using hown') hgrow
        clear hown' hgrow hown6 hcells hOne
        go_wp2
        go_ret
        exact hE
    · have e1 : ((k4 : Int) == 1) = false := by simp; omega
      go_wp2
      go_ret
      exact listDrawn_of hown4 hbt (by omega) (below_of_grown (grown_new hg2 hg4 (Nat.le_refl _)))
end Go.Proofs.Ytjffppabpdimkaa
