
/- Drawn notes that may be invalid; the draws of LengthOf and Transpose; whether lists of notes are equal. -/
import Derived.Test.YtfofjjfnejigaaaNtk
import Derived.Test.YtfofjjfnejigaaaNti
namespace Go.Proofs.Ytfofjjfnejigaaa
open Go.RowKit

theorem ncells_setP {P : List PNote} (h : 0 < P.length) (x : Int) : (ncells P).set 0 (.int .i64 x) = ncells (P.set 0 ⟨x, (P.getD 0 noN).v⟩) := by
  match P, h with
  | q :: P, _ => rfl
theorem ncells_setV {P : List PNote} (h : 0 < P.length) (x : Int) : (ncells P).set 1 (.int .i64 x) = ncells (P.set 0 ⟨(P.getD 0 noN).p, x⟩) := by
  match P, h with
  | q :: P, _ => rfl
theorem OwnNt.setP {w : World} {S g n c : Nat} {P : List PNote} (h : OwnNt w S (.slice (some ⟨g, 0, none⟩) n c) P) (hi : 0 < n) (x : Int) :
    OwnNt (w.setCell ⟨g, 0, none⟩ (.int .i64 x)) S (.slice (some ⟨g, 0, none⟩) n c) (P.set 0 ⟨x, (P.getD 0 noN).v⟩) := by
  have hl := h.len
  subst hl
  have := (World.ownsRow.stored h 0 (.int .i64 x)).1
  rw [ncells_setP hi x] at this
  unfold OwnNt
  rw [List.length_set]
  exact this
theorem OwnNt.setV {w : World} {S g n c : Nat} {P : List PNote} (h : OwnNt w S (.slice (some ⟨g, 0, none⟩) n c) P) (hi : 0 < n) (x : Int) :
    OwnNt (w.setCell ⟨g, 1, none⟩ (.int .i64 x)) S (.slice (some ⟨g, 0, none⟩) n c) (P.set 0 ⟨(P.getD 0 noN).p, x⟩) := by
  have hl := h.len
  subst hl
  have := (World.ownsRow.stored h 1 (.int .i64 x)).1
  rw [ncells_setV hi x] at this
  unfold OwnNt
  rw [List.length_set]
  exact this
set_option maxHeartbeats 2000000 in
theorem anyNotes_any (w : World) (B R L p : Nat) (h : RD w B R L p) (hp : p ≤ 1000000000) :
    Calls Try.prog 28 #[.pointer (some ⟨R, 0, none⟩)] w fun e w' => NotesDrawn 20 110 w B R L p e w' := by
  have hR := h.lt
  go_enter Try.func28, Try.ntmps28
  go_wp2_with fail
  refine (someNotes_any _ B R L p h (by omega)).mono ?_
  rintro e w1 ⟨a, n, c, P, q, rfl, hown, hl, hrd, hq, hg⟩
  have hn := hown.len
  have HNP := Lib.hid hn
  have hn20 : n ≤ 20 := by omega
  clear hn
  by_cases h0 : 0 < n
  · obtain ⟨g, rfl, hg1, hg2⟩ := hown.addr h0
    go_wp2_with fail
    refine (pick_any _ B R L q _ hrd (by omega) (by omega) (by omega)).mono ?_
    rintro e w2 ⟨k2, rfl, hk2, hrd2, hgr2⟩
    have hown2 := hown.overR hgr2 hR
    have hgw2 := grown_trans hg hgr2
    have hgr := hgr2.size
    clear hown hg hrd hgr2
    by_cases hk0 : k2 = 0
    · subst hk0
      have hlt2 := hrd2.lt
      go_wp2_with fail
      refine (one_any _ B R L (q + 1) w2.heap.size 3 3 [49, -2, 48] (hrd2.alloc _) (heap_alloc_new w2 _) (by omega) (Lib.hid rfl) (by omega) (by omega) (by omega)).mono ?_
      rintro e w4 ⟨z, rfl, hz, hrd4, hgr4⟩
      have hgx : w2.grownBy w4 (some R) := grown_trans (World.grownBy_alloc w2 _ _) hgr4
      have hown4 := hown2.overR hgx hR
      have hg4 := grown_trans hgw2 hgx
      obtain ⟨e0, e1, hfr⟩ := hown4.cell2 h0
      have f0 := hfr 0
      have hown5 := hown4.setP h0 z
      have hg5 := grown_own hg4 (grown_store w4 g 0 (.int .i64 z)) (by intro q hq; injection hq with hq; omega)
      have hrd5 := hrd4.over (S := w.heap.size) (grown_store w4 g 0 (.int .i64 z)) (by intro q hq; injection hq with hq; omega) hR
      rw [Nat.zero_mul] at e0
      have NXT := keptN (And.intro hown5 (And.intro hrd5 hg5))
      clear hz hgr4 hrd2 hown2 hgx hgw2 hown4 hg4 hrd4 hown5 hrd5 hg5 hfr e1
      go_wp2
      go_ret
      exact ⟨_, _, _, _, q + 2, rfl, NXT.out.1, by rw [List.length_set]; omega, NXT.out.2.1, by omega, NXT.out.2.2⟩
    · by_cases hk1 : k2 = 1
      · subst hk1
        have hlt2 := hrd2.lt
        go_wp2_with fail
        refine (one_any _ B R L (q + 1) w2.heap.size 2 2 [4, -1] (hrd2.alloc _) (heap_alloc_new w2 _) (by omega) (Lib.hid rfl) (by omega) (by omega) (by omega)).mono ?_
        rintro e w4 ⟨z, rfl, hz, hrd4, hgr4⟩
        have hgx : w2.grownBy w4 (some R) := grown_trans (World.grownBy_alloc w2 _ _) hgr4
        have hown4 := hown2.overR hgx hR
        have hg4 := grown_trans hgw2 hgx
        obtain ⟨e0, e1, hfr⟩ := hown4.cell2 h0
        have f1 := hfr 1
        have hown5 := hown4.setV h0 z
        have hg5 := grown_own hg4 (grown_store w4 g 1 (.int .i64 z)) (by intro q hq; injection hq with hq; omega)
        have hrd5 := hrd4.over (S := w.heap.size) (grown_store w4 g 1 (.int .i64 z)) (by intro q hq; injection hq with hq; omega) hR
        rw [Nat.zero_mul, Nat.zero_add] at e1
        have NXT := keptN (And.intro hown5 (And.intro hrd5 hg5))
        clear hz hgr4 hrd2 hown2 hgx hgw2 hown4 hg4 hrd4 hown5 hrd5 hg5 hfr e0
        go_wp2
        go_ret
        exact ⟨_, _, _, _, q + 2, rfl, NXT.out.1, by rw [List.length_set]; omega, NXT.out.2.1, by omega, NXT.out.2.2⟩
      · have d1 : ((k2 : Int) == 0) = false := by simp; omega
        have d2 : ((k2 : Int) == 1) = false := by simp; omega
        have NXT := keptN (And.intro hown2 (And.intro hrd2 hgw2))
        clear hown2 hrd2 hgw2 hk0 hk1
        go_wp2
        go_ret
        exact ⟨_, _, _, P, q + 1, rfl, NXT.out.1, hl, NXT.out.2.1, by omega, NXT.out.2.2⟩
  · obtain rfl : n = 0 := by omega
    have NXT := keptN (And.intro hown (And.intro hrd hg))
    clear hown hrd hg
    go_wp2
    go_ret
    exact ⟨_, _, _, P, q, rfl, NXT.out.1, hl, NXT.out.2.1, by omega, NXT.out.2.2⟩
/-- a drawn list of notes -/
def NotesOut (w : World) (e : Ending) (w' : World) : Prop :=
  ∃ a n c P, e = .returned (.slice a n c) ∧ NotesAt w' (.slice a n c) P ∧ P.length ≤ 60 ∧ Below w.heap.size w w'
theorem below_of_grownR {a b c : World} {R : Nat} (h : a.grownBy b none) (k : b.grownBy c (some R)) (hR : a.heap.size ≤ R) : Below a.heap.size a c :=
  below_of_grown (grown_new h k hR)
def NotesIntOut (w : World) (e : Ending) (w' : World) : Prop :=
  ∃ a n c P s, e = .returned (.tuple #[.slice a n c, .int .i64 s]) ∧ NotesAt w' (.slice a n c) P ∧ P.length ≤ 60 ∧ (-100 ≤ s ∧ s ≤ 100) ∧ Below w.heap.size w w'
set_option maxHeartbeats 2000000 in
theorem equalNotes_same (w : World) (u v : Value) (P : List PNote) (hx : NotesAt w u P) (hy : NotesAt w v P) :
    Calls Try.prog 14 #[u, v] w fun e w' => e = .returned (.bool true) ∧ Below w.heap.size w w' := by
  obtain ⟨a, cp, rfl, x1, x2, x3⟩ := hx
  obtain ⟨a', cp', rfl, y1, y2, y3⟩ := hy
  obtain ⟨n, hn⟩ : ∃ n, P.length = n := ⟨_, rfl⟩
  rw [hn] at x1 x3 y1 y3 ⊢
  have HN := Lib.hid hn
  clear hn
  go_enter Try.func14, Try.ntmps14
  go_wp2
  go_loopw [5] (fun i wr => ∃ k : Nat, k ≤ n ∧ i = .int .i64 k ∧ Below w.heap.size w wr) (fun i _ => n - (intOf i).toNat)
  case atStart => exact ⟨0, Nat.zero_le _, rfl, Below.refl _ _⟩
  case round =>
    obtain ⟨k, hk, rfl, hb1⟩ := hrel
    by_cases hlt : k < n
    · rcases x3 with rfl | ⟨g, off, rfl, x3⟩
      · exact absurd HN.out (by simp; omega)
      rcases y3 with rfl | ⟨g', off', rfl, y3⟩
      · exact absurd HN.out (by simp; omega)
      have hra := x3 k hlt
      have hrb := y3 k hlt
      clear x3 y3
      obtain ⟨q, hq⟩ : ∃ q, P.getD k noN = q := ⟨_, rfl⟩
      rw [hq] at hra hrb
      clear hq
      obtain ⟨r, f⟩ := q
      obtain ⟨c0, c1⟩ := hra
      obtain ⟨d0, d1⟩ := hrb
      simp only at c0 c1 d0 d1
      have c0 := (hb1.cell (World.block_lt_of_cell? w _ c0)).trans c0
      have c1 := (hb1.cell (World.block_lt_of_cell? w _ c1)).trans c1
      have d0 := (hb1.cell (World.block_lt_of_cell? w _ d0)).trans d0
      have d1 := (hb1.cell (World.block_lt_of_cell? w _ d1)).trans d1
      have b1 : (0 : Int) ≤ (k : Int) := by omega
      have b2 : (k : Int) < (n : Int) := by omega
      go_wp2_with fail
      go_quiet (fail)
      go_wp2
      go_roundw
      case rel => exact ⟨k + 1, by omega, by go_num, below_drewN hb1 _⟩
      case measure => simp [intOf]; omega
    · go_wp2
      go_ret
      exact ⟨rfl, hb1⟩
end Go.Proofs.Ytfofjjfnejigaaa
