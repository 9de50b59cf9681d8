
/- The draw of an edit. -/
import Derived.Test.YthlamidlcbnchaaDrT
import Derived.Test.YthlamidlcbnchaaEda
import Derived.Deep.Cut
namespace Go.Proofs.Ythlamidlcbnchaa
open Go.RowKit

theorem EdAt.overR {w w' : World} {g R : Nat} {p c : Int} {t : ByteArray} (h : EdAt w g p c t) (hg : w.grownBy w' (some R)) (hne : g ≠ R) : EdAt w' g p c t := (hg.block g h.lt (by simp; exact hne)).trans h
/-- an edit that was drawn -/
def EdDrawn (more : Nat) (w : World) (B R L p : Nat) (e : Ending) (w' : World) : Prop :=
  ∃ (x c : Int) (t : ByteArray) (q : Nat), e = .returned (edV x c t) ∧ (-1 ≤ x ∧ x ≤ 1000) ∧ (-1 ≤ c ∧ c ≤ 1000) ∧ t.size ≤ 60 ∧ RD w' B R L q ∧ q ≤ p + more ∧ w.grownBy w' (some R)
theorem results_ed {P : Program} {fn : Func} {p : Tmp} {ty : TypeId} (h : fn.results = #[.cell p ty]) (tmps : Array Value) (w : World) (g : Nat) (t : TypeId) (cs : Array Value) (fr : Nat × Nat) (d : TypeDesc)
    (hp : tmps.getD p undef = .pointer (some ⟨g, 0, none⟩)) (hg : w.heap[g]? = some (.cells cs t fr))
    (hu : P.underlying ty = some d) (hd : (match d with | .struct _ | .array _ _ => true | _ => false) = true) (hi : (P.info? ty).map (·.size) = some cs.size) :
    (results fn tmps).run P w = .ok (.agg cs) w := results_cell_row h tmps w g t cs fr d hp hg hu hd hi
def putsA : List ByteArray := [⟨#[]⟩, ⟨#[120]⟩, ⟨#[116, 104, 101, 32]⟩, ⟨#[65, 66]⟩, ⟨#[49, 50]⟩, ⟨#[]⟩]
def putsB : List ByteArray := [⟨#[95]⟩, ⟨#[10]⟩, ⟨#[97, 98, 99, 100, 101, 102, 103, 104, 105, 106, 97, 98, 99, 100, 101, 102, 103, 104, 105, 106, 97, 98, 99, 100, 101, 102, 103, 104, 105, 106, 97, 98, 99, 100, 101, 102, 103, 104, 105, 106, 97, 98, 99, 100, 101, 102, 103, 104, 105, 106, 97, 98, 99, 100, 101, 102, 103, 104, 105, 106]⟩]
theorem grown_ed {a b : World} {R : Nat} (h : a.grownBy b (some R)) (g : Nat) (k : Nat) (u : Value) (hS : a.heap.size ≤ g) : a.grownBy (b.setCell ⟨g, k, none⟩ u) (some R) :=
  ⟨h.os, h.tape, h.output, by simpa [World.setCell] using h.size, fun i hi hne => (heap_setCell_other b ⟨g, k, none⟩ i u (by simp; omega)).trans (h.block i hi hne)⟩
theorem RD.setE {w : World} {B R L p : Nat} (h : RD w B R L p) (g k : Nat) (u : Value) (h1 : B ≤ R) (h2 : R < g) : RD (w.setCell ⟨g, k, none⟩ u) B R L p :=
  h.of_same (fun i hi => heap_setCell_other w ⟨g, k, none⟩ i u (by obtain ⟨_, _, _, h3, _⟩ := h; simp; omega)) (heap_setCell_other w ⟨g, k, none⟩ R u (by simp; omega))
theorem EdAt.set1 {w : World} {g : Nat} {p c : Int} {t : ByteArray} (h : EdAt w g p c t) (q : Int) : EdAt (w.setCell ⟨g, 1, none⟩ (.int .i64 q)) g p q t := by
  unfold EdAt at *
  rw [heap_setCell_same _ g 1 _ _ (.int .i64 q) h]
  simp
theorem EdAt.set2 {w : World} {g : Nat} {p c : Int} {t : ByteArray} (h : EdAt w g p c t) (u : ByteArray) : EdAt (w.setCell ⟨g, 2, none⟩ (.string u)) g p c u := by
  unfold EdAt at *
  rw [heap_setCell_same _ g 2 _ _ (.string u) h]
  simp
set_option maxHeartbeats 8000000 in
theorem anyEdit_any (w : World) (B R L p : Nat) (s : ByteArray) (h : RD w B R L p) (hp : p ≤ 10000000000) (hs : s.size ≤ 600) :
    Calls Try.prog 33 #[.pointer (some ⟨R, 0, none⟩), .string s] w fun e w' => EdDrawn 6 w B R L p e w' := by
  have hlt := h.lt
  have hz0 := EdAt.new w 0 0 ⟨#[]⟩
  have hrd0 := h.alloc (.cells #[.int .i64 0, .int .i64 0, .string ⟨#[]⟩] 24)
  have hg0 : w.grownBy (w.alloc (.cells #[.int .i64 0, .int .i64 0, .string ⟨#[]⟩] 24)) (some R) := World.grownBy_alloc w _ _
  have hlB : B ≤ R := by obtain ⟨_, _, _, h3, _⟩ := h; exact h3
  clear h
  go_enter Try.func33, Try.ntmps33
  go_wp2_with fail
  generalize (w.alloc (.cells #[.int .i64 0, .int .i64 0, .string ⟨#[]⟩] 24)) = w0 at hz0 hrd0 hg0 ⊢
  refine (pick_any w0 B R L p _ hrd0 (by omega) (by omega) (by omega)).mono ?_
  rintro e w1 ⟨k, rfl, hk, hrd1, hgr1⟩
  have hz1 := hz0.overR hgr1 (by omega)
  have hg1 := grown_trans hg0 hgr1
  have hlt1 := hrd1.lt
  clear hz0 hrd0 hg0 hgr1
  go_wp2_with fail
  refine (one_any _ B R L (p + 1) w1.heap.size 5 5 [0, 1, 2, 3, 0] (hrd1.alloc _) (heap_alloc_new w1 _) (by omega) (Lib.hid rfl) (by omega) (by omega) (by omega)).mono ?_
  rintro e w2 ⟨c, rfl, hc, hrd2, hgr2⟩
  have hc3 : 0 ≤ c ∧ c ≤ 3 := by simp at hc; omega
  have hgx := grown_trans (World.grownBy_alloc w1 (.cells #[.int .i64 0, .int .i64 1, .int .i64 2, .int .i64 3, .int .i64 0] 3) (some R)) hgr2
  have hz2 := hz1.overR hgx (by omega)
  have hg2 := grown_trans hg1 hgx
  have hlt2 := hrd2.lt
  clear hz1 hrd1 hg1 hgx hgr2 hc
  go_wp2_with fail
  refine (of_any _ B R L (p + 2) w2.heap.size 6 6 putsA (hrd2.alloc _) (heap_alloc_new w2 _) (by omega) (Lib.hid rfl) (by omega) (by omega) (by omega)).mono ?_
  rintro e w3 ⟨t, rfl, ht, hrd3, hgr3⟩
  have ht4 : t.size ≤ 4 := small_strs (by decide +kernel) ht
  have hgy := grown_trans (World.grownBy_alloc w2 (.cells (strs putsA) 9) (some R)) hgr3
  have hz3 := (hz2.overR hgy (by omega)).alloc (.cells #[.int .i64 (k : Int), .int .i64 c, .string t] 24)
  have hg3 := grown_trans (grown_trans hg2 hgy) (World.grownBy_alloc w3 (.cells #[.int .i64 (k : Int), .int .i64 c, .string t] 24) (some R))
  have hrd3' := hrd3.alloc (.cells #[.int .i64 (k : Int), .int .i64 c, .string t] 24)
  have he3 := EdAt.new w3 (k : Int) c t
  have hwG : w.heap.size < w3.heap.size := Nat.lt_of_lt_of_le hz2.lt hgy.size
  clear hz2 hrd2 hrd3 hg2 hgy hgr3 ht hlt1 hlt2
  go_upto_region 3 with (fail)
  generalize (w3.alloc (.cells #[.int .i64 (k : Int), .int .i64 c, .string t] 24)) = wE at hz3 hg3 hrd3' he3 ⊢
  generalize w3.heap.size = G at he3 hwG ⊢
  obtain ⟨c0, c1, c2⟩ := he3.cells
  have f := he3.free
  by_cases h1 : (s.size : Int) < (k : Int) + c
  · have d1 : decide ((s.size : Int) < (k : Int) + c) = true := decide_eq_true h1
    go_wp2_with fail
    refine (pick_any wE B R L (p + 3) _ hrd3' (by omega) (by omega) (by omega)).mono ?_
    rintro e w4 ⟨u, rfl, hu, hrd4, hgr4⟩
    have he4 := he3.overR hgr4 (by omega)
    have hz4 := hz3.overR hgr4 (by omega)
    have hg4 := grown_trans hg3 hgr4
    clear c0 c1 c2 f he3 hz3 hrd3' hg3 hgr4
    obtain ⟨c0, c1, c2⟩ := he4.cells
    have f := he4.free
    by_cases h2 : 0 < u
    · have d2 : decide ((0 : Int) < (u : Int)) = true := decide_eq_true (by omega)
      have he5 := EdAt.set1 he4 ((s.size : Int) - (k : Int))
      have hz5 := EdAt.setO hz4 (show w.heap.size ≠ G by omega) 1 (.int .i64 ((s.size : Int) - (k : Int)))
      have hrd5 := hrd4.setE G 1 (.int .i64 ((s.size : Int) - (k : Int))) hlB (by omega)
      have hg5 := grown_ed hg4 G 1 (.int .i64 ((s.size : Int) - (k : Int))) (by omega)
      go_wp2_with fail
      generalize (w4.setCell ⟨G, 1, none⟩ (.int .i64 ((s.size : Int) - (k : Int)))) = w5 at he5 hz5 hrd5 hg5 ⊢
      refine (pick_any w5 B R L (p + 4) _ hrd5 (by omega) (by omega) (by omega)).mono ?_
      rintro e w6 ⟨v, rfl, hv, hrd6, hgr6⟩
      have he6 := he5.overR hgr6 (by omega)
      have hz6 := hz5.overR hgr6 (by omega)
      have hg6 := grown_trans hg5 hgr6
      have hlt6 := hrd6.lt
      clear he5 hz5 hrd5 hg5 hgr6
      by_cases v0 : v = 0
      · subst v0
        go_wp2_with fail
        refine (one_any _ B R L (p + 4 + 1) w6.heap.size 3 3 [-1, (s.size : Int) + 1, 60] (hrd6.alloc _) (heap_alloc_new w6 _) (by omega) (Lib.hid rfl) (by omega) (by omega) (by omega)).mono ?_
        rintro e w7 ⟨y, rfl, hy, hrd7, hgr7⟩
        have hy3 : -1 ≤ y ∧ y ≤ 1000 := by simp at hy; omega
        have hgz := grown_trans (World.grownBy_alloc w6 (.cells #[.int .i64 (-1), .int .i64 ((s.size : Int) + 1), .int .i64 60] 3) (some R)) hgr7
        have he7 := he6.overR hgz (by omega)
        have hz7 := hz6.overR hgz (by omega)
        have hg7 := grown_trans hg6 hgz
        have f7 := he7.free
        obtain ⟨g0, g1, g2⟩ := he7.cells
        clear he6 hz6 hrd6 hg6 hgz hgr7 hy
        go_upto_region 12 with (fail)
        obtain ⟨d0, d1, d2⟩ := (EdAt.set0 he7 y).cells
        obtain ⟨z0, z1, z2⟩ := (EdAt.setO (g2 := G) hz7 (by omega) 0 (.int .i64 y)).cells
        have fz := (EdAt.setO (g2 := G) hz7 (by omega) 0 (.int .i64 y)).free
        go_wp2
        have hk := (EdAt.setO (g2 := G) hz7 (by omega) 0 (.int .i64 y)).put y ((s.size : Int) - (k : Int)) t
        simp only [EdAt, putE] at hk
        refine bodyPost_ret (results_ed rfl _ _ w.heap.size _ _ _ _ rfl hk Try.underlying24 rfl (by kernel_rfl)) rfl ?_
        exact ⟨y, ((s.size : Int) - (k : Int)), t, p + 4 + 2, rfl, hy3, ⟨by omega, by omega⟩, by omega, ((hrd7.setE G 0 (.int .i64 y) hlB (by omega)).setE _ _ _ hlB hlt |>.setE _ _ _ hlB hlt |>.setE _ _ _ hlB hlt), by omega, grown_ed (grown_ed (grown_ed (grown_ed hg7 G 0 (.int .i64 y) (by omega)) _ _ _ (Nat.le_refl _)) _ _ _ (Nat.le_refl _)) _ _ _ (Nat.le_refl _)⟩
      · have v0n : ((v : Int) == 0) = false := by simp; omega
        by_cases v1 : v = 1
        · subst v1
          go_wp2_with fail
          refine (of_any _ B R L (p + 4 + 1) w6.heap.size 3 3 putsB (hrd6.alloc _) (heap_alloc_new w6 _) (by omega) (Lib.hid rfl) (by omega) (by omega) (by omega)).mono ?_
          rintro e w7 ⟨u, rfl, hu, hrd7, hgr7⟩
          have hu6 : u.size ≤ 60 := small_strs (by decide +kernel) hu
          have hgz := grown_trans (World.grownBy_alloc w6 (.cells (strs putsB) 9) (some R)) hgr7
          have he7 := he6.overR hgz (by omega)
          have hz7 := hz6.overR hgz (by omega)
          have hg7 := grown_trans hg6 hgz
          have f7 := he7.free
          obtain ⟨g0, g1, g2⟩ := he7.cells
          clear he6 hz6 hrd6 hg6 hgz hgr7 hu
          go_upto_region 12 with (fail)
          obtain ⟨d0, d1, d2⟩ := (EdAt.set2 he7 u).cells
          obtain ⟨z0, z1, z2⟩ := (EdAt.setO (g2 := G) hz7 (by omega) 2 (.string u)).cells
          have fz := (EdAt.setO (g2 := G) hz7 (by omega) 2 (.string u)).free
          go_wp2
          have hk := (EdAt.setO (g2 := G) hz7 (by omega) 2 (.string u)).put (k : Int) ((s.size : Int) - (k : Int)) u
          simp only [EdAt, putE] at hk
          refine bodyPost_ret (results_ed rfl _ _ w.heap.size _ _ _ _ rfl hk Try.underlying24 rfl (by kernel_rfl)) rfl ?_
          exact ⟨(k : Int), ((s.size : Int) - (k : Int)), u, p + 4 + 2, rfl, ⟨by omega, by omega⟩, ⟨by omega, by omega⟩, hu6, ((hrd7.setE G 2 (.string u) hlB (by omega)).setE _ _ _ hlB hlt |>.setE _ _ _ hlB hlt |>.setE _ _ _ hlB hlt), by omega, grown_ed (grown_ed (grown_ed (grown_ed hg7 G 2 (.string u) (by omega)) _ _ _ (Nat.le_refl _)) _ _ _ (Nat.le_refl _)) _ _ _ (Nat.le_refl _)⟩
        · have v1n : ((v : Int) == 1) = false := by simp; omega
          have f7 := he6.free
          obtain ⟨g0, g1, g2⟩ := he6.cells
          by_cases v2 : v = 2
          · subst v2
            go_upto_region 12 with (fail)
            obtain ⟨d0, d1, d2⟩ := (EdAt.set1 he6 (-1)).cells
            obtain ⟨z0, z1, z2⟩ := (EdAt.setO (g2 := G) hz6 (by omega) 1 (.int .i64 (-1))).cells
            have fz := (EdAt.setO (g2 := G) hz6 (by omega) 1 (.int .i64 (-1))).free
            go_wp2
            have hk := (EdAt.setO (g2 := G) hz6 (by omega) 1 (.int .i64 (-1))).put (k : Int) (-1) t
            simp only [EdAt, putE] at hk
            refine bodyPost_ret (results_ed rfl _ _ w.heap.size _ _ _ _ rfl hk Try.underlying24 rfl (by kernel_rfl)) rfl ?_
            exact ⟨(k : Int), (-1), t, p + 4 + 1, rfl, ⟨by omega, by omega⟩, ⟨by omega, by omega⟩, by omega, ((hrd6.setE G 1 (.int .i64 (-1)) hlB (by omega)).setE _ _ _ hlB hlt |>.setE _ _ _ hlB hlt |>.setE _ _ _ hlB hlt), by omega, grown_ed (grown_ed (grown_ed (grown_ed hg6 G 1 (.int .i64 (-1)) (by omega)) _ _ _ (Nat.le_refl _)) _ _ _ (Nat.le_refl _)) _ _ _ (Nat.le_refl _)⟩
          · have v2n : ((v : Int) == 2) = false := by simp; omega
            go_upto_region 12 with (fail)
            obtain ⟨d0, d1, d2⟩ := (he6).cells
            obtain ⟨z0, z1, z2⟩ := (hz6).cells
            have fz := (hz6).free
            go_wp2
            have hk := (hz6).put (k : Int) ((s.size : Int) - (k : Int)) t
            simp only [EdAt, putE] at hk
            refine bodyPost_ret (results_ed rfl _ _ w.heap.size _ _ _ _ rfl hk Try.underlying24 rfl (by kernel_rfl)) rfl ?_
            exact ⟨(k : Int), ((s.size : Int) - (k : Int)), t, p + 4 + 1, rfl, ⟨by omega, by omega⟩, ⟨by omega, by omega⟩, by omega, ((hrd6).setE _ _ _ hlB hlt |>.setE _ _ _ hlB hlt |>.setE _ _ _ hlB hlt), by omega, grown_ed (grown_ed (grown_ed (hg6) _ _ _ (Nat.le_refl _)) _ _ _ (Nat.le_refl _)) _ _ _ (Nat.le_refl _)⟩
    · have d2 : decide ((0 : Int) < (u : Int)) = false := decide_eq_false (by omega)
      have he5 := he4
      have hz5 := hz4
      have hrd5 := hrd4
      have hg5 := hg4
      go_wp2_with fail
      refine (pick_any w4 B R L (p + 4) _ hrd5 (by omega) (by omega) (by omega)).mono ?_
      rintro e w6 ⟨v, rfl, hv, hrd6, hgr6⟩
      have he6 := he5.overR hgr6 (by omega)
      have hz6 := hz5.overR hgr6 (by omega)
      have hg6 := grown_trans hg5 hgr6
      have hlt6 := hrd6.lt
      clear he5 hz5 hrd5 hg5 hgr6
      by_cases v0 : v = 0
      · subst v0
        go_wp2_with fail
        refine (one_any _ B R L (p + 4 + 1) w6.heap.size 3 3 [-1, (s.size : Int) + 1, 60] (hrd6.alloc _) (heap_alloc_new w6 _) (by omega) (Lib.hid rfl) (by omega) (by omega) (by omega)).mono ?_
        rintro e w7 ⟨y, rfl, hy, hrd7, hgr7⟩
        have hy3 : -1 ≤ y ∧ y ≤ 1000 := by simp at hy; omega
        have hgz := grown_trans (World.grownBy_alloc w6 (.cells #[.int .i64 (-1), .int .i64 ((s.size : Int) + 1), .int .i64 60] 3) (some R)) hgr7
        have he7 := he6.overR hgz (by omega)
        have hz7 := hz6.overR hgz (by omega)
        have hg7 := grown_trans hg6 hgz
        have f7 := he7.free
        obtain ⟨g0, g1, g2⟩ := he7.cells
        clear he6 hz6 hrd6 hg6 hgz hgr7 hy
        go_upto_region 12 with (fail)
        obtain ⟨d0, d1, d2⟩ := (EdAt.set0 he7 y).cells
        obtain ⟨z0, z1, z2⟩ := (EdAt.setO (g2 := G) hz7 (by omega) 0 (.int .i64 y)).cells
        have fz := (EdAt.setO (g2 := G) hz7 (by omega) 0 (.int .i64 y)).free
        go_wp2
        have hk := (EdAt.setO (g2 := G) hz7 (by omega) 0 (.int .i64 y)).put y c t
        simp only [EdAt, putE] at hk
        refine bodyPost_ret (results_ed rfl _ _ w.heap.size _ _ _ _ rfl hk Try.underlying24 rfl (by kernel_rfl)) rfl ?_
        exact ⟨y, c, t, p + 4 + 2, rfl, hy3, ⟨by omega, by omega⟩, by omega, ((hrd7.setE G 0 (.int .i64 y) hlB (by omega)).setE _ _ _ hlB hlt |>.setE _ _ _ hlB hlt |>.setE _ _ _ hlB hlt), by omega, grown_ed (grown_ed (grown_ed (grown_ed hg7 G 0 (.int .i64 y) (by omega)) _ _ _ (Nat.le_refl _)) _ _ _ (Nat.le_refl _)) _ _ _ (Nat.le_refl _)⟩
      · have v0n : ((v : Int) == 0) = false := by simp; omega
        by_cases v1 : v = 1
        · subst v1
          go_wp2_with fail
          refine (of_any _ B R L (p + 4 + 1) w6.heap.size 3 3 putsB (hrd6.alloc _) (heap_alloc_new w6 _) (by omega) (Lib.hid rfl) (by omega) (by omega) (by omega)).mono ?_
          rintro e w7 ⟨u, rfl, hu, hrd7, hgr7⟩
          have hu6 : u.size ≤ 60 := small_strs (by decide +kernel) hu
          have hgz := grown_trans (World.grownBy_alloc w6 (.cells (strs putsB) 9) (some R)) hgr7
          have he7 := he6.overR hgz (by omega)
          have hz7 := hz6.overR hgz (by omega)
          have hg7 := grown_trans hg6 hgz
          have f7 := he7.free
          obtain ⟨g0, g1, g2⟩ := he7.cells
          clear he6 hz6 hrd6 hg6 hgz hgr7 hu
          go_upto_region 12 with (fail)
          obtain ⟨d0, d1, d2⟩ := (EdAt.set2 he7 u).cells
          obtain ⟨z0, z1, z2⟩ := (EdAt.setO (g2 := G) hz7 (by omega) 2 (.string u)).cells
          have fz := (EdAt.setO (g2 := G) hz7 (by omega) 2 (.string u)).free
          go_wp2
          have hk := (EdAt.setO (g2 := G) hz7 (by omega) 2 (.string u)).put (k : Int) c u
          simp only [EdAt, putE] at hk
          refine bodyPost_ret (results_ed rfl _ _ w.heap.size _ _ _ _ rfl hk Try.underlying24 rfl (by kernel_rfl)) rfl ?_
          exact ⟨(k : Int), c, u, p + 4 + 2, rfl, ⟨by omega, by omega⟩, ⟨by omega, by omega⟩, hu6, ((hrd7.setE G 2 (.string u) hlB (by omega)).setE _ _ _ hlB hlt |>.setE _ _ _ hlB hlt |>.setE _ _ _ hlB hlt), by omega, grown_ed (grown_ed (grown_ed (grown_ed hg7 G 2 (.string u) (by omega)) _ _ _ (Nat.le_refl _)) _ _ _ (Nat.le_refl _)) _ _ _ (Nat.le_refl _)⟩
        · have v1n : ((v : Int) == 1) = false := by simp; omega
          have f7 := he6.free
          obtain ⟨g0, g1, g2⟩ := he6.cells
          by_cases v2 : v = 2
          · subst v2
            go_upto_region 12 with (fail)
            obtain ⟨d0, d1, d2⟩ := (EdAt.set1 he6 (-1)).cells
            obtain ⟨z0, z1, z2⟩ := (EdAt.setO (g2 := G) hz6 (by omega) 1 (.int .i64 (-1))).cells
            have fz := (EdAt.setO (g2 := G) hz6 (by omega) 1 (.int .i64 (-1))).free
            go_wp2
            have hk := (EdAt.setO (g2 := G) hz6 (by omega) 1 (.int .i64 (-1))).put (k : Int) (-1) t
            simp only [EdAt, putE] at hk
            refine bodyPost_ret (results_ed rfl _ _ w.heap.size _ _ _ _ rfl hk Try.underlying24 rfl (by kernel_rfl)) rfl ?_
            exact ⟨(k : Int), (-1), t, p + 4 + 1, rfl, ⟨by omega, by omega⟩, ⟨by omega, by omega⟩, by omega, ((hrd6.setE G 1 (.int .i64 (-1)) hlB (by omega)).setE _ _ _ hlB hlt |>.setE _ _ _ hlB hlt |>.setE _ _ _ hlB hlt), by omega, grown_ed (grown_ed (grown_ed (grown_ed hg6 G 1 (.int .i64 (-1)) (by omega)) _ _ _ (Nat.le_refl _)) _ _ _ (Nat.le_refl _)) _ _ _ (Nat.le_refl _)⟩
          · have v2n : ((v : Int) == 2) = false := by simp; omega
            go_upto_region 12 with (fail)
            obtain ⟨d0, d1, d2⟩ := (he6).cells
            obtain ⟨z0, z1, z2⟩ := (hz6).cells
            have fz := (hz6).free
            go_wp2
            have hk := (hz6).put (k : Int) c t
            simp only [EdAt, putE] at hk
            refine bodyPost_ret (results_ed rfl _ _ w.heap.size _ _ _ _ rfl hk Try.underlying24 rfl (by kernel_rfl)) rfl ?_
            exact ⟨(k : Int), c, t, p + 4 + 1, rfl, ⟨by omega, by omega⟩, ⟨by omega, by omega⟩, by omega, ((hrd6).setE _ _ _ hlB hlt |>.setE _ _ _ hlB hlt |>.setE _ _ _ hlB hlt), by omega, grown_ed (grown_ed (grown_ed (hg6) _ _ _ (Nat.le_refl _)) _ _ _ (Nat.le_refl _)) _ _ _ (Nat.le_refl _)⟩
  · have d1 : decide ((s.size : Int) < (k : Int) + c) = false := decide_eq_false h1
    have he5 := he3
    have hz5 := hz3
    have hrd5 := hrd3'
    have hg5 := hg3
    go_wp2_with fail
    refine (pick_any wE B R L (p + 3) _ hrd5 (by omega) (by omega) (by omega)).mono ?_
    rintro e w6 ⟨v, rfl, hv, hrd6, hgr6⟩
    have he6 := he5.overR hgr6 (by omega)
    have hz6 := hz5.overR hgr6 (by omega)
    have hg6 := grown_trans hg5 hgr6
    have hlt6 := hrd6.lt
    clear he5 hz5 hrd5 hg5 hgr6
    by_cases v0 : v = 0
    · subst v0
      go_wp2_with fail
      refine (one_any _ B R L (p + 3 + 1) w6.heap.size 3 3 [-1, (s.size : Int) + 1, 60] (hrd6.alloc _) (heap_alloc_new w6 _) (by omega) (Lib.hid rfl) (by omega) (by omega) (by omega)).mono ?_
      rintro e w7 ⟨y, rfl, hy, hrd7, hgr7⟩
      have hy3 : -1 ≤ y ∧ y ≤ 1000 := by simp at hy; omega
      have hgz := grown_trans (World.grownBy_alloc w6 (.cells #[.int .i64 (-1), .int .i64 ((s.size : Int) + 1), .int .i64 60] 3) (some R)) hgr7
      have he7 := he6.overR hgz (by omega)
      have hz7 := hz6.overR hgz (by omega)
      have hg7 := grown_trans hg6 hgz
      have f7 := he7.free
      obtain ⟨g0, g1, g2⟩ := he7.cells
      clear he6 hz6 hrd6 hg6 hgz hgr7 hy
      go_upto_region 12 with (fail)
      obtain ⟨d0, d1, d2⟩ := (EdAt.set0 he7 y).cells
      obtain ⟨z0, z1, z2⟩ := (EdAt.setO (g2 := G) hz7 (by omega) 0 (.int .i64 y)).cells
      have fz := (EdAt.setO (g2 := G) hz7 (by omega) 0 (.int .i64 y)).free
      go_wp2
      have hk := (EdAt.setO (g2 := G) hz7 (by omega) 0 (.int .i64 y)).put y c t
      simp only [EdAt, putE] at hk
      refine bodyPost_ret (results_ed rfl _ _ w.heap.size _ _ _ _ rfl hk Try.underlying24 rfl (by kernel_rfl)) rfl ?_
      exact ⟨y, c, t, p + 3 + 2, rfl, hy3, ⟨by omega, by omega⟩, by omega, ((hrd7.setE G 0 (.int .i64 y) hlB (by omega)).setE _ _ _ hlB hlt |>.setE _ _ _ hlB hlt |>.setE _ _ _ hlB hlt), by omega, grown_ed (grown_ed (grown_ed (grown_ed hg7 G 0 (.int .i64 y) (by omega)) _ _ _ (Nat.le_refl _)) _ _ _ (Nat.le_refl _)) _ _ _ (Nat.le_refl _)⟩
    · have v0n : ((v : Int) == 0) = false := by simp; omega
      by_cases v1 : v = 1
      · subst v1
        go_wp2_with fail
        refine (of_any _ B R L (p + 3 + 1) w6.heap.size 3 3 putsB (hrd6.alloc _) (heap_alloc_new w6 _) (by omega) (Lib.hid rfl) (by omega) (by omega) (by omega)).mono ?_
        rintro e w7 ⟨u, rfl, hu, hrd7, hgr7⟩
        have hu6 : u.size ≤ 60 := small_strs (by decide +kernel) hu
        have hgz := grown_trans (World.grownBy_alloc w6 (.cells (strs putsB) 9) (some R)) hgr7
        have he7 := he6.overR hgz (by omega)
        have hz7 := hz6.overR hgz (by omega)
        have hg7 := grown_trans hg6 hgz
        have f7 := he7.free
        obtain ⟨g0, g1, g2⟩ := he7.cells
        clear he6 hz6 hrd6 hg6 hgz hgr7 hu
        go_upto_region 12 with (fail)
        obtain ⟨d0, d1, d2⟩ := (EdAt.set2 he7 u).cells
        obtain ⟨z0, z1, z2⟩ := (EdAt.setO (g2 := G) hz7 (by omega) 2 (.string u)).cells
        have fz := (EdAt.setO (g2 := G) hz7 (by omega) 2 (.string u)).free
        go_wp2
        have hk := (EdAt.setO (g2 := G) hz7 (by omega) 2 (.string u)).put (k : Int) c u
        simp only [EdAt, putE] at hk
        refine bodyPost_ret (results_ed rfl _ _ w.heap.size _ _ _ _ rfl hk Try.underlying24 rfl (by kernel_rfl)) rfl ?_
        exact ⟨(k : Int), c, u, p + 3 + 2, rfl, ⟨by omega, by omega⟩, ⟨by omega, by omega⟩, hu6, ((hrd7.setE G 2 (.string u) hlB (by omega)).setE _ _ _ hlB hlt |>.setE _ _ _ hlB hlt |>.setE _ _ _ hlB hlt), by omega, grown_ed (grown_ed (grown_ed (grown_ed hg7 G 2 (.string u) (by omega)) _ _ _ (Nat.le_refl _)) _ _ _ (Nat.le_refl _)) _ _ _ (Nat.le_refl _)⟩
      · have v1n : ((v : Int) == 1) = false := by simp; omega
        have f7 := he6.free
        obtain ⟨g0, g1, g2⟩ := he6.cells
        by_cases v2 : v = 2
        · subst v2
          go_upto_region 12 with (fail)
          obtain ⟨d0, d1, d2⟩ := (EdAt.set1 he6 (-1)).cells
          obtain ⟨z0, z1, z2⟩ := (EdAt.setO (g2 := G) hz6 (by omega) 1 (.int .i64 (-1))).cells
          have fz := (EdAt.setO (g2 := G) hz6 (by omega) 1 (.int .i64 (-1))).free
          go_wp2
          have hk := (EdAt.setO (g2 := G) hz6 (by omega) 1 (.int .i64 (-1))).put (k : Int) (-1) t
          simp only [EdAt, putE] at hk
          refine bodyPost_ret (results_ed rfl _ _ w.heap.size _ _ _ _ rfl hk Try.underlying24 rfl (by kernel_rfl)) rfl ?_
          exact ⟨(k : Int), (-1), t, p + 3 + 1, rfl, ⟨by omega, by omega⟩, ⟨by omega, by omega⟩, by omega, ((hrd6.setE G 1 (.int .i64 (-1)) hlB (by omega)).setE _ _ _ hlB hlt |>.setE _ _ _ hlB hlt |>.setE _ _ _ hlB hlt), by omega, grown_ed (grown_ed (grown_ed (grown_ed hg6 G 1 (.int .i64 (-1)) (by omega)) _ _ _ (Nat.le_refl _)) _ _ _ (Nat.le_refl _)) _ _ _ (Nat.le_refl _)⟩
        · have v2n : ((v : Int) == 2) = false := by simp; omega
          go_upto_region 12 with (fail)
          obtain ⟨d0, d1, d2⟩ := (he6).cells
          obtain ⟨z0, z1, z2⟩ := (hz6).cells
          have fz := (hz6).free
          go_wp2
          have hk := (hz6).put (k : Int) c t
          simp only [EdAt, putE] at hk
          refine bodyPost_ret (results_ed rfl _ _ w.heap.size _ _ _ _ rfl hk Try.underlying24 rfl (by kernel_rfl)) rfl ?_
          exact ⟨(k : Int), c, t, p + 3 + 1, rfl, ⟨by omega, by omega⟩, ⟨by omega, by omega⟩, by omega, ((hrd6).setE _ _ _ hlB hlt |>.setE _ _ _ hlB hlt |>.setE _ _ _ hlB hlt), by omega, grown_ed (grown_ed (grown_ed (hg6) _ _ _ (Nat.le_refl _)) _ _ _ (Nat.le_refl _)) _ _ _ (Nat.le_refl _)⟩
end Go.Proofs.Ythlamidlcbnchaa
