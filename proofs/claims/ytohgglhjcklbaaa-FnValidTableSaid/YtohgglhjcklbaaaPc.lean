
/- Pieces: what it means that a slice reads as a list of pieces; a copy; whether two are the same. -/
import Derived.Test.YtohgglhjcklbaaaTbF
import Derived.Test.YtohgglhjcklbaaaTbG
import Derived.Handy
namespace Go.Proofs.Ytohgglhjcklbaaa
open Go.RowKit Go.ChangeShapes Go.WideShapes

/-- a piece: its rule, where it begins, where it ends -/
structure PPiece where
  r : Int
  f : Int
  t : Int
def noP : PPiece := ⟨0, 0, 0⟩
instance : Inhabited PPiece := ⟨noP⟩
def PieceAt (w : World) (g o : Nat) (p : PPiece) : Prop :=
  w.cell? ⟨g, o, none⟩ = some (.int .i64 p.r) ∧ w.cell? ⟨g, o + 1, none⟩ = some (.int .i64 p.f) ∧ w.cell? ⟨g, o + 2, none⟩ = some (.int .i64 p.t)
/-- the slice value v reads as the pieces P -/
def PiecesAt (w : World) (v : Value) (P : List PPiece) : Prop :=
  ∃ a cap, v = .slice a P.length cap ∧ P.length ≤ cap ∧ cap ≤ 9223372036854775807 ∧
    (P = [] ∨ ∃ g off, a = some ⟨g, off, none⟩ ∧ ∀ i, i < P.length → PieceAt w g (off + i * 3) (P.getD i noP))
theorem PieceAt.below {w w' : World} {g o : Nat} {p : PPiece} (h : PieceAt w g o p) (hb : Below w.heap.size w w') : PieceAt w' g o p := by
  obtain ⟨h1, h2, h3⟩ := h
  exact ⟨(hb.cell (World.block_lt_of_cell? w _ h1)).trans h1, (hb.cell (World.block_lt_of_cell? w _ h2)).trans h2, (hb.cell (World.block_lt_of_cell? w _ h3)).trans h3⟩
theorem PiecesAt.below {w w' : World} {v : Value} {P : List PPiece} (h : PiecesAt w v P) (hb : Below w.heap.size w w') : PiecesAt w' v P := by
  obtain ⟨a, cap, h1, h2, h3, h4⟩ := h
  refine ⟨a, cap, h1, h2, h3, ?_⟩
  rcases h4 with h4 | ⟨g, off, h4, h5⟩
  · exact .inl h4
  · exact .inr ⟨g, off, h4, fun i hi => (h5 i hi).below hb⟩
def PieceFits (p : PPiece) : Prop := (-9223372036854775808 ≤ p.r ∧ p.r ≤ 9223372036854775807) ∧ (-9223372036854775808 ≤ p.f ∧ p.f ≤ 9223372036854775807) ∧ -9223372036854775808 ≤ p.t ∧ p.t ≤ 9223372036854775807
def PiecesFit (P : List PPiece) : Prop := ∀ p ∈ P, PieceFits p
theorem PiecesFit.at {P : List PPiece} (h : PiecesFit P) (k : Nat) : PieceFits (P.getD k noP) := by
  rw [List.getD_eq_getElem?_getD]
  by_cases hk : k < P.length
  · rw [List.getElem?_eq_getElem hk, Option.getD_some]; exact h _ (List.getElem_mem _)
  · rw [List.getElem?_eq_none (by omega), Option.getD_none]
    simp [PieceFits, noP]
section SXPc
variable {H : Type} {enc : TypeId × Value → H} {W : World} {base : Nat} {spare : Nat → Bool} {held : Bool}
set_option maxRecDepth 100000 in
theorem open_piece_at {fuel b o : Nat} {cs : List Value} {x : DataW H × List MemPlace} (hc : cs.length = 3) (hcell : ∀ j, j < 3 → W.cell? ⟨b, o + j, none⟩ = cs[j]?)
    (h : DataW.trod enc Try.prog W base spare held fuel 81 cs = some x) : ∃ p, PieceAt W b o p ∧ PieceFits p := by
  obtain ⟨xs, n, _, _, _, hxl, hf⟩ := DataW.trod_struct Try.underlying81 h
  match xs, hxl, cs, hc with
  | [y0, y1, y2], _, [v0, v1, v2], _ =>
    have k2 : Try.prog.cellsOf 3 = 1 := by kernel_rfl
    have g0 : DataW.trod enc Try.prog W base spare held n 3 (([v0, v1, v2].drop 0).take (Try.prog.cellsOf 3)) = [y0, y1, y2][0]? := hf 0 _ rfl
    have g1 : DataW.trod enc Try.prog W base spare held n 3 (([v0, v1, v2].drop 1).take (Try.prog.cellsOf 3)) = [y0, y1, y2][1]? := hf 1 _ rfl
    have g2 : DataW.trod enc Try.prog W base spare held n 3 (([v0, v1, v2].drop 2).take (Try.prog.cellsOf 3)) = [y0, y1, y2][2]? := hf 2 _ rfl
    rw [k2] at g0 g1 g2
    simp only [List.drop_zero, List.drop_succ_cons, List.take_succ_cons, List.take_zero, List.getElem?_cons_zero, List.getElem?_cons_succ] at g0 g1 g2
    obtain ⟨p0, hp0, _, hw0⟩ := DataW.trod_int Try.underlying3 g0
    obtain ⟨p1, hp1, _, hw1⟩ := DataW.trod_int Try.underlying3 g1
    obtain ⟨p2, hp2, _, hw2⟩ := DataW.trod_int Try.underlying3 g2
    simp at hp0 hp1 hp2
    subst hp0 hp1 hp2
    have c0 := hcell 0 (by omega)
    have c1 := hcell 1 (by omega)
    have c2 := hcell 2 (by omega)
    have b0 := bounds_i64 hw0
    have b1 := bounds_i64 hw1
    have b2 := bounds_i64 hw2
    refine ⟨⟨p0, p1, p2⟩, ⟨by simpa using c0, by simpa using c1, by simpa using c2⟩, ⟨?_, ?_⟩, ⟨?_, ?_⟩, ?_, ?_⟩ <;> simp only <;> omega
set_option maxRecDepth 100000 in
theorem open_pieces {fuel : Nat} {a : Option Addr} {len cap : Nat} {x : DataW H × List MemPlace} (h : DataW.trod enc Try.prog W base spare held fuel 49 [.slice a len cap] = some x) :
    ∃ P, PiecesAt W (.slice a len cap) P ∧ P.length = len ∧ PiecesFit P := by
  have hC : Try.prog.cellsOf 81 = 3 := by kernel_rfl
  rcases Go.Deep.open_slice Try.underlying49 h with ⟨hcs, _⟩ | ⟨a', len', cap', m, n, D, Pl, hcs, hb, hl, hm, hmm, _, hi⟩
  · simp at hcs
    obtain ⟨rfl, rfl, rfl⟩ := hcs
    exact ⟨[], ⟨none, 0, rfl, Nat.le_refl _, by omega, .inl rfl⟩, rfl, fun z hz => absurd hz (by simp)⟩
  · simp at hcs
    obtain ⟨rfl, rfl, rfl⟩ := hcs
    have hlm : len ≤ m := by rw [hmm]; split <;> omega
    have hcm : cap ≤ 9223372036854775807 := by unfold maxLen at hm; exact hm
    rw [hC] at hi
    by_cases h0 : len = 0
    · subst h0
      exact ⟨[], ⟨some a', cap, rfl, by simp, hcm, .inl rfl⟩, rfl, fun z hz => absurd hz (by simp)⟩
    · obtain ⟨cs0, hc0, _⟩ := hi 0 (by omega)
      rw [Nat.zero_mul] at hc0
      have hsp : ∃ b off, a' = ⟨b, off, none⟩ := by
        obtain ⟨_, h1, h2⟩ := World.cells?_some hc0
        have h3 := h2 0 (by omega)
        obtain ⟨u, hu⟩ : ∃ u, cs0[0]? = some u := ⟨cs0[0]'(by omega), List.getElem?_eq_getElem (by omega)⟩
        rw [hu] at h3
        obtain ⟨b, off, spot⟩ := a'
        have hspot : spot = none := by simpa [Addr.add] using World.cell?_spot h3
        exact ⟨b, off, by rw [hspot]⟩
      obtain ⟨b, off, rfl⟩ := hsp
      have each : ∀ i, i < len → ∃ r, PieceAt W b (off + i * 3) r ∧ PieceFits r := by
        intro i hil
        obtain ⟨cs, hc, ht⟩ := hi i (by omega)
        obtain ⟨hc1, hc2⟩ := cells_of hc
        exact open_piece_at hc1 hc2 ht
      obtain ⟨R, hR⟩ := Go.Deep.choose_lt each
      have hlen : ((List.range len).map R).length = len := by simp
      refine ⟨(List.range len).map R, ⟨_, cap, by rw [hlen], by omega, hcm, .inr ⟨b, off, rfl, fun i hi => ?_⟩⟩, hlen, fun r hr => ?_⟩
      · have hi' : i < len := by omega
        have : ((List.range len).map R).getD i noP = R i := by simp [List.getD_eq_getElem?_getD, hi']
        rw [this]; exact (hR i hi').1
      · obtain ⟨i, hi, rfl⟩ := List.mem_map.1 hr
        exact (hR i (List.mem_range.1 hi)).2
end SXPc

theorem infoPiece : (Try.prog.info? 59).map (fun i => (i.zero, i.size, i.bytes)) = some (some (.agg #[.int .i64 0, .int .i64 0, .int .i64 0]), 3, 24) := by kernel_rfl
theorem PieceAt.set {w : World} {g o : Nat} {p : PPiece} (h : PieceAt w g o p) {o' : Nat} (ho : o' < o ∨ o + 2 < o') (v : Value) : PieceAt (w.setCell ⟨g, o', none⟩ v) g o p := by
  obtain ⟨h1, h2, h3⟩ := h
  refine ⟨?_, ?_, ?_⟩
  · rw [World.cell?_setCell_other _ _ _ _ (fun e => by injection e; omega)]; exact h1
  · rw [World.cell?_setCell_other _ _ _ _ (fun e => by injection e; omega)]; exact h2
  · rw [World.cell?_setCell_other _ _ _ _ (fun e => by injection e; omega)]; exact h3
theorem piece_put {w : World} {g n o : Nat} {r f t : Int} (h : Room w g n) (ho : o + 2 < n * 3) :
    PieceAt (((w.setCell ⟨g, o, none⟩ (.int .i64 r)).setCell ⟨g, o + 1, none⟩ (.int .i64 f)).setCell ⟨g, o + 2, none⟩ (.int .i64 t)) g o ⟨r, f, t⟩ := by
  have r1 := h.set o (.int .i64 r)
  have r2 := r1.set (o + 1) (.int .i64 f)
  obtain ⟨u0, h0⟩ := h.1 o (by omega)
  obtain ⟨u1, h1⟩ := r1.1 (o + 1) (by omega)
  obtain ⟨u2, h2⟩ := r2.1 (o + 2) (by omega)
  refine ⟨?_, ?_, World.cell?_setCell_same _ _ _ h2⟩
  · rw [World.cell?_setCell_other _ _ _ _ (by simp), World.cell?_setCell_other _ _ _ _ (by simp)]
    exact World.cell?_setCell_same _ _ _ h0
  · rw [World.cell?_setCell_other _ _ _ _ (by simp)]
    exact World.cell?_setCell_same _ _ _ h1
/-- the first k pieces of P lie in block g -/
def PcTo (w : World) (g : Nat) (P : List PPiece) (k : Nat) : Prop := ∀ j, j < k → PieceAt w g (j * 3) (P.getD j noP)
theorem PcTo.zero (w : World) (g : Nat) (P : List PPiece) : PcTo w g P 0 := fun i h => absurd h (by omega)
theorem PcTo.below {w w' : World} {g k : Nat} {P : List PPiece} (h : PcTo w g P k) (hb : Below w.heap.size w w') : PcTo w' g P k := fun j hj => (h j hj).below hb
theorem PcTo.put {w : World} {g n k : Nat} {P : List PPiece} {r f t : Int} (h : PcTo w g P k) (hr : Room w g n) (hk : k < n) (hT : P.getD k noP = ⟨r, f, t⟩) :
    PcTo (((w.setCell ⟨g, k * 3, none⟩ (.int .i64 r)).setCell ⟨g, k * 3 + 1, none⟩ (.int .i64 f)).setCell ⟨g, k * 3 + 2, none⟩ (.int .i64 t)) g P (k + 1) := fun j hj => by
  by_cases hjk : j = k
  · subst hjk
    rw [hT]
    exact piece_put hr (by omega)
  · have h0 := h j (by omega)
    exact ((h0.set (by omega) _).set (by omega) _).set (by omega) _
theorem PiecesAt.of_new {w : World} {g n : Nat} {P : List PPiece} (h : PcTo w g P n) (hn : P.length = n) (hm : n ≤ 9223372036854775807) : PiecesAt w (.slice (some ⟨g, 0, none⟩) n n) P := by
  refine ⟨_, n, by rw [hn], by omega, hm, .inr ⟨g, 0, rfl, fun i hi => ?_⟩⟩
  rw [Nat.zero_add]
  exact h i (by omega)

set_option maxHeartbeats 1000000 in
theorem toPiece_any (w : World) (r f t : Int) :
    Calls Try.prog 69 #[.agg #[.int .i64 r, .int .i64 f, .int .i64 t]] w fun e w' => e = .returned (.agg #[.int .i64 r, .int .i64 f, .int .i64 t]) ∧ Below w.heap.size w w' := by
  go_enter Try.func69, Try.ntmps69
  go_wp2
  have hk : (((w.alloc (.cells #[.int .i64 r, .int .i64 f, .int .i64 t] 81)).alloc (.cells #[.int .i64 r, .int .i64 f, .int .i64 t] 59)).alloc (.cells #[.int .i64 r, .int .i64 f, .int .i64 t] 59)).heap[w.heap.size + 1]? = some (.cells #[.int .i64 r, .int .i64 f, .int .i64 t] 59 (0, 0)) := by
    rw [Below.heap_alloc _ _ _ (by simp)]
    have := heap_alloc_new (w.alloc (.cells #[.int .i64 r, .int .i64 f, .int .i64 t] 81)) (.cells #[.int .i64 r, .int .i64 f, .int .i64 t] 59)
    simpa using this
  refine bodyPost_ret (results_cell_row rfl _ _ (w.heap.size + 1) _ #[.int .i64 r, .int .i64 f, .int .i64 t] _ _ rfl hk Try.underlying59 rfl (by kernel_rfl)) rfl ?_
  exact ⟨rfl, (((Below.refl _ _).alloc (Nat.le_refl _) _).alloc (by simp) _).alloc (by simp; omega) _⟩
/-- a copied list of pieces -/
def PcMade (P : List PPiece) (n : Nat) (w : World) (e : Ending) (w' : World) : Prop :=
  e = .returned (.slice (some ⟨w.heap.size, 0, none⟩) n n) ∧ PcTo w' w.heap.size P n ∧ Room w' w.heap.size n ∧ Below w.heap.size w w'
set_option maxHeartbeats 2000000 in
theorem toPieceS_any (w : World) (v : Value) (P : List PPiece) (n : Nat) (hx : PiecesAt w v P) (hbig : n ≤ 1048576) (hn : Hid (P.length = n)) :
    Calls Try.prog 38 #[v] w fun e w' => PcMade P n w e w' := by
  obtain ⟨i0, hi, hz0, hz1, hz2⟩ := info_parts infoPiece
  obtain ⟨a, cp, rfl, x1, x2, x3⟩ := hx
  rw [hn.out] at x1 x3 ⊢
  go_enter Try.func38, Try.ntmps38
  go_wp2_with (at_make; refine wpList_make_full _ rfl _ _ 52 rfl w.heap.size 59 i0 (.agg #[.int .i64 0, .int .i64 0, .int .i64 0]) 3 Try.underlying52 hi hz0 hz1 .i64 .i64 n n n rfl rfl rfl rfl (by rw [hz2]; omega) (by unfold maxLen; omega) (Nat.le_refl _) ?_)
  intro w1 hown hgr
  have hB1 : Below w.heap.size w w1 := ⟨hgr.os, hgr.tape, hgr.output, hgr.size, fun k hk => hgr.block k hk (by simp)⟩
  have hR1 : Room w1 w.heap.size n := by
    refine ⟨fun o ho => ?_, fun o => hown.frozenAt o, (hown.lt _ rfl).2⟩
    rw [hown.cellAt o ho]
    exact ⟨_, List.getElem?_eq_getElem (by rw [hown.1]; exact ho)⟩
  have hsz1 := hR1.2.2
  clear hown hgr hi hz0 hz1 hz2
  go_wp2
  go_loopw [4] (fun i wr => ∃ k : Nat, k ≤ n ∧ i = .int .i64 k ∧ PcTo wr w.heap.size P k ∧ Room wr w.heap.size n ∧ Below w.heap.size w wr) (fun i _ => n - (intOf i).toNat)
  case atStart => exact ⟨0, Nat.zero_le _, rfl, PcTo.zero _ _ _, hR1, hB1⟩
  case round =>
    clear hR1 hB1 hsz1
    obtain ⟨k, hk, rfl, hnew, hroom, hb1⟩ := hrel
    have hsz := hb1.size
    by_cases hlt : k < n
    · rcases x3 with rfl | ⟨g, off, rfl, x3⟩
      · exact absurd hn.out (by simp; omega)
      obtain ⟨q, hq⟩ : ∃ q, P.getD k noP = q := ⟨_, rfl⟩
      have hra := x3 k hlt
      rw [hq] at hra
      have HQ := Lib.hid hq
      clear hq x3
      obtain ⟨r, f, t⟩ := q
      obtain ⟨c0, c1, c2⟩ := hra
      simp only at c0 c1 c2
      have c0 := (hb1.cell (World.block_lt_of_cell? w _ c0)).trans c0
      have c1 := (hb1.cell (World.block_lt_of_cell? w _ c1)).trans c1
      have c2 := (hb1.cell (World.block_lt_of_cell? w _ c2)).trans c2
      go_wp2_with fail
      refine (toPiece_any wr r f t).mono ?_
      rintro e w2 ⟨rfl, hb2⟩
      have hnew2 := hnew.below hb2
      have hroom2 := hroom.below hb2
      have hB2 := hb1.trans (hb2.mono hsz)
      clear hnew hroom c0 c1 c2
      obtain ⟨u0, e0⟩ := hroom2.1 (k * 3) (by omega)
      obtain ⟨u1', e1⟩ := hroom2.1 (k * 3 + 1) (by omega)
      obtain ⟨u2', e2⟩ := hroom2.1 (k * 3 + 2) (by omega)
      have f0 := hroom2.2.1 (k * 3)
      have f1 := hroom2.2.1 (k * 3 + 1)
      have f2 := hroom2.2.1 (k * 3 + 2)
      have HN3 := Lib.hid (hnew2.put hroom2 hlt HQ.out)
      have HR3 := Lib.hid (((hroom2.set (k * 3) (.int .i64 r)).set (k * 3 + 1) (.int .i64 f)).set (k * 3 + 2) (.int .i64 t))
      have HB3 := Lib.hid (((hB2.setCell (p := ⟨w.heap.size, k * 3, none⟩) (Nat.le_refl _) (.int .i64 r)).setCell (p := ⟨w.heap.size, k * 3 + 1, none⟩) (Nat.le_refl _) (.int .i64 f)).setCell (p := ⟨w.heap.size, k * 3 + 2, none⟩) (Nat.le_refl _) (.int .i64 t))
      clear hnew2 hroom2 hB2
      go_wp2
      go_roundw
      case rel => exact ⟨k + 1, by omega, by go_num, HN3.out, HR3.out, HB3.out⟩
      case measure => simp [intOf]; omega
    · go_wp2
      go_ret
      obtain rfl : k = n := by omega
      exact ⟨rfl, hnew, hroom, hb1⟩

set_option maxHeartbeats 1000000 in
theorem eqPiece_same (w : World) (r f t : Int) :
    Calls Try.prog 71 #[.agg #[.int .i64 r, .int .i64 f, .int .i64 t], .agg #[.int .i64 r, .int .i64 f, .int .i64 t]] w fun e w' => e = .returned (.bool true) ∧ Below w.heap.size w w' := by
  go_enter Try.func71, Try.ntmps71
  go_wp2
  go_ret
  exact ⟨rfl, ((Below.refl _ _).alloc (Nat.le_refl _) _).alloc (by simp) _⟩

set_option maxHeartbeats 2000000 in
theorem eqPieceS_same (w : World) (u v : Value) (P : List PPiece) (hx : PiecesAt w u P) (hy : PiecesAt w v P) :
    Calls Try.prog 40 #[u, v] w fun e w' => e = .returned (.bool true) ∧ Below w.heap.size w w' := by
  obtain ⟨a, cp, rfl, x1, x2, x3⟩ := hx
  obtain ⟨a', cp', rfl, y1, y2, y3⟩ := hy
  obtain ⟨n, hn⟩ : ∃ n, P.length = n := ⟨_, rfl⟩
  rw [hn] at x1 x3 y1 y3 ⊢
  have HN := Lib.hid hn
  clear hn
  go_enter Try.func40, Try.ntmps40
  go_wp2
  go_loopw [5] (fun i wr => ∃ k : Nat, k ≤ n ∧ i = .int .i64 k ∧ Below w.heap.size w wr) (fun i _ => n - (intOf i).toNat)
  case atStart => exact ⟨0, Nat.zero_le _, rfl, Below.refl _ _⟩
  case round =>
    obtain ⟨k, hk, rfl, hb1⟩ := hrel
    have hsz := hb1.size
    by_cases hlt : k < n
    · rcases x3 with rfl | ⟨g, off, rfl, x3⟩
      · exact absurd HN.out (by simp; omega)
      rcases y3 with rfl | ⟨g', off', rfl, y3⟩
      · exact absurd HN.out (by simp; omega)
      have hra := x3 k hlt
      have hrb := y3 k hlt
      clear x3 y3
      obtain ⟨q, hq⟩ : ∃ q, P.getD k noP = q := ⟨_, rfl⟩
      rw [hq] at hra hrb
      clear hq
      obtain ⟨r, f, t⟩ := q
      obtain ⟨c0, c1, c2⟩ := hra
      obtain ⟨d0, d1, d2⟩ := hrb
      simp only at c0 c1 c2 d0 d1 d2
      have c0 := (hb1.cell (World.block_lt_of_cell? w _ c0)).trans c0
      have c1 := (hb1.cell (World.block_lt_of_cell? w _ c1)).trans c1
      have c2 := (hb1.cell (World.block_lt_of_cell? w _ c2)).trans c2
      have d0 := (hb1.cell (World.block_lt_of_cell? w _ d0)).trans d0
      have d1 := (hb1.cell (World.block_lt_of_cell? w _ d1)).trans d1
      have d2 := (hb1.cell (World.block_lt_of_cell? w _ d2)).trans d2
      have b1 : (0 : Int) ≤ (k : Int) := by omega
      have b2 : (k : Int) < (n : Int) := by omega
      have HC : Hid (wr.cell? ⟨g, off + k * 3, none⟩ = some (.int .i64 r) ∧ wr.cell? ⟨g, off + k * 3 + 1, none⟩ = some (.int .i64 f) ∧ wr.cell? ⟨g, off + k * 3 + 2, none⟩ = some (.int .i64 t) ∧ wr.cell? ⟨g', off' + k * 3, none⟩ = some (.int .i64 r) ∧ wr.cell? ⟨g', off' + k * 3 + 1, none⟩ = some (.int .i64 f) ∧ wr.cell? ⟨g', off' + k * 3 + 2, none⟩ = some (.int .i64 t)) := ⟨c0, c1, c2, d0, d1, d2⟩
      have HK : Hid (∀ wx, Below wr.heap.size wr wx → wx.cell? ⟨g, off + k * 3, none⟩ = some (.int .i64 r) ∧ wx.cell? ⟨g, off + k * 3 + 1, none⟩ = some (.int .i64 f) ∧ wx.cell? ⟨g, off + k * 3 + 2, none⟩ = some (.int .i64 t) ∧ wx.cell? ⟨g', off' + k * 3, none⟩ = some (.int .i64 r) ∧ wx.cell? ⟨g', off' + k * 3 + 1, none⟩ = some (.int .i64 f) ∧ wx.cell? ⟨g', off' + k * 3 + 2, none⟩ = some (.int .i64 t)) := fun wx h => by
        obtain ⟨c0, c1, c2, d0, d1, d2⟩ := HC.out
        exact ⟨(h.cell (World.block_lt_of_cell? wr _ c0)).trans c0, (h.cell (World.block_lt_of_cell? wr _ c1)).trans c1, (h.cell (World.block_lt_of_cell? wr _ c2)).trans c2, (h.cell (World.block_lt_of_cell? wr _ d0)).trans d0, (h.cell (World.block_lt_of_cell? wr _ d1)).trans d1, (h.cell (World.block_lt_of_cell? wr _ d2)).trans d2⟩
      clear c0 c1 c2 d0 d1 d2
      go_wp2_with fail
      go_region_held3 (fun wx => wx.cell? ⟨g, off + k * 3, none⟩ = some (.int .i64 r) ∧ wx.cell? ⟨g, off + k * 3 + 1, none⟩ = some (.int .i64 f) ∧ wx.cell? ⟨g, off + k * 3 + 2, none⟩ = some (.int .i64 t) ∧ wx.cell? ⟨g', off' + k * 3, none⟩ = some (.int .i64 r) ∧ wx.cell? ⟨g', off' + k * 3 + 1, none⟩ = some (.int .i64 f) ∧ wx.cell? ⟨g', off' + k * 3 + 2, none⟩ = some (.int .i64 t)) (first | assumption | exact HK.out _ (Below.refl _ _).drew | exact HK.out _ ((Below.refl _ _).drew.trans hb2)) (first | (go_at_call 71; refine (eqPiece_same wr.drew r f t).mono ?_; rintro e w2 ⟨rfl, hb2⟩))
      all_goals
        go_wp2
        go_roundw
        case rel => exact ⟨k + 1, by omega, by go_num, hb1.trans (((Below.refl _ _).drew.trans hb2).mono hsz)⟩
        case measure => simp [intOf]; omega
    · go_wp2
      go_ret
      exact ⟨rfl, hb1⟩
end Go.Proofs.Ytohgglhjcklbaaa
