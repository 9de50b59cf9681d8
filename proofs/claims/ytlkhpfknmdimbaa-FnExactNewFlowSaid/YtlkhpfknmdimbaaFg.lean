
/- The exact laws' own functions on signals and lines: sizes, copies, whether two are the same. -/
import Derived.Test.YtlkhpfknmdimbaaFf
import Derived.Test.YtlkhpfknmdimbaaExS
namespace Go.Proofs.Ytlkhpfknmdimbaa
open Go.RowKit Go.ChangeShapes Go.WideShapes

theorem zeros_sig (n : Nat) : (madeCells #[Value.int .i64 0, Value.bool false] (n * 2)).toList = scells (List.replicate n noS) := by
  apply List.ext_getElem?
  intro j
  by_cases hj : j < n * 2
  · have hl : (madeCells #[Value.int .i64 0, Value.bool false] (n * 2)).toList.length = n * 2 := by rw [Array.length_toList, size_madeCells]
    rw [List.getElem?_eq_getElem (by rw [hl]; exact hj)]
    have hi : j / 2 < (List.replicate n noS).length := by rw [List.length_replicate]; omega
    obtain ⟨e0, e1⟩ := scells_at (List.replicate n noS) (j / 2) hi
    have hg : (List.replicate n noS).getD (j / 2) noS = noS := by
      rw [List.getD_eq_getElem?_getD, List.getElem?_eq_getElem hi, Option.getD_some, List.getElem_replicate]
    rw [hg] at e0 e1
    rcases (show j % 2 = 0 ∨ j % 2 = 1 from by omega) with h | h
    · rw [show j / 2 * 2 = j from by omega] at e0
      rw [e0]
      simp [madeCells, h, noS]
    · rw [show j / 2 * 2 + 1 = j from by omega] at e1
      rw [e1]
      simp [madeCells, h, noS]
  · rw [List.getElem?_eq_none (by rw [Array.length_toList, size_madeCells]; omega), List.getElem?_eq_none (by rw [scells_len, List.length_replicate]; omega)]
set_option maxHeartbeats 1000000 in
theorem toSignal_any (w : World) (r : Int) (f : Bool) :
    Calls Try.prog 64 #[.agg #[.int .i64 r, .bool f]] w fun e w' => e = .returned (.agg #[.int .i64 r, .bool f]) ∧ Below w.heap.size w w' := by
  go_enter Try.func64, Try.ntmps64
  go_wp2
  have hk : (((w.alloc (.cells #[.int .i64 r, .bool f] 65)).alloc (.cells #[.int .i64 r, .bool f] 53)).alloc (.cells #[.int .i64 r, .bool f] 53)).heap[w.heap.size + 1]? = some (.cells #[.int .i64 r, .bool f] 53 (0, 0)) := by
    rw [Below.heap_alloc _ _ _ (by simp)]
    have := heap_alloc_new (w.alloc (.cells #[.int .i64 r, .bool f] 65)) (.cells #[.int .i64 r, .bool f] 53)
    simpa using this
  refine bodyPost_ret (results_cell_row rfl _ _ (w.heap.size + 1) _ #[.int .i64 r, .bool f] _ _ rfl hk Try.underlying53 rfl (by kernel_rfl)) rfl ?_
  exact ⟨rfl, (((Below.refl _ _).alloc (Nat.le_refl _) _).alloc (by simp) _).alloc (by simp; omega) _⟩
theorem szSignalS_any (w : World) (v : Value) (P : List PSig) (l : Int) (hx : SigsAt w v P) (h0 : 0 ≤ l) (h1 : l ≤ 1048576) :
    Calls Try.prog 52 #[v, .int .i64 l] w fun e w' => (∃ k : Int, e = .returned (.int .i64 k) ∧ (k = -1 ∨ (0 ≤ k ∧ k ≤ 1048576 ∧ P.length ≤ 1048576))) ∧ w = w' := by
  obtain ⟨a, cp, rfl, x1, x2, x3⟩ := hx
  obtain ⟨n, hn⟩ : ∃ n, P.length = n := ⟨_, rfl⟩
  rw [hn] at x1 x3 ⊢
  clear hn x3
  have hu1 : IntKind.i64.wrap (l - (n : Int)) = l - (n : Int) := IntWalk.i64_in _ (by omega)
  by_cases c : l - (n : Int) < 0
  · have d1 : decide (l - (n : Int) < 0) = true := decide_eq_true c
    go_enter Try.func52, Try.ntmps52
    go_wp2
    go_ret
    exact ⟨⟨-1, rfl, .inl rfl⟩, rfl⟩
  · have d1 : decide (l - (n : Int) < 0) = false := decide_eq_false c
    go_enter Try.func52, Try.ntmps52
    go_wp2
    go_ret
    exact ⟨⟨_, rfl, .inr ⟨by omega, by omega, by omega⟩⟩, rfl⟩

/-- a copied list of signals -/
def SgMade (P : List PSig) (n : Nat) (w : World) (e : Ending) (w' : World) : Prop :=
  e = .returned (.slice (some ⟨w.heap.size, 0, none⟩) n n) ∧ OwnSg w' w.heap.size (.slice (some ⟨w.heap.size, 0, none⟩) n n) P ∧ Below w.heap.size w w'
set_option maxHeartbeats 2000000 in
theorem toSignalS_any (w : World) (v : Value) (P : List PSig) (n : Nat) (hx : SigsAt w v P) (hbig : n ≤ 1048576) (hn : Hid (P.length = n)) :
    Calls Try.prog 53 #[v] w fun e w' => SgMade P n w e w' := by
  obtain ⟨i0, hi, hz0, hz1, hz2⟩ := info_parts infoSig
  obtain ⟨a, cp, rfl, x1, x2, x3⟩ := hx
  rw [hn.out] at x1 x3 ⊢
  go_enter Try.func53, Try.ntmps53
  go_wp2_with (at_make; refine wpList_make_full _ rfl _ _ 23 rfl w.heap.size 53 i0 (.agg #[.int .i64 0, .bool false]) 2 Try.underlying23 hi hz0 hz1 .i64 .i64 n n n rfl rfl rfl rfl (by rw [hz2]; omega) (by unfold maxLen; omega) (Nat.le_refl _) ?_)
  intro w1 hown hgr
  have hB1 : Below w.heap.size w w1 := ⟨hgr.os, hgr.tape, hgr.output, hgr.size, fun k hk => hgr.block k hk (by simp)⟩
  rw [zeros_sig] at hown
  have hO1 : OwnSg w1 w.heap.size (.slice (some ⟨w.heap.size, 0, none⟩) n n) (cpS P n 0) := by
    show World.ownsRow _ _ _ _ _ (List.replicate n noS).length _
    rw [List.length_replicate]
    exact hown
  clear hown hgr hi hz0 hz1 hz2
  go_wp2
  go_loopw [4] (fun i wr => ∃ k : Nat, k ≤ n ∧ i = .int .i64 k ∧ OwnSg wr w.heap.size (.slice (some ⟨w.heap.size, 0, none⟩) n n) (cpS P n k) ∧ Below w.heap.size w wr) (fun i _ => n - (intOf i).toNat)
  case atStart => exact ⟨0, Nat.zero_le _, rfl, hO1, hB1⟩
  case round =>
    clear hO1 hB1
    obtain ⟨k, hk, rfl, hO, hb1⟩ := hrel
    have hsz := hb1.size
    by_cases hlt : k < n
    · rcases x3 with rfl | ⟨g, off, rfl, x3⟩
      · exact absurd hn.out (by simp; omega)
      obtain ⟨q, hq⟩ : ∃ q, P.getD k noS = q := ⟨_, rfl⟩
      have hra := x3 k hlt
      rw [hq] at hra
      have HQ := Lib.hid hq
      clear hq x3
      obtain ⟨r, f⟩ := q
      obtain ⟨c0, c1⟩ := hra
      simp only at c0 c1
      have c0 := (hb1.cell (World.block_lt_of_cell? w _ c0)).trans c0
      have c1 := (hb1.cell (World.block_lt_of_cell? w _ c1)).trans c1
      have HO := keptF hO
      clear hO
      go_wp2_with fail
      refine (toSignal_any wr r f).mono ?_
      rintro e w2 ⟨rfl, hb2⟩
      have hO2 := HO.out.below hb2
      have hB2 := hb1.trans (hb2.mono hsz)
      clear c0 c1 hb2
      obtain ⟨e0, e1, hfr⟩ := hO2.cell2 hlt
      have f0 := hfr (k * 2)
      have f1 := hfr (k * 2 + 1)
      have HO3 : Hid (OwnSg ((w2.setCell ⟨w.heap.size, k * 2, none⟩ (.int .i64 r)).setCell ⟨w.heap.size, k * 2 + 1, none⟩ (.bool f)) w.heap.size (.slice (some ⟨w.heap.size, 0, none⟩) n n) (cpS P n (k + 1))) := by
        show OwnSg _ _ _ ((cpS P n k).set k (P.getD k noS))
        rw [HQ.out]
        exact hO2.set2 hlt r f
      have HB3 := keptF (((hB2.setCell (p := ⟨w.heap.size, k * 2, none⟩) (Nat.le_refl _) (.int .i64 r)).setCell (p := ⟨w.heap.size, k * 2 + 1, none⟩) (Nat.le_refl _) (.bool f)))
      clear hO2 hB2 hfr
      go_wp2
      go_roundw
      case rel => exact ⟨k + 1, by omega, by go_num, HO3.out, HB3.out⟩
      case measure => simp [intOf]; omega
    · obtain rfl : k = n := by omega
      rw [cpS_all hn.out] at hO
      have HO := keptF hO
      clear hO
      go_wp2
      go_ret
      exact ⟨rfl, HO.out, hb1⟩

set_option maxHeartbeats 1000000 in
theorem eqSignal_same (w : World) (r : Int) (f : Bool) :
    Calls Try.prog 65 #[.agg #[.int .i64 r, .bool f], .agg #[.int .i64 r, .bool f]] w fun e w' => e = .returned (.bool true) ∧ Below w.heap.size w w' := by
  go_enter Try.func65, Try.ntmps65
  go_wp2
  go_ret
  exact ⟨rfl, ((Below.refl _ _).alloc (Nat.le_refl _) _).alloc (by simp) _⟩

set_option maxHeartbeats 2000000 in
theorem eqSignalS_same (w : World) (u v : Value) (P : List PSig) (hx : SigsAt w u P) (hy : SigsAt w v P) :
    Calls Try.prog 54 #[u, v] w fun e w' => e = .returned (.bool true) ∧ Below w.heap.size w w' := by
  obtain ⟨a, cp, rfl, x1, x2, x3⟩ := hx
  obtain ⟨a', cp', rfl, y1, y2, y3⟩ := hy
  obtain ⟨n, hn⟩ : ∃ n, P.length = n := ⟨_, rfl⟩
  rw [hn] at x1 x3 y1 y3 ⊢
  have HN := Lib.hid hn
  clear hn
  go_enter Try.func54, Try.ntmps54
  go_wp2
  go_loopw [5] (fun i wr => ∃ k : Nat, k ≤ n ∧ i = .int .i64 k ∧ Below w.heap.size w wr) (fun i _ => n - (intOf i).toNat)
  case atStart => exact ⟨0, Nat.zero_le _, rfl, Below.refl _ _⟩
  case round =>
    obtain ⟨k, hk, rfl, hb1⟩ := hrel
    have hsz := hb1.size
    by_cases hlt : k < n
    · rcases x3 with rfl | ⟨g, off, rfl, x3⟩
      · exact absurd HN.out (by simp; omega)
      rcases y3 with rfl | ⟨g', off', rfl, y3⟩
      · exact absurd HN.out (by simp; omega)
      have hra := x3 k hlt
      have hrb := y3 k hlt
      clear x3 y3
      obtain ⟨q, hq⟩ : ∃ q, P.getD k noS = q := ⟨_, rfl⟩
      rw [hq] at hra hrb
      clear hq
      obtain ⟨r, f⟩ := q
      obtain ⟨c0, c1⟩ := hra
      obtain ⟨d0, d1⟩ := hrb
      simp only at c0 c1 d0 d1
      have c0 := (hb1.cell (World.block_lt_of_cell? w _ c0)).trans c0
      have c1 := (hb1.cell (World.block_lt_of_cell? w _ c1)).trans c1
      have d0 := (hb1.cell (World.block_lt_of_cell? w _ d0)).trans d0
      have d1 := (hb1.cell (World.block_lt_of_cell? w _ d1)).trans d1
      have b1 : (0 : Int) ≤ (k : Int) := by omega
      have b2 : (k : Int) < (n : Int) := by omega
      have HC : Hid (wr.cell? ⟨g, off + k * 2, none⟩ = some (.int .i64 r) ∧ wr.cell? ⟨g, off + k * 2 + 1, none⟩ = some (.bool f) ∧ wr.cell? ⟨g', off' + k * 2, none⟩ = some (.int .i64 r) ∧ wr.cell? ⟨g', off' + k * 2 + 1, none⟩ = some (.bool f)) := ⟨c0, c1, d0, d1⟩
      have HK : Hid (∀ wx, Below wr.heap.size wr wx → wx.cell? ⟨g, off + k * 2, none⟩ = some (.int .i64 r) ∧ wx.cell? ⟨g, off + k * 2 + 1, none⟩ = some (.bool f) ∧ wx.cell? ⟨g', off' + k * 2, none⟩ = some (.int .i64 r) ∧ wx.cell? ⟨g', off' + k * 2 + 1, none⟩ = some (.bool f)) := fun wx h => by
        obtain ⟨c0, c1, d0, d1⟩ := HC.out
        exact ⟨(h.cell (World.block_lt_of_cell? wr _ c0)).trans c0, (h.cell (World.block_lt_of_cell? wr _ c1)).trans c1, (h.cell (World.block_lt_of_cell? wr _ d0)).trans d0, (h.cell (World.block_lt_of_cell? wr _ d1)).trans d1⟩
      clear c0 c1 d0 d1
      go_wp2_with fail
      go_region_held3 (fun wx => wx.cell? ⟨g, off + k * 2, none⟩ = some (.int .i64 r) ∧ wx.cell? ⟨g, off + k * 2 + 1, none⟩ = some (.bool f) ∧ wx.cell? ⟨g', off' + k * 2, none⟩ = some (.int .i64 r) ∧ wx.cell? ⟨g', off' + k * 2 + 1, none⟩ = some (.bool f)) (first | assumption | exact HK.out _ (Below.refl _ _).drew | exact HK.out _ ((Below.refl _ _).drew.trans hb2)) (first | (go_at_call 65; refine (eqSignal_same wr.drew r f).mono ?_; rintro e w2 ⟨rfl, hb2⟩))
      all_goals
        go_wp2
        go_roundw
        case rel => exact ⟨k + 1, by omega, by go_num, hb1.trans (((Below.refl _ _).drew.trans hb2).mono hsz)⟩
        case measure => simp [intOf]; omega
    · go_wp2
      go_ret
      exact ⟨rfl, hb1⟩
set_option maxHeartbeats 1000000 in
theorem szFlow_any (l : FL) (s : Value) (P : List PSig) (w : World) (hx : SigsAt w s P) :
    Calls Try.prog 34 #[flV l s, .int .i64 1048576] w fun e w' => (∃ k : Int, e = .returned (.int .i64 k) ∧ (k = -1 ∨ (0 ≤ k ∧ k ≤ 1048576 ∧ P.length ≤ 1048576))) ∧ Below w.heap.size w w' := by
  have HX := keptF hx
  obtain ⟨a, cp, rfl, _⟩ := hx
  obtain ⟨n, hn⟩ : ∃ n, P.length = n := ⟨_, rfl⟩
  rw [hn] at HX
  have HN := keptF hn
  rw [hn]
  obtain ⟨v0, v1, v2, v3, v4, v5, v6, v7, v8, v9, v10, v12⟩ := l
  simp only [flV, flC]
  have hB : Below w.heap.size w (w.alloc (.cells #[.int .i64 v0, .int .i64 v1, .int .i64 v2, .int .i64 v3, .int .i64 v4, .int .i64 v5, .int .i64 v6, .int .i64 v7, .int .i64 v8, .bool v9, .bool v10, .slice a n cp, .int .i64 v12] 39)) := (Below.refl _ _).alloc (Nat.le_refl _) _
  have HB := keptF hB
  have HX1 := keptF (HX.out.below hB)
  clear hn hB
  go_enter Try.func34, Try.ntmps34
  go_wp2_with fail
  refine (szSignalS_any _ _ P _ HX1.out (by omega) (by omega)).mono ?_
  rintro e w' ⟨⟨k, rfl, hk⟩, rfl⟩
  rw [HN.out] at hk
  rcases hk with rfl | ⟨k0, k1, k2⟩
  · go_wp2
    go_ret
    exact ⟨⟨-1, rfl, .inl rfl⟩, HB.out⟩
  · have d1 : decide (k < 0) = false := decide_eq_false (by omega)
    go_wp2
    go_ret
    exact ⟨⟨k, rfl, .inr ⟨k0, k1, k2⟩⟩, HB.out⟩
set_option maxHeartbeats 2000000 in
theorem eqFlow_same (l : FL) (s t : Value) (P : List PSig) (w : World) (hx : SigsAt w s P) (hy : SigsAt w t P) :
    Calls Try.prog 36 #[flV l s, flV l t] w fun e w' => e = .returned (.bool true) ∧ Below w.heap.size w w' := by
  have HX := keptF hx
  have HY := keptF hy
  obtain ⟨a, cp, rfl, _⟩ := hx
  obtain ⟨a', cp', rfl, _⟩ := hy
  obtain ⟨n, hn⟩ : ∃ n, P.length = n := ⟨_, rfl⟩
  rw [hn] at HX HY ⊢
  clear hn
  obtain ⟨v0, v1, v2, v3, v4, v5, v6, v7, v8, v9, v10, v12⟩ := l
  simp only [flV, flC]
  have hb9 : (v9 != v9) = false := by cases v9 <;> rfl
  have hb10 : (v10 != v10) = false := by cases v10 <;> rfl
  have hB1 : Below w.heap.size w (w.alloc (.cells #[.int .i64 v0, .int .i64 v1, .int .i64 v2, .int .i64 v3, .int .i64 v4, .int .i64 v5, .int .i64 v6, .int .i64 v7, .int .i64 v8, .bool v9, .bool v10, .slice a n cp, .int .i64 v12] 25)) := (Below.refl _ _).alloc (Nat.le_refl _) _
  have hB2 := hB1.alloc hB1.size (.cells #[.int .i64 v0, .int .i64 v1, .int .i64 v2, .int .i64 v3, .int .i64 v4, .int .i64 v5, .int .i64 v6, .int .i64 v7, .int .i64 v8, .bool v9, .bool v10, .slice a' n cp', .int .i64 v12] 25)
  have HX2 := keptF (HX.out.below hB2)
  have HY2 := keptF (HY.out.below hB2)
  have HB2 := keptF hB2
  clear hB1 hB2
  go_enter Try.func36, Try.ntmps36
  go_wp2_with fail
  refine (eqSignalS_same _ _ _ P HX2.out HY2.out).mono ?_
  rintro e w1 ⟨rfl, hb1⟩
  have HB1 := keptF (below_next HB2.out hb1)
  have hs1 : (w.alloc (.cells #[.int .i64 v0, .int .i64 v1, .int .i64 v2, .int .i64 v3, .int .i64 v4, .int .i64 v5, .int .i64 v6, .int .i64 v7, .int .i64 v8, .bool v9, .bool v10, .slice a n cp, .int .i64 v12] 25)).heap.size = w.heap.size + 1 := World.size_alloc _ _
  have hs2 : ((w.alloc (.cells #[.int .i64 v0, .int .i64 v1, .int .i64 v2, .int .i64 v3, .int .i64 v4, .int .i64 v5, .int .i64 v6, .int .i64 v7, .int .i64 v8, .bool v9, .bool v10, .slice a n cp, .int .i64 v12] 25)).alloc (.cells #[.int .i64 v0, .int .i64 v1, .int .i64 v2, .int .i64 v3, .int .i64 v4, .int .i64 v5, .int .i64 v6, .int .i64 v7, .int .i64 v8, .bool v9, .bool v10, .slice a' n cp', .int .i64 v12] 25)).heap.size = w.heap.size + 1 + 1 := by rw [World.size_alloc, hs1]
  have hF2 := (FlAt.new (w.alloc (.cells #[.int .i64 v0, .int .i64 v1, .int .i64 v2, .int .i64 v3, .int .i64 v4, .int .i64 v5, .int .i64 v6, .int .i64 v7, .int .i64 v8, .bool v9, .bool v10, .slice a n cp, .int .i64 v12] 25)) ⟨v0, v1, v2, v3, v4, v5, v6, v7, v8, v9, v10, v12⟩ (.slice a' n cp')).below hb1 (by show _ < (World.alloc _ _).heap.size; rw [World.size_alloc]; omega)
  have hF1 := ((FlAt.new w ⟨v0, v1, v2, v3, v4, v5, v6, v7, v8, v9, v10, v12⟩ (.slice a n cp)).below ((Below.refl _ _).alloc (Nat.le_refl _) (.cells #[.int .i64 v0, .int .i64 v1, .int .i64 v2, .int .i64 v3, .int .i64 v4, .int .i64 v5, .int .i64 v6, .int .i64 v7, .int .i64 v8, .bool v9, .bool v10, .slice a' n cp', .int .i64 v12] 25)) (by rw [World.size_alloc]; omega)).below hb1 (by rw [hs2]; omega)
  rw [hs1] at hF2
  obtain ⟨c0, c1, c2, c3, c4, c5, c6, c7, c8, c9, c10, c11, c12⟩ := hF1.cells
  obtain ⟨z0, z1, z2, z3, z4, z5, z6, z7, z8, z9, z10, z11, z12⟩ := hF2.cells
  simp only at c12 z12
  clear c0 c1 c2 c3 c4 c5 c6 c7 c8 c9 c10 c11 z0 z1 z2 z3 z4 z5 z6 z7 z8 z9 z10 z11 hF1 hF2 hs1 hs2 hb1
  go_wp2
  go_ret
  exact ⟨rfl, HB1.out⟩
theorem OwnSg.lowF {w : World} {S S' : Nat} {v : Value} {P : List PSig} (h : OwnSg w S v P) (hs : S' ≤ S) : OwnSg w S' v P := by
  rcases h with ⟨h0, h | ⟨g, cap, cur, hv, hb, hg⟩⟩
  · exact ⟨h0, .inl h⟩
  · exact ⟨h0, .inr ⟨g, cap, cur, hv, Nat.le_trans hs hb, hg⟩⟩
set_option maxHeartbeats 1000000 in
theorem toFlow_any (l : FL) (s : Value) (P : List PSig) (n : Nat) (w : World) (hx : SigsAt w s P) (hbig : n ≤ 1048576) (hn : Hid (P.length = n)) :
    Calls Try.prog 35 #[flV l s] w fun e w' => FlowOut l P w e w' := by
  have HX := keptF hx
  obtain ⟨a, cp, rfl, _⟩ := hx
  rw [hn.out] at HX ⊢
  obtain ⟨v0, v1, v2, v3, v4, v5, v6, v7, v8, v9, v10, v12⟩ := l
  simp only [flV, flC, FlowOut]
  go_enter Try.func35, Try.ntmps35
  go_wp2_with fail
  have hs1 : (w.alloc (.cells #[.int .i64 v0, .int .i64 v1, .int .i64 v2, .int .i64 v3, .int .i64 v4, .int .i64 v5, .int .i64 v6, .int .i64 v7, .int .i64 v8, .bool v9, .bool v10, .slice a n cp, .int .i64 v12] 39)).heap.size = w.heap.size + 1 := World.size_alloc _ _
  have hs2 : ((w.alloc (.cells #[.int .i64 v0, .int .i64 v1, .int .i64 v2, .int .i64 v3, .int .i64 v4, .int .i64 v5, .int .i64 v6, .int .i64 v7, .int .i64 v8, .bool v9, .bool v10, .slice a n cp, .int .i64 v12] 39)).alloc (.cells #[.int .i64 0, .int .i64 0, .int .i64 0, .int .i64 0, .int .i64 0, .int .i64 0, .int .i64 0, .int .i64 0, .int .i64 0, .bool false, .bool false, .slice none 0 0, .int .i64 0] 25)).heap.size = w.heap.size + 1 + 1 := by rw [World.size_alloc, hs1]
  have hs3 : (((w.alloc (.cells #[.int .i64 v0, .int .i64 v1, .int .i64 v2, .int .i64 v3, .int .i64 v4, .int .i64 v5, .int .i64 v6, .int .i64 v7, .int .i64 v8, .bool v9, .bool v10, .slice a n cp, .int .i64 v12] 39)).alloc (.cells #[.int .i64 0, .int .i64 0, .int .i64 0, .int .i64 0, .int .i64 0, .int .i64 0, .int .i64 0, .int .i64 0, .int .i64 0, .bool false, .bool false, .slice none 0 0, .int .i64 0] 25)).alloc (.cells #[.int .i64 v0, .int .i64 v1, .int .i64 v2, .int .i64 v3, .int .i64 v4, .int .i64 v5, .int .i64 v6, .int .i64 v7, .int .i64 v8, .bool v9, .bool v10, .slice none 0 0, .int .i64 0] 25)).heap.size = w.heap.size + 1 + 1 + 1 := by rw [World.size_alloc, hs2]
  have hB : Below w.heap.size w (((w.alloc (.cells #[.int .i64 v0, .int .i64 v1, .int .i64 v2, .int .i64 v3, .int .i64 v4, .int .i64 v5, .int .i64 v6, .int .i64 v7, .int .i64 v8, .bool v9, .bool v10, .slice a n cp, .int .i64 v12] 39)).alloc (.cells #[.int .i64 0, .int .i64 0, .int .i64 0, .int .i64 0, .int .i64 0, .int .i64 0, .int .i64 0, .int .i64 0, .int .i64 0, .bool false, .bool false, .slice none 0 0, .int .i64 0] 25)).alloc (.cells #[.int .i64 v0, .int .i64 v1, .int .i64 v2, .int .i64 v3, .int .i64 v4, .int .i64 v5, .int .i64 v6, .int .i64 v7, .int .i64 v8, .bool v9, .bool v10, .slice none 0 0, .int .i64 0] 25)) := (((Below.refl _ _).alloc (Nat.le_refl _) _).alloc (by rw [hs1]; omega) _).alloc (by rw [hs2]; omega) _
  have hL := heap_alloc_new w (.cells #[.int .i64 v0, .int .i64 v1, .int .i64 v2, .int .i64 v3, .int .i64 v4, .int .i64 v5, .int .i64 v6, .int .i64 v7, .int .i64 v8, .bool v9, .bool v10, .slice a n cp, .int .i64 v12] 39)
  have hL2 := (Below.heap_alloc (w.alloc (.cells #[.int .i64 v0, .int .i64 v1, .int .i64 v2, .int .i64 v3, .int .i64 v4, .int .i64 v5, .int .i64 v6, .int .i64 v7, .int .i64 v8, .bool v9, .bool v10, .slice a n cp, .int .i64 v12] 39)) (.cells #[.int .i64 0, .int .i64 0, .int .i64 0, .int .i64 0, .int .i64 0, .int .i64 0, .int .i64 0, .int .i64 0, .int .i64 0, .bool false, .bool false, .slice none 0 0, .int .i64 0] 25) w.heap.size (by rw [hs1]; omega)).trans hL
  have hL3 := (Below.heap_alloc ((w.alloc (.cells #[.int .i64 v0, .int .i64 v1, .int .i64 v2, .int .i64 v3, .int .i64 v4, .int .i64 v5, .int .i64 v6, .int .i64 v7, .int .i64 v8, .bool v9, .bool v10, .slice a n cp, .int .i64 v12] 39)).alloc (.cells #[.int .i64 0, .int .i64 0, .int .i64 0, .int .i64 0, .int .i64 0, .int .i64 0, .int .i64 0, .int .i64 0, .int .i64 0, .bool false, .bool false, .slice none 0 0, .int .i64 0] 25)) (.cells #[.int .i64 v0, .int .i64 v1, .int .i64 v2, .int .i64 v3, .int .i64 v4, .int .i64 v5, .int .i64 v6, .int .i64 v7, .int .i64 v8, .bool v9, .bool v10, .slice none 0 0, .int .i64 0] 25) w.heap.size (by rw [hs2]; omega)).trans hL2
  have hR := FlAt.new (w.alloc (.cells #[.int .i64 v0, .int .i64 v1, .int .i64 v2, .int .i64 v3, .int .i64 v4, .int .i64 v5, .int .i64 v6, .int .i64 v7, .int .i64 v8, .bool v9, .bool v10, .slice a n cp, .int .i64 v12] 39)) zF (.slice none 0 0)
  rw [hs1] at hR
  have hR2 := hR.below ((Below.refl _ _).alloc (Nat.le_refl _) (.cells #[.int .i64 v0, .int .i64 v1, .int .i64 v2, .int .i64 v3, .int .i64 v4, .int .i64 v5, .int .i64 v6, .int .i64 v7, .int .i64 v8, .bool v9, .bool v10, .slice none 0 0, .int .i64 0] 25)) (by show _ < ((w.alloc (.cells #[.int .i64 v0, .int .i64 v1, .int .i64 v2, .int .i64 v3, .int .i64 v4, .int .i64 v5, .int .i64 v6, .int .i64 v7, .int .i64 v8, .bool v9, .bool v10, .slice a n cp, .int .i64 v12] 39)).alloc (.cells #[.int .i64 0, .int .i64 0, .int .i64 0, .int .i64 0, .int .i64 0, .int .i64 0, .int .i64 0, .int .i64 0, .int .i64 0, .bool false, .bool false, .slice none 0 0, .int .i64 0] 25)).heap.size; rw [hs2]; omega)
  have hT := FlAt.new ((w.alloc (.cells #[.int .i64 v0, .int .i64 v1, .int .i64 v2, .int .i64 v3, .int .i64 v4, .int .i64 v5, .int .i64 v6, .int .i64 v7, .int .i64 v8, .bool v9, .bool v10, .slice a n cp, .int .i64 v12] 39)).alloc (.cells #[.int .i64 0, .int .i64 0, .int .i64 0, .int .i64 0, .int .i64 0, .int .i64 0, .int .i64 0, .int .i64 0, .int .i64 0, .bool false, .bool false, .slice none 0 0, .int .i64 0] 25)) ⟨v0, v1, v2, v3, v4, v5, v6, v7, v8, v9, v10, 0⟩ (.slice none 0 0)
  rw [hs2] at hT
  refine (toSignalS_any _ _ P n (HX.out.below hB) hbig hn).mono ?_
  rintro e w2 ⟨rfl, hO2, hb2⟩
  rw [hs3] at hO2 ⊢
  have HB2 := keptF (below_next hB hb2)
  have hL4 := (hb2.block w.heap.size (by rw [hs3]; omega)).trans hL3
  have hR3 : FlAt w2 (w.heap.size + 1) zF (.slice none 0 0) := hR2.below hb2 (by show _ < (((w.alloc (.cells #[.int .i64 v0, .int .i64 v1, .int .i64 v2, .int .i64 v3, .int .i64 v4, .int .i64 v5, .int .i64 v6, .int .i64 v7, .int .i64 v8, .bool v9, .bool v10, .slice a n cp, .int .i64 v12] 39)).alloc (.cells #[.int .i64 0, .int .i64 0, .int .i64 0, .int .i64 0, .int .i64 0, .int .i64 0, .int .i64 0, .int .i64 0, .int .i64 0, .bool false, .bool false, .slice none 0 0, .int .i64 0] 25)).alloc (.cells #[.int .i64 v0, .int .i64 v1, .int .i64 v2, .int .i64 v3, .int .i64 v4, .int .i64 v5, .int .i64 v6, .int .i64 v7, .int .i64 v8, .bool v9, .bool v10, .slice none 0 0, .int .i64 0] 25)).heap.size; rw [hs3]; omega)
  have hT3 : FlAt w2 (w.heap.size + 1 + 1) ⟨v0, v1, v2, v3, v4, v5, v6, v7, v8, v9, v10, 0⟩ (.slice none 0 0) := hT.below hb2 (by show _ < (((w.alloc (.cells #[.int .i64 v0, .int .i64 v1, .int .i64 v2, .int .i64 v3, .int .i64 v4, .int .i64 v5, .int .i64 v6, .int .i64 v7, .int .i64 v8, .bool v9, .bool v10, .slice a n cp, .int .i64 v12] 39)).alloc (.cells #[.int .i64 0, .int .i64 0, .int .i64 0, .int .i64 0, .int .i64 0, .int .i64 0, .int .i64 0, .int .i64 0, .int .i64 0, .bool false, .bool false, .slice none 0 0, .int .i64 0] 25)).alloc (.cells #[.int .i64 v0, .int .i64 v1, .int .i64 v2, .int .i64 v3, .int .i64 v4, .int .i64 v5, .int .i64 v6, .int .i64 v7, .int .i64 v8, .bool v9, .bool v10, .slice none 0 0, .int .i64 0] 25)).heap.size; rw [hs3]; omega)
  have k12 : w2.cell? ⟨w.heap.size, 12, none⟩ = some (.int .i64 v12) := by rw [cell_of_row w2 w.heap.size 12 _ _ _ hL4]; rfl
  have HR3 := keptF hR3
  have HT3 := keptF hT3
  have HO2 := keptF hO2
  obtain ⟨c0, c1, c2, c3, c4, c5, c6, c7, c8, c9, c10, c11, c12⟩ := hT3.cells
  obtain ⟨z0, z1, z2, z3, z4, z5, z6, z7, z8, z9, z10, z11, z12⟩ := hR3.cells
  have f := hT3.free
  have g := hR3.free
  simp only at c0 c1 c2 c3 c4 c5 c6 c7 c8 c9 c10 c11 c12
  clear hs1 hs2 hs3 hB hL hL2 hL3 hL4 hR hR2 hT hR3 hT3 hO2 hb2
  go_wp2
  have hX1 : FlAt ((w2.setCell ⟨w.heap.size + 1 + 1, 11, none⟩ (.slice (some ⟨w.heap.size + 1 + 1 + 1, 0, none⟩) n n)).setCell ⟨w.heap.size + 1 + 1, 12, none⟩ (.int .i64 v12)) (w.heap.size + 1) zF (.slice none 0 0) := by
    unfold FlAt
    rw [heap_setCell_other _ _ (w.heap.size + 1) _ (by simp), heap_setCell_other _ _ (w.heap.size + 1) _ (by simp)]
    exact HR3.out
  have hk := hX1.put ⟨v0, v1, v2, v3, v4, v5, v6, v7, v8, v9, v10, v12⟩ (.slice (some ⟨w.heap.size + 1 + 1 + 1, 0, none⟩) n n)
  have hBX : Below w.heap.size w ((w2.setCell ⟨w.heap.size + 1 + 1, 11, none⟩ (.slice (some ⟨w.heap.size + 1 + 1 + 1, 0, none⟩) n n)).setCell ⟨w.heap.size + 1 + 1, 12, none⟩ (.int .i64 v12)) := (HB2.out.setCell (p := ⟨w.heap.size + 1 + 1, 11, none⟩) (by show _ ≤ w.heap.size + 1 + 1; omega) _).setCell (p := ⟨w.heap.size + 1 + 1, 12, none⟩) (by show _ ≤ w.heap.size + 1 + 1; omega) _
  have hB := below_put (l := ⟨v0, v1, v2, v3, v4, v5, v6, v7, v8, v9, v10, v12⟩) (s := (.slice (some ⟨w.heap.size + 1 + 1 + 1, 0, none⟩) n n)) hBX (show w.heap.size ≤ w.heap.size + 1 from by omega)
  have hO := (HO2.out.lowF (show w.heap.size ≤ w.heap.size + 1 + 1 + 1 from by omega)).of_block (w' := putFl ((w2.setCell ⟨w.heap.size + 1 + 1, 11, none⟩ (.slice (some ⟨w.heap.size + 1 + 1 + 1, 0, none⟩) n n)).setCell ⟨w.heap.size + 1 + 1, 12, none⟩ (.int .i64 v12)) (w.heap.size + 1) ⟨v0, v1, v2, v3, v4, v5, v6, v7, v8, v9, v10, v12⟩ (.slice (some ⟨w.heap.size + 1 + 1 + 1, 0, none⟩) n n)) (fun k hk => by
    have h9 : w.heap.size + 1 + 1 + 1 = k := Option.some.inj hk
    rw [putFl_other _ _ _ _ _ (by omega), heap_setCell_other _ _ k _ (by simp; omega), heap_setCell_other _ _ k _ (by simp; omega)])
  simp only [FlAt, putFl, flC] at hk hB hO
  refine bodyPost_ret (results_cell_row rfl _ _ (w.heap.size + 1) _ _ _ _ rfl hk Try.underlying25 rfl (by kernel_rfl)) rfl ?_
  exact ⟨_, _, _, rfl, hO, hB⟩
end Go.Proofs.Ytlkhpfknmdimbaa
