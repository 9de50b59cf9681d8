
/- The cells of pieces, in the program and in its model. -/
import Derived.Test.YtohgglhjcklbaaaPg
namespace Go.Proofs.Ytohgglhjcklbaaa
open Go.RowKit

theorem i_ValidPieces_b (w : World) (v u : Value) (T : List PRule) (s : ByteArray) (P : List PPiece) (hx : TableAt w v T) (hf : TableFits T) (hs : s.size ≤ 9223372036854775807) (hy : PiecesAt w u P) (hp : PiecesFit P) (hb : Hid ((ValidTb T ∧ WordB 16 s.data.toList) ∧ ValidPv T s P)) :
    Calls Try.prog 39 #[v, .string s, u] w fun e w' => e = .returned (.bool true) ∧ Below w.heap.size w w' :=
  i_ValidPieces w v u T s P true hx hf hs hy hp ⟨fun _ => hb.out, fun _ => rfl⟩
theorem i_ValidPieces_n (w : World) (v u : Value) (T : List PRule) (s : ByteArray) (P : List PPiece) (hx : TableAt w v T) (hf : TableFits T) (hs : s.size ≤ 9223372036854775807) (hy : PiecesAt w u P) (hp : PiecesFit P) (hb : Hid (¬ ((ValidTb T ∧ WordB 16 s.data.toList) ∧ ValidPv T s P))) :
    Calls Try.prog 39 #[v, .string s, u] w fun e w' => e = .returned (.bool false) ∧ Below w.heap.size w w' :=
  i_ValidPieces w v u T s P false hx hf hs hy hp (bool_iff_false hb.out)

set_option maxHeartbeats 2000000 in
theorem i_PiecesCells (w : World) (v u : Value) (T : List PRule) (s : ByteArray) (P : List PPiece) (hx : TableAt w v T) (hf : TableFits T) (hs : s.size ≤ 9223372036854775807) (hy : PiecesAt w u P) (hp : PiecesFit P) (hb : Hid ((ValidTb T ∧ WordB 16 s.data.toList) ∧ ValidPv T s P)) :
    Calls Try.prog 44 #[v, .string s, u] w fun e w' => ListMade (pcsL T s P) w e w' := by
  have HX := Lib.hid hx
  have HY := Lib.hid hy
  obtain ⟨_, _, rfl, _⟩ := hx
  obtain ⟨_, _, rfl, _⟩ := hy
  go_enter Try.func44, Try.ntmps44
  go_wp2_with fail
  refine (i_ValidPieces_b w _ _ T s P HX.out hf hs HY.out hp hb).mono ?_
  rintro e w1 ⟨rfl, hb1⟩
  go_wp2_with fail
  refine (i_piecesCells w1 _ _ T s P (HX.out.below hb1) (Lib.hid hb.out.1.1) (Lib.hid hb.out.1.2) (HY.out.below hb1) (Lib.hid hb.out.2.1)).mono ?_
  rintro e w2 ⟨v, rfl, hO, hb2, _⟩
  go_wp2
  go_ret
  exact ⟨v, rfl, World.ownsRow.mono hO hb1.size, below_next hb1 hb2, hO.isSlice'⟩
set_option maxHeartbeats 2000000 in
theorem i_PiecesCells_no (w : World) (v u : Value) (T : List PRule) (s : ByteArray) (P : List PPiece) (hx : TableAt w v T) (hf : TableFits T) (hs : s.size ≤ 9223372036854775807) (hy : PiecesAt w u P) (hp : PiecesFit P) (hb : Hid (¬ ((ValidTb T ∧ WordB 16 s.data.toList) ∧ ValidPv T s P))) :
    Calls Try.prog 44 #[v, .string s, u] w fun e w' => ListMade [] w e w' := by
  have HX := Lib.hid hx
  have HY := Lib.hid hy
  obtain ⟨_, _, rfl, _⟩ := hx
  obtain ⟨_, _, rfl, _⟩ := hy
  go_enter Try.func44, Try.ntmps44
  go_wp2_with fail
  refine (i_ValidPieces_n w _ _ T s P HX.out hf hs HY.out hp hb).mono ?_
  rintro e w1 ⟨rfl, hb1⟩
  go_wp2
  go_ret
  exact ⟨_, rfl, OwnInts.nil _ _, hb1, _, _, _, rfl⟩

/-- a list of at least one cell that reads -/
def CellsOut (L : List Int) (w : World) (e : Ending) (w' : World) : Prop := ∃ g off c, e = .returned (.slice (some ⟨g, off, none⟩) L.length c) ∧ IntsAt w' (.slice (some ⟨g, off, none⟩) L.length c) L ∧ Below w.heap.size w w'
theorem IntsAt.one' (w : World) (z : Int) (t : TypeId) : IntsAt (w.alloc (.cells #[.int .i64 z] t)) (.slice (some ⟨w.heap.size, 0, none⟩) 1 1) [z] := by
  refine ⟨_, 1, rfl, by simp, by omega, .inr ⟨w.heap.size, 0, rfl, fun i hi => ?_⟩⟩
  have hi' : i = 0 := by simpa using hi
  subst hi'
  rw [cell_of_row _ w.heap.size (0 + 0) _ _ _ (heap_alloc_new w _)]; rfl

set_option maxRecDepth 5000 in
set_option maxHeartbeats 2000000 in
theorem s_pieceCells (w : World) (v : Value) (T : List PRule) (s : ByteArray) (r f t : Int) (hx : TableAt w v T) (hT : Hid (ValidTb T)) (hW : Hid (WordB 16 s.data.toList)) (hp : Hid (PcOk T s ⟨r, f, t⟩)) :
    Calls Try.prog 93 #[v, .string s, .agg #[.int .i64 r, .int .i64 f, .int .i64 t]] w fun e w' => CellsOut (pcC T s ⟨r, f, t⟩) w e w' := by
  have HX := Lib.hid hx
  obtain ⟨ta, tc, rfl, hxx⟩ := hx
  clear hxx
  obtain ⟨tn, htn⟩ : ∃ tn, T.length = tn := ⟨_, rfl⟩
  rw [htn] at HX ⊢
  have HTN := Lib.hid htn
  clear htn
  have hB1 : Below w.heap.size w (w.alloc (.cells #[.int .i64 r, .int .i64 f, .int .i64 t] 59)) := (Below.refl _ _).alloc (Nat.le_refl _) _
  rcases hp.out.2.2 with ⟨h3, h4⟩ | ⟨h3, h4, h5, h6⟩
  · simp only at h3
    subst h3
    obtain ⟨m, rfl⟩ : ∃ m : Nat, f = m := ⟨f.toNat, by have := hp.out.1; simp only at this; omega⟩
    have hms : m < s.size := by have := hp.out.2.1; simp only at this; omega
    obtain ⟨j, hj, hc, hlet⟩ := small_at hW.out hms
    obtain ⟨z, hz⟩ : ∃ z, letL.getD j 0 = z := ⟨_, rfl⟩
    have HZ := Lib.hid hz
    have HL : Hid (pcC T s ⟨-1, (m : Int), t⟩ = [z]) := by
      show _ = _
      rw [pcC, if_pos rfl]
      simp only
      rw [hlet, hz]
    have b1 : (0 : Int) ≤ (m : Int) := by omega
    have b2 : (m : Int) < (s.size : Int) := by omega
    have HC := Lib.hid hc
    clear hz hlet h4 hc
    rw [HL.out]
    go_enter Try.func93, Try.ntmps93
    go_wp2_with fail
    refine (s_lowerCell_s _ j z _ hj HC.out HZ).mono ?_
    rintro e w2 ⟨rfl, hb2⟩
    have hB2 := below_next hB1 hb2
    have hB3 := hB2.alloc hB2.size (.cells #[.int .i64 z] 3)
    have hI := IntsAt.one' w2 z 3
    go_wp2
    go_ret
    exact ⟨w2.heap.size, 0, 1, rfl, hI, hB3⟩
  · simp only at h3 h4 h5 h6
    obtain ⟨j, rfl⟩ : ∃ j : Nat, r = j := ⟨r.toNat, by omega⟩
    have hj : j < T.length := by omega
    have hj' : j < tn := by have := HTN.out; omega
    obtain ⟨gt, offt, rfl⟩ := HX.out.someAddr (by omega)
    have hra2 := (HX.out.below hB1).nth hj
    obtain ⟨rr, hrr⟩ : ∃ rr, T.getD j noR = rr := ⟨_, rfl⟩
    have hvr := hT.out.2.1 j hj
    rw [hrr] at hvr hra2
    have HRR := Lib.hid hrr
    clear hrr
    obtain ⟨rt, zs, rp⟩ := rr
    obtain ⟨g0x, ⟨uu, g1, hu⟩, g2x⟩ := hra2
    clear g0x g2x
    obtain ⟨g2, off2, cp2, rfl⟩ := hu.someAddr hvr.2.1.1
    simp only at g1 hu
    have HL : Hid (pcC T s ⟨(j : Int), f, t⟩ = zs) := by
      show _ = _
      rw [pcC, if_neg (by simp only; omega)]
      simp only
      rw [Int.toNat_natCast, HRR.out]
    have HU := Lib.hid hu
    have d7 : decide ((j : Int) < 0) = false := decide_eq_false (by omega)
    have b1 : (0 : Int) ≤ (j : Int) := by omega
    have b2 : (j : Int) < (tn : Int) := by omega
    clear h5 h6 hvr hu
    rw [HL.out]
    go_enter Try.func93, Try.ntmps93
    go_wp2
    go_ret
    exact ⟨g2, off2, cp2, rfl, HU.out, hB1⟩

set_option maxHeartbeats 4000000 in
theorem s_cellsOf (w : World) (v u : Value) (T : List PRule) (s : ByteArray) (P : List PPiece) (hx : TableAt w v T) (hT : Hid (ValidTb T)) (hW : Hid (WordB 16 s.data.toList)) (hy : PiecesAt w u P) (hp : Hid (PvUp T s P P.length)) :
    Calls Try.prog 73 #[v, .string s, u] w fun e w' => ListMade (pcsL T s P) w e w' := by
  obtain ⟨i0, hi, hz0, hz1, hz2⟩ := info_parts infoInt
  have HX := Lib.hid hx
  obtain ⟨ta, tc, rfl, hxx⟩ := hx
  clear hxx
  obtain ⟨a, cp, rfl, x1, x2, x3⟩ := hy
  obtain ⟨n, hn⟩ : ∃ n, P.length = n := ⟨_, rfl⟩
  rw [hn] at x1 x3 hp ⊢
  have hsl : s.size ≤ 16 := by have := hW.out.2.1; rw [wd_size] at this; exact this
  have hn16 : n ≤ 16 := by have := endAt_ge hT.out.2.1 n hp.out; have := endAt_bd hp.out hT.out.2.1; omega
  have HN := Lib.hid hn
  clear hn
  have hO1 : OwnInts (w.alloc (.cells #[] 3)) w.heap.size (.slice (some ⟨w.heap.size, 0, none⟩) 0 0) [] := OwnInts.made w w.heap.size (Nat.le_refl _)
  have hB1 : Below w.heap.size w (w.alloc (.cells #[] 3)) := (Below.refl _ _).alloc (Nat.le_refl _) _
  go_enter Try.func73, Try.ntmps73
  go_wp2
  go_loopw [7, 8] (fun o i wr => ∃ k : Nat, k ≤ n ∧ i = .int .i64 k ∧ OwnInts wr w.heap.size o (pcsTo T s P k) ∧ Below w.heap.size w wr) (fun _ i _ => n - (intOf i).toNat)
  case atStart => exact ⟨0, Nat.zero_le _, rfl, hO1, hB1⟩
  case round =>
    clear hO1 hB1
    obtain ⟨k, hk, rfl, hO, hb1⟩ := hrel
    have hsz := hb1.size
    by_cases hlt : k < n
    · rcases x3 with rfl | ⟨g, off, rfl, x3⟩
      · exact absurd HN.out (by simp; omega)
      obtain ⟨q, hq⟩ : ∃ q, P.getD k noP = q := ⟨_, rfl⟩
      have hra := x3 k hlt
      have hpk := (hp.out k hlt).2
      have hle := pcsTo_len hT.out.2.1 k (fun i hi => hp.out i (by omega))
      rw [hq] at hra hpk
      have HQ := Lib.hid hq
      clear hq x3
      obtain ⟨r, f, t⟩ := q
      have HPK := Lib.hid hpk
      have hcl := pcC_len hpk hT.out.2.1
      obtain ⟨C, hC⟩ : ∃ C, pcC T s ⟨r, f, t⟩ = C := ⟨_, rfl⟩
      rw [hC] at hcl
      obtain ⟨L, hL⟩ : ∃ L, pcsTo T s P k = L := ⟨_, rfl⟩
      have HL : Hid (pcsTo T s P (k + 1) = L ++ C) := by
        show pcsTo T s P k ++ pcC T s (P.getD k noP) = _
        rw [HQ.out, hL, hC]
      have HC := Lib.hid hC
      rw [hL] at hO hle
      obtain ⟨c0, c1, c2⟩ := hra
      simp only at c0 c1 c2
      have c0 := (hb1.cell (World.block_lt_of_cell? w _ c0)).trans c0
      have c1 := (hb1.cell (World.block_lt_of_cell? w _ c1)).trans c1
      have c2 := (hb1.cell (World.block_lt_of_cell? w _ c2)).trans c2
      clear hL hC hpk
      obtain ⟨a3, n3, c3, ho3⟩ := hO.isSlice'
      subst ho3
      go_wp2_with fail
      have hsp := s_pieceCells wr _ T s r f t (HX.out.below hb1) hT hW HPK
      rw [HC.out] at hsp
      refine hsp.mono ?_
      rintro e w2 ⟨g2, off2, cc, rfl, hI, hb2⟩
      have hnews := Lib.hid hI.news
      have hlz : Hid ((ints C).length = C.length * 1) := by show _ = _; rw [ints_length, Nat.mul_one]
      have hB2 := hb1.trans (hb2.mono hsz)
      have hs2 := hB2.size
      have hO2 := hO.below hb2
      clear hO hI c0 c1 c2 hsp
      go_wp2_with (at_builtin; refine wpList_append_own _ rfl _ _ 36 rfl w.heap.size 3 i0 (.int .i64 0) 1 8 Try.underlying36 hi hz0 hz1 hz2 rfl (by decide) _ _ _ rfl hO2 ⟨g2, off2, none⟩ C.length cc (ints C) rfl hlz.out hnews.out (ints_oneCell' C) (by unfold maxLen; omega) (by omega) (by omega) ?_)
      intro v' w3 hown' hgrow _
      have hO3 := OwnInts.addAll' hown' rfl
      have hB3 : Below w.heap.size w w3 := hB2.grown hgrow hs2 (fun q hq => (hO2.lt q hq).1)
      rw [← HL.out] at hO3
      have HL3 := Lib.hid hO3
      clear hown' hgrow hO2 hO3 hnews
      go_wp2
      go_roundw
      case rel => exact ⟨k + 1, by omega, by go_num, HL3.out, hB3⟩
      case measure => simp [intOf]; omega
    · go_wp2
      go_ret
      obtain rfl : k = n := by omega
      exact ⟨_, rfl, by rw [pcsL, HN.out]; exact hO, hb1, hO.isSlice'⟩
end Go.Proofs.Ytohgglhjcklbaaa
