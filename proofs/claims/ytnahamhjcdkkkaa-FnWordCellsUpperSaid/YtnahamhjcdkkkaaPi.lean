
/- The exact law of PiecesCells. -/
import Derived.Test.YtnahamhjcdkkkaaME
import Derived.Test.YtnahamhjcdkkkaaPx
namespace Go.Proofs.Ytnahamhjcdkkkaa
open Go.RowKit

set_option maxHeartbeats 1000000 in
theorem markPieceS_room (w : World) (g n : Nat) (m0 : Int) (hR : Room w g n) (hn : n ≤ 1048576) (h0 : 0 ≤ m0) (h1 : m0 ≤ 10000000000000) :
    Calls Try.prog 28 #[.slice (some ⟨g, 0, none⟩) n n, .int .i64 m0] w fun e w' => (∃ k : Int, e = .returned (.int .i64 k) ∧ 0 ≤ k) ∧ w.grownBy w' (some g) := by
  go_enter Try.func28, Try.ntmps28
  go_wp2
  go_loopw [1, 5] (fun q i wr => ∃ (k : Nat) (m : Int), k ≤ n ∧ i = .int .i64 k ∧ q = .int .i64 m ∧ 0 ≤ m ∧ m ≤ m0 + (k : Int) * 3 ∧ Room wr g n ∧ w.grownBy wr (some g)) (fun _ i _ => n - (intOf i).toNat)
  case atStart => exact ⟨0, m0, Nat.zero_le _, rfl, rfl, h0, by omega, hR, ⟨rfl, rfl, rfl, Nat.le_refl _, fun _ _ _ => rfl⟩⟩
  case round =>
    clear hR
    obtain ⟨k, m, hk, rfl, rfl, hm0, hm1, hroom, hgr⟩ := hrel
    by_cases hlt : k < n
    · obtain ⟨u0, e0⟩ := hroom.1 (k * 3) (by omega)
      obtain ⟨u1', e1⟩ := hroom.1 (k * 3 + 1) (by omega)
      obtain ⟨u2', e2⟩ := hroom.1 (k * 3 + 2) (by omega)
      have f0 := hroom.2.1 (k * 3)
      have f1 := hroom.2.1 (k * 3 + 1)
      have f2 := hroom.2.1 (k * 3 + 2)
      have HR3 := Lib.hid (((hroom.set (k * 3) (.int .i64 m)).set (k * 3 + 1) (.int .i64 (m + 1))).set (k * 3 + 2) (.int .i64 (m + 1 + 1)))
      have HG3 : Hid (w.grownBy (((wr.setCell ⟨g, k * 3, none⟩ (.int .i64 m)).setCell ⟨g, k * 3 + 1, none⟩ (.int .i64 (m + 1))).setCell ⟨g, k * 3 + 2, none⟩ (.int .i64 (m + 1 + 1))) (some g)) := by
        refine ⟨hgr.os, hgr.tape, hgr.output, by simpa [World.setCell] using hgr.size, fun i hi hne => ?_⟩
        have hig : i ≠ g := by simpa using hne
        rw [Below.heap_setCell _ _ _ i hig, Below.heap_setCell _ _ _ i hig, Below.heap_setCell _ _ _ i hig]
        exact hgr.block i hi hne
      clear hroom hgr
      go_wp2
      go_roundw
      case rel => exact ⟨k + 1, m + 1 + 1 + 1, by omega, by go_num, rfl, by omega, by omega, HR3.out, HG3.out⟩
      case measure => simp [intOf]; omega
    · go_wp2
      go_ret
      exact ⟨⟨m, rfl, hm0⟩, hgr⟩

set_option maxHeartbeats 2000000 in
theorem s_PiecesCells (w : World) (v u : Value) (T : List PRule) (s : ByteArray) (P : List PPiece) (hx : TableAt w v T) (hf : TableFits T) (hs : s.size ≤ 9223372036854775807) (hy : PiecesAt w u P) (hp : PiecesFit P) (hb : Hid ((ValidTb T ∧ WordB 16 s.data.toList) ∧ ValidPv T s P)) :
    Calls Try.prog 36 #[v, .string s, u] w fun e w' => ListMade (pcsL T s P) w e w' := by
  have HX := Lib.hid hx
  have HY := Lib.hid hy
  have HF := Lib.hid hf
  have HP := Lib.hid hp
  obtain ⟨_, _, rfl, _⟩ := hx
  obtain ⟨_, _, rfl, _⟩ := hy
  have hsl : 1 ≤ s.size ∧ s.size ≤ 16 := by have := hb.out.1.2.1; have := hb.out.1.2.2.1; have := wd_size s; omega
  have HIT : Hid (∀ wx u, TableAt wx u T → Calls Try.prog 53 #[u] wx fun e w' => e = .returned (.bool true) ∧ Below wx.heap.size wx w') := fun wx u h => s_validTable wx u T true h HF.out ⟨fun _ => hb.out.1.1, fun _ => rfl⟩
  have HIW : Hid (∀ wx, Calls Try.prog 54 #[.string s] wx fun e w' => e = .returned (.bool true) ∧ wx = w') := fun wx => by
    have := s_validWord s wx hs
    rw [decide_eq_true hb.out.1.2] at this
    exact this
  have HIP : Hid (∀ wx u v, TableAt wx u T → PiecesAt wx v P → Calls Try.prog 67 #[u, .string s, v] wx fun e w' => e = .returned (.bool true) ∧ Below wx.heap.size wx w') := fun wx u v h h' =>
    s_validPieces wx u v T s P true h (Lib.hid hb.out.1.1) hsl.1 hsl.2 h' HP.out ⟨fun _ => hb.out.2, fun _ => rfl⟩
  go_enter Try.func36, Try.ntmps36
  go_wp2_with fail
  refine (HIT.out _ _ HX.out).mono ?_
  rintro e w1 ⟨rfl, hb1⟩
  go_wp2_with fail
  refine (HIW.out _).mono ?_
  rintro e w' ⟨rfl, rfl⟩
  go_wp2_with fail
  refine (HIP.out _ _ _ (HX.out.below hb1) (HY.out.below hb1)).mono ?_
  rintro e w2 ⟨rfl, hb2⟩
  have hB2 := below_next hb1 hb2
  go_wp2_with fail
  refine (s_cellsOf w2 _ _ T s P (HX.out.below hB2) (Lib.hid hb.out.1.1) (Lib.hid hb.out.1.2) (HY.out.below hB2) (Lib.hid hb.out.2.1)).mono ?_
  rintro e w3 ⟨v, rfl, hO, hb3, _⟩
  go_wp2
  go_ret
  exact ⟨v, rfl, World.ownsRow.mono hO hB2.size, below_next hB2 hb3, hO.isSlice'⟩
set_option maxHeartbeats 2000000 in
theorem s_PiecesCells_no (w : World) (v u : Value) (T : List PRule) (s : ByteArray) (P : List PPiece) (hx : TableAt w v T) (hf : TableFits T) (hs : s.size ≤ 9223372036854775807) (hy : PiecesAt w u P) (hp : PiecesFit P) (hb : Hid (¬ ((ValidTb T ∧ WordB 16 s.data.toList) ∧ ValidPv T s P))) :
    Calls Try.prog 36 #[v, .string s, u] w fun e w' => ListMade [] w e w' := by
  have HX := Lib.hid hx
  have HY := Lib.hid hy
  have HF := Lib.hid hf
  have HP := Lib.hid hp
  obtain ⟨_, _, rfl, _⟩ := hx
  obtain ⟨_, _, rfl, _⟩ := hy
  by_cases hT : ValidTb T
  · have HT := Lib.hid hT
    have HIT : Hid (∀ wx u, TableAt wx u T → Calls Try.prog 53 #[u] wx fun e w' => e = .returned (.bool true) ∧ Below wx.heap.size wx w') := fun wx u h => s_validTable wx u T true h HF.out ⟨fun _ => HT.out, fun _ => rfl⟩
    clear hT
    by_cases hW : WordB 16 s.data.toList
    · have hsl : 1 ≤ s.size ∧ s.size ≤ 16 := by have := hW.1; have := hW.2.1; have := wd_size s; omega
      have HIW : Hid (∀ wx, Calls Try.prog 54 #[.string s] wx fun e w' => e = .returned (.bool true) ∧ wx = w') := fun wx => by
        have := s_validWord s wx hs
        rw [decide_eq_true hW] at this
        exact this
      have HNP : Hid (¬ ValidPv T s P) := fun h => hb.out ⟨⟨HT.out, hW⟩, h⟩
      have HIP : Hid (∀ wx u v, TableAt wx u T → PiecesAt wx v P → Calls Try.prog 67 #[u, .string s, v] wx fun e w' => e = .returned (.bool false) ∧ Below wx.heap.size wx w') := fun wx u v h h' =>
        s_validPieces wx u v T s P false h HT hsl.1 hsl.2 h' HP.out (bool_iff_false HNP.out)
      clear hW
      go_enter Try.func36, Try.ntmps36
      go_wp2_with fail
      refine (HIT.out _ _ HX.out).mono ?_
      rintro e w1 ⟨rfl, hb1⟩
      go_wp2_with fail
      refine (HIW.out _).mono ?_
      rintro e w' ⟨rfl, rfl⟩
      go_wp2_with fail
      refine (HIP.out _ _ _ (HX.out.below hb1) (HY.out.below hb1)).mono ?_
      rintro e w2 ⟨rfl, hb2⟩
      go_wp2
      go_ret
      exact ⟨_, rfl, OwnInts.nil _ _, below_next hb1 hb2, _, _, _, rfl⟩
    · have HIW : Hid (∀ wx, Calls Try.prog 54 #[.string s] wx fun e w' => e = .returned (.bool false) ∧ wx = w') := fun wx => by
        have := s_validWord s wx hs
        rw [decide_eq_false hW] at this
        exact this
      clear hW
      go_enter Try.func36, Try.ntmps36
      go_wp2_with fail
      refine (HIT.out _ _ HX.out).mono ?_
      rintro e w1 ⟨rfl, hb1⟩
      go_wp2_with fail
      refine (HIW.out _).mono ?_
      rintro e w' ⟨rfl, rfl⟩
      go_wp2
      go_ret
      exact ⟨_, rfl, OwnInts.nil _ _, hb1, _, _, _, rfl⟩
  · have HIT : Hid (∀ wx u, TableAt wx u T → Calls Try.prog 53 #[u] wx fun e w' => e = .returned (.bool false) ∧ Below wx.heap.size wx w') := fun wx u h => s_validTable wx u T false h HF.out (bool_iff_false hT)
    clear hT
    go_enter Try.func36, Try.ntmps36
    go_wp2_with fail
    refine (HIT.out _ _ HX.out).mono ?_
    rintro e w1 ⟨rfl, hb1⟩
    go_wp2
    go_ret
    exact ⟨_, rfl, OwnInts.nil _ _, hb1, _, _, _, rfl⟩
end Go.Proofs.Ytnahamhjcdkkkaa
