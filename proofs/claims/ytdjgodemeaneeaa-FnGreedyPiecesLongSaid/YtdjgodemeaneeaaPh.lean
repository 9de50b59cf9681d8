
/- The cells of pieces, in the program and in its model. -/
import Derived.Test.YtdjgodemeaneeaaPg
namespace Go.Proofs.Ytdjgodemeaneeaa
open Go.RowKit

theorem i_ValidPieces_b (w : World) (v u : Value) (T : List PRule) (s : ByteArray) (P : List PPiece) (hx : TableAt w v T) (hf : TableFits T) (hs : s.size ≤ 9223372036854775807) (hy : PiecesAt w u P) (hp : PiecesFit P) (hb : Hid ((ValidTb T ∧ WordB 16 s.data.toList) ∧ ValidPv T s P)) :
    Calls Try.prog 17 #[v, .string s, u] w fun e w' => e = .returned (.bool true) ∧ Below w.heap.size w w' :=
  i_ValidPieces w v u T s P true hx hf hs hy hp ⟨fun _ => hb.out, fun _ => rfl⟩
theorem i_ValidPieces_n (w : World) (v u : Value) (T : List PRule) (s : ByteArray) (P : List PPiece) (hx : TableAt w v T) (hf : TableFits T) (hs : s.size ≤ 9223372036854775807) (hy : PiecesAt w u P) (hp : PiecesFit P) (hb : Hid (¬ ((ValidTb T ∧ WordB 16 s.data.toList) ∧ ValidPv T s P))) :
    Calls Try.prog 17 #[v, .string s, u] w fun e w' => e = .returned (.bool false) ∧ Below w.heap.size w w' :=
  i_ValidPieces w v u T s P false hx hf hs hy hp (bool_iff_false hb.out)

/-- a list of at least one cell that reads -/
def CellsOut (L : List Int) (w : World) (e : Ending) (w' : World) : Prop := ∃ g off c, e = .returned (.slice (some ⟨g, off, none⟩) L.length c) ∧ IntsAt w' (.slice (some ⟨g, off, none⟩) L.length c) L ∧ Below w.heap.size w w'
theorem IntsAt.one' (w : World) (z : Int) (t : TypeId) : IntsAt (w.alloc (.cells #[.int .i64 z] t)) (.slice (some ⟨w.heap.size, 0, none⟩) 1 1) [z] := by
  refine ⟨_, 1, rfl, by simp, by omega, .inr ⟨w.heap.size, 0, rfl, fun i hi => ?_⟩⟩
  have hi' : i = 0 := by simpa using hi
  subst hi'
  rw [cell_of_row _ w.heap.size (0 + 0) _ _ _ (heap_alloc_new w _)]; rfl

end Go.Proofs.Ytdjgodemeaneeaa
