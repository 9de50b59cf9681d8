
/- The laws of GreedyPieces on drawn tables and words. -/
import Derived.Test.YtdjgodemeaneeaaGi
import Derived.Deep.QuietTactic
import Derived.BigQuiet
namespace Go.Proofs.Ytdjgodemeaneeaa
open Go.RowKit

set_option maxHeartbeats 2000000 in
theorem equalPieces_same (w : World) (u v : Value) (P : List PPiece) (hx : PiecesAt w u P) (hy : PiecesAt w v P) :
    Calls Try.prog 14 #[u, v] w fun e w' => e = .returned (.bool true) ∧ Below w.heap.size w w' := by
  obtain ⟨a, cp, rfl, x1, x2, x3⟩ := hx
  obtain ⟨a', cp', rfl, y1, y2, y3⟩ := hy
  obtain ⟨n, hn⟩ : ∃ n, P.length = n := ⟨_, rfl⟩
  rw [hn] at x1 x3 y1 y3 ⊢
  have HN := Lib.hid hn
  clear hn
  go_enter Try.func14, Try.ntmps14
  go_wp2
  go_loopw [5] (fun i wr => ∃ k : Nat, k ≤ n ∧ i = .int .i64 k ∧ Below w.heap.size w wr) (fun i _ => n - (intOf i).toNat)
  case atStart => exact ⟨0, Nat.zero_le _, rfl, Below.refl _ _⟩
  case round =>
    obtain ⟨k, hk, rfl, hb1⟩ := hrel
    by_cases hlt : k < n
    · rcases x3 with rfl | ⟨g, off, rfl, x3⟩
      · exact absurd HN.out (by simp; omega)
      rcases y3 with rfl | ⟨g', off', rfl, y3⟩
      · exact absurd HN.out (by simp; omega)
      have hra := x3 k hlt
      have hrb := y3 k hlt
      clear x3 y3
      obtain ⟨q, hq⟩ : ∃ q, P.getD k noP = q := ⟨_, rfl⟩
      rw [hq] at hra hrb
      clear hq
      obtain ⟨r, f, t⟩ := q
      obtain ⟨c0, c1, c2⟩ := hra
      obtain ⟨d0, d1, d2⟩ := hrb
      simp only at c0 c1 c2 d0 d1 d2
      have c0 := (hb1.cell (World.block_lt_of_cell? w _ c0)).trans c0
      have c1 := (hb1.cell (World.block_lt_of_cell? w _ c1)).trans c1
      have c2 := (hb1.cell (World.block_lt_of_cell? w _ c2)).trans c2
      have d0 := (hb1.cell (World.block_lt_of_cell? w _ d0)).trans d0
      have d1 := (hb1.cell (World.block_lt_of_cell? w _ d1)).trans d1
      have d2 := (hb1.cell (World.block_lt_of_cell? w _ d2)).trans d2
      have b1 : (0 : Int) ≤ (k : Int) := by omega
      have b2 : (k : Int) < (n : Int) := by omega
      go_wp2_with fail
      go_quiet (fail)
      go_wp2
      go_roundw
      case rel => exact ⟨k + 1, by omega, by go_num, below_drewN hb1 _⟩
      case measure => simp [intOf]; omega
    · go_wp2
      go_ret
      exact ⟨rfl, hb1⟩
end Go.Proofs.Ytdjgodemeaneeaa
