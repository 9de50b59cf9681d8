
/- The laws' equalFlow: equal lines. -/
import Derived.Test.YtlkhpfknmdimbaaFe
import Derived.Deep.QuietTactic
import Derived.BigQuiet
namespace Go.Proofs.Ytlkhpfknmdimbaa
open Go.RowKit

theorem keptB {b : Bool} : (b == b) = true := by cases b <;> rfl
set_option maxRecDepth 20000 in
set_option maxHeartbeats 1000000 in
theorem equalFlow_same (l : FL) (s t : Value) (P : List PSig) (w : World) (hx : SigsAt w s P) (hy : SigsAt w t P) :
    Calls Try.prog 22 #[flV l s, flV l t] w fun e w' => e = .returned (.bool true) ∧ Below w.heap.size w w' := by
  have HX := keptF hx
  have HY := keptF hy
  obtain ⟨a, cp, rfl, _⟩ := hx
  obtain ⟨a', cp', rfl, _⟩ := hy
  obtain ⟨n, hn⟩ : ∃ n, P.length = n := ⟨_, rfl⟩
  rw [hn] at HX HY ⊢
  have HN := keptF hn
  clear hn
  obtain ⟨v0, v1, v2, v3, v4, v5, v6, v7, v8, v9, v10, v12⟩ := l
  simp only [flV, flC]
  have q9 : (v9 == v9) = true := keptB
  have q10 : (v10 == v10) = true := keptB
  have hB1 : Below w.heap.size w (w.alloc (.cells #[.int .i64 v0, .int .i64 v1, .int .i64 v2, .int .i64 v3, .int .i64 v4, .int .i64 v5, .int .i64 v6, .int .i64 v7, .int .i64 v8, .bool v9, .bool v10, .slice a n cp, .int .i64 v12] 25)) := (Below.refl _ _).alloc (Nat.le_refl _) _
  have hB2 := hB1.alloc hB1.size (.cells #[.int .i64 v0, .int .i64 v1, .int .i64 v2, .int .i64 v3, .int .i64 v4, .int .i64 v5, .int .i64 v6, .int .i64 v7, .int .i64 v8, .bool v9, .bool v10, .slice a' n cp', .int .i64 v12] 25)
  have HX2 := keptF (HX.out.below hB2)
  have HY2 := keptF (HY.out.below hB2)
  have HB2 := keptF hB2
  have hs1 : (w.alloc (.cells #[.int .i64 v0, .int .i64 v1, .int .i64 v2, .int .i64 v3, .int .i64 v4, .int .i64 v5, .int .i64 v6, .int .i64 v7, .int .i64 v8, .bool v9, .bool v10, .slice a n cp, .int .i64 v12] 25)).heap.size = w.heap.size + 1 := World.size_alloc _ _
  have hF2 := FlAt.new (w.alloc (.cells #[.int .i64 v0, .int .i64 v1, .int .i64 v2, .int .i64 v3, .int .i64 v4, .int .i64 v5, .int .i64 v6, .int .i64 v7, .int .i64 v8, .bool v9, .bool v10, .slice a n cp, .int .i64 v12] 25)) ⟨v0, v1, v2, v3, v4, v5, v6, v7, v8, v9, v10, v12⟩ (.slice a' n cp')
  rw [hs1] at hF2
  have hF1 := (FlAt.new w ⟨v0, v1, v2, v3, v4, v5, v6, v7, v8, v9, v10, v12⟩ (.slice a n cp)).below ((Below.refl _ _).alloc (Nat.le_refl _) (.cells #[.int .i64 v0, .int .i64 v1, .int .i64 v2, .int .i64 v3, .int .i64 v4, .int .i64 v5, .int .i64 v6, .int .i64 v7, .int .i64 v8, .bool v9, .bool v10, .slice a' n cp', .int .i64 v12] 25)) (by rw [World.size_alloc]; omega)
  have HF1 : Hid (FlAt ((w.alloc (.cells #[.int .i64 v0, .int .i64 v1, .int .i64 v2, .int .i64 v3, .int .i64 v4, .int .i64 v5, .int .i64 v6, .int .i64 v7, .int .i64 v8, .bool v9, .bool v10, .slice a n cp, .int .i64 v12] 25)).alloc (.cells #[.int .i64 v0, .int .i64 v1, .int .i64 v2, .int .i64 v3, .int .i64 v4, .int .i64 v5, .int .i64 v6, .int .i64 v7, .int .i64 v8, .bool v9, .bool v10, .slice a' n cp', .int .i64 v12] 25)) w.heap.size ⟨v0, v1, v2, v3, v4, v5, v6, v7, v8, v9, v10, v12⟩ (.slice a n cp)) := hF1
  have HF2 : Hid (FlAt ((w.alloc (.cells #[.int .i64 v0, .int .i64 v1, .int .i64 v2, .int .i64 v3, .int .i64 v4, .int .i64 v5, .int .i64 v6, .int .i64 v7, .int .i64 v8, .bool v9, .bool v10, .slice a n cp, .int .i64 v12] 25)).alloc (.cells #[.int .i64 v0, .int .i64 v1, .int .i64 v2, .int .i64 v3, .int .i64 v4, .int .i64 v5, .int .i64 v6, .int .i64 v7, .int .i64 v8, .bool v9, .bool v10, .slice a' n cp', .int .i64 v12] 25)) (w.heap.size + 1) ⟨v0, v1, v2, v3, v4, v5, v6, v7, v8, v9, v10, v12⟩ (.slice a' n cp')) := hF2
  clear hB1 hB2 hs1 hF1 hF2 HX HY
  go_enter Try.func22, Try.ntmps22
  go_wp2
  generalize ((w.alloc (.cells #[.int .i64 v0, .int .i64 v1, .int .i64 v2, .int .i64 v3, .int .i64 v4, .int .i64 v5, .int .i64 v6, .int .i64 v7, .int .i64 v8, .bool v9, .bool v10, .slice a n cp, .int .i64 v12] 25)).alloc (.cells #[.int .i64 v0, .int .i64 v1, .int .i64 v2, .int .i64 v3, .int .i64 v4, .int .i64 v5, .int .i64 v6, .int .i64 v7, .int .i64 v8, .bool v9, .bool v10, .slice a' n cp', .int .i64 v12] 25)) = wA at HX2 HY2 HB2 HF1 HF2 ⊢
  go_loopw [5] (fun i wr => ∃ k : Nat, k ≤ n ∧ i = .int .i64 k ∧ Below wA.heap.size wA wr) (fun i _ => n - (intOf i).toNat)
  case atStart => exact ⟨0, Nat.zero_le _, rfl, Below.refl _ _⟩
  case round =>
    obtain ⟨k, hk, rfl, hb1⟩ := hrel
    obtain ⟨c0, c1, c2, c3, c4, c5, c6, c7, c8, c9, c10, c11, c12⟩ := (HF1.out.below hb1 HF1.out.lt).cells
    obtain ⟨z0, z1, z2, z3, z4, z5, z6, z7, z8, z9, z10, z11, z12⟩ := (HF2.out.below hb1 HF2.out.lt).cells
    by_cases hlt : k < n
    · obtain ⟨b1, b2, b3, b4, b5, b6⟩ := HX2.out
      obtain ⟨y1, y2, y3, y4, y5, y6⟩ := HY2.out
      injection b3 with e1 _ _
      injection y3 with e2 _ _
      subst e1 e2
      rcases b6 with rfl | ⟨g, off, rfl, x3⟩
      · exact absurd HN.out (by simp; omega)
      rcases y6 with rfl | ⟨g', off', rfl, y3⟩
      · exact absurd HN.out (by simp; omega)
      rw [HN.out] at x3 y3
      have hra := x3 k hlt
      have hrb := y3 k hlt
      clear x3 y3 b4 b5 y4 y5
      obtain ⟨q, hq⟩ : ∃ q, P.getD k noS = q := ⟨_, rfl⟩
      rw [hq] at hra hrb
      clear hq
      obtain ⟨r, f⟩ := q
      obtain ⟨e0, e1⟩ := hra
      obtain ⟨g0, g1⟩ := hrb
      simp only at e0 e1 g0 g1 c11 z11
      have e0 := (hb1.cell (World.block_lt_of_cell? wA _ e0)).trans e0
      have e1 := (hb1.cell (World.block_lt_of_cell? wA _ e1)).trans e1
      have g0 := (hb1.cell (World.block_lt_of_cell? wA _ g0)).trans g0
      have g1 := (hb1.cell (World.block_lt_of_cell? wA _ g1)).trans g1
      clear c0 c1 c2 c3 c4 c5 c6 c7 c8 c9 c10 c12 z0 z1 z2 z3 z4 z5 z6 z7 z8 z9 z10 z12
      have i1 : (0 : Int) ≤ (k : Int) := by omega
      have i2 : (k : Int) < (n : Int) := by omega
      go_wp2_with fail
      go_quiet (fail)
      go_wp2
      go_roundw
      case rel => exact ⟨k + 1, by omega, by go_num, below_drewN hb1 _⟩
      case measure => simp [intOf]; omega
    · simp only at c0 c1 c2 c3 c4 c5 c6 c7 c8 c9 c10 c11 c12 z0 z1 z2 z3 z4 z5 z6 z7 z8 z9 z10 z11 z12
      go_wp2
      go_ret
      exact ⟨rfl, below_next HB2.out hb1⟩
end Go.Proofs.Ytlkhpfknmdimbaa
