
/- Whether two patterns, two lists of patterns are the same. -/
import Derived.Test.YtpohkeenfbaklaaQc
namespace Go.Proofs.Ytpohkeenfbaklaa
open Go.RowKit

theorem eqIntS_sameQ (w : World) (u v : Value) (xs : List Int) (hx : IntsAt w u xs) (hy : IntsAt w v xs) :
    Calls Try.prog 33 #[u, v] w fun e w' => e = .returned (.bool true) ∧ Below w.heap.size w w' := by
  have := eqIntS_any w u v xs xs hx hy
  rw [decide_eq_true rfl] at this
  exact this
set_option maxHeartbeats 1000000 in
theorem eqPattern_same (w : World) (u v : Value) (t : ByteArray) (p1 p2 : Bool) (zs : List Int) (hx : IntsAt w u zs) (hy : IntsAt w v zs) :
    Calls Try.prog 53 #[.agg #[.string t, .bool p1, .bool p2, u], .agg #[.string t, .bool p1, .bool p2, v]] w fun e w' => e = .returned (.bool true) ∧ Below w.heap.size w w' := by
  have HX := Lib.hid hx
  have HY := Lib.hid hy
  obtain ⟨a1, c1, rfl, _⟩ := hx
  obtain ⟨a2, c2, rfl, _⟩ := hy
  have HB : Hid (Below w.heap.size w ((w.alloc (.cells #[.string t, .bool p1, .bool p2, .slice a1 zs.length c1] 28)).alloc (.cells #[.string t, .bool p1, .bool p2, .slice a2 zs.length c2] 28))) :=
    ((Below.refl _ _).alloc (Nat.le_refl _) _).alloc (by simp) _
  go_enter Try.func53, Try.ntmps53
  go_wp2_with fail
  refine (eqIntS_sameQ _ _ _ zs (HX.out.below HB.out) (HY.out.below HB.out)).mono ?_
  rintro e w2 ⟨rfl, hb2⟩
  have FIN := keptQ (below_next HB.out hb2)
  clear hb2
  go_wp2
  go_ret
  exact ⟨rfl, FIN.out⟩

set_option maxHeartbeats 2000000 in
theorem eqPatternS_same (w : World) (u v : Value) (T : List PPat) (hx : PatsAt w u T) (hy : PatsAt w v T) :
    Calls Try.prog 32 #[u, v] w fun e w' => e = .returned (.bool true) ∧ Below w.heap.size w w' := by
  obtain ⟨a, cp, rfl, x1, x2, x3⟩ := hx
  obtain ⟨a', cp', rfl, y1, y2, y3⟩ := hy
  obtain ⟨n, hn⟩ : ∃ n, T.length = n := ⟨_, rfl⟩
  rw [hn] at x1 x3 y1 y3 ⊢
  have HN := Lib.hid hn
  clear hn
  go_enter Try.func32, Try.ntmps32
  go_wp2
  go_loopw [5] (fun i wr => ∃ k : Nat, k ≤ n ∧ i = .int .i64 k ∧ Below w.heap.size w wr) (fun i _ => n - (intOf i).toNat)
  case atStart => exact ⟨0, Nat.zero_le _, rfl, Below.refl _ _⟩
  case round =>
    obtain ⟨k, hk, rfl, hb1⟩ := hrel
    have hsz := hb1.size
    by_cases hlt : k < n
    · rcases x3 with rfl | ⟨g, off, rfl, x3⟩
      · exact absurd HN.out (by simp; omega)
      rcases y3 with rfl | ⟨g', off', rfl, y3⟩
      · exact absurd HN.out (by simp; omega)
      have hra := x3 k hlt
      have hrb := y3 k hlt
      clear x3 y3
      obtain ⟨r, hr⟩ : ∃ r, T.getD k noQ = r := ⟨_, rfl⟩
      rw [hr] at hra hrb
      clear hr
      obtain ⟨t, p1, p2, zs⟩ := r
      obtain ⟨c0, c1, c2, ⟨u, c3, hu⟩⟩ := hra
      obtain ⟨d0, d1, d2, ⟨v, d3, hv⟩⟩ := hrb
      have HU : Hid (IntsAt w u zs) := hu
      have HV : Hid (IntsAt w v zs) := hv
      obtain ⟨a2, cp2, rfl, _⟩ := hu
      obtain ⟨a3, cp3, rfl, _⟩ := hv
      simp only at c0 c1 c2 c3 d0 d1 d2 d3
      have c0 := (hb1.cell (World.block_lt_of_cell? w _ c0)).trans c0
      have c1 := (hb1.cell (World.block_lt_of_cell? w _ c1)).trans c1
      have c2 := (hb1.cell (World.block_lt_of_cell? w _ c2)).trans c2
      have c3 := (hb1.cell (World.block_lt_of_cell? w _ c3)).trans c3
      have d0 := (hb1.cell (World.block_lt_of_cell? w _ d0)).trans d0
      have d1 := (hb1.cell (World.block_lt_of_cell? w _ d1)).trans d1
      have d2 := (hb1.cell (World.block_lt_of_cell? w _ d2)).trans d2
      have d3 := (hb1.cell (World.block_lt_of_cell? w _ d3)).trans d3
      have b1 : (0 : Int) ≤ (k : Int) := by omega
      have b2 : (k : Int) < (n : Int) := by omega
      have HC : Hid (wr.cell? ⟨g, off + k * 4, none⟩ = some (.string t) ∧ wr.cell? ⟨g, off + k * 4 + 1, none⟩ = some (.bool p1) ∧ wr.cell? ⟨g, off + k * 4 + 2, none⟩ = some (.bool p2) ∧ wr.cell? ⟨g, off + k * 4 + 3, none⟩ = some (.slice a2 zs.length cp2) ∧ wr.cell? ⟨g', off' + k * 4, none⟩ = some (.string t) ∧ wr.cell? ⟨g', off' + k * 4 + 1, none⟩ = some (.bool p1) ∧ wr.cell? ⟨g', off' + k * 4 + 2, none⟩ = some (.bool p2) ∧ wr.cell? ⟨g', off' + k * 4 + 3, none⟩ = some (.slice a3 zs.length cp3)) := ⟨c0, c1, c2, c3, d0, d1, d2, d3⟩
      have HK : Hid (∀ wx, Below wr.heap.size wr wx → wx.cell? ⟨g, off + k * 4, none⟩ = some (.string t) ∧ wx.cell? ⟨g, off + k * 4 + 1, none⟩ = some (.bool p1) ∧ wx.cell? ⟨g, off + k * 4 + 2, none⟩ = some (.bool p2) ∧ wx.cell? ⟨g, off + k * 4 + 3, none⟩ = some (.slice a2 zs.length cp2) ∧ wx.cell? ⟨g', off' + k * 4, none⟩ = some (.string t) ∧ wx.cell? ⟨g', off' + k * 4 + 1, none⟩ = some (.bool p1) ∧ wx.cell? ⟨g', off' + k * 4 + 2, none⟩ = some (.bool p2) ∧ wx.cell? ⟨g', off' + k * 4 + 3, none⟩ = some (.slice a3 zs.length cp3)) := fun wx h => by
        obtain ⟨c0, c1, c2, c3, d0, d1, d2, d3⟩ := HC.out
        exact ⟨(h.cell (World.block_lt_of_cell? wr _ c0)).trans c0, (h.cell (World.block_lt_of_cell? wr _ c1)).trans c1, (h.cell (World.block_lt_of_cell? wr _ c2)).trans c2, (h.cell (World.block_lt_of_cell? wr _ c3)).trans c3, (h.cell (World.block_lt_of_cell? wr _ d0)).trans d0, (h.cell (World.block_lt_of_cell? wr _ d1)).trans d1, (h.cell (World.block_lt_of_cell? wr _ d2)).trans d2, (h.cell (World.block_lt_of_cell? wr _ d3)).trans d3⟩
      have HU1 : Hid (IntsAt wr.drew (.slice a2 zs.length cp2) zs) := (show IntsAt wr (.slice a2 zs.length cp2) zs from HU.out.below hb1)
      have HV1 : Hid (IntsAt wr.drew (.slice a3 zs.length cp3) zs) := (show IntsAt wr (.slice a3 zs.length cp3) zs from HV.out.below hb1)
      clear c0 c1 c2 c3 d0 d1 d2 d3
      go_wp2_with fail
      go_region_held3 (fun wx => wx.cell? ⟨g, off + k * 4, none⟩ = some (.string t) ∧ wx.cell? ⟨g, off + k * 4 + 1, none⟩ = some (.bool p1) ∧ wx.cell? ⟨g, off + k * 4 + 2, none⟩ = some (.bool p2) ∧ wx.cell? ⟨g, off + k * 4 + 3, none⟩ = some (.slice a2 zs.length cp2) ∧ wx.cell? ⟨g', off' + k * 4, none⟩ = some (.string t) ∧ wx.cell? ⟨g', off' + k * 4 + 1, none⟩ = some (.bool p1) ∧ wx.cell? ⟨g', off' + k * 4 + 2, none⟩ = some (.bool p2) ∧ wx.cell? ⟨g', off' + k * 4 + 3, none⟩ = some (.slice a3 zs.length cp3)) (first | assumption | exact HK.out _ (Below.refl _ _).drew | exact HK.out _ ((Below.refl _ _).drew.trans hb2)) (first | (go_at_call 53; refine (eqPattern_same wr.drew _ _ t p1 p2 zs HU1.out HV1.out).mono ?_; rintro e w2 ⟨rfl, hb2⟩))
      all_goals
        go_wp2
        go_roundw
        case rel => exact ⟨k + 1, by omega, by go_num, hb1.trans (((Below.refl _ _).drew.trans hb2).mono hsz)⟩
        case measure => simp [intOf]; omega
    · go_wp2
      go_ret
      exact ⟨rfl, hb1⟩

end Go.Proofs.Ytpohkeenfbaklaa
