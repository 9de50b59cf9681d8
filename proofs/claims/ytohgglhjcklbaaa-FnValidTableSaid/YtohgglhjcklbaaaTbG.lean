
/- The exact law of ValidTable. -/
import Derived.Test.YtohgglhjcklbaaaTbF
import Derived.Test.YtohgglhjcklbaaaTbD
namespace Go.Proofs.Ytohgglhjcklbaaa
open Go.RowKit

theorem eqIntS_sameT (w : World) (u v : Value) (xs : List Int) (hx : IntsAt w u xs) (hy : IntsAt w v xs) :
    Calls Try.prog 27 #[u, v] w fun e w' => e = .returned (.bool true) ∧ Below w.heap.size w w' := by
  have := eqIntS_any w u v xs xs hx hy
  rw [decide_eq_true rfl] at this
  exact this
set_option maxHeartbeats 1000000 in
theorem eqRule_same (w : World) (u v : Value) (t : ByteArray) (zs : List Int) (p : Int) (hx : IntsAt w u zs) (hy : IntsAt w v zs) :
    Calls Try.prog 60 #[.agg #[.string t, u, .int .i64 p], .agg #[.string t, v, .int .i64 p]] w fun e w' => e = .returned (.bool true) ∧ Below w.heap.size w w' := by
  have HX := Lib.hid hx
  have HY := Lib.hid hy
  obtain ⟨a1, c1, rfl, _⟩ := hx
  obtain ⟨a2, c2, rfl, _⟩ := hy
  have hB : Below w.heap.size w ((w.alloc (.cells #[.string t, .slice a1 zs.length c1, .int .i64 p] 46)).alloc (.cells #[.string t, .slice a2 zs.length c2, .int .i64 p] 46)) :=
    ((Below.refl _ _).alloc (Nat.le_refl _) _).alloc (by simp) _
  have hS : ((w.alloc (.cells #[.string t, .slice a1 zs.length c1, .int .i64 p] 46)).alloc (.cells #[.string t, .slice a2 zs.length c2, .int .i64 p] 46)).heap.size = w.heap.size + 1 + 1 := by simp
  have d1 : ((w.alloc (.cells #[.string t, .slice a1 zs.length c1, .int .i64 p] 46)).alloc (.cells #[.string t, .slice a2 zs.length c2, .int .i64 p] 46)).cell? ⟨w.heap.size, 2, none⟩ = some (.int .i64 p) := by
    rw [World.cell?_of_block (Below.heap_alloc _ _ _ (by simp)), cell_of_row _ w.heap.size 2 _ _ _ (heap_alloc_new w _)]; rfl
  have d2 : ((w.alloc (.cells #[.string t, .slice a1 zs.length c1, .int .i64 p] 46)).alloc (.cells #[.string t, .slice a2 zs.length c2, .int .i64 p] 46)).cell? ⟨w.heap.size + 1, 2, none⟩ = some (.int .i64 p) := by
    have h := heap_alloc_new (w.alloc (.cells #[.string t, .slice a1 zs.length c1, .int .i64 p] 46)) (.cells #[.string t, .slice a2 zs.length c2, .int .i64 p] 46)
    rw [World.size_alloc] at h
    rw [cell_of_row _ _ 2 _ _ _ h]; rfl
  go_enter Try.func60, Try.ntmps60
  go_wp2_with fail
  generalize ((w.alloc (.cells #[.string t, .slice a1 zs.length c1, .int .i64 p] 46)).alloc (.cells #[.string t, .slice a2 zs.length c2, .int .i64 p] 46)) = W1 at hB hS d1 d2 ⊢
  refine (eqIntS_sameT W1 _ _ zs (HX.out.below hB) (HY.out.below hB)).mono ?_
  rintro e w2 ⟨rfl, hb2⟩
  have e1 := (hb2.cell (World.block_lt_of_cell? W1 _ d1)).trans d1
  have e2 := (hb2.cell (World.block_lt_of_cell? W1 _ d2)).trans d2
  clear d1 d2 hS
  go_wp2
  go_ret
  exact ⟨rfl, below_next hB hb2⟩

set_option maxHeartbeats 2000000 in
theorem eqRuleS_same (w : World) (u v : Value) (T : List PRule) (hx : TableAt w u T) (hy : TableAt w v T) :
    Calls Try.prog 22 #[u, v] w fun e w' => e = .returned (.bool true) ∧ Below w.heap.size w w' := by
  obtain ⟨a, cp, rfl, x1, x2, x3⟩ := hx
  obtain ⟨a', cp', rfl, y1, y2, y3⟩ := hy
  obtain ⟨n, hn⟩ : ∃ n, T.length = n := ⟨_, rfl⟩
  rw [hn] at x1 x3 y1 y3 ⊢
  have HN := Lib.hid hn
  clear hn
  go_enter Try.func22, Try.ntmps22
  go_wp2
  go_loopw [5] (fun i wr => ∃ k : Nat, k ≤ n ∧ i = .int .i64 k ∧ Below w.heap.size w wr) (fun i _ => n - (intOf i).toNat)
  case atStart => exact ⟨0, Nat.zero_le _, rfl, Below.refl _ _⟩
  case round =>
    obtain ⟨k, hk, rfl, hb1⟩ := hrel
    have hsz := hb1.size
    by_cases hlt : k < n
    · rcases x3 with rfl | ⟨g, off, rfl, x3⟩
      · exact absurd HN.out (by simp; omega)
      rcases y3 with rfl | ⟨g', off', rfl, y3⟩
      · exact absurd HN.out (by simp; omega)
      have hra := x3 k hlt
      have hrb := y3 k hlt
      clear x3 y3
      obtain ⟨r, hr⟩ : ∃ r, T.getD k noR = r := ⟨_, rfl⟩
      rw [hr] at hra hrb
      clear hr
      obtain ⟨t, zs, q⟩ := r
      obtain ⟨c0, ⟨u, c1, hu⟩, c2⟩ := hra
      obtain ⟨d0, ⟨v, d1, hv⟩, d2⟩ := hrb
      have HU : Hid (IntsAt w u zs) := hu
      have HV : Hid (IntsAt w v zs) := hv
      obtain ⟨a2, cp2, rfl, _⟩ := hu
      obtain ⟨a3, cp3, rfl, _⟩ := hv
      simp only at c0 c1 c2 d0 d1 d2
      have c0 := (hb1.cell (World.block_lt_of_cell? w _ c0)).trans c0
      have c1 := (hb1.cell (World.block_lt_of_cell? w _ c1)).trans c1
      have c2 := (hb1.cell (World.block_lt_of_cell? w _ c2)).trans c2
      have d0 := (hb1.cell (World.block_lt_of_cell? w _ d0)).trans d0
      have d1 := (hb1.cell (World.block_lt_of_cell? w _ d1)).trans d1
      have d2 := (hb1.cell (World.block_lt_of_cell? w _ d2)).trans d2
      have b1 : (0 : Int) ≤ (k : Int) := by omega
      have b2 : (k : Int) < (n : Int) := by omega
      have HC : Hid (wr.cell? ⟨g, off + k * 3, none⟩ = some (.string t) ∧ wr.cell? ⟨g, off + k * 3 + 1, none⟩ = some (.slice a2 zs.length cp2) ∧ wr.cell? ⟨g, off + k * 3 + 2, none⟩ = some (.int .i64 q) ∧ wr.cell? ⟨g', off' + k * 3, none⟩ = some (.string t) ∧ wr.cell? ⟨g', off' + k * 3 + 1, none⟩ = some (.slice a3 zs.length cp3) ∧ wr.cell? ⟨g', off' + k * 3 + 2, none⟩ = some (.int .i64 q)) := ⟨c0, c1, c2, d0, d1, d2⟩
      have HK : Hid (∀ wx, Below wr.heap.size wr wx → wx.cell? ⟨g, off + k * 3, none⟩ = some (.string t) ∧ wx.cell? ⟨g, off + k * 3 + 1, none⟩ = some (.slice a2 zs.length cp2) ∧ wx.cell? ⟨g, off + k * 3 + 2, none⟩ = some (.int .i64 q) ∧ wx.cell? ⟨g', off' + k * 3, none⟩ = some (.string t) ∧ wx.cell? ⟨g', off' + k * 3 + 1, none⟩ = some (.slice a3 zs.length cp3) ∧ wx.cell? ⟨g', off' + k * 3 + 2, none⟩ = some (.int .i64 q)) := fun wx h => by
        obtain ⟨c0, c1, c2, d0, d1, d2⟩ := HC.out
        exact ⟨(h.cell (World.block_lt_of_cell? wr _ c0)).trans c0, (h.cell (World.block_lt_of_cell? wr _ c1)).trans c1, (h.cell (World.block_lt_of_cell? wr _ c2)).trans c2, (h.cell (World.block_lt_of_cell? wr _ d0)).trans d0, (h.cell (World.block_lt_of_cell? wr _ d1)).trans d1, (h.cell (World.block_lt_of_cell? wr _ d2)).trans d2⟩
      have HU1 : Hid (IntsAt wr.drew (.slice a2 zs.length cp2) zs) := (show IntsAt wr (.slice a2 zs.length cp2) zs from HU.out.below hb1)
      have HV1 : Hid (IntsAt wr.drew (.slice a3 zs.length cp3) zs) := (show IntsAt wr (.slice a3 zs.length cp3) zs from HV.out.below hb1)
      clear c0 c1 c2 d0 d1 d2
      go_wp2_with fail
      go_region_held3 (fun wx => wx.cell? ⟨g, off + k * 3, none⟩ = some (.string t) ∧ wx.cell? ⟨g, off + k * 3 + 1, none⟩ = some (.slice a2 zs.length cp2) ∧ wx.cell? ⟨g, off + k * 3 + 2, none⟩ = some (.int .i64 q) ∧ wx.cell? ⟨g', off' + k * 3, none⟩ = some (.string t) ∧ wx.cell? ⟨g', off' + k * 3 + 1, none⟩ = some (.slice a3 zs.length cp3) ∧ wx.cell? ⟨g', off' + k * 3 + 2, none⟩ = some (.int .i64 q)) (first | assumption | exact HK.out _ (Below.refl _ _).drew | exact HK.out _ ((Below.refl _ _).drew.trans hb2)) (first | (go_at_call 60; refine (eqRule_same wr.drew _ _ t zs q HU1.out HV1.out).mono ?_; rintro e w2 ⟨rfl, hb2⟩))
      all_goals
        go_wp2
        go_roundw
        case rel => exact ⟨k + 1, by omega, by go_num, hb1.trans (((Below.refl _ _).drew.trans hb2).mono hsz)⟩
        case measure => simp [intOf]; omega
    · go_wp2
      go_ret
      exact ⟨rfl, hb1⟩

set_option maxHeartbeats 2000000 in
theorem exValidTable_walk (a : Option Addr) (len cap : Nat) (T : List PRule) (w : World) (hx : TableAt w (.slice a len cap) T) (hn : T.length = len) (hf : TableFits T) :
    Calls Try.prog 5 #[.slice a len cap] w fun e w' => e = .returned (.bool true) ∧ Below w.heap.size w w' := by
  have HN := Lib.hid hn
  have HX := Lib.hid hx
  have HF := Lib.hid hf
  obtain ⟨b, hb⟩ : ∃ b : Bool, b = true ↔ ValidTb T := by
    by_cases h : ValidTb T
    · exact ⟨true, by simp [h]⟩
    · exact ⟨false, by simp [h]⟩
  have HB := Lib.hid hb
  clear hb hn hx hf
  go_enter Try.func5, Try.ntmps5
  go_wp2_with fail
  refine (szRuleS_any w _ T HX.out HF.out).mono ?_
  rintro e w1 ⟨l, rfl, hb1, hl⟩
  rcases hl with rfl | ⟨hl0, hl1, hsm⟩
  · go_wp2
    go_ret
    exact ⟨rfl, hb1⟩
  · have HS := Lib.hid hsm
    have d1 : decide (l < 0) = false := decide_eq_false (by omega)
    have hx1 := HX.out.below hb1
    have hlen : len ≤ 1048576 := by have := HS.out.1; have := HN.out; omega
    clear hsm
    go_wp2_with fail
    refine (toRuleS_any w1 _ T len hx1 HS.out HN).mono ?_
    rintro e w2 ⟨rfl, ⟨_, hnew2⟩, _, hb2⟩
    have hB2 := below_next hb1 hb2
    have ht2 : TableAt w2 _ T := TableAt.of_new hnew2 HN.out (by omega)
    clear hnew2
    go_wp2_with fail
    refine (s_ValidTable w2 _ T b ht2 HF.out HB).mono ?_
    rintro e w3 ⟨rfl, hb3⟩
    have hB3 := below_next hB2 hb3
    clear ht2
    go_wp2_with fail
    refine (toRuleS_any w3 _ T len (HX.out.below hB3) HS.out HN).mono ?_
    rintro e w4 ⟨rfl, ⟨_, hnew4⟩, _, hb4⟩
    have hB4 := below_next hB3 hb4
    have ht4 : TableAt w4 _ T := TableAt.of_new hnew4 HN.out (by omega)
    clear hnew4
    go_wp2_with fail
    refine (i_ValidTable w4 _ T b ht4 HF.out HB).mono ?_
    rintro e w5 ⟨rfl, hb5⟩
    have hB5 := below_next hB4 hb5
    have ht5 := ht4.below hb5
    clear ht4
    go_wp2_with fail
    refine (toRuleS_any w5 _ T len (HX.out.below hB5) HS.out HN).mono ?_
    rintro e w6 ⟨rfl, ⟨_, hnew6⟩, _, hb6⟩
    have hB6 := below_next hB5 hb6
    have ht6 : TableAt w6 _ T := TableAt.of_new hnew6 HN.out (by omega)
    have ht56 := ht5.below hb6
    clear hnew6 ht5
    go_wp2_with fail
    refine (eqRuleS_same w6 _ _ T ht56 ht6).mono ?_
    rintro e w7 ⟨rfl, hb7⟩
    go_wp2
    go_ret
    exact ⟨rfl, below_next hB6 hb7⟩
end Go.Proofs.Ytohgglhjcklbaaa
