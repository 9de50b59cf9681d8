/- FnExactValidCells, FnExactCellOf, FnExactDotsOf: their walks. -/
import Derived.Test.YtjffppabpdimkabExS
import Derived.Test.YtjffppabpdimkabEqIntS
import Derived.Test.YtjffppabpdimkabCell
import Derived.Test.YtjffppabpdimkabVal
import Derived.Test.YtjffppabpdimkabDotsO
namespace Go.Proofs.Ytjffppabpdimkab
open Go.RowKit

theorem eqIntS_same (w : World) (u v : Value) (xs : List Int) (hx : IntsAt w u xs) (hy : IntsAt w v xs) :
    Calls Try.prog 38 #[u, v] w fun e w' => e = .returned (.bool true) ∧ Below w.heap.size w w' := by
  have := eqIntS_any w u v xs xs hx hy
  rw [decide_eq_true rfl] at this
  exact this
def CopyOut (zs : List Int) (n : Nat) (w : World) (e : Ending) (w' : World) : Prop := ∃ g, e = .returned (.slice (some ⟨g, 0, none⟩) n n) ∧ IntsAt w' (.slice (some ⟨g, 0, none⟩) n n) zs ∧ Below w.heap.size w w'
theorem toIntS_out (w : World) (a : Option Addr) (n cap : Nat) (zs : List Int) (hx : IntsAt w (.slice a n cap) zs) (hl : n ≤ 1048576) (hn : Hid (zs.length = n)) :
    Calls Try.prog 37 #[.slice a n cap] w fun e w' => CopyOut zs n w e w' :=
  (toIntS_any w _ zs hx (by have := hn.out; omega)).mono fun _ _ ⟨v, h1, h2, h3, g, h4⟩ => by
    rw [hn.out] at h4
    subst h4
    exact ⟨g, h1, h2.at, h3⟩
theorem i_ValidCells_b (w : World) (u : Value) (zs : List Int) (b : Bool) (hx : IntsAt w u zs) (hb : Hid (decide (ValidL zs) = b)) :
    Calls Try.prog 27 #[u] w fun e w' => e = .returned (.bool b) ∧ w = w' := by
  have := i_ValidCells w u zs hx
  rw [hb.out] at this
  exact this
theorem s_ValidCells_b (w : World) (u : Value) (zs : List Int) (b : Bool) (hx : IntsAt w u zs) (hb : Hid (decide (ValidL zs) = b)) :
    Calls Try.prog 36 #[u] w fun e w' => e = .returned (.bool b) ∧ w = w' := by
  have := s_ValidCells w u zs hx
  rw [hb.out] at this
  exact this
theorem i_cellOf_w (w : World) (u : Value) (zs : List Int) (v : Int) (hx : IntsAt w u zs) (hv : Hid (cellL zs = v)) :
    Calls Try.prog 44 #[u] w fun e w' => e = .returned (.int .i64 v) ∧ w = w' := by
  have := i_cellOf w u zs hx
  rw [hv.out] at this
  exact this
theorem s_cellOf_w (w : World) (u : Value) (zs : List Int) (v : Int) (hx : IntsAt w u zs) (hv : Hid (cellL zs = v)) :
    Calls Try.prog 43 #[u] w fun e w' => e = .returned (.int .i64 v) ∧ w = w' := by
  have := s_cellOf w u zs hx
  rw [hv.out] at this
  exact this

set_option maxHeartbeats 1000000 in
theorem exValidCells_walk (a : Option Addr) (len cap : Nat) (zs : List Int) (w : World) (h : RowIn64 w a len cap zs) :
    Calls Try.prog 12 #[.slice a len cap] w fun e w' => e = .returned (.bool true) ∧ Below w.heap.size w w' := by
  obtain ⟨hl, hfit, hx⟩ := h.ints
  have hlen : len ≤ 9223372036854775807 := by obtain ⟨_, c, hs, h1, h2, _⟩ := hx; injection hs; omega
  obtain ⟨xs, hxs⟩ : ∃ xs, zs.take len = xs := ⟨_, rfl⟩
  rw [hxs] at hl hfit hx
  have HL := Lib.hid hl
  clear hl hxs h hfit
  by_cases hbig : len ≤ 1048576
  · obtain ⟨b, hb0⟩ : ∃ b, decide (ValidL xs) = b := ⟨_, rfl⟩
    have HB := Lib.hid hb0
    clear hb0
    go_enter Try.func12, Try.ntmps12
    go_wp2_with fail
    refine (toIntS_out _ a len cap xs hx hbig HL).mono ?_
    rintro e w1 ⟨g1, rfl, hv1, hb1⟩
    have hx := hx.below hb1
    go_wp2_with fail
    refine (s_ValidCells_b _ _ xs b hv1 HB).mono ?_
    rintro e w' ⟨rfl, rfl⟩
    go_wp2_with fail
    refine (toIntS_out _ a len cap xs hx hbig HL).mono ?_
    rintro e w2 ⟨g2, rfl, hv2, hb2⟩
    have hx := hx.below hb2
    have hB2 := below_next hb1 hb2
    go_wp2_with fail
    refine (i_ValidCells_b _ _ xs b hv2 HB).mono ?_
    rintro e w' ⟨rfl, rfl⟩
    go_wp2_with fail
    refine (toIntS_out _ a len cap xs hx hbig HL).mono ?_
    rintro e w3 ⟨g3, rfl, hv3, hb3⟩
    have hv2 := hv2.below hb3
    have hB3 := below_next hB2 hb3
    go_wp2_with fail
    refine (eqIntS_same _ _ _ xs hv2 hv3).mono ?_
    rintro e w4 ⟨rfl, hb4⟩
    go_wp2
    go_ret
    exact ⟨rfl, below_next hB3 hb4⟩
  · have hbig' : 1048576 < len := by omega
    go_enter Try.func12, Try.ntmps12
    go_wp2
    go_ret
    exact ⟨rfl, Below.refl _ _⟩

set_option maxHeartbeats 1000000 in
theorem exCellOf_walk (a : Option Addr) (len cap : Nat) (zs : List Int) (w : World) (h : RowIn64 w a len cap zs) :
    Calls Try.prog 14 #[.slice a len cap] w fun e w' => e = .returned (.bool true) ∧ Below w.heap.size w w' := by
  obtain ⟨hl, hfit, hx⟩ := h.ints
  have hlen : len ≤ 9223372036854775807 := by obtain ⟨_, c, hs, h1, h2, _⟩ := hx; injection hs; omega
  obtain ⟨xs, hxs⟩ : ∃ xs, zs.take len = xs := ⟨_, rfl⟩
  rw [hxs] at hl hfit hx
  have HL := Lib.hid hl
  clear hl hxs h hfit
  by_cases hbig : len ≤ 1048576
  · obtain ⟨b, hb0⟩ : ∃ b, cellL xs = b := ⟨_, rfl⟩
    have HB := Lib.hid hb0
    clear hb0
    go_enter Try.func14, Try.ntmps14
    go_wp2_with fail
    refine (toIntS_out _ a len cap xs hx hbig HL).mono ?_
    rintro e w1 ⟨g1, rfl, hv1, hb1⟩
    have hx := hx.below hb1
    go_wp2_with fail
    refine (s_cellOf_w _ _ xs b hv1 HB).mono ?_
    rintro e w' ⟨rfl, rfl⟩
    go_wp2_with fail
    refine (toIntS_out _ a len cap xs hx hbig HL).mono ?_
    rintro e w2 ⟨g2, rfl, hv2, hb2⟩
    have hx := hx.below hb2
    have hB2 := below_next hb1 hb2
    go_wp2_with fail
    refine (i_cellOf_w _ _ xs b hv2 HB).mono ?_
    rintro e w' ⟨rfl, rfl⟩
    go_wp2_with fail
    refine (toIntS_out _ a len cap xs hx hbig HL).mono ?_
    rintro e w3 ⟨g3, rfl, hv3, hb3⟩
    have hv2 := hv2.below hb3
    have hB3 := below_next hB2 hb3
    go_wp2_with fail
    refine (eqIntS_same _ _ _ xs hv2 hv3).mono ?_
    rintro e w4 ⟨rfl, hb4⟩
    go_wp2
    go_ret
    exact ⟨rfl, below_next hB3 hb4⟩
  · have hbig' : 1048576 < len := by omega
    go_enter Try.func14, Try.ntmps14
    go_wp2
    go_ret
    exact ⟨rfl, Below.refl _ _⟩

theorem OwnInts.below {w w' : World} {base : Nat} {v : Value} {zs : List Int} (h : OwnInts w base v zs) (hb : Below w.heap.size w w') : OwnInts w' base v zs :=
  h.kept (row := none) ⟨hb.os, hb.tape, hb.output, hb.size, fun k hk _ => hb.block k hk⟩ (by cases hv : v.ownBlock <;> simp)
theorem heldIntS_own (w : World) (base : Nat) (v : Value) (n : Nat) (hx : OwnInts w base v (countUp 1 n)) (hl : n ≤ 4000000000000000000) :
    Calls Try.prog 42 #[v, .int .i64 1] w fun e w' => e = .returned (.int .i64 (1 + n)) ∧ w = w' :=
  heldIntS_any w v n 1 hx.at (by omega) (by omega) hl
theorem markIntS_own (w : World) (base : Nat) (a : Option Addr) (n m cap : Nat) (zs : List Int) (hx : OwnInts w base (.slice a m cap) zs) (hn : Hid (zs.length = n)) (hl : n ≤ 4000000000000000000) :
    Calls Try.prog 41 #[.slice a m cap, .int .i64 1] w fun e w' => e = .returned (.int .i64 (1 + n)) ∧ OwnInts w' base (.slice a m cap) (countUp 1 n) ∧ Below base w w' := by
  have := markIntS_any w base _ zs 1 hx ⟨_, _, _, rfl⟩ (by omega) (by omega) (by have := hn.out; omega)
  rw [hn.out] at this
  exact this

set_option maxHeartbeats 1000000 in
theorem exDotsOf_walk (c : Int) (w : World) :
    Calls Try.prog 13 #[.int .i64 c] w fun e w' => e = .returned (.bool true) ∧ Below w.heap.size w w' := by
  by_cases hc : 0 ≤ c ∧ c < 64
  · obtain ⟨k, rfl⟩ : ∃ k : Nat, c = k := ⟨c.toNat, by omega⟩
    have hk : k < 64 := by omega
    clear hc
    obtain ⟨D, hD⟩ : ∃ D, dotsL k = D := ⟨_, rfl⟩
    obtain ⟨n, hn⟩ : ∃ n, D.length = n := ⟨_, rfl⟩
    have hn6 : n ≤ 6 := by rw [← hn, ← hD]; exact dotsUp_le k 6
    have HD := Lib.hid hD
    have HN := Lib.hid hn
    clear hD hn
    go_enter Try.func13, Try.ntmps13
    go_wp2_with fail
    refine (s_DotsOf_out k _ hk).mono ?_
    rintro e w1 ⟨v1, rfl, hv1, hb1, a1, n1, c1, rfl⟩
    rw [HD.out] at hv1
    go_wp2_with fail
    refine (i_dotsOf k _ hk).mono ?_
    rintro e w2 ⟨v2, rfl, ho2, hb2, a2, n2, c2, rfl⟩
    rw [HD.out] at ho2
    have hB2 := below_next hb1 hb2
    have hv2 := hv1.below hb2
    go_wp2_with fail
    refine (eqIntS_same _ _ _ D ho2.at hv2).mono ?_
    rintro e w3 ⟨rfl, hb3⟩
    have hB3 := below_next hB2 hb3
    have ho3 := ho2.below hb3
    have hb13 : Below w1.heap.size w1 w3 := below_next hb2 hb3
    go_wp2_with fail
    refine (markIntS_own _ _ a2 n n2 c2 D ho3 HN (by omega)).mono ?_
    rintro e w4 ⟨rfl, ho4, hb4⟩
    have hb14 : Below w1.heap.size w1 w4 := hb13.trans hb4
    have hB4 : Below w.heap.size w w4 := below_next hb1 hb14
    have hv4 := hv1.below hb14
    clear hb13 hb3 hb4 ho3 ho2 hv2 hB2 hB3
    go_wp2_with fail
    refine (heldIntS_own _ _ _ n ho4 (by omega)).mono ?_
    rintro e w' ⟨rfl, rfl⟩
    go_wp2_with fail
    refine (i_dotsOf k _ hk).mono ?_
    rintro e w5 ⟨v5, rfl, ho5, hb5, a5, n5, c5, rfl⟩
    rw [HD.out] at ho5
    have hv5 := hv4.below hb5
    have hB5 := below_next hB4 hb5
    go_wp2_with fail
    refine (eqIntS_same _ _ _ D ho5.at hv5).mono ?_
    rintro e w6 ⟨rfl, hb6⟩
    have hB6 := below_next hB5 hb6
    have ho6 := (ho4.below hb5).below hb6
    go_wp2_with fail
    refine (heldIntS_own _ _ _ n ho6 (by omega)).mono ?_
    rintro e w' ⟨rfl, rfl⟩
    go_wp2
    go_ret
    exact ⟨rfl, hB6⟩
  · have hno : c < 0 ∨ 64 ≤ c := by omega
    clear hc
    have HN : Hid (([] : List Int).length = 0) := rfl
    go_enter Try.func13, Try.ntmps13
    go_wp2_with fail
    refine (s_DotsOf_no c _ hno).mono ?_
    rintro e w' ⟨rfl, rfl⟩
    go_wp2_with fail
    refine (i_dotsOf_no c _ hno).mono ?_
    rintro e w' ⟨rfl, rfl⟩
    go_wp2_with fail
    refine (eqIntS_same _ _ _ [] (IntsAt.nil _) (IntsAt.nil _)).mono ?_
    rintro e w1 ⟨rfl, hb1⟩
    go_wp2_with fail
    refine (markIntS_own _ w1.heap.size none 0 0 0 [] (OwnInts.nil _ _) HN (by omega)).mono ?_
    rintro e w2 ⟨rfl, ho2, hb2⟩
    have hB2 := below_next hb1 hb2
    go_wp2_with fail
    refine (heldIntS_own _ _ _ 0 ho2 (by omega)).mono ?_
    rintro e w' ⟨rfl, rfl⟩
    go_wp2_with fail
    refine (i_dotsOf_no c _ hno).mono ?_
    rintro e w' ⟨rfl, rfl⟩
    go_wp2_with fail
    refine (eqIntS_same _ _ _ [] (IntsAt.nil _) (IntsAt.nil _)).mono ?_
    rintro e w3 ⟨rfl, hb3⟩
    have hB3 := below_next hB2 hb3
    go_wp2_with fail
    refine (heldIntS_own _ _ _ 0 (ho2.below hb3) (by omega)).mono ?_
    rintro e w' ⟨rfl, rfl⟩
    go_wp2
    go_ret
    exact ⟨rfl, hB3⟩
end Go.Proofs.Ytjffppabpdimkab
