
/- FnFormatCells: its walk. -/
import Derived.Test.YtbngkgfjhegkmaaPrF
import Derived.Test.YtbngkgfjhegkmaaParY
import Derived.Test.YtbngkgfjhegkmaaEqInts
namespace Go.Proofs.Ytbngkgfjhegkmaa
open Go.RowKit

theorem equalInts_same3 (w : World) (u v : Value) (xs : List Int) (hx : IntsAt w u xs) (hy : IntsAt w v xs) :
    Calls Try.prog 12 #[u, v] w fun e w' => e = .returned (.bool true) ∧ Below w.heap.size w w' := by
  have := equalInts_any w u v xs xs hx hy
  rw [decide_eq_true rfl] at this
  exact this

set_option maxHeartbeats 2000000 in
theorem formatCells_walk (a : Option Addr) (len cap : Nat) (zs : List Int) (w : World) (h : RowIn .u8 w a len cap zs) :
    Calls Try.prog 3 #[.slice a len cap] w fun e w' => e = .returned (.bool true) ∧ Below w.heap.size w w' := by
  have hlen : len ≤ 9223372036854775807 := by
    obtain ⟨_, h2, h3⟩ := bytesAt_of_row h; unfold maxLen at h3; omega
  by_cases hbig : len ≤ 1048576
  · go_enter Try.func3, Try.ntmps3
    go_wp2_with fail
    refine (drawFormatCells_any w a len cap zs h).mono ?_
    rintro e w1 ⟨a1, n, c1, xs, rfl, hx, hn, hbt, hn7, hb1⟩
    clear h
    obtain ⟨t, ht⟩ : ∃ t, bs (fmtL xs) = t := ⟨_, rfl⟩
    have HT := Lib.hid ht
    have hts : t.size ≤ 1400 := by rw [← ht, bs_size]; exact fmtL_len _
    have hpl : Hid (t.data.toList = fmtL xs) := by show _ = _; rw [← ht]; simp [bs]
    clear ht
    go_wp2_with fail
    refine (i_FormatCells_u _ _ xs t hx HT).mono ?_
    rintro e w2 ⟨rfl, hb2⟩
    have hx := hx.below hb2
    have hB2 := below_next hb1 hb2
    go_wp2_with fail
    refine (s_FormatCells_u _ _ xs t hx HT).mono ?_
    rintro e w3 ⟨rfl, hb3⟩
    have hx := hx.below hb3
    have hB3 := below_next hB2 hb3
    by_cases hv : ValidL xs
    · have HB := Lib.hid (decide_eq_true hv)
      have HP : Hid (parseL t.data.toList = some xs) := by show _ = _; rw [hpl.out]; exact parse_fmt hv
      clear hv
      go_wp2_with fail
      refine (i_ValidCells_f _ _ xs true hx HB).mono ?_
      rintro e w' ⟨rfl, rfl⟩
      go_wp2_with fail
      refine ((i_ParseCells t _ (by omega)).mono fun _ _ h => parse_yes HP.out h).mono ?_
      rintro e w4 ⟨a4, n4, c4, rfl, ho4, hb4⟩
      have hx4 := hx.below hb4
      have hB4 := below_next hB3 hb4
      go_wp2_with fail
      refine (equalInts_same3 _ _ _ xs ho4.at hx4).mono ?_
      rintro e w5 ⟨rfl, hb5⟩
      go_wp2
      go_ret
      exact ⟨rfl, below_next hB4 hb5⟩
    · have HB := Lib.hid (decide_eq_false hv)
      clear hv
      go_wp2_with fail
      refine (i_ValidCells_f _ _ xs false hx HB).mono ?_
      rintro e w' ⟨rfl, rfl⟩
      go_wp2_with fail
      refine (s_FormatCells_u _ _ xs t hx HT).mono ?_
      rintro e w4 ⟨rfl, hb4⟩
      go_wp2
      go_ret
      exact ⟨rfl, below_next hB3 hb4⟩
  · have hbig' : 1048576 < len := by omega
    go_enter Try.func3, Try.ntmps3
    go_wp2
    go_ret
    exact ⟨rfl, Below.refl _ _⟩
end Go.Proofs.Ytbngkgfjhegkmaa
