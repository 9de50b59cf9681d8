
/- FnParseCells: its walk. -/
import Derived.Test.YtbngkgfjhegkmaaPrG
import Derived.Test.YtbngkgfjhegkmaaDrQ
namespace Go.Proofs.Ytbngkgfjhegkmaa
open Go.RowKit

set_option maxHeartbeats 2000000 in
theorem parseCells_walk (a : Option Addr) (len cap : Nat) (zs : List Int) (w : World) (h : RowIn .u8 w a len cap zs) :
    Calls Try.prog 4 #[.slice a len cap] w fun e w' => e = .returned (.bool true) ∧ Below w.heap.size w w' := by
  have hlen : len ≤ 9223372036854775807 := by
    obtain ⟨_, h2, h3⟩ := bytesAt_of_row h; unfold maxLen at h3; omega
  by_cases hbig : len ≤ 1048576
  · go_enter Try.func4, Try.ntmps4
    go_wp2_with fail
    refine (drawParseCells_any w a len cap zs h).mono ?_
    rintro e w1 ⟨s, rfl, hs, hb1⟩
    clear h
    cases hp : parseL s.data.toList with
    | some D =>
      obtain ⟨hf, hv⟩ := fmt_parse hp
      have HT : Hid (bs (fmtL D) = s) := by show _ = _; rw [hf, bs_of]
      have HB := Lib.hid (decide_eq_true hv)
      have HI : Hid (∀ w, Calls Try.prog 11 #[.string s] w fun e w' => ParseYes D w e w') := fun w => (i_ParseCells s w (by omega)).mono fun _ _ h => parse_yes hp h
      have HS : Hid (∀ w, Calls Try.prog 14 #[.string s] w fun e w' => ParseYes D w e w') := fun w => (s_ParseCells s w (by omega)).mono fun _ _ h => parse_yes hp h
      clear hp hf hv
      go_wp2_with fail
      refine (HI.out _).mono ?_
      rintro e w2 ⟨a2, n2, c2, rfl, ho2, hb2⟩
      have hB2 := below_next hb1 hb2
      have hx2 := ho2.at
      clear ho2
      go_wp2_with fail
      refine (HS.out _).mono ?_
      rintro e w3 ⟨a3, n3, c3, rfl, ho3, hb3⟩
      have hB3 := below_next hB2 hb3
      have hx3 := hx2.below hb3
      go_wp2_with fail
      refine (equalInts_same3 _ _ _ D hx3 ho3.at).mono ?_
      rintro e w4 ⟨rfl, hb4⟩
      have hB4 := below_next hB3 hb4
      have hx4 := hx3.below hb4
      clear ho3
      go_wp2_with fail
      refine (i_FormatCells_u _ _ D s hx4 HT).mono ?_
      rintro e w5 ⟨rfl, hb5⟩
      have hB5 := below_next hB4 hb5
      have hx5 := hx4.below hb5
      go_wp2_with fail
      refine (i_ValidCells_f _ _ D true hx5 HB).mono ?_
      rintro e w' ⟨rfl, rfl⟩
      go_wp2
      go_ret
      exact ⟨rfl, hB5⟩
    | none =>
      have HI : Hid (∀ w, Calls Try.prog 11 #[.string s] w fun e w' => ParseNo w e w') := fun w => (i_ParseCells s w (by omega)).mono fun _ _ h => parse_no hp h
      have HS : Hid (∀ w, Calls Try.prog 14 #[.string s] w fun e w' => ParseNo w e w') := fun w => (s_ParseCells s w (by omega)).mono fun _ _ h => parse_no hp h
      clear hp
      go_wp2_with fail
      refine (HI.out _).mono ?_
      rintro e w2 ⟨rfl, hb2⟩
      have hB2 := below_next hb1 hb2
      go_wp2_with fail
      refine (HS.out _).mono ?_
      rintro e w3 ⟨rfl, hb3⟩
      have hB3 := below_next hB2 hb3
      go_wp2_with fail
      refine (equalInts_same3 _ _ _ [] (IntsAt.nil _) (IntsAt.nil _)).mono ?_
      rintro e w4 ⟨rfl, hb4⟩
      have hB4 := below_next hB3 hb4
      go_wp2_with fail
      refine (equalInts_same3 _ _ _ [] (IntsAt.nil _) (IntsAt.nil _)).mono ?_
      rintro e w5 ⟨rfl, hb5⟩
      go_wp2
      go_ret
      exact ⟨rfl, below_next hB4 hb5⟩
  · have hbig' : 1048576 < len := by omega
    go_enter Try.func4, Try.ntmps4
    go_wp2
    go_ret
    exact ⟨rfl, Below.refl _ _⟩
end Go.Proofs.Ytbngkgfjhegkmaa
