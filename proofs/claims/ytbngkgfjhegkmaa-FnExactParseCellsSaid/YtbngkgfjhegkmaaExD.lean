
/- FnExactParseCells: its walk. -/
import Derived.Test.YtbngkgfjhegkmaaExC
import Derived.Test.YtbngkgfjhegkmaaExM
import Derived.Test.YtbngkgfjhegkmaaParY
namespace Go.Proofs.Ytbngkgfjhegkmaa
open Go.RowKit

set_option maxHeartbeats 2000000 in
theorem exParseCells_walk (s : ByteArray) (w0 : s.size ≤ maxLen) (w : World) :
    Calls Try.prog 6 #[.string s] w fun e w' => e = .returned (.bool true) ∧ Below w.heap.size w w' := by
  unfold maxLen at w0
  by_cases hbig : s.size ≤ 1048576
  · cases hp : parseL s.data.toList with
    | some D =>
      have hl := parseL_le hp
      obtain ⟨n, hn⟩ : ∃ n, D.length = n := ⟨_, rfl⟩
      rw [hn] at hl
      have HN := Lib.hid hn
      have HI : Hid (∀ w, Calls Try.prog 11 #[.string s] w fun e w' => ParseYes D w e w') := fun w => (i_ParseCells s w (by omega)).mono fun _ _ h => parse_yes hp h
      have HS : Hid (∀ w, Calls Try.prog 14 #[.string s] w fun e w' => ParseYes D w e w') := fun w => (s_ParseCells s w hbig).mono fun _ _ h => parse_yes hp h
      clear hn hp
      go_enter Try.func6, Try.ntmps6
      go_wp2_with fail
      refine (HS.out _).mono ?_
      rintro e w1 ⟨a1, n1, c1, rfl, ho1, hb1⟩
      have hv1 := ho1.at
      clear ho1
      go_wp2_with fail
      refine (HI.out _).mono ?_
      rintro e w2 ⟨a2, n2, c2, rfl, ho2, hb2⟩
      have hB2 := below_next hb1 hb2
      have hv2 := hv1.below hb2
      go_wp2_with fail
      refine (eqIntS_same2 _ _ _ D ho2.at hv2).mono ?_
      rintro e w3 ⟨rfl, hb3⟩
      have hB3 := below_next hB2 hb3
      have ho3 := ho2.below hb3
      have hb13 : Below w1.heap.size w1 w3 := below_next hb2 hb3
      go_wp2_with fail
      refine (markIntS_own _ _ a2 n n2 c2 D ho3 HN (by omega)).mono ?_
      rintro e w4 ⟨rfl, ho4, hb4⟩
      have hb14 : Below w1.heap.size w1 w4 := hb13.trans hb4
      have hB4 : Below w.heap.size w w4 := below_next hb1 hb14
      have hv4 := hv1.below hb14
      clear hb13 hb3 hb4 ho3 ho2 hv2 hB2 hB3
      go_wp2_with fail
      refine (heldIntS_own _ _ _ n ho4 (by omega)).mono ?_
      rintro e w' ⟨rfl, rfl⟩
      go_wp2_with fail
      refine (HI.out _).mono ?_
      rintro e w5 ⟨a5, n5, c5, rfl, ho5, hb5⟩
      have hv5 := hv4.below hb5
      have hB5 := below_next hB4 hb5
      go_wp2_with fail
      refine (eqIntS_same2 _ _ _ D ho5.at hv5).mono ?_
      rintro e w6 ⟨rfl, hb6⟩
      have hB6 := below_next hB5 hb6
      have ho6 := (ho4.below hb5).below hb6
      go_wp2_with fail
      refine (heldIntS_own _ _ _ n ho6 (by omega)).mono ?_
      rintro e w' ⟨rfl, rfl⟩
      go_wp2
      go_ret
      exact ⟨rfl, hB6⟩
    | none =>
      have HI : Hid (∀ w, Calls Try.prog 11 #[.string s] w fun e w' => ParseNo w e w') := fun w => (i_ParseCells s w (by omega)).mono fun _ _ h => parse_no hp h
      have HS : Hid (∀ w, Calls Try.prog 14 #[.string s] w fun e w' => ParseNo w e w') := fun w => (s_ParseCells s w hbig).mono fun _ _ h => parse_no hp h
      have HN : Hid (([] : List Int).length = 0) := rfl
      clear hp
      go_enter Try.func6, Try.ntmps6
      go_wp2_with fail
      refine (HS.out _).mono ?_
      rintro e w1 ⟨rfl, hb1⟩
      go_wp2_with fail
      refine (HI.out _).mono ?_
      rintro e w2 ⟨rfl, hb2⟩
      have hB2 := below_next hb1 hb2
      go_wp2_with fail
      refine (eqIntS_same2 _ _ _ [] (IntsAt.nil _) (IntsAt.nil _)).mono ?_
      rintro e w3 ⟨rfl, hb3⟩
      have hB3 := below_next hB2 hb3
      go_wp2_with fail
      refine (markIntS_own _ w3.heap.size none 0 0 0 [] (OwnInts.nil _ _) HN (by omega)).mono ?_
      rintro e w4 ⟨rfl, ho4, hb4⟩
      have hB4 := below_next hB3 hb4
      go_wp2_with fail
      refine (heldIntS_own _ _ _ 0 ho4 (by omega)).mono ?_
      rintro e w' ⟨rfl, rfl⟩
      go_wp2_with fail
      refine (HI.out _).mono ?_
      rintro e w5 ⟨rfl, hb5⟩
      have hB5 := below_next hB4 hb5
      go_wp2_with fail
      refine (eqIntS_same2 _ _ _ [] (IntsAt.nil _) (IntsAt.nil _)).mono ?_
      rintro e w6 ⟨rfl, hb6⟩
      have hB6 := below_next hB5 hb6
      go_wp2_with fail
      refine (heldIntS_own _ _ _ 0 ((ho4.below hb5).below hb6) (by omega)).mono ?_
      rintro e w' ⟨rfl, rfl⟩
      go_wp2
      go_ret
      exact ⟨rfl, hB6⟩
  · have hbig' : 1048576 < s.size := by omega
    go_enter Try.func6, Try.ntmps6
    go_wp2
    go_ret
    exact ⟨rfl, Below.refl _ _⟩
end Go.Proofs.Ytbngkgfjhegkmaa
