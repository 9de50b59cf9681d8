
/- FnPlainCellsLength: its walk. -/
import Derived.Test.YtabmeakjbhiklaaPlM
import Derived.Test.YtabmeakjbhiklaaPrI
import Derived.Test.YtabmeakjbhiklaaDrT
namespace Go.Proofs.Ytabmeakjbhiklaa
open Go.RowKit

def PlainYes (zs : List Int) (w : World) (e : Ending) (w' : World) : Prop :=
  ∃ a n c, e = .returned (.slice a n c) ∧ OwnInts w' w.heap.size (.slice a n c) zs ∧ Below w.heap.size w w'
theorem plainYes_of {zs : List Int} {w w' : World} {e : Ending} (h : CellsMade zs w e w') : PlainYes zs w e w' := by
  obtain ⟨v, h1, h2, h3, a, n, c, rfl⟩ := h
  exact ⟨a, n, c, h1, h2, h3⟩

set_option maxHeartbeats 2000000 in
theorem plainCellsLength_walk (a : Option Addr) (len cap : Nat) (zs : List Int) (w : World) (h : RowIn .u8 w a len cap zs) :
    Calls Try.prog 5 #[.slice a len cap] w fun e w' => e = .returned (.bool true) ∧ Below w.heap.size w w' := by
  have hlen : len ≤ 9223372036854775807 := by
    obtain ⟨_, h2, h3⟩ := bytesAt_of_row h; unfold maxLen at h3; omega
  by_cases hbig : len ≤ 1048576
  · go_enter Try.func5, Try.ntmps5
    go_wp2_with fail
    refine (drawPlainCells_any w a len cap zs h).mono ?_
    rintro e w1 ⟨s, rfl, hs, hb1⟩
    clear h
    by_cases hv : ValidT s.data.toList
    · obtain ⟨D, hD⟩ : ∃ D, plainC s.data.toList = D := ⟨_, rfl⟩
      have HB := Lib.hid (decide_eq_true hv)
      have HI : Hid (∀ w, Calls Try.prog 12 #[.string s] w fun e w' => PlainYes D w e w') := fun w => (i_PlainCells s _ w (Txt.of s) rfl hv).mono fun _ _ h => by rw [hD] at h; exact plainYes_of h
      have HS : Hid (∀ w, Calls Try.prog 11 #[.string s] w fun e w' => PlainYes D w e w') := fun w => (s_PlainCells s _ w (Txt.of s) rfl hv).mono fun _ _ h => by rw [hD] at h; exact plainYes_of h
      obtain ⟨hbd1, hbd2⟩ := plainC_bd s.data.toList
      have hvl := plainC_valid hv
      rw [hD] at hbd1 hbd2 hvl
      rw [size_data] at hbd1 hbd2
      have HVL := Lib.hid (decide_eq_true hvl)
      have hs60 : s.size ≤ 60 := by have := hv.1; rw [size_data] at this; exact this
      clear hv hD hvl
      go_wp2_with fail
      refine (HI.out _).mono ?_
      rintro e w2 ⟨a2, n2, c2, rfl, ho2, hb2⟩
      have hB2 := below_next hb1 hb2
      have hx2 := ho2.at
      have hn2 : Hid (D.length = n2) := by obtain ⟨_, _, h, _⟩ := hx2; injection h with _ h2; exact h2.symm
      clear ho2
      go_wp2_with fail
      refine (HS.out _).mono ?_
      rintro e w3 ⟨a3, n3, c3, rfl, ho3, hb3⟩
      have hB3 := below_next hB2 hb3
      have hx3 := hx2.below hb3
      go_wp2_with fail
      refine (equalInts_same4 _ _ _ D hx3 ho3.at).mono ?_
      rintro e w4 ⟨rfl, hb4⟩
      have hB4 := below_next hB3 hb4
      have hx4 := hx3.below hb4
      clear ho3
      go_wp2_with fail
      refine (i_ValidText_v s true _ (by omega) HB).mono ?_
      rintro e w5 ⟨rfl, hb5⟩
      have hB5 := below_next hB4 hb5
      have hx5 := hx4.below hb5
      have g1 : s.size ≤ n2 := by have := hn2.out; omega
      have g2 : n2 ≤ 2 * s.size := by have := hn2.out; omega
      have g3 : decide ((n2 : Int) ≤ 2 * (s.size : Int)) = true := decide_eq_true (by omega)
      go_wp2_with fail
      refine (i_ValidCells_f _ _ D true hx5 HVL).mono ?_
      rintro e w' ⟨rfl, rfl⟩
      go_wp2
      go_ret
      exact ⟨rfl, hB5⟩

    · have HB := Lib.hid (decide_eq_false hv)
      have HI : Hid (∀ w, Calls Try.prog 12 #[.string s] w fun e w' => CellsNil w e w') := fun w => i_PlainCells_no s w (by omega) hv
      have HS : Hid (∀ w, Calls Try.prog 11 #[.string s] w fun e w' => CellsNil w e w') := fun w => s_PlainCells_no s w (by omega) hv
      clear hv
      go_wp2_with fail
      refine (HI.out _).mono ?_
      rintro e w2 ⟨rfl, hb2⟩
      have hB2 := below_next hb1 hb2
      go_wp2_with fail
      refine (HS.out _).mono ?_
      rintro e w3 ⟨rfl, hb3⟩
      have hB3 := below_next hB2 hb3
      go_wp2_with fail
      refine (equalInts_same4 _ _ _ [] (IntsAt.nil _) (IntsAt.nil _)).mono ?_
      rintro e w4 ⟨rfl, hb4⟩
      have hB4 := below_next hB3 hb4
      go_wp2_with fail
      refine (i_ValidText_v s false _ (by omega) HB).mono ?_
      rintro e w5 ⟨rfl, hb5⟩
      have hB5 := below_next hB4 hb5
      go_wp2_with fail
      refine (HS.out _).mono ?_
      rintro e w6 ⟨rfl, hb6⟩
      have hB6 := below_next hB5 hb6
      go_wp2_with fail
      refine (equalInts_same4 _ _ _ [] (IntsAt.nil _) (IntsAt.nil _)).mono ?_
      rintro e w7 ⟨rfl, hb7⟩
      go_wp2
      go_ret
      exact ⟨rfl, below_next hB6 hb7⟩
  · have hbig' : 1048576 < len := by omega
    go_enter Try.func5, Try.ntmps5
    go_wp2
    go_ret
    exact ⟨rfl, Below.refl _ _⟩
end Go.Proofs.Ytabmeakjbhiklaa
