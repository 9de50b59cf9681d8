
/- The exact law of LengthOf. -/
import Derived.Test.YtdkmbkojipkojaaNtc
namespace Go.Proofs.Ytdkmbkojipkojaa
open Go.RowKit

set_option maxHeartbeats 2000000 in
theorem exLengthOf_walk (a : Option Addr) (len cap : Nat) (P : List PNote) (w : World) (hx : NotesAt w (.slice a len cap) P) (hn : P.length = len) :
    Calls Try.prog 8 #[.slice a len cap] w fun e w' => e = .returned (.bool true) ∧ Below w.heap.size w w' := by
  have HN := Lib.hid hn
  have HX := Lib.hid hx
  obtain ⟨r, hr⟩ : ∃ r, lnOf P = r := ⟨_, rfl⟩
  have HR := Lib.hid hr
  clear hr hn hx
  go_enter Try.func8, Try.ntmps8
  go_wp2_with fail
  refine (szNoteS_any w _ P _ HX.out (by omega) (by omega)).mono ?_
  rintro e w' ⟨⟨l2, rfl, hl2⟩, rfl⟩
  rcases hl2 with rfl | ⟨hl20, hl21, hl22⟩
  · go_wp2
    go_ret
    exact ⟨rfl, Below.refl _ _⟩
  · have d2 : decide (l2 < 0) = false := decide_eq_false (by omega)
    have hlen : len ≤ 1048576 := by have := HN.out; omega
    clear hl22
    go_wp2_with fail
    refine (toNoteS_any w _ P len HX.out hlen HN).mono ?_
    rintro e w1 ⟨rfl, hO1, hb1⟩
    go_wp2_with fail
    refine (s_LengthOf w1 _ P r hO1.at HR).mono ?_
    rintro e w2 ⟨rfl, hb2⟩
    have hB2 := below_next hb1 hb2
    clear hO1 hb1 hb2
    go_wp2_with fail
    refine (toNoteS_any w2 _ P len (HX.out.below hB2) hlen HN).mono ?_
    rintro e w3 ⟨rfl, hO3, hb3⟩
    have hB3 := below_next hB2 hb3
    clear hB2 hb3
    go_wp2_with fail
    refine (i_LengthOf w3 _ P r hO3.at HR).mono ?_
    rintro e w4 ⟨rfl, hb4⟩
    have hO4 := hO3.below hb4
    have hB4 := below_next hB3 hb4
    clear hO3 hb4 hB3
    go_wp2_with fail
    refine (toNoteS_any w4 _ P len (HX.out.below hB4) hlen HN).mono ?_
    rintro e w5 ⟨rfl, hO5, hb5⟩
    have hO45 := hO4.below hb5
    have hB5 := below_next hB4 hb5
    clear hO4 hb5 hB4
    go_wp2_with fail
    refine (eqNoteS_same w5 _ _ P hO45.at hO5.at).mono ?_
    rintro e w6 ⟨rfl, hb6⟩
    have hB6 := below_next hB5 hb6
    clear hO5 hO45 hb6 hB5
    go_wp2
    go_ret
    exact ⟨rfl, hB6⟩
end Go.Proofs.Ytdkmbkojipkojaa
