
/- The exact laws of AsciiOf and CellsOfAscii. -/
import Derived.Test.YthojahknocageaaAe
import Derived.Test.YthojahknocageaaEa
namespace Go.Proofs.Ythojahknocageaa
open Go.RowKit

theorem i_AsciiOf_t (w : World) (u : Value) (zs : List Int) (t : ByteArray) (hx : IntsAt w u zs) (ht : Hid (bs (ascL zs) = t)) :
    Calls Try.prog 10 #[u] w fun e w' => e = .returned (.string t) ∧ Below w.heap.size w w' := by
  have := i_AsciiOf w u zs hx
  unfold TextOut at this
  rw [ht.out] at this
  exact this
theorem s_AsciiOf_t (w : World) (u : Value) (zs : List Int) (t : ByteArray) (hx : IntsAt w u zs) (ht : Hid (bs (ascL zs) = t)) :
    Calls Try.prog 11 #[u] w fun e w' => e = .returned (.string t) ∧ Below w.heap.size w w' := by
  have := s_AsciiOf w u zs hx
  unfold TextOut at this
  rw [ht.out] at this
  exact this
set_option maxHeartbeats 1000000 in
theorem exAsciiOf_walk (a : Option Addr) (len cap : Nat) (zs0 : List Int) (w : World) (h : RowIn64 w a len cap zs0) :
    Calls Try.prog 7 #[.slice a len cap] w fun e w' => e = .returned (.bool true) ∧ Below w.heap.size w w' := by
  obtain ⟨hn, _, hx⟩ := h.ints
  obtain ⟨zs, hzs⟩ : ∃ zs, zs0.take len = zs := ⟨_, rfl⟩
  rw [hzs] at hn hx
  have hcap : len ≤ 9223372036854775807 := by
    obtain ⟨_, _, e, e1, e2, _⟩ := hx
    injection e with _ e3 e4
    omega
  have HN := keptA hn
  have HX := keptA hx
  obtain ⟨t, ht⟩ : ∃ t, bs (ascL zs) = t := ⟨_, rfl⟩
  have HT := keptA ht
  clear ht hn hx h hzs
  by_cases hbig : 1048576 < len
  · go_enter Try.func7, Try.ntmps7
    go_wp2
    go_ret
    exact ⟨rfl, Below.refl _ _⟩
  · have hlen : len ≤ 1048576 := by omega
    clear hbig
    go_enter Try.func7, Try.ntmps7
    go_wp2_with fail
    refine (toIntS_e w _ len _ zs HX.out hlen HN).mono ?_
    rintro e w1 ⟨g1, rfl, hO1, hb1⟩
    go_wp2_with fail
    refine (s_AsciiOf_t w1 _ zs t hO1.at HT).mono ?_
    rintro e w2 ⟨rfl, hb2⟩
    have hB2 := below_next hb1 hb2
    clear hO1 hb1 hb2
    go_wp2_with fail
    refine (toIntS_e w2 _ len _ zs (HX.out.below hB2) hlen HN).mono ?_
    rintro e w3 ⟨g3, rfl, hO3, hb3⟩
    have hB3 := below_next hB2 hb3
    clear hB2 hb3
    go_wp2_with fail
    refine (i_AsciiOf_t w3 _ zs t hO3.at HT).mono ?_
    rintro e w4 ⟨rfl, hb4⟩
    have hO4 := hO3.below hb4
    have hB4 := below_next hB3 hb4
    clear hO3 hB3 hb4
    go_wp2_with fail
    refine (toIntS_e w4 _ len _ zs (HX.out.below hB4) hlen HN).mono ?_
    rintro e w6 ⟨g6, rfl, hO6, hb6⟩
    have hO46 := hO4.below hb6
    have hB6 := below_next hB4 hb6
    clear hO4 hb6 hB4
    go_wp2_with fail
    refine (eqIntS_sameE w6 _ _ zs hO46.at hO6.at).mono ?_
    rintro e w7 ⟨rfl, hb7⟩
    have hB7 := below_next hB6 hb7
    go_wp2
    go_ret
    exact ⟨rfl, hB7⟩
set_option maxHeartbeats 2000000 in
theorem exCellsOfAscii_walk (s : ByteArray) (w0 : s.size ≤ maxLen) (w : World) :
    Calls Try.prog 8 #[.string s] w fun e w' => e = .returned (.bool true) ∧ Below w.heap.size w w' := by
  unfold maxLen at w0
  obtain ⟨l, hl⟩ : ∃ l, s.data.toList = l := ⟨_, rfl⟩
  have HL := keptA hl
  obtain ⟨L, b, hr⟩ := ra_ex l
  have HR := keptA hr
  have hLn : L.length ≤ 200 := by
    rcases hr with ⟨_, h⟩ | ⟨_, rfl, _⟩
    · exact (asL_readA h).2.1
    · simp
  have HLn := keptA hLn
  have hbb : (b != b) = false := by cases b <;> rfl
  clear hl hr hLn
  by_cases hbig : s.size ≤ 1048576
  · go_enter Try.func8, Try.ntmps8
    go_wp2_with fail
    refine (s_CellsOfAscii s l L b w HL hbig HR).mono ?_
    rintro e w1 ⟨a1, n1, c1, rfl, hO1, hb1⟩
    go_wp2_with fail
    refine (i_CellsOfAscii s l L b w1 HL (by omega) HR).mono ?_
    rintro e w2 ⟨a2, n2, c2, rfl, hO2, hb2⟩
    have hB2 := below_next hb1 hb2
    have hO12 := hO1.below hb2
    have hlt1 : Hid (∀ k, (Value.slice a1 n1 c1).ownBlock = some k → k < w1.heap.size) := fun k hk => (World.ownsRow.lt hO1 k hk).2
    have hb12 := hb2
    have hb01 := hb1
    clear hO1 hb1 hb2
    go_wp2_with fail
    refine (eqIntS_sameE w2 _ _ L hO2.at hO12.at).mono ?_
    rintro e w3 ⟨rfl, hb3⟩
    have hB3 := below_next hB2 hb3
    have hO13 := hO12.below hb3
    have hO23 := hO2.below hb3
    have HN2 : Hid (L.length = n2) := by
      obtain ⟨_, _, e, _⟩ := hO23.at
      injection e with _ e2 _
      exact e2.symm
    have hn2 : n2 ≤ 200 := by rw [← HN2.out]; exact HLn.out
    have hb13 : Below w1.heap.size w1 w3 := below_next hb12 hb3
    clear hB2 hb3 hO12 hO2
    go_wp2_with fail
    refine (markIntS_own w3 w1.heap.size a2 n2 n2 c2 L hO23 HN2 (by omega)).mono ?_
    rintro e w4 ⟨rfl, hI4, hb4⟩
    have hb14 : Below w1.heap.size w1 w4 := hb13.trans hb4
    have hB4 : Below w.heap.size w w4 := below_next hb01 hb14
    have hO14 := hO13.of_blockE (fun b hb => hb4.block b (hlt1.out b hb))
    have d4 : decide (1 + (n2 : Int) < 0) = false := decide_eq_false (by omega)
    clear hB3 hb4 hO13 hO23 hb13
    go_wp2_with fail
    refine (heldIntS_own w4 w1.heap.size _ n2 hI4 (by omega)).mono ?_
    rintro e w' ⟨rfl, rfl⟩
    go_wp2_with fail
    refine (i_CellsOfAscii s l L b w4 HL (by omega) HR).mono ?_
    rintro e w5 ⟨a5, n5, c5, rfl, hO5, hb5⟩
    have hB5 := below_next hB4 hb5
    have hO15 := hO14.below hb5
    have hI5 := hI4.below hb5
    clear hB4 hb5 hO14 hI4
    go_wp2_with fail
    refine (eqIntS_sameE w5 _ _ L hO5.at hO15.at).mono ?_
    rintro e w6 ⟨rfl, hb6⟩
    have hB6 := below_next hB5 hb6
    have hI6 := hI5.below hb6
    clear hB5 hb6 hO15 hI5
    go_wp2_with fail
    refine (heldIntS_own w6 w1.heap.size _ n2 hI6 (by omega)).mono ?_
    rintro e w' ⟨rfl, rfl⟩
    go_wp2
    go_ret
    exact ⟨rfl, hB6⟩
  · go_enter Try.func8, Try.ntmps8
    go_wp2
    go_ret
    exact ⟨rfl, Below.refl _ _⟩
end Go.Proofs.Ythojahknocageaa
