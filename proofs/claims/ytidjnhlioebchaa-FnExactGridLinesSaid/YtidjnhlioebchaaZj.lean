
/- The exact law of ColumnWidths. -/
import Derived.Test.YtidjnhlioebchaaZi
import Derived.Test.YtidjnhlioebchaaExM
namespace Go.Proofs.Ytidjnhlioebchaa
open Go.RowKit

theorem NumsF.below {w w' : World} {base top : Nat} {v : Value} {n : Nat} (h : NumsF w base top v n) (hb : Below w.heap.size w w') : NumsF w' base top v n := by
  obtain ⟨a, cp, h1, h2, h3⟩ := h
  refine ⟨a, cp, h1, h2, h3.imp id ?_⟩
  rintro ⟨g, off, h4, h5, h6, h7⟩
  refine ⟨g, off, h4, h5, h6, fun i hi => ?_⟩
  obtain ⟨⟨z, hz⟩, hf⟩ := h7 i hi
  have hl := World.block_lt_of_cell? w _ hz
  exact ⟨⟨z, (hb.cell hl).trans hz⟩, (hb.frozen hl).trans hf⟩
theorem RowF.below {w w' : World} {base top : Nat} {v : Value} {L : List (List Int)} (h : RowF w base top v L) (hb : Below w.heap.size w w') : RowF w' base top v L := by
  obtain ⟨a, cp, h1, h2, h3⟩ := h
  refine ⟨a, cp, h1, h2, h3.imp id ?_⟩
  rintro ⟨g, off, h4, h7⟩
  refine ⟨g, off, h4, fun i hi => ?_⟩
  obtain ⟨a', n', c', hc, hn⟩ := h7 i hi
  exact ⟨a', n', c', (hb.cell (World.block_lt_of_cell? w _ hc)).trans hc, hn.below hb⟩
theorem GridF.below {w w' : World} {base top : Nat} {v : Value} {G : List (List (List Int))} (h : GridF w base top v G) (hb : Below w.heap.size w w') : GridF w' base top v G := by
  obtain ⟨a, cp, h1, h2, h3⟩ := h
  refine ⟨a, cp, h1, h2, h3.imp id ?_⟩
  rintro ⟨g, off, h4, h7⟩
  refine ⟨g, off, h4, fun i hi => ?_⟩
  obtain ⟨a', n', c', L, hc, hn⟩ := h7 i hi
  exact ⟨a', n', c', L, (hb.cell (World.block_lt_of_cell? w _ hc)).trans hc, hn.below hb⟩
theorem OwnInts.of_blockZ {w w' : World} {base : Nat} {v : Value} {zs : List Int} (h : OwnInts w base v zs) (hk : ∀ k, v.ownBlock = some k → w'.heap[k]? = w.heap[k]?) : OwnInts w' base v zs := by
  rcases h with ⟨h0, ⟨hv, hn⟩ | ⟨g, cap, cur, hv, hb, hg, h1, h2, h3, h4⟩⟩
  · exact ⟨h0, .inl ⟨hv, hn⟩⟩
  · exact ⟨h0, .inr ⟨g, cap, cur, hv, hb, (hk g (by rw [hv]; rfl)).trans hg, h1, h2, h3, h4⟩⟩
theorem OwnInts.lowerZ {w : World} {B B' : Nat} {v : Value} {zs : List Int} (h : OwnInts w B v zs) (hB : B' ≤ B) : OwnInts w B' v zs := by
  rcases h with ⟨h0, ⟨hv, hn⟩ | ⟨g, cap, cur, hv, hb, rest⟩⟩
  · exact ⟨h0, .inl ⟨hv, hn⟩⟩
  · exact ⟨h0, .inr ⟨g, cap, cur, hv, Nat.le_trans hB hb, rest⟩⟩
theorem WidIs.len {G : List (List (List Int))} {Z : List Int} (h : WidIs G Z) : Z.length ≤ 5 := by
  rcases h with ⟨h, rfl⟩ | ⟨_, rfl⟩
  · simp only [widths, List.length_map, List.length_range]; exact h.2.2.2.1
  · simp
set_option maxHeartbeats 1000000 in
theorem s_ColumnWidths_z (w : World) (v : Value) (G : List (List (List Int))) (Z : List Int) (hx : GridAt w v G) (hz : Hid (WidIs G Z)) :
    Calls Try.prog 20 #[v] w fun e w' => WidOut Z w e w' := by
  have HX := keptZ hx
  obtain ⟨a, n, cp, rfl, _⟩ := hx.partsZ
  clear hx
  go_enter Try.func20, Try.ntmps20
  go_wp2_with fail
  refine (s_validGrid_z w _ G HX.out).mono ?_
  rintro e w1 ⟨b, rfl, hb1, hb⟩
  cases b with
  | false =>
    have HZ : Hid (Z = []) := by
      rcases hz.out with ⟨h, _⟩ | ⟨_, h⟩
      · exact absurd (hb.2 h) (by simp)
      · exact h
    clear hb
    go_wp2
    go_ret
    exact ⟨_, _, _, rfl, by rw [HZ.out]; exact OwnInts.nil _ _, hb1⟩
  | true =>
    have HG : Hid (GridOk G) := keptZ (hb.1 rfl)
    have HZ : Hid (Z = widths G) := by
      rcases hz.out with ⟨_, h⟩ | ⟨h, _⟩
      · exact h
      · exact absurd HG.out h
    have HX1 := keptZ (HX.out.below hb1)
    have hsz := hb1.size
    clear hb
    go_wp2_with fail
    refine (s_columnWidths_z w1 _ G HX1.out HG).mono ?_
    rintro e w2 ⟨a2, n2, c2, rfl, hO2, hb2⟩
    have hB2 := below_next hb1 hb2
    have HO2 : Hid (OwnInts w2 w.heap.size (.slice a2 n2 c2) Z) := by show OwnInts _ _ _ _; rw [HZ.out]; exact hO2.lowerZ hsz
    clear hO2 hb1 hb2
    go_wp2
    go_ret
    exact ⟨_, _, _, rfl, HO2.out, hB2⟩
set_option maxHeartbeats 4000000 in
theorem exColumnWidths_walk (a : Option Addr) (len cap : Nat) (G : List (List (List Int))) (w : World) (hx : GridAt w (.slice a len cap) G) :
    Calls Try.prog 11 #[.slice a len cap] w fun e w' => e = .returned (.bool true) ∧ Below w.heap.size w w' := by
  have HX := keptZ hx
  obtain ⟨Z, hz⟩ := widIs_ex G
  have HZ := keptZ hz
  have HL : Hid (Z.length ≤ 5) := hz.len
  clear hx hz
  go_enter Try.func11, Try.ntmps11
  go_wp2_with fail
  refine (szIntSSS_any w _ G HX.out).mono ?_
  rintro e w1 ⟨k, rfl, hb1, hk⟩
  rcases hk with rfl | ⟨hk0, hk1, hs⟩
  · go_wp2
    go_ret
    exact ⟨rfl, hb1⟩
  · have d1 : decide (k < 0) = false := decide_eq_false (by omega)
    have HS := keptZ hs
    have HX1 := keptZ (HX.out.below hb1)
    clear hs
    go_wp2_with fail
    refine (toIntSSS_any w1 _ G HX1.out HS.out).mono ?_
    rintro e w2 ⟨u2, rfl, hu2, hb2⟩
    have hB2 := below_next hb1 hb2
    have HU2 := keptZ hu2
    have HX2 := keptZ (HX1.out.below hb2)
    clear hu2 hb1 hb2 HX1
    go_wp2_with fail
    refine (s_ColumnWidths_z w2 _ G Z HU2.out HZ).mono ?_
    rintro e w3 ⟨a3, n3, c3, rfl, hI3, hb3⟩
    have hB3 := below_next hB2 hb3
    have HX3 := keptZ (HX2.out.below hb3)
    have hlt3 : Hid (∀ k, (Value.slice a3 n3 c3).ownBlock = some k → k < w3.heap.size) := fun k hk => (World.ownsRow.lt hI3 k hk).2
    have hw3 : w.heap.size ≤ w3.heap.size := hB3.size
    clear hB2 hb3 HX2 HU2
    go_wp2_with fail
    refine (toIntSSS_nf w3 _ G HX3.out HS.out).mono ?_
    rintro e w4 ⟨gx, rfl, hgx, hN4, hb4⟩
    have hB4 := below_next hB3 hb4
    have hF4 := hN4.gridF hgx HS.out.1
    have hU4 := GridAt.of_nf hN4 rfl (by have := HS.out.1; omega)
    have hI34 := hI3.below hb4
    have hw4 : w3.heap.size ≤ w4.heap.size := hb4.size
    clear hN4 hB3 hb4 HX3 hI3
    go_wp2_with fail
    refine (i_ColumnWidths_z w4 _ G Z hU4 HZ).mono ?_
    rintro e w5 ⟨a5, n5, c5, rfl, hI5, hb5⟩
    have hB5 := below_next hB4 hb5
    have hF5 := hF4.below hb5
    have hU5 := hU4.below hb5
    have hI35 := hI34.below hb5
    clear hB4 hb5 hF4 hU4 hI34
    go_wp2_with fail
    refine (eqIntS_sameL w5 _ _ Z hI5.at hI35.at).mono ?_
    rintro e w6 ⟨rfl, hb6⟩
    have hB6 := below_next hB5 hb6
    have hF6 := hF5.below hb6
    have hU6 := hU5.below hb6
    have hI36 := hI35.below hb6
    have hI56 := hI5.below hb6
    have hB6s := hB6.size
    clear hB5 hb6 hF5 hU5 hI35 hI5
    go_wp2_with fail
    refine (toIntSSS_any w6 _ G (HX.out.below hB6) HS.out).mono ?_
    rintro e w7 ⟨u7, rfl, hu7, hb7⟩
    have hB7 := below_next hB6 hb7
    have hF7 := hF6.below hb7
    have hU7 := hU6.below hb7
    have hI37 := hI36.below hb7
    have hI57 := hI56.below hb7
    clear hB6 hb7 hF6 hU6 hI36 hI56
    go_wp2_with fail
    refine (eqIntSSS_same w7 _ _ G hU7 hu7).mono ?_
    rintro e w8 ⟨rfl, hb8⟩
    have hB8 := below_next hB7 hb8
    have hF8 := hF7.below hb8
    have hI38 := hI37.below hb8
    have hI58 := hI57.below hb8
    clear hB7 hb8 hF7 hU7 hu7 hI37 hI57
    go_wp2_with fail
    refine (markIntSSS_f w8 w3.heap.size w4.heap.size _ G hF8).mono ?_
    rintro e w9 ⟨r, rfl, hr, hs9⟩
    have d2 : decide (r < 0) = false := decide_eq_false (by omega)
    have hB9 : Below w.heap.size w w9 := hB8.trans ⟨hs9.os, hs9.tape, hs9.output, hs9.size, fun b hb => hs9.block b (.inl (by omega)) (Nat.lt_of_lt_of_le hb hB8.size)⟩
    have hI39 := hI38.of_blockZ (fun b hb => hs9.block b (.inl (hlt3.out b hb)) (World.ownsRow.lt hI38 b hb).2)
    have hI59 := hI58.of_blockZ (fun b hb => hs9.block b (.inr (World.ownsRow.lt hI58 b hb).1) (World.ownsRow.lt hI58 b hb).2)
    clear hB8 hF8 hs9 hI38 hI58
    go_wp2_with fail
    refine (eqIntS_sameL w9 _ _ Z hI59.at hI39.at).mono ?_
    rintro e w10 ⟨rfl, hb10⟩
    have hB10 := below_next hB9 hb10
    have hI310 := hI39.below hb10
    have hI510 := hI59.below hb10
    obtain ⟨m, hm⟩ : ∃ m, Z.length = m := ⟨_, rfl⟩
    have HM := Lib.hid hm
    have hm5 : m ≤ 5 := by rw [← hm]; exact HL.out
    clear hB9 hb10 hI39 hI59 hm
    go_wp2_with fail
    refine (markIntS_own w10 w4.heap.size a5 m n5 c5 Z hI510 HM (by omega)).mono ?_
    rintro e w11 ⟨rfl, hI11, hb11⟩
    have hB11 : Below w.heap.size w w11 := hB10.trans (hb11.mono (by omega))
    have hI311 := hI310.of_blockZ (fun b hb => hb11.block b (by have := hlt3.out b hb; omega))
    clear hB10 hb11 hI310 hI510
    go_wp2_with fail
    refine (heldIntS_own w11 w4.heap.size _ m hI11 (by omega)).mono ?_
    rintro e w' ⟨rfl, rfl⟩
    have d4 : decide (1 + (m : Int) < 0) = false := decide_eq_false (by omega)
    go_wp2_with fail
    refine (toIntSSS_any w11 _ G (HX.out.below hB11) HS.out).mono ?_
    rintro e w12 ⟨u12, rfl, hu12, hb12⟩
    have hB12 := below_next hB11 hb12
    have hI312 := hI311.below hb12
    have hI12 := hI11.below hb12
    clear hB11 hb12 hI311 hI11
    go_wp2_with fail
    refine (i_ColumnWidths_z w12 _ G Z hu12 HZ).mono ?_
    rintro e w13 ⟨a13, n13, c13, rfl, hI13, hb13⟩
    have hB13 := below_next hB12 hb13
    have hI313 := hI312.below hb13
    have hIm := hI12.below hb13
    clear hB12 hb13 hI312 hI12 hu12
    go_wp2_with fail
    refine (eqIntS_sameL w13 _ _ Z hI13.at hI313.at).mono ?_
    rintro e w14 ⟨rfl, hb14⟩
    have hB14 := below_next hB13 hb14
    have hIm14 := hIm.below hb14
    clear hB13 hb14 hI313 hIm hI13
    go_wp2_with fail
    refine (heldIntS_own w14 w4.heap.size _ m hIm14 (by omega)).mono ?_
    rintro e w' ⟨rfl, rfl⟩
    go_wp2
    go_ret
    exact ⟨rfl, hB14⟩
end Go.Proofs.Ytidjnhlioebchaa
