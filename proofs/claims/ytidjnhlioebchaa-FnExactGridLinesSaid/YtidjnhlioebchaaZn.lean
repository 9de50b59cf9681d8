
/- GridLines of the program. -/
import Derived.Test.YtidjnhlioebchaaZm
import Derived.Test.YtidjnhlioebchaaCj
namespace Go.Proofs.Ytidjnhlioebchaa
open Go.RowKit

/-- a grid whose entries lie at addresses -/
def GridP (w : World) (v : Value) (G : List (List (List Int))) : Prop :=
  ∃ a n cp, v = .slice a n cp ∧ G.length = n ∧ n ≤ cp ∧ cp ≤ 9223372036854775807 ∧ (n = 0 ∨ ∃ g off, a = some ⟨g, off, none⟩ ∧ ∀ i, i < n → ∃ a2 n2 c2, w.cell? ⟨g, off + i, none⟩ = some (.slice a2 n2 c2) ∧ RowP w (.slice a2 n2 c2) (G.getD i []))
theorem GridP.below {w w' : World} {v : Value} {G : List (List (List Int))} (h : GridP w v G) (hb : Below w.heap.size w w') : GridP w' v G := by
  obtain ⟨a, n, cp, h1, h2, h3, h4, h5⟩ := h
  refine ⟨a, n, cp, h1, h2, h3, h4, h5.imp id ?_⟩
  rintro ⟨g, off, h6, h7⟩
  refine ⟨g, off, h6, fun i hi => ?_⟩
  obtain ⟨a2, n2, c2, h8, h9⟩ := h7 i hi
  exact ⟨a2, n2, c2, (hb.cell (World.block_lt_of_cell? w _ h8)).trans h8, h9.below hb⟩
theorem RowP.at {w : World} {v : Value} {L : List (List Int)} (h : RowP w v L) : ListsAt w v L := by
  obtain ⟨a, n, cp, rfl, rfl, h3, h4, h5⟩ := h
  refine ⟨a, cp, rfl, h3, h4, ?_⟩
  rcases h5 with h5 | ⟨g, off, h6, h7⟩
  · exact .inl (List.length_eq_zero_iff.1 h5)
  · refine .inr ⟨g, off, h6, fun i hi => ?_⟩
    obtain ⟨g2, off2, n2, c2, h8, h9, _⟩ := h7 i hi
    exact ⟨_, h8, h9⟩
theorem GridP.at {w : World} {v : Value} {G : List (List (List Int))} (h : GridP w v G) : GridAt w v G := by
  obtain ⟨a, n, cp, rfl, rfl, h3, h4, h5⟩ := h
  refine ⟨a, cp, rfl, h3, h4, ?_⟩
  rcases h5 with h5 | ⟨g, off, h6, h7⟩
  · exact .inl (List.length_eq_zero_iff.1 h5)
  · refine .inr ⟨g, off, h6, fun i hi => ?_⟩
    obtain ⟨a2, n2, c2, h8, h9⟩ := h7 i hi
    exact ⟨_, h8, h9.at⟩
theorem wd_ge {G : List (List (List Int))} {k : Nat} : ∀ {j i : Nat}, i < j → ((G.getD i []).getD k []).length ≤ wd G j k := by
  intro j
  induction j with
  | zero => intro i h; omega
  | succ j ih =>
    intro i h
    show _ ≤ max (wd G j k) ((G.getD j []).getD k []).length
    by_cases e : i = j
    · subst e; omega
    · have := ih (i := i) (by omega)
      omega
theorem widths_get {G : List (List (List Int))} {k : Nat} (h : k < (G.getD 0 []).length) : (widths G).getD k 0 = (wd G G.length k : Int) := by
  obtain ⟨m, hm⟩ : ∃ m, (G.getD 0 []).length = m := ⟨_, rfl⟩
  unfold widths
  rw [hm] at h ⊢
  simp [List.getD_eq_getElem?_getD, h]
theorem grid_fit {G : List (List (List Int))} (hok : GridOk G) {i : Nat} (hi : i < G.length) : FitTo (G.getD i []) (widths G) (G.getD 0 []).length := fun k hk => by
  have h12 := wd_le (G := G) (k := k) (fun j hj => by
    have := hok.2.2.2.2 j hj
    exact ⟨by omega, this.2⟩) G.length (Nat.le_refl _)
  have hge := wd_ge (G := G) (k := k) hi
  rw [widths_get hk]
  omega
def lineG (G : List (List (List Int))) (i : Nat) : List Int := lineTo (G.getD i []) (widths G) (G.getD 0 []).length
def linesG (G : List (List (List Int))) (k : Nat) : List (List Int) := (List.range k).map (lineG G)
theorem linesG_succ (G : List (List (List Int))) (k : Nat) : linesG G (k + 1) = linesG G k ++ [lineG G k] := by simp [linesG, List.range_succ]
theorem linesG_len (G : List (List (List Int))) (k : Nat) : (linesG G k).length = k := by simp [linesG]
def GlIs (G : List (List (List Int))) (R : List (List Int)) : Prop := (GridOk G ∧ R = linesG G G.length) ∨ (¬ GridOk G ∧ R = [])
def GlOut (R : List (List Int)) (w : World) (e : Ending) (w' : World) : Prop := ∃ a n c, e = .returned (.slice a n c) ∧ OwnLs w' w.heap.size 0 (.slice a n c) R ∧ Below w.heap.size w w'
theorem glIs_ex (G : List (List (List Int))) : ∃ R, GlIs G R := by
  by_cases h : GridOk G
  · exact ⟨_, .inl ⟨h, rfl⟩⟩
  · exact ⟨_, .inr ⟨h, rfl⟩⟩
theorem OwnLs.lowZ {w : World} {B B' : Nat} {v : Value} {L : List (List Int)} (h : OwnLs w B 0 v L) (hB : B' ≤ B) : OwnLs w B' 0 v L := by
  obtain ⟨_, us, ⟨h0, h1⟩, h2, h3⟩ := h
  refine ⟨Nat.zero_le _, us, ⟨h0, ?_⟩, h2, h3⟩
  rcases h1 with ⟨hv, hn⟩ | ⟨g, cap, cur, hv, hb, rest⟩
  · exact .inl ⟨hv, hn⟩
  · exact .inr ⟨g, cap, cur, hv, Nat.le_trans hB hb, rest⟩
set_option maxHeartbeats 2000000 in
theorem i_GridLines_z (w : World) (v : Value) (G : List (List (List Int))) (R : List (List Int)) (hx : GridP w v G) (hz : Hid (GlIs G R)) :
    Calls Try.prog 22 #[v] w fun e w' => GlOut R w e w' := by
  have HX := keptZ hx
  obtain ⟨a, n, cp, rfl, hn, x1, x2, x3⟩ := hx
  have HN := Lib.hid hn
  have HX3 := keptZ x3
  clear hn x3
  go_enter Try.func22, Try.ntmps22
  go_wp2_with fail
  refine (i_ValidGrid_z w _ G HX.out.at).mono ?_
  rintro e w' ⟨b, rfl, rfl, hb⟩
  cases b with
  | false =>
    have HZ : Hid (R = []) := by
      rcases hz.out with ⟨h, _⟩ | ⟨_, h⟩
      · exact absurd (hb.2 h) (by simp)
      · exact h
    clear hb
    go_wp2
    go_ret
    exact ⟨_, _, _, rfl, by rw [HZ.out]; exact OwnLs.nil _ _ _ (Nat.zero_le _), Below.refl _ _⟩
  | true =>
    have HG : Hid (GridOk G) := keptZ (hb.1 rfl)
    have HZ : Hid (R = linesG G G.length) := by
      rcases hz.out with ⟨_, h⟩ | ⟨h, _⟩
      · exact h
      · exact absurd HG.out h
    have HW : Hid (WidIs G (widths G)) := .inl ⟨HG.out, rfl⟩
    have hn8 : n ≤ 8 := by have := HG.out.2.1; have := HN.out; omega
    obtain ⟨m, hm⟩ : ∃ m, (G.getD 0 []).length = m := ⟨_, rfl⟩
    have hm5 : m ≤ 5 := by have := HG.out.2.2.2.1; omega
    have HM := Lib.hid hm
    have HWL : Hid ((widths G).length = m) := by show _ = _; simp only [widths, List.length_map, List.length_range]; exact hm
    clear hb hm
    go_wp2_with fail
    refine (i_ColumnWidths_z w _ G (widths G) HX.out.at HW).mono ?_
    rintro e w1 ⟨a1, n1, c1, rfl, hO1, hb1⟩
    have HO1 := keptZ hO1.at
    have HB1 := keptZ hb1
    have hsz1 := hb1.size
    clear hO1 hb1
    go_wp2
    go_loopw [4, 14] (fun x i wr => ∃ k : Nat, k ≤ n ∧ i = .int .i64 k ∧ Hid (OwnLs wr w1.heap.size 0 x (linesG G k)) ∧ Hid (Below w1.heap.size w1 wr)) (fun _ i _ => n - (intOf i).toNat)
    case atStart => exact ⟨0, Nat.zero_le _, rfl, OwnLs.nil _ _ _ (Nat.zero_le _), Below.refl _ _⟩
    case round =>
      obtain ⟨k, hk, rfl, HO, HB⟩ := hrel
      obtain ⟨ao, no, co, hs'⟩ := HO.out.isSlice
      subst hs'
      have HBw := keptZ (HB1.out.trans (HB.out.mono hsz1))
      have hsz := HBw.out.size
      by_cases hlt : k < n
      · rcases HX3.out with rfl | ⟨g, off, rfl, x3⟩
        · omega
        obtain ⟨a2, n2, c2, q0, hR⟩ := x3 k hlt
        have HRP := keptZ (hR.below HBw.out)
        have q0 := (HBw.out.cell (World.block_lt_of_cell? w _ q0)).trans q0
        have HL : Hid ((G.getD k []).length = m) := by show _ = _; rw [← HM.out]; exact (HG.out.2.2.2.2 k (by rw [HN.out]; exact hlt)).1
        have HF : Hid (FitTo (G.getD k []) (widths G) m) := by have := grid_fit HG.out (i := k) (by rw [HN.out]; exact hlt); rw [HM.out] at this; exact this
        have HLG : Hid (lineG G k = lineTo (G.getD k []) (widths G) m) := by show _ = _; rw [lineG, HM.out]
        have hln := linesG_len G k
        clear hR x3
        go_wp2_with fail
        refine (i_rowLine_z wr _ _ (G.getD k []) (widths G) m HRP.out (HO1.out.below HB.out) HL HWL hm5 HF).mono ?_
        rintro e w3 ⟨a3, n3, c3, rfl, hO3, hb3⟩
        have HO3 := keptZ hO3
        have HLS := keptZ (HO.out.below hb3)
        have HB3 := keptZ (below_next HB.out hb3)
        have HB3w := keptZ (HBw.out.trans (hb3.mono hsz))
        have hsz3 := HB3w.out.size
        have hsz31 := HB3.out.size
        clear hO3 hb3 HO HB q0
        have hal : Below w3.heap.size w3 (w3.alloc (.cells #[.slice a3 n3 c3] 27)) := (Below.refl _ _).alloc (Nat.le_refl _) _
        have HO8 := keptZ (HLS.out.below hal)
        have HE8 := keptZ (ElOk.of_own (base := 0) (HO3.out.below hal))
        have HC8 : Hid ((w3.alloc (.cells #[.slice a3 n3 c3] 27)).cell? ⟨w3.heap.size, 0, none⟩ = some (.slice a3 n3 c3)) := by
          show _ = _
          rw [cell_of_row _ w3.heap.size 0 _ _ _ (heap_alloc_new w3 _)]; rfl
        clear hal
        go_wp2_with (at_builtin; refine wpList_append_ls rfl _ _ rfl w1.heap.size 0 w3.heap.size (lineTo (G.getD k []) (widths G) m) rfl rfl HO8.out HC8.out HE8.out rfl (by rw [hln]; omega) (by simp; omega) ?_)
        intro v9 w9 hown9 hgrow9
        have HO9 : Hid (OwnLs w9 w1.heap.size 0 v9 (linesG G (k + 1))) := by show OwnLs _ _ _ _ _; rw [linesG_succ, HLG.out]; exact hown9
        have HB9 := keptZ (grown_ls HB3.out hsz31 HLS.out hgrow9)
        clear hown9 hgrow9
        go_wp2
        go_roundw
        case rel => exact ⟨k + 1, by omega, by go_num, HO9, HB9⟩
        case measure => simp [intOf]; omega
      · obtain rfl : k = n := by omega
        go_wp2
        go_ret
        exact ⟨_, _, _, rfl, by rw [HZ.out, HN.out]; exact HO.out.lowZ hsz1, HBw.out⟩
set_option maxHeartbeats 2000000 in
theorem s_GridLines_z (w : World) (v : Value) (G : List (List (List Int))) (R : List (List Int)) (hx : GridP w v G) (hz : Hid (GlIs G R)) :
    Calls Try.prog 24 #[v] w fun e w' => GlOut R w e w' := by
  have HX := keptZ hx
  obtain ⟨a, n, cp, rfl, hn, x1, x2, x3⟩ := hx
  have HN := Lib.hid hn
  have HX3 := keptZ x3
  clear hn x3
  go_enter Try.func24, Try.ntmps24
  go_wp2_with fail
  refine (s_validGrid_z w _ G HX.out.at).mono ?_
  rintro e w0 ⟨b, rfl, hb0, hb⟩
  have HX0 := keptZ (HX.out.below hb0)
  have hsz0 := hb0.size
  cases b with
  | false =>
    have HZ : Hid (R = []) := by
      rcases hz.out with ⟨h, _⟩ | ⟨_, h⟩
      · exact absurd (hb.2 h) (by simp)
      · exact h
    clear hb
    go_wp2
    go_ret
    exact ⟨_, _, _, rfl, by rw [HZ.out]; exact OwnLs.nil _ _ _ (Nat.zero_le _), hb0⟩
  | true =>
    have HG : Hid (GridOk G) := keptZ (hb.1 rfl)
    have HZ : Hid (R = linesG G G.length) := by
      rcases hz.out with ⟨_, h⟩ | ⟨h, _⟩
      · exact h
      · exact absurd HG.out h
    have HW : Hid (WidIs G (widths G)) := .inl ⟨HG.out, rfl⟩
    have hn8 : n ≤ 8 := by have := HG.out.2.1; have := HN.out; omega
    obtain ⟨m, hm⟩ : ∃ m, (G.getD 0 []).length = m := ⟨_, rfl⟩
    have hm5 : m ≤ 5 := by have := HG.out.2.2.2.1; omega
    have HM := Lib.hid hm
    have HWL : Hid ((widths G).length = m) := by show _ = _; simp only [widths, List.length_map, List.length_range]; exact hm
    clear hb hm
    go_wp2_with fail
    refine (s_columnWidths_z w0 _ G HX0.out.at HG).mono ?_
    rintro e w1 ⟨a1, n1, c1, rfl, hO1, hb1⟩
    have HO1 := keptZ hO1.at
    have HB1 := keptZ (below_next hb0 hb1)
    have hsz1 := HB1.out.size
    have HOm : Hid (OwnLs (w1.alloc (.cells #[] 27)) w1.heap.size 0 (.slice (some ⟨w1.heap.size, 0, none⟩) 0 0) (linesG G 0)) := OwnLs.made w1 w1.heap.size 0 (Nat.zero_le _) (Nat.le_refl _)
    have HBm : Hid (Below w1.heap.size w1 (w1.alloc (.cells #[] 27))) := (Below.refl _ _).alloc (Nat.le_refl _) _
    clear hO1 hb1 hb0
    go_wp2
    go_loopw [4, 5] (fun x i wr => ∃ k : Nat, k ≤ n ∧ i = .int .i64 k ∧ Hid (OwnLs wr w1.heap.size 0 x (linesG G k)) ∧ Hid (Below w1.heap.size w1 wr)) (fun _ i _ => n - (intOf i).toNat)
    case atStart => exact ⟨0, Nat.zero_le _, rfl, HOm, HBm⟩
    case round =>
      obtain ⟨k, hk, rfl, HO, HB⟩ := hrel
      obtain ⟨ao, no, co, hs'⟩ := HO.out.isSlice
      subst hs'
      have HBw := keptZ (HB1.out.trans (HB.out.mono hsz1))
      have hsz := HBw.out.size
      by_cases hlt : k < n
      · rcases HX3.out with rfl | ⟨g, off, rfl, x3⟩
        · omega
        obtain ⟨a2, n2, c2, q0, hR⟩ := x3 k hlt
        have HRP := keptZ (hR.below HBw.out)
        have q0 := (HBw.out.cell (World.block_lt_of_cell? w _ q0)).trans q0
        have HL : Hid ((G.getD k []).length = m) := by show _ = _; rw [← HM.out]; exact (HG.out.2.2.2.2 k (by rw [HN.out]; exact hlt)).1
        have HF : Hid (FitTo (G.getD k []) (widths G) m) := by have := grid_fit HG.out (i := k) (by rw [HN.out]; exact hlt); rw [HM.out] at this; exact this
        have HLG : Hid (lineG G k = lineTo (G.getD k []) (widths G) m) := by show _ = _; rw [lineG, HM.out]
        have hln := linesG_len G k
        clear hR x3
        go_wp2_with fail
        refine (s_gridLine_z wr _ _ (G.getD k []) (widths G) m HRP.out (HO1.out.below HB.out) HL HWL hm5 HF).mono ?_
        rintro e w3 ⟨a3, n3, c3, rfl, hO3, hb3⟩
        have HO3 := keptZ hO3
        have HLS := keptZ (HO.out.below hb3)
        have HB3 := keptZ (below_next HB.out hb3)
        have HB3w := keptZ (HBw.out.trans (hb3.mono hsz))
        have hsz3 := HB3w.out.size
        have hsz31 := HB3.out.size
        clear hO3 hb3 HO HB q0
        have hal : Below w3.heap.size w3 (w3.alloc (.cells #[.slice a3 n3 c3] 27)) := (Below.refl _ _).alloc (Nat.le_refl _) _
        have HO8 := keptZ (HLS.out.below hal)
        have HE8 := keptZ (ElOk.of_own (base := 0) (HO3.out.below hal))
        have HC8 : Hid ((w3.alloc (.cells #[.slice a3 n3 c3] 27)).cell? ⟨w3.heap.size, 0, none⟩ = some (.slice a3 n3 c3)) := by
          show _ = _
          rw [cell_of_row _ w3.heap.size 0 _ _ _ (heap_alloc_new w3 _)]; rfl
        clear hal
        go_wp2_with (at_builtin; refine wpList_append_ls rfl _ _ rfl w1.heap.size 0 w3.heap.size (lineTo (G.getD k []) (widths G) m) rfl rfl HO8.out HC8.out HE8.out rfl (by rw [hln]; omega) (by simp; omega) ?_)
        intro v9 w9 hown9 hgrow9
        have HO9 : Hid (OwnLs w9 w1.heap.size 0 v9 (linesG G (k + 1))) := by show OwnLs _ _ _ _ _; rw [linesG_succ, HLG.out]; exact hown9
        have HB9 := keptZ (grown_ls HB3.out hsz31 HLS.out hgrow9)
        clear hown9 hgrow9
        go_wp2
        go_roundw
        case rel => exact ⟨k + 1, by omega, by go_num, HO9, HB9⟩
        case measure => simp [intOf]; omega
      · obtain rfl : k = n := by omega
        go_wp2
        go_ret
        exact ⟨_, _, _, rfl, by rw [HZ.out, HN.out]; exact HO.out.lowZ hsz1, HBw.out⟩
end Go.Proofs.Ytidjnhlioebchaa
