
/- What the exact law of GridLines asks of its lines. -/
import Derived.Test.YtidjnhlioebchaaZn
import Derived.Test.YtidjnhlioebchaaMf
namespace Go.Proofs.Ytidjnhlioebchaa
open Go.RowKit

theorem OwnLL.lowL {w : World} {B B' top : Nat} {v : Value} {L : List (List Int)} (h : OwnLL w B top v L) (hB : B' ≤ B) : OwnLL w B' top v L := by
  obtain ⟨k0, kv, us, bb, cc, ⟨h0, h1⟩, k2, k3⟩ := h
  refine ⟨k0, kv, us, bb, cc, ⟨h0, ?_⟩, fun i hi => ⟨(k2 i hi).1, (k2 i hi).2.1.lowerM hB, (k2 i hi).2.2⟩, k3⟩
  rcases h1 with ⟨hv, hn⟩ | ⟨g, cap, cur, hv, hb, rest⟩
  · exact .inl ⟨hv, hn⟩
  · exact .inr ⟨g, cap, cur, hv, Nat.le_trans hB hb, rest⟩
/-- lists without numbers -/
def Emp (w : World) (base top : Nat) (v : Value) (R : List (List Int)) : Prop :=
  (∀ i, i < R.length → R.getD i [] = []) ∧ top ≤ w.heap.size ∧ ∃ a n c, v = .slice a n c ∧ R.length = n ∧ n ≤ c ∧ c ≤ 9223372036854775807 ∧ (n = 0 ∨ ∃ g, a = some ⟨g, 0, none⟩ ∧ base ≤ g ∧ g < top ∧ ∀ i, i < n → ∃ a' c', w.cell? ⟨g, i, none⟩ = some (.slice a' 0 c') ∧ c' ≤ 9223372036854775807)
theorem cell_block {w w' : World} {g i : Nat} (h : w'.heap[g]? = w.heap[g]?) : w'.cell? ⟨g, i, none⟩ = w.cell? ⟨g, i, none⟩ := by
  unfold World.cell?
  simp only [h]
theorem Emp.blocks {w w' : World} {base top : Nat} {v : Value} {R : List (List Int)} (h : Emp w base top v R) (hs : w.heap.size ≤ w'.heap.size) (hk : ∀ k, base ≤ k → k < top → w'.heap[k]? = w.heap[k]?) : Emp w' base top v R := by
  obtain ⟨h0, h1, a, n, c, h2, h3, h4, h5, h6⟩ := h
  refine ⟨h0, Nat.le_trans h1 hs, a, n, c, h2, h3, h4, h5, h6.imp id ?_⟩
  rintro ⟨g, e, hg0, hg1, hc⟩
  refine ⟨g, e, hg0, hg1, fun i hi => ?_⟩
  obtain ⟨a', c', h7, h8⟩ := hc i hi
  exact ⟨a', c', (cell_block (hk g hg0 hg1)).trans h7, h8⟩
theorem Emp.at {w : World} {base top : Nat} {v : Value} {R : List (List Int)} (h : Emp w base top v R) : ListsAt w v R := by
  obtain ⟨h0, h1, a, n, c, rfl, rfl, h4, h5, h6⟩ := h
  refine ⟨a, c, rfl, h4, h5, ?_⟩
  rcases h6 with h6 | ⟨g, e, _, _, hc⟩
  · exact .inl (List.length_eq_zero_iff.1 h6)
  · refine .inr ⟨g, 0, e, fun i hi => ?_⟩
    obtain ⟨a', c', h7, h8⟩ := hc i hi
    rw [Nat.zero_add, h0 i hi]
    exact ⟨_, h7, a', c', rfl, Nat.zero_le _, h8, .inl rfl⟩
theorem Emp.of_ls {w : World} {base : Nat} {v : Value} {R : List (List Int)} (h : OwnLs w base 0 v R) (hE : ∀ i, i < R.length → R.getD i [] = []) : Emp w base w.heap.size v R := by
  obtain ⟨a, n, c, rfl⟩ := h.isSlice
  have hA := h.at
  obtain ⟨a', c', e, h1, h2, _⟩ := hA
  injection e with e1 e2 e3
  subst e1 e3
  refine ⟨hE, Nat.le_refl _, a, n, c, rfl, e2.symm, by omega, h2, ?_⟩
  by_cases h0 : n = 0
  · exact .inl h0
  · obtain ⟨g, u0, ea, _⟩ := h.nth (i := 0) (by omega)
    subst ea
    refine .inr ⟨g, rfl, (h.row g rfl).1, ?_, fun i hi => ?_⟩
    · obtain ⟨cur, hc⟩ := (h.row g rfl).2
      exact (Array.getElem?_eq_some_iff.1 hc).1
    · obtain ⟨g', u, ea, hc, hel, _⟩ := h.nth (i := i) hi
      injection ea with ea
      injection ea with ea _ _
      subst ea
      obtain ⟨a2, c2, eu, k1, k2, _⟩ := hel.1
      rw [hE i (by omega)] at eu
      exact ⟨a2, c2, by rw [hc, eu]; rfl, k2⟩
theorem sumM_emp {R : List (List Int)} (hE : ∀ i, i < R.length → R.getD i [] = []) : ∀ k, k ≤ R.length → sumM R k = 0 := by
  intro k
  induction k with
  | zero => intro _; simp [sumM]
  | succ k ih =>
    intro hk
    rw [sumM_succ (by omega), ih (by omega), hE k (by omega)]
    rfl
theorem marked_emp {R : List (List Int)} (hE : ∀ i, i < R.length → R.getD i [] = []) : MarkedL R R R.length :=
  ⟨rfl, fun i hi => by rw [hE i hi]; rfl, fun _ _ => rfl⟩
set_option maxHeartbeats 1000000 in
theorem markIntSS_emp (w : World) (base top : Nat) (v : Value) (R : List (List Int)) (hx : Emp w base top v R) :
    Calls Try.prog 38 #[v, .int .i64 1] w fun e w' => e = .returned (.int .i64 1) ∧ NumStep 0 0 w w' := by
  obtain ⟨_, _, a, n, cp, rfl, _, x1, x2, x3⟩ := hx
  go_enter Try.func38, Try.ntmps38
  go_wp2
  go_loopw [1, 5] (fun m i wr => ∃ k : Nat, k ≤ n ∧ i = .int .i64 k ∧ m = .int .i64 1 ∧ Hid (NumStep 0 0 w wr)) (fun _ i _ => n - (intOf i).toNat)
  case atStart => exact ⟨0, Nat.zero_le _, rfl, rfl, NumStep.refl _ _ _⟩
  case round =>
    obtain ⟨k, hk, rfl, rfl, HB⟩ := hrel
    by_cases hlt : k < n
    · rcases x3 with rfl | ⟨g, rfl, _, _, x3⟩
      · omega
      obtain ⟨a', c', c0, _⟩ := x3 k hlt
      have c1 := HB.out.keep _ _ c0 (fun z e => by simp at e)
      clear x3 c0
      go_wp2_with fail
      refine (markIntS_f _ 0 0 (.slice a' 0 c') 0 1 ⟨a', c', rfl, by omega, .inl rfl⟩ (by omega) (by omega)).mono ?_
      rintro e w2 ⟨rfl, hs2⟩
      have HB2 := keptZ (HB.out.trans hs2)
      clear hs2 c1
      go_wp2
      go_roundw
      case rel => exact ⟨k + 1, by omega, by go_num, by go_num, HB2⟩
      case measure => simp [intOf]; omega
    · obtain rfl : k = n := by omega
      go_wp2
      go_ret
      exact ⟨rfl, HB.out⟩
set_option maxHeartbeats 2000000 in
theorem i_GridLines_n (w : World) (v : Value) (G : List (List (List Int))) (hx : GridP w v G) (hz : Hid (GridOk G)) (hne : Hid (∀ i, i < G.length → lineG G i ≠ [])) :
    Calls Try.prog 22 #[v] w fun e w' => ∃ a n c, e = .returned (.slice a n c) ∧ OwnLL w' w.heap.size w'.heap.size (.slice a n c) (linesG G G.length) ∧ Below w.heap.size w w' := by
  have HX := keptZ hx
  obtain ⟨a, n, cp, rfl, hn, x1, x2, x3⟩ := hx
  have HN := Lib.hid hn
  have HX3 := keptZ x3
  clear hn x3
  go_enter Try.func22, Try.ntmps22
  go_wp2_with fail
  refine (i_ValidGrid_z w _ G HX.out.at).mono ?_
  rintro e w' ⟨b, rfl, rfl, hb⟩
  cases b with
  | false =>
    exact absurd (hb.2 hz.out) (by simp)
  | true =>
    have HG : Hid (GridOk G) := keptZ (hb.1 rfl)
    have HW : Hid (WidIs G (widths G)) := .inl ⟨HG.out, rfl⟩
    have hn8 : n ≤ 8 := by have := HG.out.2.1; have := HN.out; omega
    obtain ⟨m, hm⟩ : ∃ m, (G.getD 0 []).length = m := ⟨_, rfl⟩
    have hm5 : m ≤ 5 := by have := HG.out.2.2.2.1; omega
    have HM := Lib.hid hm
    have HWL : Hid ((widths G).length = m) := by show _ = _; simp only [widths, List.length_map, List.length_range]; exact hm
    clear hb hm
    go_wp2_with fail
    refine (i_ColumnWidths_z w _ G (widths G) HX.out.at HW).mono ?_
    rintro e w1 ⟨a1, n1, c1, rfl, hO1, hb1⟩
    have HO1 := keptZ hO1.at
    have HB1 := keptZ hb1
    have hsz1 := hb1.size
    clear hO1 hb1
    go_wp2
    go_loopw [4, 14] (fun x i wr => ∃ k : Nat, k ≤ n ∧ i = .int .i64 k ∧ Hid (OwnLL wr w1.heap.size wr.heap.size x (linesG G k)) ∧ Hid (Below w1.heap.size w1 wr)) (fun _ i _ => n - (intOf i).toNat)
    case atStart => exact ⟨0, Nat.zero_le _, rfl, OwnLL.nil _ _, Below.refl _ _⟩
    case round =>
      obtain ⟨k, hk, rfl, HO, HB⟩ := hrel
      obtain ⟨ao, no, co, hs'⟩ := HO.out.ls.isSlice
      subst hs'
      have HBw := keptZ (HB1.out.trans (HB.out.mono hsz1))
      have hsz := HBw.out.size
      by_cases hlt : k < n
      · rcases HX3.out with rfl | ⟨g, off, rfl, x3⟩
        · omega
        obtain ⟨a2, n2, c2, q0, hR⟩ := x3 k hlt
        have HRP := keptZ (hR.below HBw.out)
        have q0 := (HBw.out.cell (World.block_lt_of_cell? w _ q0)).trans q0
        have HL : Hid ((G.getD k []).length = m) := by show _ = _; rw [← HM.out]; exact (HG.out.2.2.2.2 k (by rw [HN.out]; exact hlt)).1
        have HF : Hid (FitTo (G.getD k []) (widths G) m) := by have := grid_fit HG.out (i := k) (by rw [HN.out]; exact hlt); rw [HM.out] at this; exact this
        have HLG : Hid (lineG G k = lineTo (G.getD k []) (widths G) m) := by show _ = _; rw [lineG, HM.out]
        have hln := linesG_len G k
        clear hR x3
        go_wp2_with fail
        refine (i_rowLine_z wr _ _ (G.getD k []) (widths G) m HRP.out (HO1.out.below HB.out) HL HWL hm5 HF).mono ?_
        rintro e w3 ⟨a3, n3, c3, rfl, hO3, hb3⟩
        have HO3 := keptZ hO3
        have HLS := keptZ (HO.out.below hb3 (Nat.le_refl _))
        have hwr3 := hb3.size
        have hs1r := HB.out.size
        obtain ⟨b3, hv3, hln3⟩ : ∃ b3, a3 = some ⟨b3, 0, none⟩ ∧ (lineTo (G.getD k []) (widths G) m).length = n3 := by
          rcases HO3.out.2 with ⟨e, h0⟩ | ⟨g', cap, cur, e, _⟩
          · exact absurd (List.length_eq_zero_iff.1 h0) (by rw [← HLG.out]; exact hne.out k (by rw [HN.out]; exact hlt))
          · injection e with e1 e2 _
            exact ⟨g', e1, e2.symm⟩
        subst hv3
        have HL3 := Lib.hid hln3
        have HB3 := keptZ (below_next HB.out hb3)
        have HB3w := keptZ (HBw.out.trans (hb3.mono hsz))
        have hsz3 := HB3w.out.size
        have hsz31 := HB3.out.size
        clear hO3 hb3 HO HB q0 hln3
        have hal : Below w3.heap.size w3 (w3.alloc (.cells #[.slice (some ⟨b3, 0, none⟩) n3 c3] 27)) := (Below.refl _ _).alloc (Nat.le_refl _) _
        have HO8 := keptZ (HLS.out.below hal hwr3)
        have HE8 := keptZ (HO3.out.below hal)
        have HC8 : Hid ((w3.alloc (.cells #[.slice (some ⟨b3, 0, none⟩) n3 c3] 27)).cell? ⟨w3.heap.size, 0, none⟩ = some (.slice (some ⟨b3, 0, none⟩) n3 c3)) := by
          show _ = _
          rw [cell_of_row _ w3.heap.size 0 _ _ _ (heap_alloc_new w3 _)]; rfl
        clear hal
        go_wp2_with (at_builtin; refine wpList_append_ll rfl _ _ rfl w1.heap.size wr.heap.size w3.heap.size b3 n3 c3 (lineTo (G.getD k []) (widths G) m) rfl rfl HO8.out HC8.out HE8.out HL3.out (by rw [hln]; omega) hs1r ?_)
        intro v9 w9 hown9 hgrow9
        have HO9 : Hid (OwnLL w9 w1.heap.size w9.heap.size v9 (linesG G (k + 1))) := by show OwnLL _ _ _ _ _; rw [linesG_succ, HLG.out]; exact hown9
        have HB9 := keptZ (grown_ls HB3.out hsz31 HLS.out.ls hgrow9)
        clear hown9 hgrow9
        go_wp2
        go_roundw
        case rel => exact ⟨k + 1, by omega, by go_num, HO9, HB9⟩
        case measure => simp [intOf]; omega
      · obtain rfl : k = n := by omega
        go_wp2
        go_ret
        exact ⟨_, _, _, rfl, by rw [HN.out]; exact HO.out.lowL hsz1, HBw.out⟩
end Go.Proofs.Ytidjnhlioebchaa
