
/- What comes in as a line to a printer. -/
import Derived.Test.YtlkhpfknmdimbaaFh
namespace Go.Proofs.Ytlkhpfknmdimbaa
open Go.RowKit Go.ChangeShapes Go.WideShapes

section SXFo
variable {H : Type} {enc : TypeId × Value → H} {W : World} {base : Nat} {spare : Nat → Bool} {held : Bool}
theorem cellsS_of {w : World} {b off : Nat} {n : Nat} {base : Nat} {cs : List Value} {i : Nat} (h : w.cells? base ((⟨b, off, none⟩ : Addr).add i) n = some cs) : cs.length = n ∧ ∀ j, j < n → w.cell? ⟨b, off + i + j, none⟩ = cs[j]? := by
  obtain ⟨_, h1, h2⟩ := World.cells?_some h
  refine ⟨h1, fun j hj => ?_⟩
  have := h2 j hj
  rw [add_plain, add_plain] at this
  exact this
set_option maxRecDepth 100000 in
theorem open_sig_at {fuel b o : Nat} {cs : List Value} {x : DataW H × List MemPlace} (hc : cs.length = 2) (hcell : ∀ j, j < 2 → W.cell? ⟨b, o + j, none⟩ = cs[j]?)
    (h : DataW.trod enc Try.prog W base spare held fuel 65 cs = some x) : ∃ p, SigAt W b o p ∧ SigFits p := by
  obtain ⟨xs, n, _, _, _, hxl, hf⟩ := DataW.trod_struct Try.underlying65 h
  match xs, hxl, cs, hc with
  | [y0, y1], _, [v0, v1], _ =>
    have k2 : Try.prog.cellsOf 3 = 1 := by kernel_rfl
    have kb : Try.prog.cellsOf 4 = 1 := by kernel_rfl
    have g0 : DataW.trod enc Try.prog W base spare held n 3 (([v0, v1].drop 0).take (Try.prog.cellsOf 3)) = [y0, y1][0]? := hf 0 _ rfl
    have g1 : DataW.trod enc Try.prog W base spare held n 4 (([v0, v1].drop 1).take (Try.prog.cellsOf 4)) = [y0, y1][1]? := hf 1 _ rfl
    rw [k2] at g0
    rw [kb] at g1
    simp only [List.drop_zero, List.drop_succ_cons, List.take_succ_cons, List.take_zero, List.getElem?_cons_zero, List.getElem?_cons_succ] at g0 g1
    obtain ⟨p0, hp0, _, hw0⟩ := DataW.trod_int Try.underlying3 g0
    obtain ⟨p1, hp1, _⟩ := DataW.trod_bool Try.underlying4 g1
    simp at hp0 hp1
    subst hp0 hp1
    have c0 := hcell 0 (by omega)
    have c1 := hcell 1 (by omega)
    have b0 := bounds_i64 hw0
    refine ⟨⟨p0, p1⟩, ⟨by simpa using c0, by simpa using c1⟩, ?_⟩
    show -9223372036854775808 ≤ p0 ∧ p0 ≤ 9223372036854775807
    omega
set_option maxRecDepth 100000 in
theorem open_sigs {fuel : Nat} {a : Option Addr} {len cap : Nat} {x : DataW H × List MemPlace} (h : DataW.trod enc Try.prog W base spare held fuel 37 [.slice a len cap] = some x) :
    ∃ P, SigsAt W (.slice a len cap) P ∧ P.length = len ∧ SigsFit P := by
  have hC : Try.prog.cellsOf 65 = 2 := by kernel_rfl
  rcases Go.Deep.open_slice Try.underlying37 h with ⟨hcs, _⟩ | ⟨a', len', cap', m, n, D, Pl, hcs, hb, hl, hm, hmm, _, hi⟩
  · simp at hcs
    obtain ⟨rfl, rfl, rfl⟩ := hcs
    exact ⟨[], ⟨none, 0, rfl, Nat.le_refl _, by omega, .inl rfl⟩, rfl, fun z hz => absurd hz (by simp)⟩
  · simp at hcs
    obtain ⟨rfl, rfl, rfl⟩ := hcs
    have hlm : len ≤ m := by rw [hmm]; split <;> omega
    have hcm : cap ≤ 9223372036854775807 := by unfold maxLen at hm; exact hm
    rw [hC] at hi
    by_cases h0 : len = 0
    · subst h0
      exact ⟨[], ⟨some a', cap, rfl, by simp, hcm, .inl rfl⟩, rfl, fun z hz => absurd hz (by simp)⟩
    · obtain ⟨cs0, hc0, _⟩ := hi 0 (by omega)
      rw [Nat.zero_mul] at hc0
      have hsp : ∃ b off, a' = ⟨b, off, none⟩ := by
        obtain ⟨_, h1, h2⟩ := World.cells?_some hc0
        have h3 := h2 0 (by omega)
        obtain ⟨u, hu⟩ : ∃ u, cs0[0]? = some u := ⟨cs0[0]'(by omega), List.getElem?_eq_getElem (by omega)⟩
        rw [hu] at h3
        obtain ⟨b, off, spot⟩ := a'
        have hspot : spot = none := by simpa [Addr.add] using World.cell?_spot h3
        exact ⟨b, off, by rw [hspot]⟩
      obtain ⟨b, off, rfl⟩ := hsp
      have each : ∀ i, i < len → ∃ r, SigAt W b (off + i * 2) r ∧ SigFits r := by
        intro i hil
        obtain ⟨cs, hc, ht⟩ := hi i (by omega)
        obtain ⟨hc1, hc2⟩ := cellsS_of hc
        exact open_sig_at hc1 hc2 ht
      obtain ⟨R, hR⟩ := Go.Deep.choose_lt each
      have hlen : ((List.range len).map R).length = len := by simp
      refine ⟨(List.range len).map R, ⟨_, cap, by rw [hlen], by omega, hcm, .inr ⟨b, off, rfl, fun i hi => ?_⟩⟩, hlen, fun r hr => ?_⟩
      · have hi' : i < len := by omega
        have : ((List.range len).map R).getD i noS = R i := by simp [List.getD_eq_getElem?_getD, hi']
        rw [this]; exact (hR i hi').1
      · obtain ⟨i, hi, rfl⟩ := List.mem_map.1 hr
        exact (hR i (List.mem_range.1 hi)).2
set_option maxRecDepth 100000 in
theorem open_flow {fuel : Nat} {cs : Array Value} {x : DataW H × List MemPlace} (hc : cs.size = 13) (h : DataW.trod enc Try.prog W base spare held fuel 39 cs.toList = some x) :
    ∃ l s P, cs = flC l s ∧ SigsAt W s P ∧ SigsFit P := by
  obtain ⟨xs, n, _, _, _, hxl, hf⟩ := DataW.trod_struct Try.underlying39 h
  have hcl : cs.toList.length = 13 := by rw [Array.length_toList]; exact hc
  obtain ⟨C, hC⟩ : ∃ C, cs.toList = C := ⟨_, rfl⟩
  rw [hC] at hf hcl
  match xs, hxl, C, hcl with
  | [y0, y1, y2, y3, y4, y5, y6, y7, y8, y9, y10, y11, y12], _, [v0, v1, v2, v3, v4, v5, v6, v7, v8, v9, v10, v11, v12], _ =>
    have k2 : Try.prog.cellsOf 3 = 1 := by kernel_rfl
    have kb : Try.prog.cellsOf 4 = 1 := by kernel_rfl
    have ks : Try.prog.cellsOf 37 = 1 := by kernel_rfl
    have g0 : DataW.trod enc Try.prog W base spare held n 3 (([v0, v1, v2, v3, v4, v5, v6, v7, v8, v9, v10, v11, v12].drop 0).take (Try.prog.cellsOf 3)) = [y0, y1, y2, y3, y4, y5, y6, y7, y8, y9, y10, y11, y12][0]? := hf 0 _ rfl
    rw [k2] at g0
    have g1 : DataW.trod enc Try.prog W base spare held n 3 (([v0, v1, v2, v3, v4, v5, v6, v7, v8, v9, v10, v11, v12].drop 1).take (Try.prog.cellsOf 3)) = [y0, y1, y2, y3, y4, y5, y6, y7, y8, y9, y10, y11, y12][1]? := hf 1 _ rfl
    rw [k2] at g1
    have g2 : DataW.trod enc Try.prog W base spare held n 3 (([v0, v1, v2, v3, v4, v5, v6, v7, v8, v9, v10, v11, v12].drop 2).take (Try.prog.cellsOf 3)) = [y0, y1, y2, y3, y4, y5, y6, y7, y8, y9, y10, y11, y12][2]? := hf 2 _ rfl
    rw [k2] at g2
    have g3 : DataW.trod enc Try.prog W base spare held n 3 (([v0, v1, v2, v3, v4, v5, v6, v7, v8, v9, v10, v11, v12].drop 3).take (Try.prog.cellsOf 3)) = [y0, y1, y2, y3, y4, y5, y6, y7, y8, y9, y10, y11, y12][3]? := hf 3 _ rfl
    rw [k2] at g3
    have g4 : DataW.trod enc Try.prog W base spare held n 3 (([v0, v1, v2, v3, v4, v5, v6, v7, v8, v9, v10, v11, v12].drop 4).take (Try.prog.cellsOf 3)) = [y0, y1, y2, y3, y4, y5, y6, y7, y8, y9, y10, y11, y12][4]? := hf 4 _ rfl
    rw [k2] at g4
    have g5 : DataW.trod enc Try.prog W base spare held n 3 (([v0, v1, v2, v3, v4, v5, v6, v7, v8, v9, v10, v11, v12].drop 5).take (Try.prog.cellsOf 3)) = [y0, y1, y2, y3, y4, y5, y6, y7, y8, y9, y10, y11, y12][5]? := hf 5 _ rfl
    rw [k2] at g5
    have g6 : DataW.trod enc Try.prog W base spare held n 3 (([v0, v1, v2, v3, v4, v5, v6, v7, v8, v9, v10, v11, v12].drop 6).take (Try.prog.cellsOf 3)) = [y0, y1, y2, y3, y4, y5, y6, y7, y8, y9, y10, y11, y12][6]? := hf 6 _ rfl
    rw [k2] at g6
    have g7 : DataW.trod enc Try.prog W base spare held n 3 (([v0, v1, v2, v3, v4, v5, v6, v7, v8, v9, v10, v11, v12].drop 7).take (Try.prog.cellsOf 3)) = [y0, y1, y2, y3, y4, y5, y6, y7, y8, y9, y10, y11, y12][7]? := hf 7 _ rfl
    rw [k2] at g7
    have g8 : DataW.trod enc Try.prog W base spare held n 3 (([v0, v1, v2, v3, v4, v5, v6, v7, v8, v9, v10, v11, v12].drop 8).take (Try.prog.cellsOf 3)) = [y0, y1, y2, y3, y4, y5, y6, y7, y8, y9, y10, y11, y12][8]? := hf 8 _ rfl
    rw [k2] at g8
    have g9 : DataW.trod enc Try.prog W base spare held n 4 (([v0, v1, v2, v3, v4, v5, v6, v7, v8, v9, v10, v11, v12].drop 9).take (Try.prog.cellsOf 4)) = [y0, y1, y2, y3, y4, y5, y6, y7, y8, y9, y10, y11, y12][9]? := hf 9 _ rfl
    rw [kb] at g9
    have g10 : DataW.trod enc Try.prog W base spare held n 4 (([v0, v1, v2, v3, v4, v5, v6, v7, v8, v9, v10, v11, v12].drop 10).take (Try.prog.cellsOf 4)) = [y0, y1, y2, y3, y4, y5, y6, y7, y8, y9, y10, y11, y12][10]? := hf 10 _ rfl
    rw [kb] at g10
    have g11 : DataW.trod enc Try.prog W base spare held n 37 (([v0, v1, v2, v3, v4, v5, v6, v7, v8, v9, v10, v11, v12].drop 11).take (Try.prog.cellsOf 37)) = [y0, y1, y2, y3, y4, y5, y6, y7, y8, y9, y10, y11, y12][11]? := hf 11 _ rfl
    rw [ks] at g11
    have g12 : DataW.trod enc Try.prog W base spare held n 3 (([v0, v1, v2, v3, v4, v5, v6, v7, v8, v9, v10, v11, v12].drop 12).take (Try.prog.cellsOf 3)) = [y0, y1, y2, y3, y4, y5, y6, y7, y8, y9, y10, y11, y12][12]? := hf 12 _ rfl
    rw [k2] at g12
    simp only [List.drop_zero, List.drop_succ_cons, List.take_succ_cons, List.take_zero, List.getElem?_cons_zero, List.getElem?_cons_succ] at g0 g1 g2 g3 g4 g5 g6 g7 g8 g9 g10 g11 g12
    obtain ⟨p0, hp0, _, _⟩ := DataW.trod_int Try.underlying3 g0
    obtain ⟨p1, hp1, _, _⟩ := DataW.trod_int Try.underlying3 g1
    obtain ⟨p2, hp2, _, _⟩ := DataW.trod_int Try.underlying3 g2
    obtain ⟨p3, hp3, _, _⟩ := DataW.trod_int Try.underlying3 g3
    obtain ⟨p4, hp4, _, _⟩ := DataW.trod_int Try.underlying3 g4
    obtain ⟨p5, hp5, _, _⟩ := DataW.trod_int Try.underlying3 g5
    obtain ⟨p6, hp6, _, _⟩ := DataW.trod_int Try.underlying3 g6
    obtain ⟨p7, hp7, _, _⟩ := DataW.trod_int Try.underlying3 g7
    obtain ⟨p8, hp8, _, _⟩ := DataW.trod_int Try.underlying3 g8
    obtain ⟨p9, hp9, _⟩ := DataW.trod_bool Try.underlying4 g9
    obtain ⟨p10, hp10, _⟩ := DataW.trod_bool Try.underlying4 g10
    obtain ⟨p12, hp12, _, _⟩ := DataW.trod_int Try.underlying3 g12
    obtain ⟨a, len, cap, hs⟩ : ∃ a len cap, v11 = .slice a len cap := by
      rcases Go.Deep.open_slice Try.underlying37 g11 with ⟨hcs, _⟩ | ⟨a', len', cap', m, n', D, Pl, hcs, _⟩
      · simp at hcs; exact ⟨_, _, _, hcs⟩
      · simp at hcs; exact ⟨_, _, _, hcs⟩
    subst hs
    obtain ⟨P, hP, _, hF⟩ := open_sigs g11
    simp at hp0 hp1 hp2 hp3 hp4 hp5 hp6 hp7 hp8 hp9 hp10 hp12
    refine ⟨⟨p0, p1, p2, p3, p4, p5, p6, p7, p8, p9, p10, p12⟩, .slice a len cap, P, ?_, hP, hF⟩
    apply Array.ext'
    rw [hC]
    simp only [flC]
    simp [hp0, hp1, hp2, hp3, hp4, hp5, hp6, hp7, hp8, hp9, hp10, hp12]
end SXFo
end Go.Proofs.Ytlkhpfknmdimbaa
