
/- What comes in as an edit. -/
import Derived.Test.YthlamidlcbnchaaEde
import Derived.WideShapes
namespace Go.Proofs.Ythlamidlcbnchaa
open Go.RowKit Go.ChangeShapes Go.WideShapes

section SXEdo
variable {H : Type} {enc : TypeId × Value → H} {W : World} {base : Nat} {spare : Nat → Bool} {held : Bool}
set_option maxRecDepth 100000 in
theorem open_edit {fuel : Nat} {cs : Array Value} {x : DataW H × List MemPlace} (hc : cs.size = 3) (h : DataW.trod enc Try.prog W base spare held fuel 40 cs.toList = some x) :
    ∃ p c t, cs = #[.int .i64 p, .int .i64 c, .string t] ∧ t.size ≤ maxLen := by
  obtain ⟨xs, n, _, _, _, hxl, hf⟩ := DataW.trod_struct Try.underlying40 h
  have hcl : cs.toList.length = 3 := by rw [Array.length_toList]; exact hc
  obtain ⟨C, hC⟩ : ∃ C, cs.toList = C := ⟨_, rfl⟩
  rw [hC] at hf hcl
  match xs, hxl, C, hcl with
  | [y0, y1, y2], _, [v0, v1, v2], _ =>
    have k2 : Try.prog.cellsOf 3 = 1 := by kernel_rfl
    have ks : Try.prog.cellsOf 9 = 1 := by kernel_rfl
    have g0 : DataW.trod enc Try.prog W base spare held n 3 (([v0, v1, v2].drop 0).take (Try.prog.cellsOf 3)) = [y0, y1, y2][0]? := hf 0 _ rfl
    have g1 : DataW.trod enc Try.prog W base spare held n 3 (([v0, v1, v2].drop 1).take (Try.prog.cellsOf 3)) = [y0, y1, y2][1]? := hf 1 _ rfl
    have g2 : DataW.trod enc Try.prog W base spare held n 9 (([v0, v1, v2].drop 2).take (Try.prog.cellsOf 9)) = [y0, y1, y2][2]? := hf 2 _ rfl
    rw [k2] at g0 g1
    rw [ks] at g2
    simp only [List.drop_zero, List.drop_succ_cons, List.take_succ_cons, List.take_zero, List.getElem?_cons_zero, List.getElem?_cons_succ] at g0 g1 g2
    obtain ⟨p0, hp0, _, _⟩ := DataW.trod_int Try.underlying3 g0
    obtain ⟨p1, hp1, _, _⟩ := DataW.trod_int Try.underlying3 g1
    obtain ⟨s, hs, _, hsz⟩ := DataW.trod_string Try.underlying9 g2
    simp at hp0 hp1 hs
    refine ⟨p0, p1, s, ?_, hsz⟩
    apply Array.ext'
    rw [hC]
    simp [hp0, hp1, hs]
end SXEdo
end Go.Proofs.Ythlamidlcbnchaa
