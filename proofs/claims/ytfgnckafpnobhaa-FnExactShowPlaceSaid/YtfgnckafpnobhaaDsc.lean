
/- What exact laws ask of displays: what comes in, copies, marks. -/
import Derived.Test.YtfgnckafpnobhaaDsb
import Derived.Test.YtfgnckafpnobhaaCa
import Derived.Test.YtfgnckafpnobhaaExM
import Derived.Test.YtfgnckafpnobhaaEqIntS
import Derived.OpenShut
namespace Go.Proofs.Ytfgnckafpnobhaa
open Go.RowKit Go.ChangeShapes Go.WideShapes

section SXDsc
variable {H : Type} {enc : TypeId × Value → H} {W : World} {base : Nat} {spare : Nat → Bool} {held : Bool}
set_option maxRecDepth 100000 in
theorem open_display {fuel : Nat} {cs : Array Value} {x : DataW H × List MemPlace} (hc : cs.size = 4) (h : DataW.trod enc Try.prog W base spare held fuel 38 cs.toList = some x) :
    ∃ c p s t C P, cs = #[c, p, .int .i64 s, .int .i64 t] ∧ IntsAt W c C ∧ IntsAt W p P ∧ (-9223372036854775808 ≤ s ∧ s ≤ 9223372036854775807) ∧ (-9223372036854775808 ≤ t ∧ t ≤ 9223372036854775807) := by
  obtain ⟨xs, n, _, _, _, hxl, hf⟩ := DataW.trod_struct Try.underlying38 h
  have hcl : cs.toList.length = 4 := by rw [Array.length_toList]; exact hc
  obtain ⟨C, hC⟩ : ∃ C, cs.toList = C := ⟨_, rfl⟩
  rw [hC] at hf hcl
  match xs, hxl, C, hcl with
  | [y0, y1, y2, y3], _, [v0, v1, v2, v3], _ =>
    have k2 : Try.prog.cellsOf 3 = 1 := by kernel_rfl
    have ks : Try.prog.cellsOf 23 = 1 := by kernel_rfl
    have g0 : DataW.trod enc Try.prog W base spare held n 23 (([v0, v1, v2, v3].drop 0).take (Try.prog.cellsOf 23)) = [y0, y1, y2, y3][0]? := hf 0 _ rfl
    have g1 : DataW.trod enc Try.prog W base spare held n 23 (([v0, v1, v2, v3].drop 1).take (Try.prog.cellsOf 23)) = [y0, y1, y2, y3][1]? := hf 1 _ rfl
    have g2 : DataW.trod enc Try.prog W base spare held n 3 (([v0, v1, v2, v3].drop 2).take (Try.prog.cellsOf 3)) = [y0, y1, y2, y3][2]? := hf 2 _ rfl
    have g3 : DataW.trod enc Try.prog W base spare held n 3 (([v0, v1, v2, v3].drop 3).take (Try.prog.cellsOf 3)) = [y0, y1, y2, y3][3]? := hf 3 _ rfl
    rw [ks] at g0 g1
    rw [k2] at g2 g3
    simp only [List.drop_zero, List.drop_succ_cons, List.take_succ_cons, List.take_zero, List.getElem?_cons_zero, List.getElem?_cons_succ] at g0 g1 g2 g3
    obtain ⟨p2, hp2, _, hw2⟩ := DataW.trod_int Try.underlying3 g2
    obtain ⟨p3, hp3, _, hw3⟩ := DataW.trod_int Try.underlying3 g3
    obtain ⟨C0, hC0, _⟩ := openL_ints_at g0
    obtain ⟨C1, hC1, _⟩ := openL_ints_at g1
    simp at hp2 hp3
    have b2 := bounds_i64 hw2
    have b3 := bounds_i64 hw3
    refine ⟨v0, v1, p2, p3, C0, C1, ?_, hC0, hC1, by omega, by omega⟩
    apply Array.ext'
    rw [hC]
    simp [hp2, hp3]
end SXDsc
abbrev dspL (c p : Value) (s t : Int) : Obj := .cells #[c, p, .int .i64 s, .int .i64 t] 38
/-- what came in lies in a block of its own -/
def BoxL (w : World) (g : Nat) (c p : Value) (s t : Int) : Prop := w.heap[g]? = some (.cells #[c, p, .int .i64 s, .int .i64 t] 38 (0, 0))
theorem BoxL.lt {w : World} {g : Nat} {c p : Value} {s t : Int} (h : BoxL w g c p s t) : g < w.heap.size := (Array.getElem?_eq_some_iff.1 h).1
theorem BoxL.below {w w' : World} {g B : Nat} {c p : Value} {s t : Int} (h : BoxL w g c p s t) (hb : Below B w w') (hg : g < B) : BoxL w' g c p s t := (hb.block g hg).trans h
theorem BoxL.cells {w : World} {g : Nat} {c p : Value} {s t : Int} (h : BoxL w g c p s t) :
    w.cell? ⟨g, 0, none⟩ = some c ∧ w.cell? ⟨g, 1, none⟩ = some p ∧ w.cell? ⟨g, 2, none⟩ = some (.int .i64 s) ∧ w.cell? ⟨g, 3, none⟩ = some (.int .i64 t) := by
  refine ⟨?_, ?_, ?_, ?_⟩ <;> (rw [cell_of_row w g _ _ _ _ h]; rfl)
theorem lboxD (w : World) (c p : Value) (s t : Int) : BoxL (w.alloc (dspL c p s t)) w.heap.size c p s t ∧ Below w.heap.size w (w.alloc (dspL c p s t)) :=
  ⟨heap_alloc_new w _, (Below.refl _ _).alloc (Nat.le_refl _) _⟩
theorem BoxD.free {w : World} {g : Nat} {c p : Value} {s t : Int} (h : BoxD w g c p s t) (i : Nat) : w.frozen? ⟨g, i, none⟩ = false := frozen_of_row w g i _ _ h
theorem BoxD.alloc {w : World} {g : Nat} {c p : Value} {s t : Int} (h : BoxD w g c p s t) (o : Obj) : BoxD (w.alloc o) g c p s t := h.below ((Below.refl _ _).alloc (Nat.le_refl _) o) h.lt
theorem BoxL.alloc {w : World} {g : Nat} {c p : Value} {s t : Int} (h : BoxL w g c p s t) (o : Obj) : BoxL (w.alloc o) g c p s t := h.below ((Below.refl _ _).alloc (Nat.le_refl _) o) h.lt
theorem szIntS_d (w : World) (u : Value) (zs : List Int) (l : Int) (hx : IntsAt w u zs) (h0 : 0 ≤ l) (h1 : l ≤ 1048576) :
    Calls Try.prog 61 #[u, .int .i64 l] w fun e w' => (∃ k : Int, e = .returned (.int .i64 k) ∧ (k = -1 ∨ (0 ≤ k ∧ k ≤ 1048576 ∧ zs.length ≤ 1048576))) ∧ w = w' := by
  obtain ⟨a, cp, rfl, x1, x2, x3⟩ := hx
  obtain ⟨n, hn⟩ : ∃ n, zs.length = n := ⟨_, rfl⟩
  rw [hn] at x1 x3 ⊢
  clear hn x3
  have hu1 : IntKind.i64.wrap (l - (n : Int)) = l - (n : Int) := IntWalk.i64_in _ (by omega)
  by_cases c : l - (n : Int) < 0
  · have d1 : decide (l - (n : Int) < 0) = true := decide_eq_true c
    go_enter Try.func61, Try.ntmps61
    go_wp2
    go_ret
    exact ⟨⟨-1, rfl, .inl rfl⟩, rfl⟩
  · have d1 : decide (l - (n : Int) < 0) = false := decide_eq_false c
    go_enter Try.func61, Try.ntmps61
    go_wp2
    go_ret
    exact ⟨⟨_, rfl, .inr ⟨by omega, by omega, by omega⟩⟩, rfl⟩
set_option maxHeartbeats 1000000 in
theorem szDisplay_any (w : World) (c p : Value) (s t : Int) (C P : List Int) (hC : IntsAt w c C) (hP : IntsAt w p P) :
    Calls Try.prog 37 #[dspV c p s t, .int .i64 1048576] w fun e w' => (∃ k : Int, e = .returned (.int .i64 k) ∧ (k = -1 ∨ (0 ≤ k ∧ C.length ≤ 1048576 ∧ P.length ≤ 1048576))) ∧ Below w.heap.size w w' := by
  obtain ⟨ac, n, cc, rfl, hn, xc1, xc2, _⟩ := hC.partsI
  obtain ⟨ap, m, cp, rfl, hm, xp1, xp2, _⟩ := hP.partsI
  obtain ⟨hB, hbx⟩ := lboxD w (.slice ac n cc) (.slice ap m cp) s t
  have HC := keptI (hC.below hbx)
  have HP := keptI (hP.below hbx)
  clear hC hP hn hm
  go_enter Try.func37, Try.ntmps37
  go_wp2_with fail
  generalize w.alloc (.cells #[.slice ac n cc, .slice ap m cp, .int .i64 s, .int .i64 t] 38) = wA at hB HC HP hbx ⊢
  obtain ⟨c0, c1, c2, c3⟩ := hB.cells
  refine (szIntS_d _ _ C 1048576 HC.out (by omega) (by omega)).mono ?_
  rintro e w' ⟨⟨k, rfl, hk⟩, rfl⟩
  rcases hk with rfl | ⟨k0, k1, k2⟩
  · go_wp2
    go_ret
    exact ⟨⟨-1, rfl, .inl rfl⟩, hbx⟩
  · have d1 : decide (k < 0) = false := decide_eq_false (by omega)
    have K2 := Lib.hid k2
    clear k2
    go_wp2_with fail
    refine (szIntS_d _ _ P k HP.out k0 k1).mono ?_
    rintro e w' ⟨⟨q, rfl, hq⟩, rfl⟩
    rcases hq with rfl | ⟨q0, q1, q2⟩
    · go_wp2
      go_ret
      exact ⟨⟨-1, rfl, .inl rfl⟩, hbx⟩
    · have d2 : decide (q < 0) = false := decide_eq_false (by omega)
      have Q2 := Lib.hid q2
      clear q2
      go_wp2
      go_ret
      exact ⟨⟨q, rfl, .inr ⟨q0, K2.out, Q2.out⟩⟩, hbx⟩
theorem eqIntS_d (w : World) (u v : Value) (xs : List Int) (hx : IntsAt w u xs) (hy : IntsAt w v xs) :
    Calls Try.prog 40 #[u, v] w fun e w' => e = .returned (.bool true) ∧ Below w.heap.size w w' := by
  have := eqIntS_any w u v xs xs hx hy
  rw [decide_eq_true rfl] at this
  exact this
set_option maxHeartbeats 1000000 in
theorem eqDisplay_same (w : World) (c p c' p' : Value) (s t : Int) (C P : List Int) (hC : IntsAt w c C) (hP : IntsAt w p P) (hC' : IntsAt w c' C) (hP' : IntsAt w p' P) :
    Calls Try.prog 39 #[dspV c p s t, dspV c' p' s t] w fun e w' => e = .returned (.bool true) ∧ Below w.heap.size w w' := by
  obtain ⟨ac, n, cc, rfl, _⟩ := hC.partsI
  obtain ⟨ap, m, cp, rfl, _⟩ := hP.partsI
  obtain ⟨ac', n', cc', rfl, _⟩ := hC'.partsI
  obtain ⟨ap', m', cp', rfl, _⟩ := hP'.partsI
  obtain ⟨hB, hbx⟩ := dbox w (.slice ac n cc) (.slice ap m cp) s t
  obtain ⟨hB2, hbx2⟩ := dbox (w.alloc (dspO (.slice ac n cc) (.slice ap m cp) s t)) (.slice ac' n' cc') (.slice ap' m' cp') s t
  have hB1 := hB.alloc (dspO (.slice ac' n' cc') (.slice ap' m' cp') s t)
  have hbb := below_next hbx hbx2
  rw [World.size_alloc] at hB2
  have HC := keptI (hC.below hbb)
  have HP := keptI (hP.below hbb)
  have HC' := keptI (hC'.below hbb)
  have HP' := keptI (hP'.below hbb)
  have HB := keptI hbb
  clear hC hP hC' hP' hbx hbx2 hbb hB
  go_enter Try.func39, Try.ntmps39
  go_wp2_with fail
  generalize (w.alloc (.cells #[.slice ac n cc, .slice ap m cp, .int .i64 s, .int .i64 t] 25)).alloc (.cells #[.slice ac' n' cc', .slice ap' m' cp', .int .i64 s, .int .i64 t] 25) = wA at hB1 hB2 HC HP HC' HP' HB ⊢
  obtain ⟨c0, c1, c2, c3⟩ := hB1.cells
  obtain ⟨d0, d1, d2, d3⟩ := hB2.cells
  refine (eqIntS_d _ _ _ C HC.out HC'.out).mono ?_
  rintro e w1 ⟨rfl, hb1⟩
  replace hB1 := hB1.below hb1 hB1.lt
  replace hB2 := hB2.below hb1 hB2.lt
  have HP := keptI (HP.out.below hb1)
  have HP' := keptI (HP'.out.below hb1)
  have HB := keptI (below_next HB.out hb1)
  clear c0 c1 c2 c3 d0 d1 d2 d3 hb1
  obtain ⟨c0, c1, c2, c3⟩ := hB1.cells
  obtain ⟨d0, d1, d2, d3⟩ := hB2.cells
  go_wp2_with fail
  refine (eqIntS_d _ _ _ P HP.out HP'.out).mono ?_
  rintro e w2 ⟨rfl, hb1⟩
  replace hB1 := hB1.below hb1 hB1.lt
  replace hB2 := hB2.below hb1 hB2.lt
  have HB := keptI (below_next HB.out hb1)
  clear c0 c1 c2 c3 d0 d1 d2 d3 hb1
  obtain ⟨c0, c1, c2, c3⟩ := hB1.cells
  obtain ⟨d0, d1, d2, d3⟩ := hB2.cells
  go_wp2
  go_ret
  exact ⟨rfl, HB.out⟩
end Go.Proofs.Ytfgnckafpnobhaa
