
/- The draw of two edits and a number. -/
import Derived.Test.YthlamidlcbnchaaEdf
import Derived.Test.YthlamidlcbnchaaReg
import Derived.Deep.Cut
namespace Go.Proofs.Ythlamidlcbnchaa
open Go.RowKit

theorem results_ccs {P : Program} {fn : Func} {p q u : Tmp} {ty : TypeId} (h : fn.results = #[.cell p ty, .cell q ty, .tmp u]) (tmps : Array Value) (w : World) (g k : Nat) (t : TypeId) (cs ds : Array Value) (fr fr2 : Nat × Nat) (d : TypeDesc)
    (hp : tmps.getD p undef = .pointer (some ⟨g, 0, none⟩)) (hq : tmps.getD q undef = .pointer (some ⟨k, 0, none⟩)) (hg : w.heap[g]? = some (.cells cs t fr)) (hk : w.heap[k]? = some (.cells ds t fr2))
    (hu : P.underlying ty = some d) (hd : (match d with | .struct _ | .array _ _ => true | _ => false) = true) (hi : (P.info? ty).map (·.size) = some cs.size) (hi2 : (P.info? ty).map (·.size) = some ds.size) :
    (results fn tmps).run P w = .ok (.tuple #[.agg cs, .agg ds, tmps.getD u undef]) w := by
  have hp' : tmps[p]?.getD undef = .pointer (some ⟨g, 0, none⟩) := by simpa using hp
  have hq' : tmps[q]?.getD undef = .pointer (some ⟨k, 0, none⟩) := by simpa using hq
  simp [results, h, hp', hq', asAddr, run_loadVar_row w g t ty cs fr d hg hu hd hi, run_loadVar_row w k t ty ds fr2 d hk hu hd hi2]
theorem grown_drewE {a b : World} {r : Option Nat} (h : a.grownBy b r) : a.grownBy b.drew r := ⟨h.os, h.tape, h.output, h.size, h.block⟩
def EdEd (w : World) (e : Ending) (w' : World) : Prop :=
  ∃ (x c : Int) (t : ByteArray) (x2 c2 : Int) (t2 : ByteArray) (many : Int), e = .returned (.tuple #[edV x c t, edV x2 c2 t2, .int .i64 many]) ∧ t.size ≤ 60 ∧ t2.size ≤ 60 ∧ 0 ≤ many ∧ many ≤ 200 ∧ Below w.heap.size w w'
set_option maxHeartbeats 8000000 in
theorem drawShiftEdit_any (w : World) (a : Option Addr) (len cap : Nat) (zs : List Int) (h : RowIn .u8 w a len cap zs) :
    Calls Try.prog 25 #[.slice a len cap] w fun e w' => EdEd w e w' := by
  obtain ⟨h1, h2, h3⟩ := bytesAt_of_row h
  clear h
  have hz1 := (EdAt.new w 0 0 ⟨#[]⟩).alloc (.cells #[.int .i64 0, .int .i64 0, .string ⟨#[]⟩] 24)
  have hz2 := EdAt.new (w.alloc (.cells #[.int .i64 0, .int .i64 0, .string ⟨#[]⟩] 24)) 0 0 ⟨#[]⟩
  rw [World.size_alloc] at hz2
  have hb0 : Below w.heap.size w ((w.alloc (.cells #[.int .i64 0, .int .i64 0, .string ⟨#[]⟩] 24)).alloc (.cells #[.int .i64 0, .int .i64 0, .string ⟨#[]⟩] 24)) := ((Below.refl _ _).alloc (Nat.le_refl _) _).alloc (by rw [World.size_alloc]; omega) _
  have hq1 : BytesAt ((w.alloc (.cells #[.int .i64 0, .int .i64 0, .string ⟨#[]⟩] 24)).alloc (.cells #[.int .i64 0, .int .i64 0, .string ⟨#[]⟩] 24)) w.heap.size (.slice a len cap) len := h1.of_below (fun k hk => hb0.block k hk)
  have hsz : Hid (((w.alloc (.cells #[.int .i64 0, .int .i64 0, .string ⟨#[]⟩] 24)).alloc (.cells #[.int .i64 0, .int .i64 0, .string ⟨#[]⟩] 24)).heap.size = w.heap.size + 2) := by show _ = _; rw [World.size_alloc, World.size_alloc]
  clear h1
  go_enter Try.func25, Try.ntmps25
  go_wp2_with fail
  generalize ((w.alloc (.cells #[.int .i64 0, .int .i64 0, .string ⟨#[]⟩] 24)).alloc (.cells #[.int .i64 0, .int .i64 0, .string ⟨#[]⟩] 24)) = w0 at hz1 hz2 hb0 hq1 hsz ⊢
  refine (newReader_any w0 w.heap.size a len cap hq1 (by have := hsz.out; omega) h2 h3).mono ?_
  rintro e w1 ⟨L, rfl, hrd, hgr⟩
  obtain ⟨R, hR⟩ : ∃ R, w0.heap.size = R := ⟨_, rfl⟩
  have HR := Lib.hid hR
  have hRw : w.heap.size + 2 = R := by have := hsz.out; omega
  rw [hR] at hrd ⊢
  replace hz1 := hz1.below (below_of_grown hgr) hz1.lt
  replace hz2 := hz2.below (below_of_grown hgr) hz2.lt
  clear hR hq1
  go_wp2_with fail
  refine (someText_any w1 w.heap.size R L 0 hrd (by omega)).mono ?_
  rintro e w2 ⟨s, q, rfl, hs, hrd2, hq, hgr2⟩
  replace hz1 := hz1.overR hgr2 (by omega)
  replace hz2 := hz2.overR hgr2 (by omega)
  clear hrd
  go_wp2_with fail
  refine (anyEdit_any w2 w.heap.size R L q s hrd2 (by omega) (by omega)).mono ?_
  rintro e w3 ⟨x, c, t, q3, rfl, _, _, ht, hrd3, hq3, hgr3⟩
  have hR3 := hrd3.lt
  have hg3 := grown_trans (grown_trans hgr2 hgr3) (World.grownBy_alloc w3 (.cells #[.int .i64 x, .int .i64 c, .string t] 24) (some R))
  replace hz1 := (hz1.overR hgr3 (by omega)).alloc (.cells #[.int .i64 x, .int .i64 c, .string t] 24)
  replace hz2 := (hz2.overR hgr3 (by omega)).alloc (.cells #[.int .i64 x, .int .i64 c, .string t] 24)
  have hea := EdAt.new w3 x c t
  have hrd3a := hrd3.alloc (.cells #[.int .i64 x, .int .i64 c, .string t] 24)
  clear hrd2 hgr2 hgr3 hrd3
  go_wp2_with fail
  generalize (w3.alloc (.cells #[.int .i64 x, .int .i64 c, .string t] 24)) = w4 at hz1 hz2 hea hrd3a hg3 ⊢
  generalize w3.heap.size = Ga at hea hR3 ⊢
  refine (anyEdit_any w4 w.heap.size R L q3 s hrd3a (by omega) (by omega)).mono ?_
  rintro e w5 ⟨x2, c2, t2, q5, rfl, _, _, ht2, hrd5, hq5, hgr5⟩
  have hR5 := hrd5.lt
  have hab : Ga < w5.heap.size := Nat.lt_of_lt_of_le hea.lt hgr5.size
  have hg5 := grown_trans (grown_trans hg3 hgr5) (World.grownBy_alloc w5 (.cells #[.int .i64 x2, .int .i64 c2, .string t2] 24) (some R))
  replace hz1 := (hz1.overR hgr5 (by omega)).alloc (.cells #[.int .i64 x2, .int .i64 c2, .string t2] 24)
  replace hz2 := (hz2.overR hgr5 (by omega)).alloc (.cells #[.int .i64 x2, .int .i64 c2, .string t2] 24)
  replace hea := (hea.overR hgr5 (by omega)).alloc (.cells #[.int .i64 x2, .int .i64 c2, .string t2] 24)
  have heb := EdAt.new w5 x2 c2 t2
  have hrd6 := hrd5.alloc (.cells #[.int .i64 x2, .int .i64 c2, .string t2] 24)
  clear hg3 hgr5 hrd3a hrd5
  go_upto_region 5 with (fail)
  generalize (w5.alloc (.cells #[.int .i64 x2, .int .i64 c2, .string t2] 24)) = w6 at hz1 hz2 hea heb hrd6 hg5 ⊢
  generalize w5.heap.size = Gb at heb hR5 hab ⊢
  refine wp_region_held_drew (S := fun wy => EdAt wy Ga x c t ∧ EdAt wy Gb x2 c2 t2) (by kernel_rfl) (⟨hea, heb⟩) (fun hHeld => ?_)
  refine reg_take (i := 0) (d := 19) (edV x c t) rfl rfl (by kernel_rfl) (by kernel_rfl) (by kernel_rfl) (fun _ _ _ h => h) (by rfl) (by intro wq hq; obtain ⟨q0, q1, q2⟩ := hq.1.cells; obtain ⟨q3, q4, q5⟩ := hq.2.cells; go_simp) (by assumption) ?_
  simp only [Act.put, List.setIfInBounds_toArray, List.set_cons_zero, List.set_cons_succ]
  refine reg_take (i := 1) (d := 20) (edV x2 c2 t2) rfl rfl (by kernel_rfl) (by kernel_rfl) (by kernel_rfl) (fun _ _ _ h => h) (by rfl) (by intro wq hq; obtain ⟨q0, q1, q2⟩ := hq.1.cells; obtain ⟨q3, q4, q5⟩ := hq.2.cells; go_simp) (by assumption) ?_
  simp only [Act.put, List.setIfInBounds_toArray, List.set_cons_zero, List.set_cons_succ]
  refine reg_take (i := 2) (d := 21) (.pointer (some ⟨R, 0, none⟩)) rfl rfl (by kernel_rfl) (by kernel_rfl) (by kernel_rfl) (fun _ _ _ h => h) (by rfl) (by intro wq hq; obtain ⟨q0, q1, q2⟩ := hq.1.cells; obtain ⟨q3, q4, q5⟩ := hq.2.cells; go_simp) (by assumption) ?_
  simp only [Act.put, List.setIfInBounds_toArray, List.set_cons_zero, List.set_cons_succ]
  refine reg_take (i := 3) (d := 22) (.string s) rfl rfl (by kernel_rfl) (by kernel_rfl) (by kernel_rfl) (fun _ _ _ h => h) (by rfl) (by intro wq hq; obtain ⟨q0, q1, q2⟩ := hq.1.cells; obtain ⟨q3, q4, q5⟩ := hq.2.cells; go_simp) (by assumption) ?_
  simp only [Act.put, List.setIfInBounds_toArray, List.set_cons_zero, List.set_cons_succ]
  refine reg_take (i := 4) (d := 23) (.int .i64 (s.size : Int)) rfl rfl (by kernel_rfl) (by kernel_rfl) (by kernel_rfl) (fun _ _ _ h => h) (by rfl) (by intro wq hq; obtain ⟨q0, q1, q2⟩ := hq.1.cells; obtain ⟨q3, q4, q5⟩ := hq.2.cells; go_simp) (by assumption) ?_
  simp only [Act.put, List.setIfInBounds_toArray, List.set_cons_zero, List.set_cons_succ]
  refine reg_take (i := 5) (d := 24) (.string s) rfl rfl (by kernel_rfl) (by kernel_rfl) (by kernel_rfl) (fun _ _ _ h => h) (by rfl) (by intro wq hq; obtain ⟨q0, q1, q2⟩ := hq.1.cells; obtain ⟨q3, q4, q5⟩ := hq.2.cells; go_simp) (by assumption) ?_
  simp only [Act.put, List.setIfInBounds_toArray, List.set_cons_zero, List.set_cons_succ]
  refine reg_take (i := 6) (d := 25) (.int .i64 (s.size : Int)) rfl rfl (by kernel_rfl) (by kernel_rfl) (by kernel_rfl) (fun _ _ _ h => h) (by rfl) (by intro wq hq; obtain ⟨q0, q1, q2⟩ := hq.1.cells; obtain ⟨q3, q4, q5⟩ := hq.2.cells; go_simp) (by assumption) ?_
  simp only [Act.put, List.setIfInBounds_toArray, List.set_cons_zero, List.set_cons_succ]
  refine reg_take (i := 7) (d := 26) (.string s) rfl rfl (by kernel_rfl) (by kernel_rfl) (by kernel_rfl) (fun _ _ _ h => h) (by rfl) (by intro wq hq; obtain ⟨q0, q1, q2⟩ := hq.1.cells; obtain ⟨q3, q4, q5⟩ := hq.2.cells; go_simp) (by assumption) ?_
  simp only [Act.put, List.setIfInBounds_toArray, List.set_cons_zero, List.set_cons_succ]
  refine reg_take (i := 8) (d := 27) (.int .i64 (s.size : Int)) rfl rfl (by kernel_rfl) (by kernel_rfl) (by kernel_rfl) (fun _ _ _ h => h) (by rfl) (by intro wq hq; obtain ⟨q0, q1, q2⟩ := hq.1.cells; obtain ⟨q3, q4, q5⟩ := hq.2.cells; go_simp) (by assumption) ?_
  simp only [Act.put, List.setIfInBounds_toArray, List.set_cons_zero, List.set_cons_succ]
  refine reg_take (i := 9) (d := 28) (.string s) rfl rfl (by kernel_rfl) (by kernel_rfl) (by kernel_rfl) (fun _ _ _ h => h) (by rfl) (by intro wq hq; obtain ⟨q0, q1, q2⟩ := hq.1.cells; obtain ⟨q3, q4, q5⟩ := hq.2.cells; go_simp) (by assumption) ?_
  simp only [Act.put, List.setIfInBounds_toArray, List.set_cons_zero, List.set_cons_succ]
  refine reg_take (i := 10) (d := 29) (.int .i64 (s.size : Int)) rfl rfl (by kernel_rfl) (by kernel_rfl) (by kernel_rfl) (fun _ _ _ h => h) (by rfl) (by intro wq hq; obtain ⟨q0, q1, q2⟩ := hq.1.cells; obtain ⟨q3, q4, q5⟩ := hq.2.cells; go_simp) (by assumption) ?_
  simp only [Act.put, List.setIfInBounds_toArray, List.set_cons_zero, List.set_cons_succ]
  refine reg_take (i := 11) (d := 30) (.string s) rfl rfl (by kernel_rfl) (by kernel_rfl) (by kernel_rfl) (fun _ _ _ h => h) (by rfl) (by intro wq hq; obtain ⟨q0, q1, q2⟩ := hq.1.cells; obtain ⟨q3, q4, q5⟩ := hq.2.cells; go_simp) (by assumption) ?_
  simp only [Act.put, List.setIfInBounds_toArray, List.set_cons_zero, List.set_cons_succ]
  refine reg_take (i := 12) (d := 31) (.int .i64 (s.size : Int)) rfl rfl (by kernel_rfl) (by kernel_rfl) (by kernel_rfl) (fun _ _ _ h => h) (by rfl) (by intro wq hq; obtain ⟨q0, q1, q2⟩ := hq.1.cells; obtain ⟨q3, q4, q5⟩ := hq.2.cells; go_simp) (by assumption) ?_
  simp only [Act.put, List.setIfInBounds_toArray, List.set_cons_zero, List.set_cons_succ]
  refine reg_take (i := 13) (d := 32) (.string s) rfl rfl (by kernel_rfl) (by kernel_rfl) (by kernel_rfl) (fun _ _ _ h => h) (by rfl) (by intro wq hq; obtain ⟨q0, q1, q2⟩ := hq.1.cells; obtain ⟨q3, q4, q5⟩ := hq.2.cells; go_simp) (by assumption) ?_
  simp only [Act.put, List.setIfInBounds_toArray, List.set_cons_zero, List.set_cons_succ]
  refine reg_take (i := 14) (d := 33) (.int .i64 (s.size : Int)) rfl rfl (by kernel_rfl) (by kernel_rfl) (by kernel_rfl) (fun _ _ _ h => h) (by rfl) (by intro wq hq; obtain ⟨q0, q1, q2⟩ := hq.1.cells; obtain ⟨q3, q4, q5⟩ := hq.2.cells; go_simp) (by assumption) ?_
  simp only [Act.put, List.setIfInBounds_toArray, List.set_cons_zero, List.set_cons_succ]
  refine reg_take (i := 15) (d := 34) (.string s) rfl rfl (by kernel_rfl) (by kernel_rfl) (by kernel_rfl) (fun _ _ _ h => h) (by rfl) (by intro wq hq; obtain ⟨q0, q1, q2⟩ := hq.1.cells; obtain ⟨q3, q4, q5⟩ := hq.2.cells; go_simp) (by assumption) ?_
  simp only [Act.put, List.setIfInBounds_toArray, List.set_cons_zero, List.set_cons_succ]
  refine reg_take (i := 16) (d := 35) (.int .i64 (s.size : Int)) rfl rfl (by kernel_rfl) (by kernel_rfl) (by kernel_rfl) (fun _ _ _ h => h) (by rfl) (by intro wq hq; obtain ⟨q0, q1, q2⟩ := hq.1.cells; obtain ⟨q3, q4, q5⟩ := hq.2.cells; go_simp) (by assumption) ?_
  simp only [Act.put, List.setIfInBounds_toArray, List.set_cons_zero, List.set_cons_succ]
  refine wpAnyH_ready (rs := [17]) (by kernel_rfl) (by simp) ?_
  refine AllReadyH.cons rfl (fun K hK => ?_) AllReadyH.nil
  go_simp
  refine hK.out _ _ ⟨hea.alloc (.cells #[.int .i64 (s.size : Int), .int .i64 (s.size : Int), .int .i64 (s.size : Int), .int .i64 (s.size : Int), .int .i64 (s.size : Int), .int .i64 (s.size : Int), .int .i64 (s.size : Int), .int .i64 61] 3), heb.alloc (.cells #[.int .i64 (s.size : Int), .int .i64 (s.size : Int), .int .i64 (s.size : Int), .int .i64 (s.size : Int), .int .i64 (s.size : Int), .int .i64 (s.size : Int), .int .i64 (s.size : Int), .int .i64 61] 3)⟩ (fun hHeld2 => ?_)
  clear hK hHeld
  refine wpAnyH_ready (rs := [18]) (by kernel_rfl) (by simp) ?_
  refine AllReadyH.cons rfl (fun K hK => ?_) AllReadyH.nil
  go_simp
  have hR6 := hrd6.lt
  refine (one_any ((w6.alloc (.cells #[.int .i64 (s.size : Int), .int .i64 (s.size : Int), .int .i64 (s.size : Int), .int .i64 (s.size : Int), .int .i64 (s.size : Int), .int .i64 (s.size : Int), .int .i64 (s.size : Int), .int .i64 61] 3)).drew) w.heap.size R L q5 w6.heap.size 8 8 [(s.size : Int), s.size, s.size, s.size, s.size, s.size, s.size, 61] (show RD ((w6.alloc (.cells #[.int .i64 (s.size : Int), .int .i64 (s.size : Int), .int .i64 (s.size : Int), .int .i64 (s.size : Int), .int .i64 (s.size : Int), .int .i64 (s.size : Int), .int .i64 (s.size : Int), .int .i64 61] 3)).drew) w.heap.size R L q5 from hrd6.alloc _) (heap_alloc_new w6 _) (by omega) (Lib.hid rfl) (by omega) (by omega) (by omega)).mono ?_
  rintro e w9 ⟨y, rfl, hy, hrd9, hgr9⟩
  have hy2 : 0 ≤ y ∧ y ≤ 200 := by simp at hy; omega
  have hgx : w6.grownBy w9 (some R) := grown_trans (grown_drewE (World.grownBy_alloc w6 _ _)) hgr9
  replace hz1 := hz1.overR hgx (by omega)
  replace hz2 := hz2.overR hgx (by omega)
  replace hea := hea.overR hgx (by omega)
  replace heb := heb.overR hgx (by omega)
  have hB9 : Below w.heap.size w w9 := below_next hb0 (below_of_grown (grown_new hgr (grown_trans hg5 hgx) (by have := HR.out; omega)))
  clear hgx hgr9 hy hgr hg5 hrd6
  refine hK.out _ _ ⟨hea, heb⟩ (fun hHeld => ?_)
  clear hK hHeld2
  obtain ⟨z0, z1, z2⟩ := hz1.cells
  have f1 := hz1.free
  have s1 := hea.putO (show Ga ≠ w.heap.size by omega) x c t
  have s2 := heb.putO (show Gb ≠ w.heap.size by omega) x c t
  have s3 := hz2.putO (show w.heap.size + 1 ≠ w.heap.size by omega) x c t
  have k1 := hz1.put x c t
  have hBp := below_putE (p := x) (c := c) (t := t) hB9 (Nat.le_refl _)
  refine wpAnyH_ready (rs := [19]) (by kernel_rfl) (by simp) ?_
  refine AllReadyH.cons rfl (fun K hK => ?_) AllReadyH.nil
  have s1 : EdAt (((w9.setCell ⟨w.heap.size, 0, none⟩ (.int .i64 x)).setCell ⟨w.heap.size, 1, none⟩ (.int .i64 c)).setCell ⟨w.heap.size, 2, none⟩ (.string t)) Ga x c t := s1
  have s2 : EdAt (((w9.setCell ⟨w.heap.size, 0, none⟩ (.int .i64 x)).setCell ⟨w.heap.size, 1, none⟩ (.int .i64 c)).setCell ⟨w.heap.size, 2, none⟩ (.string t)) Gb x2 c2 t2 := s2
  have s3 : EdAt (((w9.setCell ⟨w.heap.size, 0, none⟩ (.int .i64 x)).setCell ⟨w.heap.size, 1, none⟩ (.int .i64 c)).setCell ⟨w.heap.size, 2, none⟩ (.string t)) (w.heap.size + 1) 0 0 ⟨#[]⟩ := s3
  have k1 : EdAt (((w9.setCell ⟨w.heap.size, 0, none⟩ (.int .i64 x)).setCell ⟨w.heap.size, 1, none⟩ (.int .i64 c)).setCell ⟨w.heap.size, 2, none⟩ (.string t)) w.heap.size x c t := k1
  have hBp : Below w.heap.size w (((w9.setCell ⟨w.heap.size, 0, none⟩ (.int .i64 x)).setCell ⟨w.heap.size, 1, none⟩ (.int .i64 c)).setCell ⟨w.heap.size, 2, none⟩ (.string t)) := hBp
  go_simp
  generalize (((w9.setCell ⟨w.heap.size, 0, none⟩ (.int .i64 x)).setCell ⟨w.heap.size, 1, none⟩ (.int .i64 c)).setCell ⟨w.heap.size, 2, none⟩ (.string t)) = wP at s1 s2 s3 k1 hBp ⊢
  clear hz1 hz2 hea heb hB9 z0 z1 z2 f1 hHeld
  refine hK.out _ _ ⟨s1, s2⟩ (fun hHeld => ?_)
  clear hK
  obtain ⟨z0, z1, z2⟩ := s3.cells
  have f1 := s3.free
  have r1 := s1.putO (show Ga ≠ w.heap.size + 1 by omega) x2 c2 t2
  have r2 := s2.putO (show Gb ≠ w.heap.size + 1 by omega) x2 c2 t2
  have l1 := k1.putO (show w.heap.size ≠ w.heap.size + 1 by omega) x2 c2 t2
  have l2 := s3.put x2 c2 t2
  have hBq := below_putE (p := x2) (c := c2) (t := t2) hBp (show w.heap.size ≤ w.heap.size + 1 by omega)
  refine wpAnyH_ready (rs := [20]) (by kernel_rfl) (by simp) ?_
  refine AllReadyH.cons rfl (fun K hK => ?_) AllReadyH.nil
  go_simp
  refine hK.out _ _ ⟨r1, r2⟩ (fun hHeld => ?_)
  clear hK
  refine reg_take (i := 21) (d := 4) (.int .i64 y) rfl rfl (by kernel_rfl) (by kernel_rfl) (by kernel_rfl) (fun _ _ _ h => h) (by rfl) (by intro wq hq; go_simp) (by assumption) ?_
  simp only [Act.put, List.setIfInBounds_toArray, List.set_cons_zero, List.set_cons_succ]
  refine wpAnyH_done (by kernel_rfl) ?_ _
  go_wp2
  simp only [EdAt, putE] at l1 l2
  refine bodyPost_ret (results_ccs (P := Try.prog) (fn := Try.f25) (p := 2) (q := 3) (u := 4) (ty := 24) rfl _ _ w.heap.size (w.heap.size + 1) _ _ _ _ _ _ rfl rfl l1 l2 Try.underlying24 rfl (by kernel_rfl) (by kernel_rfl)) rfl ?_
  exact ⟨x, c, t, x2, c2, t2, y, rfl, ht, ht2, hy2.1, hy2.2, hBq⟩
end Go.Proofs.Ythlamidlcbnchaa
