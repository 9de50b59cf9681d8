
/- The draw of a mark, an edit and a number. -/
import Derived.Test.YthlamidlcbnchaaEdl
namespace Go.Proofs.Ythlamidlcbnchaa
open Go.RowKit

theorem results_scs {P : Program} {fn : Func} {p q u : Tmp} {ty : TypeId} (h : fn.results = #[.tmp p, .cell q ty, .tmp u]) (tmps : Array Value) (w : World) (k : Nat) (t : TypeId) (ds : Array Value) (fr2 : Nat × Nat) (d : TypeDesc)
    (hq : tmps.getD q undef = .pointer (some ⟨k, 0, none⟩)) (hk : w.heap[k]? = some (.cells ds t fr2))
    (hu : P.underlying ty = some d) (hd : (match d with | .struct _ | .array _ _ => true | _ => false) = true) (hi2 : (P.info? ty).map (·.size) = some ds.size) :
    (results fn tmps).run P w = .ok (.tuple #[tmps.getD p undef, .agg ds, tmps.getD u undef]) w := by
  have hq' : tmps[q]?.getD undef = .pointer (some ⟨k, 0, none⟩) := by simpa using hq
  simp [results, h, hq', asAddr, run_loadVar_row w k t ty ds fr2 d hk hu hd hi2]
def MkEd (w : World) (e : Ending) (w' : World) : Prop :=
  ∃ (y x c : Int) (t : ByteArray) (many : Int), e = .returned (.tuple #[.int .i64 y, edV x c t, .int .i64 many]) ∧ t.size ≤ 60 ∧ Below w.heap.size w w'
/-- a list of numbers lies in block g -/
def LstAt (w : World) (g : Nat) (zs : List Int) : Prop := w.heap[g]? = some (.cells (zs.map (Value.int .i64)).toArray 3 (0, 0))
theorem LstAt.new (w : World) (zs : List Int) : LstAt (w.alloc (.cells (zs.map (Value.int .i64)).toArray 3)) w.heap.size zs := heap_alloc_new w _
theorem LstAt.lt {w : World} {g : Nat} {zs : List Int} (h : LstAt w g zs) : g < w.heap.size := (Array.getElem?_eq_some_iff.1 h).1
theorem LstAt.overR {w w' : World} {g R : Nat} {zs : List Int} (h : LstAt w g zs) (hg : w.grownBy w' (some R)) (hne : g ≠ R) : LstAt w' g zs := (hg.block g h.lt (by simp; exact hne)).trans h
theorem LstAt.alloc {w : World} {g : Nat} {zs : List Int} (h : LstAt w g zs) (o : Obj) : LstAt (w.alloc o) g zs := (Below.heap_alloc w o g h.lt).trans h
set_option maxHeartbeats 16000000 in
theorem drawMoveMark_any (w : World) (a : Option Addr) (len cap : Nat) (zs : List Int) (h : RowIn .u8 w a len cap zs) :
    Calls Try.prog 22 #[.slice a len cap] w fun e w' => MkEd w e w' := by
  obtain ⟨h1, h2, h3⟩ := bytesAt_of_row h
  clear h
  have hz := EdAt.new w 0 0 ⟨#[]⟩
  have hb0 : Below w.heap.size w (w.alloc (.cells #[.int .i64 0, .int .i64 0, .string ⟨#[]⟩] 24)) := (Below.refl _ _).alloc (Nat.le_refl _) _
  have hq1 : BytesAt (w.alloc (.cells #[.int .i64 0, .int .i64 0, .string ⟨#[]⟩] 24)) w.heap.size (.slice a len cap) len := h1.of_below (fun k hk => hb0.block k hk)
  have hsz : Hid ((w.alloc (.cells #[.int .i64 0, .int .i64 0, .string ⟨#[]⟩] 24)).heap.size = w.heap.size + 1) := World.size_alloc _ _
  clear h1
  go_enter Try.func22, Try.ntmps22
  go_wp2_with fail
  generalize (w.alloc (.cells #[.int .i64 0, .int .i64 0, .string ⟨#[]⟩] 24)) = w0 at hz hb0 hq1 hsz ⊢
  refine (newReader_any w0 w.heap.size a len cap hq1 (by have := hsz.out; omega) h2 h3).mono ?_
  rintro e w1 ⟨L, rfl, hrd, hgr⟩
  obtain ⟨R, hR⟩ : ∃ R, w0.heap.size = R := ⟨_, rfl⟩
  have HR := Lib.hid hR
  have hRw : w.heap.size + 1 = R := by have := hsz.out; omega
  rw [hR] at hrd ⊢
  replace hz := hz.below (below_of_grown hgr) hz.lt
  clear hR hq1
  go_wp2_with fail
  refine (someText_any w1 w.heap.size R L 0 hrd (by omega)).mono ?_
  rintro e w2 ⟨s, q, rfl, hs, hrd2, hq, hgr2⟩
  replace hz := hz.overR hgr2 (by omega)
  clear hrd
  go_wp2_with fail
  refine (anyEdit_any w2 w.heap.size R L q s hrd2 (by omega) (by omega)).mono ?_
  rintro e w3 ⟨x, c, t, q3, rfl, hxb, hcb, ht, hrd3, hq3, hgr3⟩
  have hR3 := hrd3.lt
  have hg := grown_trans (grown_trans hgr2 hgr3) (World.grownBy_alloc w3 (.cells #[.int .i64 x, .int .i64 c, .string t] 24) (some R))
  replace hz := (hz.overR hgr3 (by omega)).alloc (.cells #[.int .i64 x, .int .i64 c, .string t] 24)
  have he := EdAt.new w3 x c t
  replace hrd3 := hrd3.alloc (.cells #[.int .i64 x, .int .i64 c, .string t] 24)
  have u1 : IntKind.i64.wrap (x + c) = x + c := IntWalk.i64_in _ (by omega)
  have u2 : IntKind.i64.wrap ((s.size : Int) + 1) = (s.size : Int) + 1 := IntWalk.i64_in _ (by omega)
  clear hrd2 hgr2 hgr3
  go_upto_region 4 with (fail)
  generalize (w3.alloc (.cells #[.int .i64 x, .int .i64 c, .string t] 24)) = w6 at hz he hrd3 hg ⊢
  generalize w3.heap.size = Ga at he hR3 ⊢
  refine wp_region_held_drew (S := fun wy => EdAt wy Ga x c t) (by kernel_rfl) (he) (fun hHeld => ?_)
  refine reg_take (i := 0) (d := 15) (.pointer (some ⟨R, 0, none⟩)) rfl rfl (by kernel_rfl) (by kernel_rfl) (by kernel_rfl) (fun _ _ _ h => h) (by rfl) (by intro wq hq; obtain ⟨q0, q1, q2⟩ := hq.cells; go_simp) (by assumption) ?_
  simp only [Act.put, List.setIfInBounds_toArray, List.set_cons_zero, List.set_cons_succ]
  refine reg_take (i := 1) (d := 16) (.pointer (some ⟨R, 0, none⟩)) rfl rfl (by kernel_rfl) (by kernel_rfl) (by kernel_rfl) (fun _ _ _ h => h) (by rfl) (by intro wq hq; obtain ⟨q0, q1, q2⟩ := hq.cells; go_simp) (by assumption) ?_
  simp only [Act.put, List.setIfInBounds_toArray, List.set_cons_zero, List.set_cons_succ]
  refine reg_take (i := 2) (d := 17) (.string s) rfl rfl (by kernel_rfl) (by kernel_rfl) (by kernel_rfl) (fun _ _ _ h => h) (by rfl) (by intro wq hq; obtain ⟨q0, q1, q2⟩ := hq.cells; go_simp) (by assumption) ?_
  simp only [Act.put, List.setIfInBounds_toArray, List.set_cons_zero, List.set_cons_succ]
  refine reg_take (i := 3) (d := 18) (.int .i64 (s.size : Int)) rfl rfl (by kernel_rfl) (by kernel_rfl) (by kernel_rfl) (fun _ _ _ h => h) (by rfl) (by intro wq hq; obtain ⟨q0, q1, q2⟩ := hq.cells; go_simp) (by assumption) ?_
  simp only [Act.put, List.setIfInBounds_toArray, List.set_cons_zero, List.set_cons_succ]
  refine reg_take (i := 4) (d := 19) (.int .i64 ((s.size : Int) + 1)) rfl rfl (by kernel_rfl) (by kernel_rfl) (by kernel_rfl) (fun _ _ _ h => h) (by rfl) (by intro wq hq; obtain ⟨q0, q1, q2⟩ := hq.cells; go_simp) (by assumption) ?_
  simp only [Act.put, List.setIfInBounds_toArray, List.set_cons_zero, List.set_cons_succ]
  refine reg_take (i := 6) (d := 21) (.pointer (some ⟨Ga, 0, none⟩)) rfl rfl (by kernel_rfl) (by kernel_rfl) (by kernel_rfl) (fun _ _ _ h => h) (by rfl) (by intro wq hq; obtain ⟨q0, q1, q2⟩ := hq.cells; go_simp) (by assumption) ?_
  simp only [Act.put, List.setIfInBounds_toArray, List.set_cons_zero, List.set_cons_succ]
  refine reg_take (i := 7) (d := 22) (.int .i64 x) rfl rfl (by kernel_rfl) (by kernel_rfl) (by kernel_rfl) (fun _ _ _ h => h) (by rfl) (by intro wq hq; obtain ⟨q0, q1, q2⟩ := hq.cells; go_simp) (by assumption) ?_
  simp only [Act.put, List.setIfInBounds_toArray, List.set_cons_zero, List.set_cons_succ]
  refine reg_take (i := 8) (d := 23) (.pointer (some ⟨Ga, 0, none⟩)) rfl rfl (by kernel_rfl) (by kernel_rfl) (by kernel_rfl) (fun _ _ _ h => h) (by rfl) (by intro wq hq; obtain ⟨q0, q1, q2⟩ := hq.cells; go_simp) (by assumption) ?_
  simp only [Act.put, List.setIfInBounds_toArray, List.set_cons_zero, List.set_cons_succ]
  refine reg_take (i := 9) (d := 24) (.int .i64 x) rfl rfl (by kernel_rfl) (by kernel_rfl) (by kernel_rfl) (fun _ _ _ h => h) (by rfl) (by intro wq hq; obtain ⟨q0, q1, q2⟩ := hq.cells; go_simp) (by assumption) ?_
  simp only [Act.put, List.setIfInBounds_toArray, List.set_cons_zero, List.set_cons_succ]
  refine reg_take (i := 10) (d := 25) (.pointer (some ⟨Ga, 1, none⟩)) rfl rfl (by kernel_rfl) (by kernel_rfl) (by kernel_rfl) (fun _ _ _ h => h) (by rfl) (by intro wq hq; obtain ⟨q0, q1, q2⟩ := hq.cells; go_simp) (by assumption) ?_
  simp only [Act.put, List.setIfInBounds_toArray, List.set_cons_zero, List.set_cons_succ]
  refine reg_take (i := 11) (d := 26) (.int .i64 c) rfl rfl (by kernel_rfl) (by kernel_rfl) (by kernel_rfl) (fun _ _ _ h => h) (by rfl) (by intro wq hq; obtain ⟨q0, q1, q2⟩ := hq.cells; go_simp) (by assumption) ?_
  simp only [Act.put, List.setIfInBounds_toArray, List.set_cons_zero, List.set_cons_succ]
  refine reg_take (i := 12) (d := 27) (.int .i64 (x + c)) rfl rfl (by kernel_rfl) (by kernel_rfl) (by kernel_rfl) (fun _ _ _ h => h) (by rfl) (by intro wq hq; obtain ⟨q0, q1, q2⟩ := hq.cells; go_simp) (by assumption) ?_
  simp only [Act.put, List.setIfInBounds_toArray, List.set_cons_zero, List.set_cons_succ]
  refine reg_take (i := 13) (d := 28) (.string s) rfl rfl (by kernel_rfl) (by kernel_rfl) (by kernel_rfl) (fun _ _ _ h => h) (by rfl) (by intro wq hq; obtain ⟨q0, q1, q2⟩ := hq.cells; go_simp) (by assumption) ?_
  simp only [Act.put, List.setIfInBounds_toArray, List.set_cons_zero, List.set_cons_succ]
  refine reg_take (i := 14) (d := 29) (.int .i64 (s.size : Int)) rfl rfl (by kernel_rfl) (by kernel_rfl) (by kernel_rfl) (fun _ _ _ h => h) (by rfl) (by intro wq hq; obtain ⟨q0, q1, q2⟩ := hq.cells; go_simp) (by assumption) ?_
  simp only [Act.put, List.setIfInBounds_toArray, List.set_cons_zero, List.set_cons_succ]
  refine reg_take (i := 15) (d := 30) (.string s) rfl rfl (by kernel_rfl) (by kernel_rfl) (by kernel_rfl) (fun _ _ _ h => h) (by rfl) (by intro wq hq; obtain ⟨q0, q1, q2⟩ := hq.cells; go_simp) (by assumption) ?_
  simp only [Act.put, List.setIfInBounds_toArray, List.set_cons_zero, List.set_cons_succ]
  refine reg_take (i := 16) (d := 31) (.int .i64 (s.size : Int)) rfl rfl (by kernel_rfl) (by kernel_rfl) (by kernel_rfl) (fun _ _ _ h => h) (by rfl) (by intro wq hq; obtain ⟨q0, q1, q2⟩ := hq.cells; go_simp) (by assumption) ?_
  simp only [Act.put, List.setIfInBounds_toArray, List.set_cons_zero, List.set_cons_succ]
  refine reg_take (i := 17) (d := 32) (.int .i64 ((s.size : Int) + 1)) rfl rfl (by kernel_rfl) (by kernel_rfl) (by kernel_rfl) (fun _ _ _ h => h) (by rfl) (by intro wq hq; obtain ⟨q0, q1, q2⟩ := hq.cells; go_simp) (by assumption) ?_
  simp only [Act.put, List.setIfInBounds_toArray, List.set_cons_zero, List.set_cons_succ]
  refine reg_take (i := 20) (d := 35) (edV x c t) rfl rfl (by kernel_rfl) (by kernel_rfl) (by kernel_rfl) (fun _ _ _ h => h) (by rfl) (by intro wq hq; obtain ⟨q0, q1, q2⟩ := hq.cells; go_simp) (by assumption) ?_
  simp only [Act.put, List.setIfInBounds_toArray, List.set_cons_zero, List.set_cons_succ]
  refine reg_take (i := 21) (d := 36) (.pointer (some ⟨R, 0, none⟩)) rfl rfl (by kernel_rfl) (by kernel_rfl) (by kernel_rfl) (fun _ _ _ h => h) (by rfl) (by intro wq hq; obtain ⟨q0, q1, q2⟩ := hq.cells; go_simp) (by assumption) ?_
  simp only [Act.put, List.setIfInBounds_toArray, List.set_cons_zero, List.set_cons_succ]
  refine reg_take (i := 22) (d := 37) (.string s) rfl rfl (by kernel_rfl) (by kernel_rfl) (by kernel_rfl) (fun _ _ _ h => h) (by rfl) (by intro wq hq; obtain ⟨q0, q1, q2⟩ := hq.cells; go_simp) (by assumption) ?_
  simp only [Act.put, List.setIfInBounds_toArray, List.set_cons_zero, List.set_cons_succ]
  refine reg_take (i := 23) (d := 38) (.int .i64 (s.size : Int)) rfl rfl (by kernel_rfl) (by kernel_rfl) (by kernel_rfl) (fun _ _ _ h => h) (by rfl) (by intro wq hq; obtain ⟨q0, q1, q2⟩ := hq.cells; go_simp) (by assumption) ?_
  simp only [Act.put, List.setIfInBounds_toArray, List.set_cons_zero, List.set_cons_succ]
  refine reg_take (i := 24) (d := 39) (.string s) rfl rfl (by kernel_rfl) (by kernel_rfl) (by kernel_rfl) (fun _ _ _ h => h) (by rfl) (by intro wq hq; obtain ⟨q0, q1, q2⟩ := hq.cells; go_simp) (by assumption) ?_
  simp only [Act.put, List.setIfInBounds_toArray, List.set_cons_zero, List.set_cons_succ]
  refine reg_take (i := 25) (d := 40) (.int .i64 (s.size : Int)) rfl rfl (by kernel_rfl) (by kernel_rfl) (by kernel_rfl) (fun _ _ _ h => h) (by rfl) (by intro wq hq; obtain ⟨q0, q1, q2⟩ := hq.cells; go_simp) (by assumption) ?_
  simp only [Act.put, List.setIfInBounds_toArray, List.set_cons_zero, List.set_cons_succ]
  refine reg_take (i := 26) (d := 41) (.string s) rfl rfl (by kernel_rfl) (by kernel_rfl) (by kernel_rfl) (fun _ _ _ h => h) (by rfl) (by intro wq hq; obtain ⟨q0, q1, q2⟩ := hq.cells; go_simp) (by assumption) ?_
  simp only [Act.put, List.setIfInBounds_toArray, List.set_cons_zero, List.set_cons_succ]
  refine reg_take (i := 27) (d := 42) (.int .i64 (s.size : Int)) rfl rfl (by kernel_rfl) (by kernel_rfl) (by kernel_rfl) (fun _ _ _ h => h) (by rfl) (by intro wq hq; obtain ⟨q0, q1, q2⟩ := hq.cells; go_simp) (by assumption) ?_
  simp only [Act.put, List.setIfInBounds_toArray, List.set_cons_zero, List.set_cons_succ]
  refine reg_take (i := 28) (d := 43) (.string s) rfl rfl (by kernel_rfl) (by kernel_rfl) (by kernel_rfl) (fun _ _ _ h => h) (by rfl) (by intro wq hq; obtain ⟨q0, q1, q2⟩ := hq.cells; go_simp) (by assumption) ?_
  simp only [Act.put, List.setIfInBounds_toArray, List.set_cons_zero, List.set_cons_succ]
  refine reg_take (i := 29) (d := 44) (.int .i64 (s.size : Int)) rfl rfl (by kernel_rfl) (by kernel_rfl) (by kernel_rfl) (fun _ _ _ h => h) (by rfl) (by intro wq hq; obtain ⟨q0, q1, q2⟩ := hq.cells; go_simp) (by assumption) ?_
  simp only [Act.put, List.setIfInBounds_toArray, List.set_cons_zero, List.set_cons_succ]
  refine reg_take (i := 30) (d := 45) (.string s) rfl rfl (by kernel_rfl) (by kernel_rfl) (by kernel_rfl) (fun _ _ _ h => h) (by rfl) (by intro wq hq; obtain ⟨q0, q1, q2⟩ := hq.cells; go_simp) (by assumption) ?_
  simp only [Act.put, List.setIfInBounds_toArray, List.set_cons_zero, List.set_cons_succ]
  refine reg_take (i := 31) (d := 46) (.int .i64 (s.size : Int)) rfl rfl (by kernel_rfl) (by kernel_rfl) (by kernel_rfl) (fun _ _ _ h => h) (by rfl) (by intro wq hq; obtain ⟨q0, q1, q2⟩ := hq.cells; go_simp) (by assumption) ?_
  simp only [Act.put, List.setIfInBounds_toArray, List.set_cons_zero, List.set_cons_succ]
  refine reg_take (i := 32) (d := 47) (.string s) rfl rfl (by kernel_rfl) (by kernel_rfl) (by kernel_rfl) (fun _ _ _ h => h) (by rfl) (by intro wq hq; obtain ⟨q0, q1, q2⟩ := hq.cells; go_simp) (by assumption) ?_
  simp only [Act.put, List.setIfInBounds_toArray, List.set_cons_zero, List.set_cons_succ]
  refine reg_take (i := 33) (d := 48) (.int .i64 (s.size : Int)) rfl rfl (by kernel_rfl) (by kernel_rfl) (by kernel_rfl) (fun _ _ _ h => h) (by rfl) (by intro wq hq; obtain ⟨q0, q1, q2⟩ := hq.cells; go_simp) (by assumption) ?_
  simp only [Act.put, List.setIfInBounds_toArray, List.set_cons_zero, List.set_cons_succ]
  refine reg_take (i := 34) (d := 49) (.string s) rfl rfl (by kernel_rfl) (by kernel_rfl) (by kernel_rfl) (fun _ _ _ h => h) (by rfl) (by intro wq hq; obtain ⟨q0, q1, q2⟩ := hq.cells; go_simp) (by assumption) ?_
  simp only [Act.put, List.setIfInBounds_toArray, List.set_cons_zero, List.set_cons_succ]
  refine reg_take (i := 35) (d := 50) (.int .i64 (s.size : Int)) rfl rfl (by kernel_rfl) (by kernel_rfl) (by kernel_rfl) (fun _ _ _ h => h) (by rfl) (by intro wq hq; obtain ⟨q0, q1, q2⟩ := hq.cells; go_simp) (by assumption) ?_
  simp only [Act.put, List.setIfInBounds_toArray, List.set_cons_zero, List.set_cons_succ]
  have heD : EdAt w6.drew Ga x c t := he
  have hzD : EdAt w6.drew w.heap.size 0 0 ⟨#[]⟩ := hz
  have hrD : RD w6.drew w.heap.size R L q3 := hrd3
  have hgD : w1.grownBy w6.drew (some R) := grown_drewE hg
  generalize w6.drew = w7 at heD hzD hrD hgD hHeld ⊢
  clear he hz hrd3 hg
  have he := heD
  have hz := hzD
  have hrd3 := hrD
  have hg := hgD
  clear heD hzD hrD hgD
  refine wpAnyH_ready (rs := [5, 36]) (by kernel_rfl) (by simp) ?_
  refine AllReadyH.cons rfl (fun K hK => ?_) (AllReadyH.cons rfl (fun K hK => ?_) AllReadyH.nil)
  · skip
    go_simp
    have hRx := hrd3.lt
    refine (pick_any (w7) w.heap.size R L (q3) _ hrd3 (by omega) (by omega) (by omega)).mono ?_
    rintro e v1 ⟨KN, rfl, hK5, r_v1, gr_v1⟩
    have e_v1 := he.overR gr_v1 (by omega)
    have z_v1 := hz.overR gr_v1 (by omega)
    have g_v1 := grown_trans hg gr_v1
    refine hK.out _ _ e_v1 (fun hHeld2 => ?_)
    clear hK hHeld he hz hrd3 hg hRx 
    have he := e_v1
    have hz := z_v1
    have hrd3 := r_v1
    have hg := g_v1
    clear e_v1 z_v1 r_v1 g_v1 gr_v1 
    have hHeld := hHeld2
    clear hHeld2
    refine wpAnyH_ready (rs := [18, 36]) (by kernel_rfl) (by simp) ?_
    refine AllReadyH.cons rfl (fun K hK => ?_) (AllReadyH.cons rfl (fun K hK => ?_) AllReadyH.nil)
    · skip
      go_simp
      have e_v2 : EdAt (v1.alloc (.cells #[.int .i64 (KN : Int), .int .i64 x, .int .i64 (x + c), .int .i64 (s.size : Int), .int .i64 0, .int .i64 ((s.size : Int) + 1), .int .i64 (-1)] 3)) Ga x c t := he.alloc _
      have z_v2 : EdAt (v1.alloc (.cells #[.int .i64 (KN : Int), .int .i64 x, .int .i64 (x + c), .int .i64 (s.size : Int), .int .i64 0, .int .i64 ((s.size : Int) + 1), .int .i64 (-1)] 3)) w.heap.size 0 0 ⟨#[]⟩ := hz.alloc _
      have r_v2 : RD (v1.alloc (.cells #[.int .i64 (KN : Int), .int .i64 x, .int .i64 (x + c), .int .i64 (s.size : Int), .int .i64 0, .int .i64 ((s.size : Int) + 1), .int .i64 (-1)] 3)) w.heap.size R L (q3 + 1) := hrd3.alloc _
      have g_v2 : w1.grownBy (v1.alloc (.cells #[.int .i64 (KN : Int), .int .i64 x, .int .i64 (x + c), .int .i64 (s.size : Int), .int .i64 0, .int .i64 ((s.size : Int) + 1), .int .i64 (-1)] 3)) (some R) := grown_trans hg (World.grownBy_alloc v1 (.cells #[.int .i64 (KN : Int), .int .i64 x, .int .i64 (x + c), .int .i64 (s.size : Int), .int .i64 0, .int .i64 ((s.size : Int) + 1), .int .i64 (-1)] 3) (some R))
      have L18_v2 : LstAt (v1.alloc (.cells #[.int .i64 (KN : Int), .int .i64 x, .int .i64 (x + c), .int .i64 (s.size : Int), .int .i64 0, .int .i64 ((s.size : Int) + 1), .int .i64 (-1)] 3)) v1.heap.size [(KN : Int), x, x + c, (s.size : Int), 0, (s.size : Int) + 1, -1] := LstAt.new v1 [(KN : Int), x, x + c, (s.size : Int), 0, (s.size : Int) + 1, -1]
      have nL18 : R < v1.heap.size := hrd3.lt
      generalize (v1.alloc (.cells #[.int .i64 (KN : Int), .int .i64 x, .int .i64 (x + c), .int .i64 (s.size : Int), .int .i64 0, .int .i64 ((s.size : Int) + 1), .int .i64 (-1)] 3)) = v2 at e_v2 z_v2 r_v2 g_v2  L18_v2 ⊢
      generalize v1.heap.size = BL18 at L18_v2 nL18 ⊢
      refine hK.out _ _ e_v2 (fun hHeld2 => ?_)
      clear hK hHeld he hz hrd3 hg 
      have he := e_v2
      have hz := z_v2
      have hrd3 := r_v2
      have hg := g_v2
      have L18 := L18_v2
      clear e_v2 z_v2 r_v2 g_v2  L18_v2
      have hHeld := hHeld2
      clear hHeld2
      refine wpAnyH_ready (rs := [19, 36]) (by kernel_rfl) (by simp) ?_
      refine AllReadyH.cons rfl (fun K hK => ?_) (AllReadyH.cons rfl (fun K hK => ?_) AllReadyH.nil)
      · skip
        go_simp
        have hRx := hrd3.lt
        refine (one_any (v2) w.heap.size R L (q3 + 1) BL18 7 7 [(KN : Int), x, x + c, (s.size : Int), 0, (s.size : Int) + 1, -1] hrd3 L18 (by omega) (Lib.hid rfl) (by omega) (by omega) (by omega)).mono ?_
        rintro e v3 ⟨y, rfl, _, r_v3, gr_v3⟩
        have e_v3 := he.overR gr_v3 (by omega)
        have z_v3 := hz.overR gr_v3 (by omega)
        have g_v3 := grown_trans hg gr_v3
        have L18_v3 := L18.overR gr_v3 (by omega)
        refine hK.out _ _ e_v3 (fun hHeld2 => ?_)
        clear hK hHeld he hz hrd3 hg hRx L18
        have he := e_v3
        have hz := z_v3
        have hrd3 := r_v3
        have hg := g_v3
        have L18 := L18_v3
        clear e_v3 z_v3 r_v3 g_v3 gr_v3 L18_v3
        have hHeld := hHeld2
        clear hHeld2
        refine wpAnyH_ready (rs := [36]) (by kernel_rfl) (by simp) ?_
        refine AllReadyH.cons rfl (fun K hK => ?_) AllReadyH.nil
        go_simp
        have e_v4 : EdAt (v3.alloc (.cells #[.int .i64 (s.size : Int), .int .i64 (s.size : Int), .int .i64 (s.size : Int), .int .i64 (s.size : Int), .int .i64 (s.size : Int), .int .i64 (s.size : Int), .int .i64 (s.size : Int), .int .i64 61] 3)) Ga x c t := he.alloc _
        have z_v4 : EdAt (v3.alloc (.cells #[.int .i64 (s.size : Int), .int .i64 (s.size : Int), .int .i64 (s.size : Int), .int .i64 (s.size : Int), .int .i64 (s.size : Int), .int .i64 (s.size : Int), .int .i64 (s.size : Int), .int .i64 61] 3)) w.heap.size 0 0 ⟨#[]⟩ := hz.alloc _
        have r_v4 : RD (v3.alloc (.cells #[.int .i64 (s.size : Int), .int .i64 (s.size : Int), .int .i64 (s.size : Int), .int .i64 (s.size : Int), .int .i64 (s.size : Int), .int .i64 (s.size : Int), .int .i64 (s.size : Int), .int .i64 61] 3)) w.heap.size R L (q3 + 1 + 1) := hrd3.alloc _
        have g_v4 : w1.grownBy (v3.alloc (.cells #[.int .i64 (s.size : Int), .int .i64 (s.size : Int), .int .i64 (s.size : Int), .int .i64 (s.size : Int), .int .i64 (s.size : Int), .int .i64 (s.size : Int), .int .i64 (s.size : Int), .int .i64 61] 3)) (some R) := grown_trans hg (World.grownBy_alloc v3 (.cells #[.int .i64 (s.size : Int), .int .i64 (s.size : Int), .int .i64 (s.size : Int), .int .i64 (s.size : Int), .int .i64 (s.size : Int), .int .i64 (s.size : Int), .int .i64 (s.size : Int), .int .i64 61] 3) (some R))
        have L18_v4 : LstAt (v3.alloc (.cells #[.int .i64 (s.size : Int), .int .i64 (s.size : Int), .int .i64 (s.size : Int), .int .i64 (s.size : Int), .int .i64 (s.size : Int), .int .i64 (s.size : Int), .int .i64 (s.size : Int), .int .i64 61] 3)) BL18 [(KN : Int), x, x + c, (s.size : Int), 0, (s.size : Int) + 1, -1] := L18.alloc _
        have L36_v4 : LstAt (v3.alloc (.cells #[.int .i64 (s.size : Int), .int .i64 (s.size : Int), .int .i64 (s.size : Int), .int .i64 (s.size : Int), .int .i64 (s.size : Int), .int .i64 (s.size : Int), .int .i64 (s.size : Int), .int .i64 61] 3)) v3.heap.size [(s.size : Int), s.size, s.size, s.size, s.size, s.size, s.size, 61] := LstAt.new v3 [(s.size : Int), s.size, s.size, s.size, s.size, s.size, s.size, 61]
        have nL36 : R < v3.heap.size := hrd3.lt
        generalize (v3.alloc (.cells #[.int .i64 (s.size : Int), .int .i64 (s.size : Int), .int .i64 (s.size : Int), .int .i64 (s.size : Int), .int .i64 (s.size : Int), .int .i64 (s.size : Int), .int .i64 (s.size : Int), .int .i64 61] 3)) = v4 at e_v4 z_v4 r_v4 g_v4 L18_v4 L36_v4 ⊢
        generalize v3.heap.size = BL36 at L36_v4 nL36 ⊢
        refine hK.out _ _ e_v4 (fun hHeld2 => ?_)
        clear hK hHeld he hz hrd3 hg L18
        have he := e_v4
        have hz := z_v4
        have hrd3 := r_v4
        have hg := g_v4
        have L18 := L18_v4
        have L36 := L36_v4
        clear e_v4 z_v4 r_v4 g_v4 L18_v4 L36_v4
        have hHeld := hHeld2
        clear hHeld2
        refine wpAnyH_ready (rs := [37]) (by kernel_rfl) (by simp) ?_
        refine AllReadyH.cons rfl (fun K hK => ?_) AllReadyH.nil
        go_simp
        have hRx := hrd3.lt
        refine (one_any (v4) w.heap.size R L (q3 + 1 + 1) BL36 8 8 [(s.size : Int), s.size, s.size, s.size, s.size, s.size, s.size, 61] hrd3 L36 (by omega) (Lib.hid rfl) (by omega) (by omega) (by omega)).mono ?_
        rintro e v5 ⟨many, rfl, _, r_v5, gr_v5⟩
        have e_v5 := he.overR gr_v5 (by omega)
        have z_v5 := hz.overR gr_v5 (by omega)
        have g_v5 := grown_trans hg gr_v5
        have L18_v5 := L18.overR gr_v5 (by omega)
        have L36_v5 := L36.overR gr_v5 (by omega)
        refine hK.out _ _ e_v5 (fun hHeld2 => ?_)
        clear hK hHeld he hz hrd3 hg hRx L18 L36
        have he := e_v5
        have hz := z_v5
        have hrd3 := r_v5
        have hg := g_v5
        have L18 := L18_v5
        have L36 := L36_v5
        clear e_v5 z_v5 r_v5 g_v5 gr_v5 L18_v5 L36_v5
        have hHeld := hHeld2
        clear hHeld2
        refine reg_take (i := 38) (d := 2) (.int .i64 y) rfl rfl (by kernel_rfl) (by kernel_rfl) (by kernel_rfl) (fun _ _ _ h => h) (by rfl) (by intro wq hq; go_simp) (by assumption) ?_
        simp only [Act.put, List.setIfInBounds_toArray, List.set_cons_zero, List.set_cons_succ]
        have hB9 : Below w.heap.size w v5 := below_next hb0 (below_of_grown (grown_new hgr hg (by have := HR.out; omega)))
        obtain ⟨z0, z1, z2⟩ := hz.cells
        have f1 := hz.free
        have s1 : EdAt (((v5.setCell ⟨w.heap.size, 0, none⟩ (.int .i64 x)).setCell ⟨w.heap.size, 1, none⟩ (.int .i64 c)).setCell ⟨w.heap.size, 2, none⟩ (.string t)) Ga x c t := he.putO (show Ga ≠ w.heap.size by omega) x c t
        have k1 := hz.put x c t
        have hBp : Below w.heap.size w (((v5.setCell ⟨w.heap.size, 0, none⟩ (.int .i64 x)).setCell ⟨w.heap.size, 1, none⟩ (.int .i64 c)).setCell ⟨w.heap.size, 2, none⟩ (.string t)) := below_putE (p := x) (c := c) (t := t) hB9 (Nat.le_refl _)
        refine wpAnyH_ready (rs := [39]) (by kernel_rfl) (by simp) ?_
        refine AllReadyH.cons rfl (fun K hK => ?_) AllReadyH.nil
        go_simp
        refine hK.out _ _ s1 (fun hHeld => ?_)
        clear hK
        refine reg_take (i := 40) (d := 4) (.int .i64 many) rfl rfl (by kernel_rfl) (by kernel_rfl) (by kernel_rfl) (fun _ _ _ h => h) (by rfl) (by intro wq hq; go_simp) (by assumption) ?_
        simp only [Act.put, List.setIfInBounds_toArray, List.set_cons_zero, List.set_cons_succ]
        refine wpAnyH_done (by kernel_rfl) ?_ _
        go_wp2
        simp only [EdAt, putE] at k1
        refine bodyPost_ret (results_scs (P := Try.prog) (fn := Try.f22) (p := 2) (q := 3) (u := 4) (ty := 24) rfl _ _ w.heap.size _ _ _ _ rfl k1 Try.underlying24 rfl (by kernel_rfl)) rfl ?_
        exact ⟨y, x, c, t, many, rfl, ht, hBp⟩
      · skip
        go_simp
        have e_v6 : EdAt (v2.alloc (.cells #[.int .i64 (s.size : Int), .int .i64 (s.size : Int), .int .i64 (s.size : Int), .int .i64 (s.size : Int), .int .i64 (s.size : Int), .int .i64 (s.size : Int), .int .i64 (s.size : Int), .int .i64 61] 3)) Ga x c t := he.alloc _
        have z_v6 : EdAt (v2.alloc (.cells #[.int .i64 (s.size : Int), .int .i64 (s.size : Int), .int .i64 (s.size : Int), .int .i64 (s.size : Int), .int .i64 (s.size : Int), .int .i64 (s.size : Int), .int .i64 (s.size : Int), .int .i64 61] 3)) w.heap.size 0 0 ⟨#[]⟩ := hz.alloc _
        have r_v6 : RD (v2.alloc (.cells #[.int .i64 (s.size : Int), .int .i64 (s.size : Int), .int .i64 (s.size : Int), .int .i64 (s.size : Int), .int .i64 (s.size : Int), .int .i64 (s.size : Int), .int .i64 (s.size : Int), .int .i64 61] 3)) w.heap.size R L (q3 + 1) := hrd3.alloc _
        have g_v6 : w1.grownBy (v2.alloc (.cells #[.int .i64 (s.size : Int), .int .i64 (s.size : Int), .int .i64 (s.size : Int), .int .i64 (s.size : Int), .int .i64 (s.size : Int), .int .i64 (s.size : Int), .int .i64 (s.size : Int), .int .i64 61] 3)) (some R) := grown_trans hg (World.grownBy_alloc v2 (.cells #[.int .i64 (s.size : Int), .int .i64 (s.size : Int), .int .i64 (s.size : Int), .int .i64 (s.size : Int), .int .i64 (s.size : Int), .int .i64 (s.size : Int), .int .i64 (s.size : Int), .int .i64 61] 3) (some R))
        have L18_v6 : LstAt (v2.alloc (.cells #[.int .i64 (s.size : Int), .int .i64 (s.size : Int), .int .i64 (s.size : Int), .int .i64 (s.size : Int), .int .i64 (s.size : Int), .int .i64 (s.size : Int), .int .i64 (s.size : Int), .int .i64 61] 3)) BL18 [(KN : Int), x, x + c, (s.size : Int), 0, (s.size : Int) + 1, -1] := L18.alloc _
        have L36_v6 : LstAt (v2.alloc (.cells #[.int .i64 (s.size : Int), .int .i64 (s.size : Int), .int .i64 (s.size : Int), .int .i64 (s.size : Int), .int .i64 (s.size : Int), .int .i64 (s.size : Int), .int .i64 (s.size : Int), .int .i64 61] 3)) v2.heap.size [(s.size : Int), s.size, s.size, s.size, s.size, s.size, s.size, 61] := LstAt.new v2 [(s.size : Int), s.size, s.size, s.size, s.size, s.size, s.size, 61]
        have nL36 : R < v2.heap.size := hrd3.lt
        generalize (v2.alloc (.cells #[.int .i64 (s.size : Int), .int .i64 (s.size : Int), .int .i64 (s.size : Int), .int .i64 (s.size : Int), .int .i64 (s.size : Int), .int .i64 (s.size : Int), .int .i64 (s.size : Int), .int .i64 61] 3)) = v6 at e_v6 z_v6 r_v6 g_v6 L18_v6 L36_v6 ⊢
        generalize v2.heap.size = BL36 at L36_v6 nL36 ⊢
        refine hK.out _ _ e_v6 (fun hHeld2 => ?_)
        clear hK hHeld he hz hrd3 hg L18
        have he := e_v6
        have hz := z_v6
        have hrd3 := r_v6
        have hg := g_v6
        have L18 := L18_v6
        have L36 := L36_v6
        clear e_v6 z_v6 r_v6 g_v6 L18_v6 L36_v6
        have hHeld := hHeld2
        clear hHeld2
        refine wpAnyH_ready (rs := [19]) (by kernel_rfl) (by simp) ?_
        refine AllReadyH.cons rfl (fun K hK => ?_) AllReadyH.nil
        go_simp
        have hRx := hrd3.lt
        refine (one_any (v6) w.heap.size R L (q3 + 1) BL18 7 7 [(KN : Int), x, x + c, (s.size : Int), 0, (s.size : Int) + 1, -1] hrd3 L18 (by omega) (Lib.hid rfl) (by omega) (by omega) (by omega)).mono ?_
        rintro e v7 ⟨y, rfl, _, r_v7, gr_v7⟩
        have e_v7 := he.overR gr_v7 (by omega)
        have z_v7 := hz.overR gr_v7 (by omega)
        have g_v7 := grown_trans hg gr_v7
        have L18_v7 := L18.overR gr_v7 (by omega)
        have L36_v7 := L36.overR gr_v7 (by omega)
        refine hK.out _ _ e_v7 (fun hHeld2 => ?_)
        clear hK hHeld he hz hrd3 hg hRx L18 L36
        have he := e_v7
        have hz := z_v7
        have hrd3 := r_v7
        have hg := g_v7
        have L18 := L18_v7
        have L36 := L36_v7
        clear e_v7 z_v7 r_v7 g_v7 gr_v7 L18_v7 L36_v7
        have hHeld := hHeld2
        clear hHeld2
        refine wpAnyH_ready (rs := [37]) (by kernel_rfl) (by simp) ?_
        refine AllReadyH.cons rfl (fun K hK => ?_) AllReadyH.nil
        go_simp
        have hRx := hrd3.lt
        refine (one_any (v7) w.heap.size R L (q3 + 1 + 1) BL36 8 8 [(s.size : Int), s.size, s.size, s.size, s.size, s.size, s.size, 61] hrd3 L36 (by omega) (Lib.hid rfl) (by omega) (by omega) (by omega)).mono ?_
        rintro e v8 ⟨many, rfl, _, r_v8, gr_v8⟩
        have e_v8 := he.overR gr_v8 (by omega)
        have z_v8 := hz.overR gr_v8 (by omega)
        have g_v8 := grown_trans hg gr_v8
        have L18_v8 := L18.overR gr_v8 (by omega)
        have L36_v8 := L36.overR gr_v8 (by omega)
        refine hK.out _ _ e_v8 (fun hHeld2 => ?_)
        clear hK hHeld he hz hrd3 hg hRx L18 L36
        have he := e_v8
        have hz := z_v8
        have hrd3 := r_v8
        have hg := g_v8
        have L18 := L18_v8
        have L36 := L36_v8
        clear e_v8 z_v8 r_v8 g_v8 gr_v8 L18_v8 L36_v8
        have hHeld := hHeld2
        clear hHeld2
        refine reg_take (i := 38) (d := 2) (.int .i64 y) rfl rfl (by kernel_rfl) (by kernel_rfl) (by kernel_rfl) (fun _ _ _ h => h) (by rfl) (by intro wq hq; go_simp) (by assumption) ?_
        simp only [Act.put, List.setIfInBounds_toArray, List.set_cons_zero, List.set_cons_succ]
        have hB9 : Below w.heap.size w v8 := below_next hb0 (below_of_grown (grown_new hgr hg (by have := HR.out; omega)))
        obtain ⟨z0, z1, z2⟩ := hz.cells
        have f1 := hz.free
        have s1 : EdAt (((v8.setCell ⟨w.heap.size, 0, none⟩ (.int .i64 x)).setCell ⟨w.heap.size, 1, none⟩ (.int .i64 c)).setCell ⟨w.heap.size, 2, none⟩ (.string t)) Ga x c t := he.putO (show Ga ≠ w.heap.size by omega) x c t
        have k1 := hz.put x c t
        have hBp : Below w.heap.size w (((v8.setCell ⟨w.heap.size, 0, none⟩ (.int .i64 x)).setCell ⟨w.heap.size, 1, none⟩ (.int .i64 c)).setCell ⟨w.heap.size, 2, none⟩ (.string t)) := below_putE (p := x) (c := c) (t := t) hB9 (Nat.le_refl _)
        refine wpAnyH_ready (rs := [39]) (by kernel_rfl) (by simp) ?_
        refine AllReadyH.cons rfl (fun K hK => ?_) AllReadyH.nil
        go_simp
        refine hK.out _ _ s1 (fun hHeld => ?_)
        clear hK
        refine reg_take (i := 40) (d := 4) (.int .i64 many) rfl rfl (by kernel_rfl) (by kernel_rfl) (by kernel_rfl) (fun _ _ _ h => h) (by rfl) (by intro wq hq; go_simp) (by assumption) ?_
        simp only [Act.put, List.setIfInBounds_toArray, List.set_cons_zero, List.set_cons_succ]
        refine wpAnyH_done (by kernel_rfl) ?_ _
        go_wp2
        simp only [EdAt, putE] at k1
        refine bodyPost_ret (results_scs (P := Try.prog) (fn := Try.f22) (p := 2) (q := 3) (u := 4) (ty := 24) rfl _ _ w.heap.size _ _ _ _ rfl k1 Try.underlying24 rfl (by kernel_rfl)) rfl ?_
        exact ⟨y, x, c, t, many, rfl, ht, hBp⟩
    · skip
      go_simp
      have e_v9 : EdAt (v1.alloc (.cells #[.int .i64 (s.size : Int), .int .i64 (s.size : Int), .int .i64 (s.size : Int), .int .i64 (s.size : Int), .int .i64 (s.size : Int), .int .i64 (s.size : Int), .int .i64 (s.size : Int), .int .i64 61] 3)) Ga x c t := he.alloc _
      have z_v9 : EdAt (v1.alloc (.cells #[.int .i64 (s.size : Int), .int .i64 (s.size : Int), .int .i64 (s.size : Int), .int .i64 (s.size : Int), .int .i64 (s.size : Int), .int .i64 (s.size : Int), .int .i64 (s.size : Int), .int .i64 61] 3)) w.heap.size 0 0 ⟨#[]⟩ := hz.alloc _
      have r_v9 : RD (v1.alloc (.cells #[.int .i64 (s.size : Int), .int .i64 (s.size : Int), .int .i64 (s.size : Int), .int .i64 (s.size : Int), .int .i64 (s.size : Int), .int .i64 (s.size : Int), .int .i64 (s.size : Int), .int .i64 61] 3)) w.heap.size R L (q3 + 1) := hrd3.alloc _
      have g_v9 : w1.grownBy (v1.alloc (.cells #[.int .i64 (s.size : Int), .int .i64 (s.size : Int), .int .i64 (s.size : Int), .int .i64 (s.size : Int), .int .i64 (s.size : Int), .int .i64 (s.size : Int), .int .i64 (s.size : Int), .int .i64 61] 3)) (some R) := grown_trans hg (World.grownBy_alloc v1 (.cells #[.int .i64 (s.size : Int), .int .i64 (s.size : Int), .int .i64 (s.size : Int), .int .i64 (s.size : Int), .int .i64 (s.size : Int), .int .i64 (s.size : Int), .int .i64 (s.size : Int), .int .i64 61] 3) (some R))
      have L36_v9 : LstAt (v1.alloc (.cells #[.int .i64 (s.size : Int), .int .i64 (s.size : Int), .int .i64 (s.size : Int), .int .i64 (s.size : Int), .int .i64 (s.size : Int), .int .i64 (s.size : Int), .int .i64 (s.size : Int), .int .i64 61] 3)) v1.heap.size [(s.size : Int), s.size, s.size, s.size, s.size, s.size, s.size, 61] := LstAt.new v1 [(s.size : Int), s.size, s.size, s.size, s.size, s.size, s.size, 61]
      have nL36 : R < v1.heap.size := hrd3.lt
      generalize (v1.alloc (.cells #[.int .i64 (s.size : Int), .int .i64 (s.size : Int), .int .i64 (s.size : Int), .int .i64 (s.size : Int), .int .i64 (s.size : Int), .int .i64 (s.size : Int), .int .i64 (s.size : Int), .int .i64 61] 3)) = v9 at e_v9 z_v9 r_v9 g_v9  L36_v9 ⊢
      generalize v1.heap.size = BL36 at L36_v9 nL36 ⊢
      refine hK.out _ _ e_v9 (fun hHeld2 => ?_)
      clear hK hHeld he hz hrd3 hg 
      have he := e_v9
      have hz := z_v9
      have hrd3 := r_v9
      have hg := g_v9
      have L36 := L36_v9
      clear e_v9 z_v9 r_v9 g_v9  L36_v9
      have hHeld := hHeld2
      clear hHeld2
      refine wpAnyH_ready (rs := [18]) (by kernel_rfl) (by simp) ?_
      refine AllReadyH.cons rfl (fun K hK => ?_) AllReadyH.nil
      go_simp
      have e_v10 : EdAt (v9.alloc (.cells #[.int .i64 (KN : Int), .int .i64 x, .int .i64 (x + c), .int .i64 (s.size : Int), .int .i64 0, .int .i64 ((s.size : Int) + 1), .int .i64 (-1)] 3)) Ga x c t := he.alloc _
      have z_v10 : EdAt (v9.alloc (.cells #[.int .i64 (KN : Int), .int .i64 x, .int .i64 (x + c), .int .i64 (s.size : Int), .int .i64 0, .int .i64 ((s.size : Int) + 1), .int .i64 (-1)] 3)) w.heap.size 0 0 ⟨#[]⟩ := hz.alloc _
      have r_v10 : RD (v9.alloc (.cells #[.int .i64 (KN : Int), .int .i64 x, .int .i64 (x + c), .int .i64 (s.size : Int), .int .i64 0, .int .i64 ((s.size : Int) + 1), .int .i64 (-1)] 3)) w.heap.size R L (q3 + 1) := hrd3.alloc _
      have g_v10 : w1.grownBy (v9.alloc (.cells #[.int .i64 (KN : Int), .int .i64 x, .int .i64 (x + c), .int .i64 (s.size : Int), .int .i64 0, .int .i64 ((s.size : Int) + 1), .int .i64 (-1)] 3)) (some R) := grown_trans hg (World.grownBy_alloc v9 (.cells #[.int .i64 (KN : Int), .int .i64 x, .int .i64 (x + c), .int .i64 (s.size : Int), .int .i64 0, .int .i64 ((s.size : Int) + 1), .int .i64 (-1)] 3) (some R))
      have L36_v10 : LstAt (v9.alloc (.cells #[.int .i64 (KN : Int), .int .i64 x, .int .i64 (x + c), .int .i64 (s.size : Int), .int .i64 0, .int .i64 ((s.size : Int) + 1), .int .i64 (-1)] 3)) BL36 [(s.size : Int), s.size, s.size, s.size, s.size, s.size, s.size, 61] := L36.alloc _
      have L18_v10 : LstAt (v9.alloc (.cells #[.int .i64 (KN : Int), .int .i64 x, .int .i64 (x + c), .int .i64 (s.size : Int), .int .i64 0, .int .i64 ((s.size : Int) + 1), .int .i64 (-1)] 3)) v9.heap.size [(KN : Int), x, x + c, (s.size : Int), 0, (s.size : Int) + 1, -1] := LstAt.new v9 [(KN : Int), x, x + c, (s.size : Int), 0, (s.size : Int) + 1, -1]
      have nL18 : R < v9.heap.size := hrd3.lt
      generalize (v9.alloc (.cells #[.int .i64 (KN : Int), .int .i64 x, .int .i64 (x + c), .int .i64 (s.size : Int), .int .i64 0, .int .i64 ((s.size : Int) + 1), .int .i64 (-1)] 3)) = v10 at e_v10 z_v10 r_v10 g_v10 L36_v10 L18_v10 ⊢
      generalize v9.heap.size = BL18 at L18_v10 nL18 ⊢
      refine hK.out _ _ e_v10 (fun hHeld2 => ?_)
      clear hK hHeld he hz hrd3 hg L36
      have he := e_v10
      have hz := z_v10
      have hrd3 := r_v10
      have hg := g_v10
      have L36 := L36_v10
      have L18 := L18_v10
      clear e_v10 z_v10 r_v10 g_v10 L36_v10 L18_v10
      have hHeld := hHeld2
      clear hHeld2
      refine wpAnyH_ready (rs := [19]) (by kernel_rfl) (by simp) ?_
      refine AllReadyH.cons rfl (fun K hK => ?_) AllReadyH.nil
      go_simp
      have hRx := hrd3.lt
      refine (one_any (v10) w.heap.size R L (q3 + 1) BL18 7 7 [(KN : Int), x, x + c, (s.size : Int), 0, (s.size : Int) + 1, -1] hrd3 L18 (by omega) (Lib.hid rfl) (by omega) (by omega) (by omega)).mono ?_
      rintro e v11 ⟨y, rfl, _, r_v11, gr_v11⟩
      have e_v11 := he.overR gr_v11 (by omega)
      have z_v11 := hz.overR gr_v11 (by omega)
      have g_v11 := grown_trans hg gr_v11
      have L36_v11 := L36.overR gr_v11 (by omega)
      have L18_v11 := L18.overR gr_v11 (by omega)
      refine hK.out _ _ e_v11 (fun hHeld2 => ?_)
      clear hK hHeld he hz hrd3 hg hRx L36 L18
      have he := e_v11
      have hz := z_v11
      have hrd3 := r_v11
      have hg := g_v11
      have L36 := L36_v11
      have L18 := L18_v11
      clear e_v11 z_v11 r_v11 g_v11 gr_v11 L36_v11 L18_v11
      have hHeld := hHeld2
      clear hHeld2
      refine wpAnyH_ready (rs := [37]) (by kernel_rfl) (by simp) ?_
      refine AllReadyH.cons rfl (fun K hK => ?_) AllReadyH.nil
      go_simp
      have hRx := hrd3.lt
      refine (one_any (v11) w.heap.size R L (q3 + 1 + 1) BL36 8 8 [(s.size : Int), s.size, s.size, s.size, s.size, s.size, s.size, 61] hrd3 L36 (by omega) (Lib.hid rfl) (by omega) (by omega) (by omega)).mono ?_
      rintro e v12 ⟨many, rfl, _, r_v12, gr_v12⟩
      have e_v12 := he.overR gr_v12 (by omega)
      have z_v12 := hz.overR gr_v12 (by omega)
      have g_v12 := grown_trans hg gr_v12
      have L36_v12 := L36.overR gr_v12 (by omega)
      have L18_v12 := L18.overR gr_v12 (by omega)
      refine hK.out _ _ e_v12 (fun hHeld2 => ?_)
      clear hK hHeld he hz hrd3 hg hRx L36 L18
      have he := e_v12
      have hz := z_v12
      have hrd3 := r_v12
      have hg := g_v12
      have L36 := L36_v12
      have L18 := L18_v12
      clear e_v12 z_v12 r_v12 g_v12 gr_v12 L36_v12 L18_v12
      have hHeld := hHeld2
      clear hHeld2
      refine reg_take (i := 38) (d := 2) (.int .i64 y) rfl rfl (by kernel_rfl) (by kernel_rfl) (by kernel_rfl) (fun _ _ _ h => h) (by rfl) (by intro wq hq; go_simp) (by assumption) ?_
      simp only [Act.put, List.setIfInBounds_toArray, List.set_cons_zero, List.set_cons_succ]
      have hB9 : Below w.heap.size w v12 := below_next hb0 (below_of_grown (grown_new hgr hg (by have := HR.out; omega)))
      obtain ⟨z0, z1, z2⟩ := hz.cells
      have f1 := hz.free
      have s1 : EdAt (((v12.setCell ⟨w.heap.size, 0, none⟩ (.int .i64 x)).setCell ⟨w.heap.size, 1, none⟩ (.int .i64 c)).setCell ⟨w.heap.size, 2, none⟩ (.string t)) Ga x c t := he.putO (show Ga ≠ w.heap.size by omega) x c t
      have k1 := hz.put x c t
      have hBp : Below w.heap.size w (((v12.setCell ⟨w.heap.size, 0, none⟩ (.int .i64 x)).setCell ⟨w.heap.size, 1, none⟩ (.int .i64 c)).setCell ⟨w.heap.size, 2, none⟩ (.string t)) := below_putE (p := x) (c := c) (t := t) hB9 (Nat.le_refl _)
      refine wpAnyH_ready (rs := [39]) (by kernel_rfl) (by simp) ?_
      refine AllReadyH.cons rfl (fun K hK => ?_) AllReadyH.nil
      go_simp
      refine hK.out _ _ s1 (fun hHeld => ?_)
      clear hK
      refine reg_take (i := 40) (d := 4) (.int .i64 many) rfl rfl (by kernel_rfl) (by kernel_rfl) (by kernel_rfl) (fun _ _ _ h => h) (by rfl) (by intro wq hq; go_simp) (by assumption) ?_
      simp only [Act.put, List.setIfInBounds_toArray, List.set_cons_zero, List.set_cons_succ]
      refine wpAnyH_done (by kernel_rfl) ?_ _
      go_wp2
      simp only [EdAt, putE] at k1
      refine bodyPost_ret (results_scs (P := Try.prog) (fn := Try.f22) (p := 2) (q := 3) (u := 4) (ty := 24) rfl _ _ w.heap.size _ _ _ _ rfl k1 Try.underlying24 rfl (by kernel_rfl)) rfl ?_
      exact ⟨y, x, c, t, many, rfl, ht, hBp⟩
  · skip
    go_simp
    have e_v13 : EdAt (w7.alloc (.cells #[.int .i64 (s.size : Int), .int .i64 (s.size : Int), .int .i64 (s.size : Int), .int .i64 (s.size : Int), .int .i64 (s.size : Int), .int .i64 (s.size : Int), .int .i64 (s.size : Int), .int .i64 61] 3)) Ga x c t := he.alloc _
    have z_v13 : EdAt (w7.alloc (.cells #[.int .i64 (s.size : Int), .int .i64 (s.size : Int), .int .i64 (s.size : Int), .int .i64 (s.size : Int), .int .i64 (s.size : Int), .int .i64 (s.size : Int), .int .i64 (s.size : Int), .int .i64 61] 3)) w.heap.size 0 0 ⟨#[]⟩ := hz.alloc _
    have r_v13 : RD (w7.alloc (.cells #[.int .i64 (s.size : Int), .int .i64 (s.size : Int), .int .i64 (s.size : Int), .int .i64 (s.size : Int), .int .i64 (s.size : Int), .int .i64 (s.size : Int), .int .i64 (s.size : Int), .int .i64 61] 3)) w.heap.size R L (q3) := hrd3.alloc _
    have g_v13 : w1.grownBy (w7.alloc (.cells #[.int .i64 (s.size : Int), .int .i64 (s.size : Int), .int .i64 (s.size : Int), .int .i64 (s.size : Int), .int .i64 (s.size : Int), .int .i64 (s.size : Int), .int .i64 (s.size : Int), .int .i64 61] 3)) (some R) := grown_trans hg (World.grownBy_alloc w7 (.cells #[.int .i64 (s.size : Int), .int .i64 (s.size : Int), .int .i64 (s.size : Int), .int .i64 (s.size : Int), .int .i64 (s.size : Int), .int .i64 (s.size : Int), .int .i64 (s.size : Int), .int .i64 61] 3) (some R))
    have L36_v13 : LstAt (w7.alloc (.cells #[.int .i64 (s.size : Int), .int .i64 (s.size : Int), .int .i64 (s.size : Int), .int .i64 (s.size : Int), .int .i64 (s.size : Int), .int .i64 (s.size : Int), .int .i64 (s.size : Int), .int .i64 61] 3)) w7.heap.size [(s.size : Int), s.size, s.size, s.size, s.size, s.size, s.size, 61] := LstAt.new w7 [(s.size : Int), s.size, s.size, s.size, s.size, s.size, s.size, 61]
    have nL36 : R < w7.heap.size := hrd3.lt
    generalize (w7.alloc (.cells #[.int .i64 (s.size : Int), .int .i64 (s.size : Int), .int .i64 (s.size : Int), .int .i64 (s.size : Int), .int .i64 (s.size : Int), .int .i64 (s.size : Int), .int .i64 (s.size : Int), .int .i64 61] 3)) = v13 at e_v13 z_v13 r_v13 g_v13  L36_v13 ⊢
    generalize w7.heap.size = BL36 at L36_v13 nL36 ⊢
    refine hK.out _ _ e_v13 (fun hHeld2 => ?_)
    clear hK hHeld he hz hrd3 hg 
    have he := e_v13
    have hz := z_v13
    have hrd3 := r_v13
    have hg := g_v13
    have L36 := L36_v13
    clear e_v13 z_v13 r_v13 g_v13  L36_v13
    have hHeld := hHeld2
    clear hHeld2
    refine wpAnyH_ready (rs := [5]) (by kernel_rfl) (by simp) ?_
    refine AllReadyH.cons rfl (fun K hK => ?_) AllReadyH.nil
    go_simp
    have hRx := hrd3.lt
    refine (pick_any (v13) w.heap.size R L (q3) _ hrd3 (by omega) (by omega) (by omega)).mono ?_
    rintro e v14 ⟨KN, rfl, hK5, r_v14, gr_v14⟩
    have e_v14 := he.overR gr_v14 (by omega)
    have z_v14 := hz.overR gr_v14 (by omega)
    have g_v14 := grown_trans hg gr_v14
    have L36_v14 := L36.overR gr_v14 (by omega)
    refine hK.out _ _ e_v14 (fun hHeld2 => ?_)
    clear hK hHeld he hz hrd3 hg hRx L36
    have he := e_v14
    have hz := z_v14
    have hrd3 := r_v14
    have hg := g_v14
    have L36 := L36_v14
    clear e_v14 z_v14 r_v14 g_v14 gr_v14 L36_v14
    have hHeld := hHeld2
    clear hHeld2
    refine wpAnyH_ready (rs := [18]) (by kernel_rfl) (by simp) ?_
    refine AllReadyH.cons rfl (fun K hK => ?_) AllReadyH.nil
    go_simp
    have e_v15 : EdAt (v14.alloc (.cells #[.int .i64 (KN : Int), .int .i64 x, .int .i64 (x + c), .int .i64 (s.size : Int), .int .i64 0, .int .i64 ((s.size : Int) + 1), .int .i64 (-1)] 3)) Ga x c t := he.alloc _
    have z_v15 : EdAt (v14.alloc (.cells #[.int .i64 (KN : Int), .int .i64 x, .int .i64 (x + c), .int .i64 (s.size : Int), .int .i64 0, .int .i64 ((s.size : Int) + 1), .int .i64 (-1)] 3)) w.heap.size 0 0 ⟨#[]⟩ := hz.alloc _
    have r_v15 : RD (v14.alloc (.cells #[.int .i64 (KN : Int), .int .i64 x, .int .i64 (x + c), .int .i64 (s.size : Int), .int .i64 0, .int .i64 ((s.size : Int) + 1), .int .i64 (-1)] 3)) w.heap.size R L (q3 + 1) := hrd3.alloc _
    have g_v15 : w1.grownBy (v14.alloc (.cells #[.int .i64 (KN : Int), .int .i64 x, .int .i64 (x + c), .int .i64 (s.size : Int), .int .i64 0, .int .i64 ((s.size : Int) + 1), .int .i64 (-1)] 3)) (some R) := grown_trans hg (World.grownBy_alloc v14 (.cells #[.int .i64 (KN : Int), .int .i64 x, .int .i64 (x + c), .int .i64 (s.size : Int), .int .i64 0, .int .i64 ((s.size : Int) + 1), .int .i64 (-1)] 3) (some R))
    have L36_v15 : LstAt (v14.alloc (.cells #[.int .i64 (KN : Int), .int .i64 x, .int .i64 (x + c), .int .i64 (s.size : Int), .int .i64 0, .int .i64 ((s.size : Int) + 1), .int .i64 (-1)] 3)) BL36 [(s.size : Int), s.size, s.size, s.size, s.size, s.size, s.size, 61] := L36.alloc _
    have L18_v15 : LstAt (v14.alloc (.cells #[.int .i64 (KN : Int), .int .i64 x, .int .i64 (x + c), .int .i64 (s.size : Int), .int .i64 0, .int .i64 ((s.size : Int) + 1), .int .i64 (-1)] 3)) v14.heap.size [(KN : Int), x, x + c, (s.size : Int), 0, (s.size : Int) + 1, -1] := LstAt.new v14 [(KN : Int), x, x + c, (s.size : Int), 0, (s.size : Int) + 1, -1]
    have nL18 : R < v14.heap.size := hrd3.lt
    generalize (v14.alloc (.cells #[.int .i64 (KN : Int), .int .i64 x, .int .i64 (x + c), .int .i64 (s.size : Int), .int .i64 0, .int .i64 ((s.size : Int) + 1), .int .i64 (-1)] 3)) = v15 at e_v15 z_v15 r_v15 g_v15 L36_v15 L18_v15 ⊢
    generalize v14.heap.size = BL18 at L18_v15 nL18 ⊢
    refine hK.out _ _ e_v15 (fun hHeld2 => ?_)
    clear hK hHeld he hz hrd3 hg L36
    have he := e_v15
    have hz := z_v15
    have hrd3 := r_v15
    have hg := g_v15
    have L36 := L36_v15
    have L18 := L18_v15
    clear e_v15 z_v15 r_v15 g_v15 L36_v15 L18_v15
    have hHeld := hHeld2
    clear hHeld2
    refine wpAnyH_ready (rs := [19]) (by kernel_rfl) (by simp) ?_
    refine AllReadyH.cons rfl (fun K hK => ?_) AllReadyH.nil
    go_simp
    have hRx := hrd3.lt
    refine (one_any (v15) w.heap.size R L (q3 + 1) BL18 7 7 [(KN : Int), x, x + c, (s.size : Int), 0, (s.size : Int) + 1, -1] hrd3 L18 (by omega) (Lib.hid rfl) (by omega) (by omega) (by omega)).mono ?_
    rintro e v16 ⟨y, rfl, _, r_v16, gr_v16⟩
    have e_v16 := he.overR gr_v16 (by omega)
    have z_v16 := hz.overR gr_v16 (by omega)
    have g_v16 := grown_trans hg gr_v16
    have L36_v16 := L36.overR gr_v16 (by omega)
    have L18_v16 := L18.overR gr_v16 (by omega)
    refine hK.out _ _ e_v16 (fun hHeld2 => ?_)
    clear hK hHeld he hz hrd3 hg hRx L36 L18
    have he := e_v16
    have hz := z_v16
    have hrd3 := r_v16
    have hg := g_v16
    have L36 := L36_v16
    have L18 := L18_v16
    clear e_v16 z_v16 r_v16 g_v16 gr_v16 L36_v16 L18_v16
    have hHeld := hHeld2
    clear hHeld2
    refine wpAnyH_ready (rs := [37]) (by kernel_rfl) (by simp) ?_
    refine AllReadyH.cons rfl (fun K hK => ?_) AllReadyH.nil
    go_simp
    have hRx := hrd3.lt
    refine (one_any (v16) w.heap.size R L (q3 + 1 + 1) BL36 8 8 [(s.size : Int), s.size, s.size, s.size, s.size, s.size, s.size, 61] hrd3 L36 (by omega) (Lib.hid rfl) (by omega) (by omega) (by omega)).mono ?_
    rintro e v17 ⟨many, rfl, _, r_v17, gr_v17⟩
    have e_v17 := he.overR gr_v17 (by omega)
    have z_v17 := hz.overR gr_v17 (by omega)
    have g_v17 := grown_trans hg gr_v17
    have L36_v17 := L36.overR gr_v17 (by omega)
    have L18_v17 := L18.overR gr_v17 (by omega)
    refine hK.out _ _ e_v17 (fun hHeld2 => ?_)
    clear hK hHeld he hz hrd3 hg hRx L36 L18
    have he := e_v17
    have hz := z_v17
    have hrd3 := r_v17
    have hg := g_v17
    have L36 := L36_v17
    have L18 := L18_v17
    clear e_v17 z_v17 r_v17 g_v17 gr_v17 L36_v17 L18_v17
    have hHeld := hHeld2
    clear hHeld2
    refine reg_take (i := 38) (d := 2) (.int .i64 y) rfl rfl (by kernel_rfl) (by kernel_rfl) (by kernel_rfl) (fun _ _ _ h => h) (by rfl) (by intro wq hq; go_simp) (by assumption) ?_
    simp only [Act.put, List.setIfInBounds_toArray, List.set_cons_zero, List.set_cons_succ]
    have hB9 : Below w.heap.size w v17 := below_next hb0 (below_of_grown (grown_new hgr hg (by have := HR.out; omega)))
    obtain ⟨z0, z1, z2⟩ := hz.cells
    have f1 := hz.free
    have s1 : EdAt (((v17.setCell ⟨w.heap.size, 0, none⟩ (.int .i64 x)).setCell ⟨w.heap.size, 1, none⟩ (.int .i64 c)).setCell ⟨w.heap.size, 2, none⟩ (.string t)) Ga x c t := he.putO (show Ga ≠ w.heap.size by omega) x c t
    have k1 := hz.put x c t
    have hBp : Below w.heap.size w (((v17.setCell ⟨w.heap.size, 0, none⟩ (.int .i64 x)).setCell ⟨w.heap.size, 1, none⟩ (.int .i64 c)).setCell ⟨w.heap.size, 2, none⟩ (.string t)) := below_putE (p := x) (c := c) (t := t) hB9 (Nat.le_refl _)
    refine wpAnyH_ready (rs := [39]) (by kernel_rfl) (by simp) ?_
    refine AllReadyH.cons rfl (fun K hK => ?_) AllReadyH.nil
    go_simp
    refine hK.out _ _ s1 (fun hHeld => ?_)
    clear hK
    refine reg_take (i := 40) (d := 4) (.int .i64 many) rfl rfl (by kernel_rfl) (by kernel_rfl) (by kernel_rfl) (fun _ _ _ h => h) (by rfl) (by intro wq hq; go_simp) (by assumption) ?_
    simp only [Act.put, List.setIfInBounds_toArray, List.set_cons_zero, List.set_cons_succ]
    refine wpAnyH_done (by kernel_rfl) ?_ _
    go_wp2
    simp only [EdAt, putE] at k1
    refine bodyPost_ret (results_scs (P := Try.prog) (fn := Try.f22) (p := 2) (q := 3) (u := 4) (ty := 24) rfl _ _ w.heap.size _ _ _ _ rfl k1 Try.underlying24 rfl (by kernel_rfl)) rfl ?_
    exact ⟨y, x, c, t, many, rfl, ht, hBp⟩
end Go.Proofs.Ythlamidlcbnchaa
