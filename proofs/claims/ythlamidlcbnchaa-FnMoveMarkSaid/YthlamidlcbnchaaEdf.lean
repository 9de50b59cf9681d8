
/- The draws of a text and an edit. -/
import Derived.Test.YthlamidlcbnchaaEdd
namespace Go.Proofs.Ythlamidlcbnchaa
open Go.RowKit

theorem results_tmp_cell {P : Program} {fn : Func} {p u : Tmp} {ty : TypeId} (h : fn.results = #[.tmp u, .cell p ty]) (tmps : Array Value) (w : World) (g : Nat) (t : TypeId) (cs : Array Value) (fr : Nat × Nat) (d : TypeDesc)
    (hp : tmps.getD p undef = .pointer (some ⟨g, 0, none⟩)) (hg : w.heap[g]? = some (.cells cs t fr))
    (hu : P.underlying ty = some d) (hd : (match d with | .struct _ | .array _ _ => true | _ => false) = true) (hi : (P.info? ty).map (·.size) = some cs.size) :
    (results fn tmps).run P w = .ok (.tuple #[tmps.getD u undef, .agg cs]) w := by
  have hp' : tmps[p]?.getD undef = .pointer (some ⟨g, 0, none⟩) := by simpa using hp
  simp [results, h, hp', asAddr, run_loadVar_row w g t ty cs fr d hg hu hd hi]
/-- a text and an edit that were drawn -/
def StrEd (w : World) (e : Ending) (w' : World) : Prop :=
  ∃ (s : ByteArray) (x c : Int) (t : ByteArray), e = .returned (.tuple #[.string s, edV x c t]) ∧ s.size ≤ 520 ∧ t.size ≤ 60 ∧ Below w.heap.size w w'
set_option maxHeartbeats 2000000 in
theorem drawApplyEdit_any (w : World) (B : Nat) (a : Option Addr) (len cap : Nat) (h1 : BytesAt w B (.slice a len cap) len) (hBw : B ≤ w.heap.size) (h2 : len ≤ cap) (h3 : cap ≤ maxLen) :
    Calls Try.prog 14 #[.slice a len cap] w fun e w' => StrEd w e w' := by
  have hz0 := EdAt.new w 0 0 ⟨#[]⟩
  have hb0 : Below w.heap.size w (w.alloc (.cells #[.int .i64 0, .int .i64 0, .string ⟨#[]⟩] 24)) := (Below.refl _ _).alloc (Nat.le_refl _) _
  have hq1 : BytesAt (w.alloc (.cells #[.int .i64 0, .int .i64 0, .string ⟨#[]⟩] 24)) B (.slice a len cap) len := h1.of_below (fun k hk => hb0.block k (by omega))
  have hsz : Hid ((w.alloc (.cells #[.int .i64 0, .int .i64 0, .string ⟨#[]⟩] 24)).heap.size = w.heap.size + 1) := World.size_alloc _ _
  clear h1
  go_enter Try.func14, Try.ntmps14
  go_wp2_with fail
  generalize (w.alloc (.cells #[.int .i64 0, .int .i64 0, .string ⟨#[]⟩] 24)) = w0 at hz0 hb0 hq1 hsz ⊢
  refine (newReader_any w0 B a len cap hq1 (by have := hsz.out; omega) h2 h3).mono ?_
  rintro e w1 ⟨L, rfl, hrd, hgr⟩
  have hz1 := hz0.below (below_of_grown hgr) hz0.lt
  have hb1 := below_next hb0 (below_of_grown hgr)
  go_wp2_with fail
  refine (anyText_any w1 B w0.heap.size L 0 hrd (by omega)).mono ?_
  rintro e w2 ⟨s, q, rfl, hs, hrd2, hq, hgr2⟩
  have hz2 := hz1.overR hgr2 (by have := hsz.out; omega)
  go_wp2_with fail
  refine (anyEdit_any w2 B w0.heap.size L q s hrd2 (by omega) (by omega)).mono ?_
  rintro e w3 ⟨x, c, t, q3, rfl, _, _, ht, hrd3, _, hgr3⟩
  have hz3 := hz2.overR hgr3 (by have := hsz.out; omega)
  have hB : Below w.heap.size w w3 := below_next hb0 (below_of_grown (grown_new hgr (grown_trans hgr2 hgr3) (Nat.le_refl _)))
  have f := hz3.free
  obtain ⟨z0, z1, z2⟩ := hz3.cells
  clear hz0 hz1 hz2 hb0 hb1 hgr hgr2 hgr3 hrd hrd2 hrd3
  go_wp2
  have hk := hz3.put x c t
  have hBp := below_putE (p := x) (c := c) (t := t) hB (Nat.le_refl _)
  simp only [EdAt, putE] at hk
  refine bodyPost_ret (results_tmp_cell (P := Try.prog) (fn := Try.f14) (p := 3) (u := 2) (ty := 24) rfl _ _ w.heap.size _ _ _ _ rfl hk Try.underlying24 rfl (by kernel_rfl)) rfl ?_
  exact ⟨s, x, c, t, rfl, hs, ht, hBp⟩
theorem drawInvertEdit_any (w : World) (a : Option Addr) (len cap : Nat) (zs : List Int) (h : RowIn .u8 w a len cap zs) :
    Calls Try.prog 18 #[.slice a len cap] w fun e w' => StrEd w e w' := by
  obtain ⟨h1, h2, h3⟩ := bytesAt_of_row h
  have hz0 := EdAt.new w 0 0 ⟨#[]⟩
  have hb0 : Below w.heap.size w (w.alloc (.cells #[.int .i64 0, .int .i64 0, .string ⟨#[]⟩] 24)) := (Below.refl _ _).alloc (Nat.le_refl _) _
  have hq1 : BytesAt (w.alloc (.cells #[.int .i64 0, .int .i64 0, .string ⟨#[]⟩] 24)) w.heap.size (.slice a len cap) len := h1.of_below (fun k hk => hb0.block k hk)
  have hsz : Hid ((w.alloc (.cells #[.int .i64 0, .int .i64 0, .string ⟨#[]⟩] 24)).heap.size = w.heap.size + 1) := World.size_alloc _ _
  clear h1 h
  go_enter Try.func18, Try.ntmps18
  go_wp2_with fail
  generalize (w.alloc (.cells #[.int .i64 0, .int .i64 0, .string ⟨#[]⟩] 24)) = w0 at hz0 hb0 hq1 hsz ⊢
  refine (drawApplyEdit_any w0 w.heap.size a len cap hq1 (by have := hsz.out; omega) h2 h3).mono ?_
  rintro e w1 ⟨s, x, c, t, rfl, hs, ht, hb⟩
  have hz1 := hz0.below hb hz0.lt
  have hB := below_next hb0 hb
  have f := hz1.free
  obtain ⟨z0, z1, z2⟩ := hz1.cells
  clear hz0 hb0 hb
  go_wp2
  have hk := hz1.put x c t
  have hBp := below_putE (p := x) (c := c) (t := t) hB (Nat.le_refl _)
  simp only [EdAt, putE] at hk
  refine bodyPost_ret (results_tmp_cell (P := Try.prog) (fn := Try.f18) (p := 3) (u := 2) (ty := 24) rfl _ _ w.heap.size _ _ _ _ rfl hk Try.underlying24 rfl (by kernel_rfl)) rfl ?_
  exact ⟨s, x, c, t, rfl, hs, ht, hBp⟩
end Go.Proofs.Ythlamidlcbnchaa
