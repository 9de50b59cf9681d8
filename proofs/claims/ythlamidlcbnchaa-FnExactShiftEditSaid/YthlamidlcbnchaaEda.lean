
/- Edits: what can be made, on both sides. -/
import Derived.Test.YthlamidlcbnchaaVTB
import Derived.Test.YthlamidlcbnchaaRange
import Derived.IntWalk
namespace Go.Proofs.Ythlamidlcbnchaa
open Go.RowKit

/-- the edit at p that cuts c and puts t can be made in a text of many characters -/
def CanE (p c : Int) (t : ByteArray) (many : Int) : Prop :=
  (0 ≤ many ∧ many ≤ 60) ∧ (0 ≤ p ∧ p ≤ many) ∧ (0 ≤ c ∧ c ≤ many - p) ∧ ValidT t.data.toList ∧ many - c + (t.size : Int) ≤ 60
instance (p c : Int) (t : ByteArray) (many : Int) : Decidable (CanE p c t many) := inferInstanceAs (Decidable (_ ∧ _))
abbrev edV (p c : Int) (t : ByteArray) : Value := .agg #[.int .i64 p, .int .i64 c, .string t]
theorem ValidT.size {t : ByteArray} (h : ValidT t.data.toList) : t.size ≤ 60 := by have := h.1; rw [size_data] at this; exact this
/-- the edit lies in block g -/
def EdAt (w : World) (g : Nat) (p c : Int) (t : ByteArray) : Prop := w.heap[g]? = some (.cells #[.int .i64 p, .int .i64 c, .string t] 24 (0, 0))
theorem EdAt.new (w : World) (p c : Int) (t : ByteArray) : EdAt (w.alloc (.cells #[.int .i64 p, .int .i64 c, .string t] 24)) w.heap.size p c t := heap_alloc_new w _
theorem EdAt.lt {w : World} {g : Nat} {p c : Int} {t : ByteArray} (h : EdAt w g p c t) : g < w.heap.size := (Array.getElem?_eq_some_iff.1 h).1
theorem EdAt.below {w w' : World} {g B : Nat} {p c : Int} {t : ByteArray} (h : EdAt w g p c t) (hb : Below B w w') (hg : g < B) : EdAt w' g p c t := (hb.block g hg).trans h
theorem EdAt.cells {w : World} {g : Nat} {p c : Int} {t : ByteArray} (h : EdAt w g p c t) :
    w.cell? ⟨g, 0, none⟩ = some (.int .i64 p) ∧ w.cell? ⟨g, 1, none⟩ = some (.int .i64 c) ∧ w.cell? ⟨g, 2, none⟩ = some (.string t) := by
  refine ⟨?_, ?_, ?_⟩ <;> (rw [cell_of_row w g _ _ _ _ h]; rfl)
theorem EdAt.free {w : World} {g : Nat} {p c : Int} {t : ByteArray} (h : EdAt w g p c t) (i : Nat) : w.frozen? ⟨g, i, none⟩ = false := frozen_of_row w g i _ _ h
theorem EdAt.alloc {w : World} {g : Nat} {p c : Int} {t : ByteArray} (h : EdAt w g p c t) (o : Obj) : EdAt (w.alloc o) g p c t := h.below ((Below.refl _ _).alloc (Nat.le_refl _) o) h.lt
/-- the edit is written into block g -/
def putE (w : World) (g : Nat) (p c : Int) (t : ByteArray) : World := ((w.setCell ⟨g, 0, none⟩ (.int .i64 p)).setCell ⟨g, 1, none⟩ (.int .i64 c)).setCell ⟨g, 2, none⟩ (.string t)
theorem EdAt.put {w : World} {g : Nat} {p0 c0 : Int} {t0 : ByteArray} (h : EdAt w g p0 c0 t0) (p c : Int) (t : ByteArray) : EdAt (putE w g p c t) g p c t := by
  unfold EdAt at h
  have h0 := heap_setCell_same _ g 0 _ _ (.int .i64 p) h
  have h1 := heap_setCell_same _ g 1 _ _ (.int .i64 c) h0
  have h2 := heap_setCell_same _ g 2 _ _ (.string t) h1
  rw [EdAt, putE, h2]
  simp
theorem EdAt.putO {w : World} {g g2 : Nat} {p c : Int} {t : ByteArray} (h : EdAt w g p c t) (hne : g ≠ g2) (p' c' : Int) (t' : ByteArray) : EdAt (putE w g2 p' c' t') g p c t := by
  unfold EdAt putE at *
  repeat rw [heap_setCell_other _ _ g _ (by simpa using hne)]
  exact h
theorem EdAt.set0 {w : World} {g : Nat} {p c : Int} {t : ByteArray} (h : EdAt w g p c t) (q : Int) : EdAt (w.setCell ⟨g, 0, none⟩ (.int .i64 q)) g q c t := by
  unfold EdAt at *
  rw [heap_setCell_same _ g 0 _ _ (.int .i64 q) h]
  simp
theorem EdAt.setO {w : World} {g g2 : Nat} {p c : Int} {t : ByteArray} (h : EdAt w g p c t) (hne : g ≠ g2) (k : Nat) (u : Value) : EdAt (w.setCell ⟨g2, k, none⟩ u) g p c t := by
  unfold EdAt at *
  rw [heap_setCell_other _ _ g _ (by simpa using hne)]
  exact h
theorem below_putE {B : Nat} {w w1 : World} {g : Nat} {p c : Int} {t : ByteArray} (h : Below B w w1) (hg : B ≤ g) : Below B w (putE w1 g p c t) := by
  unfold putE
  iterate 3 refine Below.setCell ?_ (by exact hg) _
  exact h
theorem ebox1 (w : World) (p c : Int) (t : ByteArray) : EdAt (w.alloc (.cells #[.int .i64 p, .int .i64 c, .string t] 24)) w.heap.size p c t ∧ Below w.heap.size w (w.alloc (.cells #[.int .i64 p, .int .i64 c, .string t] 24)) :=
  ⟨EdAt.new w p c t, (Below.refl _ _).alloc (Nat.le_refl _) _⟩
theorem ebox2 (w : World) (p c : Int) (t : ByteArray) (p2 c2 : Int) (t2 : ByteArray) : EdAt ((w.alloc (.cells #[.int .i64 p, .int .i64 c, .string t] 24)).alloc (.cells #[.int .i64 p2, .int .i64 c2, .string t2] 24)) w.heap.size p c t ∧ EdAt ((w.alloc (.cells #[.int .i64 p, .int .i64 c, .string t] 24)).alloc (.cells #[.int .i64 p2, .int .i64 c2, .string t2] 24)) (w.heap.size + 1) p2 c2 t2 ∧ Below w.heap.size w ((w.alloc (.cells #[.int .i64 p, .int .i64 c, .string t] 24)).alloc (.cells #[.int .i64 p2, .int .i64 c2, .string t2] 24)) := by
  have h := EdAt.new (w.alloc (.cells #[.int .i64 p, .int .i64 c, .string t] 24)) p2 c2 t2
  rw [World.size_alloc] at h
  exact ⟨(EdAt.new w p c t).alloc _, h, ((Below.refl _ _).alloc (Nat.le_refl _) _).alloc (by rw [World.size_alloc]; omega) _⟩
theorem ebox3 (w : World) (p c : Int) (t : ByteArray) (p2 c2 : Int) (t2 : ByteArray) (p3 c3 : Int) (t3 : ByteArray) : EdAt (((w.alloc (.cells #[.int .i64 p, .int .i64 c, .string t] 24)).alloc (.cells #[.int .i64 p2, .int .i64 c2, .string t2] 24)).alloc (.cells #[.int .i64 p3, .int .i64 c3, .string t3] 24)) w.heap.size p c t ∧ EdAt (((w.alloc (.cells #[.int .i64 p, .int .i64 c, .string t] 24)).alloc (.cells #[.int .i64 p2, .int .i64 c2, .string t2] 24)).alloc (.cells #[.int .i64 p3, .int .i64 c3, .string t3] 24)) (w.heap.size + 1) p2 c2 t2 ∧ EdAt (((w.alloc (.cells #[.int .i64 p, .int .i64 c, .string t] 24)).alloc (.cells #[.int .i64 p2, .int .i64 c2, .string t2] 24)).alloc (.cells #[.int .i64 p3, .int .i64 c3, .string t3] 24)) (w.heap.size + 1 + 1) p3 c3 t3 ∧ Below w.heap.size w (((w.alloc (.cells #[.int .i64 p, .int .i64 c, .string t] 24)).alloc (.cells #[.int .i64 p2, .int .i64 c2, .string t2] 24)).alloc (.cells #[.int .i64 p3, .int .i64 c3, .string t3] 24)) := by
  obtain ⟨h1, h2, h3⟩ := ebox2 w p c t p2 c2 t2
  have h := EdAt.new ((w.alloc (.cells #[.int .i64 p, .int .i64 c, .string t] 24)).alloc (.cells #[.int .i64 p2, .int .i64 c2, .string t2] 24)) p3 c3 t3
  rw [World.size_alloc, World.size_alloc] at h
  exact ⟨h1.alloc _, h2.alloc _, h, h3.alloc (by rw [World.size_alloc, World.size_alloc]; omega) _⟩
theorem results_row_tmpE {P : Program} {fn : Func} {p u : Tmp} {ty : TypeId} (h : fn.results = #[.cell p ty, .tmp u]) (tmps : Array Value) (w : World) (g : Nat) (t : TypeId) (cs : Array Value) (fr : Nat × Nat) (d : TypeDesc)
    (hp : tmps.getD p undef = .pointer (some ⟨g, 0, none⟩)) (hg : w.heap[g]? = some (.cells cs t fr))
    (hu : P.underlying ty = some d) (hd : (match d with | .struct _ | .array _ _ => true | _ => false) = true) (hi : (P.info? ty).map (·.size) = some cs.size) :
    (results fn tmps).run P w = .ok (.tuple #[.agg cs, tmps.getD u undef]) w := by
  have hp' : tmps[p]?.getD undef = .pointer (some ⟨g, 0, none⟩) := by simpa using hp
  simp [results, h, hp', asAddr, run_loadVar_row w g t ty cs fr d hg hu hd hi]

theorem results_twoE {fn : Func} {t u : Tmp} (h : fn.results = #[.tmp t, .tmp u]) (tmps : Array Value) (P : Program) (w : World) :
    (results fn tmps).run P w = .ok (.tuple #[tmps.getD t undef, tmps.getD u undef]) w := by
  simp [results, h]
theorem e_within_yes (n lo hi : Int) (w : World) (h0 : lo ≤ n) (h1 : n ≤ hi) :
    Calls Try.prog 44 #[.int .i64 n, .int .i64 lo, .int .i64 hi] w fun e w' => e = .returned (.bool true) ∧ w = w' := by
  have d1 : decide (lo ≤ n) = true := decide_eq_true h0
  have d2 : decide (n ≤ hi) = true := decide_eq_true h1
  go_enter Try.func44, Try.ntmps44
  go_wp2
  go_ret
  exact ⟨rfl, rfl⟩
theorem e_within_no (n lo hi : Int) (w : World) (h : ¬ (lo ≤ n ∧ n ≤ hi)) :
    Calls Try.prog 44 #[.int .i64 n, .int .i64 lo, .int .i64 hi] w fun e w' => e = .returned (.bool false) ∧ w = w' := by
  by_cases h0 : lo ≤ n
  · have d1 : decide (lo ≤ n) = true := decide_eq_true h0
    have d2 : decide (n ≤ hi) = false := decide_eq_false (by omega)
    clear h
    go_enter Try.func44, Try.ntmps44
    go_wp2
    go_ret
    exact ⟨rfl, rfl⟩
  · have d1 : decide (lo ≤ n) = false := decide_eq_false h0
    clear h
    go_enter Try.func44, Try.ntmps44
    go_wp2
    go_ret
    exact ⟨rfl, rfl⟩
theorem e_range_no (n lo hi : Int) (w : World) (h : ¬ (lo ≤ n ∧ n ≤ hi)) :
    Calls Try.prog 46 #[.int .i64 n, .int .i64 lo, .int .i64 hi] w fun e w' => e = .returned (.bool false) ∧ w = w' :=
  inRange_no n lo hi w (by omega)

set_option maxHeartbeats 1000000 in
theorem i_growthBy (p c : Int) (t : ByteArray) (w : World) (ht : t.size ≤ 60) (hc : 0 ≤ c ∧ c ≤ 60) :
    Calls Try.prog 45 #[edV p c t] w fun e w' => e = .returned (.int .i64 ((t.size : Int) - c)) ∧ Below w.heap.size w w' := by
  obtain ⟨h1, h2⟩ := hc
  have u : IntKind.i64.wrap ((t.size : Int) - c) = (t.size : Int) - c := IntWalk.i64_in _ (by omega)
  go_enter Try.func45, Try.ntmps45
  go_wp2
  go_ret
  exact ⟨rfl, (ebox1 w p c t).2⟩
set_option maxHeartbeats 1000000 in
theorem i_cutEnd (p c : Int) (t : ByteArray) (w : World) (hp : 0 ≤ p ∧ p ≤ 60) (hc : 0 ≤ c ∧ c ≤ 60) :
    Calls Try.prog 35 #[edV p c t] w fun e w' => e = .returned (.int .i64 (p + c)) ∧ Below w.heap.size w w' := by
  obtain ⟨h1, h2⟩ := hc
  obtain ⟨h3, h4⟩ := hp
  have u : IntKind.i64.wrap (p + c) = p + c := IntWalk.i64_in _ (by omega)
  go_enter Try.func35, Try.ntmps35
  go_wp2
  go_ret
  exact ⟨rfl, (ebox1 w p c t).2⟩

set_option maxHeartbeats 2000000 in
theorem i_canEdit (p c many : Int) (t : ByteArray) (w : World) (ht : t.size ≤ 9223372036854775000) :
    Calls Try.prog 34 #[edV p c t, .int .i64 many] w fun e w' => e = .returned (.bool (decide (CanE p c t many))) ∧ Below w.heap.size w w' := by
  by_cases h1 : 0 ≤ many ∧ many ≤ 60
  · by_cases h2 : 0 ≤ p ∧ p ≤ many
    · have u1 : IntKind.i64.wrap (many - p) = many - p := IntWalk.i64_in _ (by omega)
      by_cases h3 : 0 ≤ c ∧ c ≤ many - p
      · cases hv : decide (ValidT t.data.toList) with
        | true =>
          have HV := Lib.hid hv
          have hval : ValidT t.data.toList := of_decide_eq_true hv
          have hz := hval.size
          have u2 : IntKind.i64.wrap (many + ((t.size : Int) - c)) = many + ((t.size : Int) - c) := IntWalk.i64_in _ (by omega)
          by_cases h4 : many - c + (t.size : Int) ≤ 60
          · have HD : Hid (decide (CanE p c t many) = true) := decide_eq_true ⟨h1, h2, h3, hval, h4⟩
            have d4 : decide (many + ((t.size : Int) - c) ≤ 60) = true := decide_eq_true (by omega)
            clear hv hval
            obtain ⟨E1, HB⟩ := ebox1 w p c t
            go_enter Try.func34, Try.ntmps34
            go_wp2_with fail
            generalize (w.alloc (.cells #[.int .i64 p, .int .i64 c, .string t] 24)) = wA at E1 HB ⊢
            obtain ⟨c00a, c00b, c00c⟩ := E1.cells
            refine (e_within_yes _ _ _ _ (by omega) (by omega)).mono ?_
            rintro e w' ⟨rfl, rfl⟩
            go_wp2_with fail
            refine (e_within_yes _ _ _ _ (by omega) (by omega)).mono ?_
            rintro e w' ⟨rfl, rfl⟩
            go_wp2_with fail
            refine (e_within_yes _ _ _ _ (by omega) (by omega)).mono ?_
            rintro e w' ⟨rfl, rfl⟩
            go_wp2_with fail
            refine (i_ValidText_v t true _ (by omega) HV).mono ?_
            rintro e w1 ⟨rfl, hb1⟩
            have E1_1 := E1.below hb1 E1.lt
            have HB_1 := below_next HB hb1
            clear hb1 HB E1
            clear c00a c00b c00c
            obtain ⟨c10a, c10b, c10c⟩ := E1_1.cells
            go_wp2_with fail
            refine (i_growthBy p c t _ (by omega) (by omega)).mono ?_
            rintro e w2 ⟨rfl, hb2⟩
            have E1_2 := E1_1.below hb2 E1_1.lt
            have HB_2 := below_next HB_1 hb2
            clear hb2 HB_1 E1_1
            clear c10a c10b c10c
            obtain ⟨c20a, c20b, c20c⟩ := E1_2.cells
            go_wp2
            go_ret
            exact ⟨by rw [HD.out]; rfl, HB_2⟩
          · have HD : Hid (decide (CanE p c t many) = false) := decide_eq_false (fun h => h4 h.2.2.2.2)
            have d4 : decide (many + ((t.size : Int) - c) ≤ 60) = false := decide_eq_false (by omega)
            clear hv hval
            obtain ⟨E1, HB⟩ := ebox1 w p c t
            go_enter Try.func34, Try.ntmps34
            go_wp2_with fail
            generalize (w.alloc (.cells #[.int .i64 p, .int .i64 c, .string t] 24)) = wA at E1 HB ⊢
            obtain ⟨c00a, c00b, c00c⟩ := E1.cells
            refine (e_within_yes _ _ _ _ (by omega) (by omega)).mono ?_
            rintro e w' ⟨rfl, rfl⟩
            go_wp2_with fail
            refine (e_within_yes _ _ _ _ (by omega) (by omega)).mono ?_
            rintro e w' ⟨rfl, rfl⟩
            go_wp2_with fail
            refine (e_within_yes _ _ _ _ (by omega) (by omega)).mono ?_
            rintro e w' ⟨rfl, rfl⟩
            go_wp2_with fail
            refine (i_ValidText_v t true _ (by omega) HV).mono ?_
            rintro e w1 ⟨rfl, hb1⟩
            have E1_1 := E1.below hb1 E1.lt
            have HB_1 := below_next HB hb1
            clear hb1 HB E1
            clear c00a c00b c00c
            obtain ⟨c10a, c10b, c10c⟩ := E1_1.cells
            go_wp2_with fail
            refine (i_growthBy p c t _ (by omega) (by omega)).mono ?_
            rintro e w2 ⟨rfl, hb2⟩
            have E1_2 := E1_1.below hb2 E1_1.lt
            have HB_2 := below_next HB_1 hb2
            clear hb2 HB_1 E1_1
            clear c10a c10b c10c
            obtain ⟨c20a, c20b, c20c⟩ := E1_2.cells
            go_wp2
            go_ret
            exact ⟨by rw [HD.out]; rfl, HB_2⟩
        | false =>
          have HV := Lib.hid hv
          have HD : Hid (decide (CanE p c t many) = false) := decide_eq_false (fun h => of_decide_eq_false hv h.2.2.2.1)
          clear hv
          obtain ⟨E1, HB⟩ := ebox1 w p c t
          go_enter Try.func34, Try.ntmps34
          go_wp2_with fail
          generalize (w.alloc (.cells #[.int .i64 p, .int .i64 c, .string t] 24)) = wA at E1 HB ⊢
          obtain ⟨c00a, c00b, c00c⟩ := E1.cells
          refine (e_within_yes _ _ _ _ (by omega) (by omega)).mono ?_
          rintro e w' ⟨rfl, rfl⟩
          go_wp2_with fail
          refine (e_within_yes _ _ _ _ (by omega) (by omega)).mono ?_
          rintro e w' ⟨rfl, rfl⟩
          go_wp2_with fail
          refine (e_within_yes _ _ _ _ (by omega) (by omega)).mono ?_
          rintro e w' ⟨rfl, rfl⟩
          go_wp2_with fail
          refine (i_ValidText_v t false _ (by omega) HV).mono ?_
          rintro e w1 ⟨rfl, hb1⟩
          have E1_1 := E1.below hb1 E1.lt
          have HB_1 := below_next HB hb1
          clear hb1 HB E1
          clear c00a c00b c00c
          obtain ⟨c10a, c10b, c10c⟩ := E1_1.cells
          go_wp2
          go_ret
          exact ⟨by rw [HD.out]; rfl, HB_1⟩
      · have HD : Hid (decide (CanE p c t many) = false) := decide_eq_false (fun h => h3 h.2.2.1)
        obtain ⟨E1, HB⟩ := ebox1 w p c t
        go_enter Try.func34, Try.ntmps34
        go_wp2_with fail
        generalize (w.alloc (.cells #[.int .i64 p, .int .i64 c, .string t] 24)) = wA at E1 HB ⊢
        obtain ⟨c00a, c00b, c00c⟩ := E1.cells
        refine (e_within_yes _ _ _ _ (by omega) (by omega)).mono ?_
        rintro e w' ⟨rfl, rfl⟩
        go_wp2_with fail
        refine (e_within_yes _ _ _ _ (by omega) (by omega)).mono ?_
        rintro e w' ⟨rfl, rfl⟩
        go_wp2_with fail
        refine (e_within_no _ _ _ _ h3).mono ?_
        rintro e w' ⟨rfl, rfl⟩
        go_wp2
        go_ret
        exact ⟨by rw [HD.out]; rfl, HB⟩
    · have HD : Hid (decide (CanE p c t many) = false) := decide_eq_false (fun h => h2 h.2.1)
      obtain ⟨E1, HB⟩ := ebox1 w p c t
      go_enter Try.func34, Try.ntmps34
      go_wp2_with fail
      generalize (w.alloc (.cells #[.int .i64 p, .int .i64 c, .string t] 24)) = wA at E1 HB ⊢
      obtain ⟨c00a, c00b, c00c⟩ := E1.cells
      refine (e_within_yes _ _ _ _ (by omega) (by omega)).mono ?_
      rintro e w' ⟨rfl, rfl⟩
      go_wp2_with fail
      refine (e_within_no _ _ _ _ h2).mono ?_
      rintro e w' ⟨rfl, rfl⟩
      go_wp2
      go_ret
      exact ⟨by rw [HD.out]; rfl, HB⟩
  · have HD : Hid (decide (CanE p c t many) = false) := decide_eq_false (fun h => h1 h.1)
    obtain ⟨E1, HB⟩ := ebox1 w p c t
    go_enter Try.func34, Try.ntmps34
    go_wp2_with fail
    generalize (w.alloc (.cells #[.int .i64 p, .int .i64 c, .string t] 24)) = wA at E1 HB ⊢
    obtain ⟨c00a, c00b, c00c⟩ := E1.cells
    refine (e_within_no _ _ _ _ h1).mono ?_
    rintro e w' ⟨rfl, rfl⟩
    go_wp2
    go_ret
    exact ⟨by rw [HD.out]; rfl, HB⟩
theorem i_canEdit_v (p c many : Int) (t : ByteArray) (b : Bool) (w : World) (ht : t.size ≤ 9223372036854775000) (hb : Hid (decide (CanE p c t many) = b)) :
    Calls Try.prog 34 #[edV p c t, .int .i64 many] w fun e w' => e = .returned (.bool b) ∧ Below w.heap.size w w' := by
  have := i_canEdit p c many t w ht
  rw [hb.out] at this
  exact this

set_option maxHeartbeats 2000000 in
theorem s_validEdit (p c many : Int) (t : ByteArray) (b : Bool) (w : World) (ht : t.size ≤ 9223372036854775000) (h1 : 0 ≤ many ∧ many ≤ 60) (hb : Hid (decide (CanE p c t many) = b)) :
    Calls Try.prog 37 #[edV p c t, .int .i64 many] w fun e w' => e = .returned (.bool b) ∧ Below w.heap.size w w' := by
  by_cases h2 : 0 ≤ p ∧ p ≤ many
  · have u1 : IntKind.i64.wrap (many - p) = many - p := IntWalk.i64_in _ (by omega)
    by_cases h3 : 0 ≤ c ∧ c ≤ many - p
    · cases hv : decide (ValidT t.data.toList) with
      | true =>
        have HV := Lib.hid hv
        have hval : ValidT t.data.toList := of_decide_eq_true hv
        have hz := hval.size
        have u2 : IntKind.i64.wrap (many - c) = many - c := IntWalk.i64_in _ (by omega)
        have u3 : IntKind.i64.wrap (many - c + (t.size : Int)) = many - c + (t.size : Int) := IntWalk.i64_in _ (by omega)
        by_cases h4 : many - c + (t.size : Int) ≤ 60
        · have HD : Hid (decide (CanE p c t many) = true) := decide_eq_true ⟨h1, h2, h3, hval, h4⟩
          obtain rfl : b = true := by rw [← hb.out]; exact HD.out
          have d4 : decide (many - c + (t.size : Int) ≤ 60) = true := decide_eq_true h4
          clear hv hval
          obtain ⟨E1, HB⟩ := ebox1 w p c t
          go_enter Try.func37, Try.ntmps37
          go_wp2_with fail
          generalize (w.alloc (.cells #[.int .i64 p, .int .i64 c, .string t] 24)) = wA at E1 HB ⊢
          obtain ⟨c00a, c00b, c00c⟩ := E1.cells
          refine (inRange_yes _ _ _ _ (by omega) (by omega)).mono ?_
          rintro e w' ⟨rfl, rfl⟩
          go_wp2_with fail
          refine (inRange_yes _ _ _ _ (by omega) (by omega)).mono ?_
          rintro e w' ⟨rfl, rfl⟩
          go_wp2_with fail
          refine (s_validText_v t true _ (by omega) HV).mono ?_
          rintro e w' ⟨rfl, rfl⟩
          go_wp2
          go_ret
          exact ⟨rfl, HB⟩
        · have HD : Hid (decide (CanE p c t many) = false) := decide_eq_false (fun h => h4 h.2.2.2.2)
          obtain rfl : b = false := by rw [← hb.out]; exact HD.out
          have d4 : decide (many - c + (t.size : Int) ≤ 60) = false := decide_eq_false h4
          clear hv hval
          obtain ⟨E1, HB⟩ := ebox1 w p c t
          go_enter Try.func37, Try.ntmps37
          go_wp2_with fail
          generalize (w.alloc (.cells #[.int .i64 p, .int .i64 c, .string t] 24)) = wA at E1 HB ⊢
          obtain ⟨c00a, c00b, c00c⟩ := E1.cells
          refine (inRange_yes _ _ _ _ (by omega) (by omega)).mono ?_
          rintro e w' ⟨rfl, rfl⟩
          go_wp2_with fail
          refine (inRange_yes _ _ _ _ (by omega) (by omega)).mono ?_
          rintro e w' ⟨rfl, rfl⟩
          go_wp2_with fail
          refine (s_validText_v t true _ (by omega) HV).mono ?_
          rintro e w' ⟨rfl, rfl⟩
          go_wp2
          go_ret
          exact ⟨rfl, HB⟩
      | false =>
        have HV := Lib.hid hv
        have HD : Hid (decide (CanE p c t many) = false) := decide_eq_false (fun h => of_decide_eq_false hv h.2.2.2.1)
        obtain rfl : b = false := by rw [← hb.out]; exact HD.out
        clear hv
        obtain ⟨E1, HB⟩ := ebox1 w p c t
        go_enter Try.func37, Try.ntmps37
        go_wp2_with fail
        generalize (w.alloc (.cells #[.int .i64 p, .int .i64 c, .string t] 24)) = wA at E1 HB ⊢
        obtain ⟨c00a, c00b, c00c⟩ := E1.cells
        refine (inRange_yes _ _ _ _ (by omega) (by omega)).mono ?_
        rintro e w' ⟨rfl, rfl⟩
        go_wp2_with fail
        refine (inRange_yes _ _ _ _ (by omega) (by omega)).mono ?_
        rintro e w' ⟨rfl, rfl⟩
        go_wp2_with fail
        refine (s_validText_v t false _ (by omega) HV).mono ?_
        rintro e w' ⟨rfl, rfl⟩
        go_wp2
        go_ret
        exact ⟨rfl, HB⟩
    · have HD : Hid (decide (CanE p c t many) = false) := decide_eq_false (fun h => h3 h.2.2.1)
      obtain rfl : b = false := by rw [← hb.out]; exact HD.out
      obtain ⟨E1, HB⟩ := ebox1 w p c t
      go_enter Try.func37, Try.ntmps37
      go_wp2_with fail
      generalize (w.alloc (.cells #[.int .i64 p, .int .i64 c, .string t] 24)) = wA at E1 HB ⊢
      obtain ⟨c00a, c00b, c00c⟩ := E1.cells
      refine (inRange_yes _ _ _ _ (by omega) (by omega)).mono ?_
      rintro e w' ⟨rfl, rfl⟩
      go_wp2_with fail
      refine (e_range_no _ _ _ _ h3).mono ?_
      rintro e w' ⟨rfl, rfl⟩
      go_wp2
      go_ret
      exact ⟨rfl, HB⟩
  · have HD : Hid (decide (CanE p c t many) = false) := decide_eq_false (fun h => h2 h.2.1)
    obtain rfl : b = false := by rw [← hb.out]; exact HD.out
    obtain ⟨E1, HB⟩ := ebox1 w p c t
    go_enter Try.func37, Try.ntmps37
    go_wp2_with fail
    generalize (w.alloc (.cells #[.int .i64 p, .int .i64 c, .string t] 24)) = wA at E1 HB ⊢
    obtain ⟨c00a, c00b, c00c⟩ := E1.cells
    refine (e_range_no _ _ _ _ h2).mono ?_
    rintro e w' ⟨rfl, rfl⟩
    go_wp2
    go_ret
    exact ⟨rfl, HB⟩
end Go.Proofs.Ythlamidlcbnchaa
