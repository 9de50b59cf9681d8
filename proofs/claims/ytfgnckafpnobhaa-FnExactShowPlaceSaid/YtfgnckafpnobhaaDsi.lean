
/- WindowOf of both sides. -/
import Derived.Test.YtfgnckafpnobhaaDsh
namespace Go.Proofs.Ytfgnckafpnobhaa
open Go.RowKit

def lenD : Value → Nat | .slice _ n _ => n | _ => 0
theorem OwnInts.lenD {w : World} {base : Nat} {v : Value} {zs : List Int} (h : OwnInts w base v zs) : lenD v = zs.length := by
  obtain ⟨a, c, e, _⟩ := h.at
  rw [e]; rfl
def shownL (C : List Int) (s t : Nat) : List Int := (C.drop s).take t
/-- the cells that a display shows -/
def winL (C : List Int) (s t : Nat) : List Int := shownL C s t ++ List.replicate (t - (shownL C s t).length) 0
def WiIs (C P : List Int) (s t : Int) (Z : List Int) : Prop := (VDp C P s t ∧ Z = winL C s.toNat t.toNat) ∨ (¬ VDp C P s t ∧ Z = [])
theorem wiIs_any (C P : List Int) (s t : Int) : ∃ Z, WiIs C P s t Z := by
  by_cases h : VDp C P s t
  · exact ⟨_, .inl ⟨h, rfl⟩⟩
  · exact ⟨_, .inr ⟨h, rfl⟩⟩
theorem wiIs_len {C P : List Int} {s t : Int} {Z : List Int} (h : WiIs C P s t Z) : Z.length ≤ 400 := by
  rcases h with ⟨h, rfl⟩ | ⟨_, rfl⟩
  · have h1 := h.1.1
    have h2 := h.2.2.1
    unfold winL shownL
    rw [List.length_append, List.length_replicate, List.length_take, List.length_drop]
    omega
  · simp
theorem take_more' {C : List Int} {s t l : Nat} (h : (C.drop s).length ≤ l) (h2 : (C.drop s).length ≤ t) : (C.drop s).take l = (C.drop s).take t := by
  rw [List.take_of_length_le h, List.take_of_length_le h2]
set_option maxRecDepth 20000 in
set_option maxHeartbeats 4000000 in
theorem i_WindowOf (w : World) (g n : Nat) (p : Value) (s t : Int) (C P Z : List Int) (hC : IntsAt w (.slice (some ⟨g, 0, none⟩) n n) C) (hP : IntsAt w p P) (hs : -9223372036854775808 ≤ s ∧ s ≤ 9223372036854775807) (ht : -9223372036854775808 ≤ t ∧ t ≤ 9223372036854775807) (hz : Hid (WiIs C P s t Z)) :
    Calls Try.prog 19 #[dspV (.slice (some ⟨g, 0, none⟩) n n) p s t] w fun e w' => WidOut Z w e w' := by
  obtain ⟨i0, hi, hz0, hz1, hz2⟩ := info_parts infoInt
  have hn : C.length = n := by obtain ⟨_, _, e, _⟩ := hC; injection e with _ e _; exact e.symm
  obtain ⟨ap, m, cp, rfl, hm, xp1, xp2, xp3⟩ := hP.partsI
  have HN := Lib.hid hn
  obtain ⟨hB, hbx⟩ := dbox w (.slice (some ⟨g, 0, none⟩) n n) (.slice ap m cp) s t
  have HC0 := keptI hC
  have HC := keptI (hC.below hbx)
  have HP := keptI (hP.below hbx)
  have HBX := keptI hbx
  clear hC hP hbx hn xp3 hm
  by_cases hV : VDp C P s t
  rotate_left
  · have HV := kepD hV
    have HZ : Hid (Z = []) := by rcases hz.out with h | h; exact absurd h.1 hV; exact h.2
    clear hV
    go_enter Try.func19, Try.ntmps19
    go_wp2_with fail
    generalize w.alloc (.cells #[.slice (some ⟨g, 0, none⟩) n n, .slice ap m cp, .int .i64 s, .int .i64 t] 25) = wA at hB HC HP HBX ⊢
    obtain ⟨c0, c1, c2, c3⟩ := hB.cells
    refine (i_ValidDisplay _ _ _ s t C P false HC.out HP.out (by omega) (by omega) ⟨fun e => (by cases e), fun h => absurd h HV.out⟩).mono ?_
    rintro e w2 ⟨rfl, hb2⟩
    have HBX2 := keptI (below_next HBX.out hb2)
    have hB2 := hB.below hb2 hB.lt
    clear hb2 c0 c1 c2 c3 hB
    go_wp2
    go_ret
    exact ⟨_, _, _, rfl, by rw [HZ.out]; exact OwnInts.nil _ _, HBX2.out⟩
  · have HV := kepD hV
    have hst := hV.start
    have h1t := hV.2.2.1
    have hl200 := hV.1.1
    rw [HN.out] at hst hl200
    have HZ : Hid (Z = winL C s.toNat t.toNat) := by
      rcases hz.out with h | h
      · exact h.2
      · exact absurd hV h.1
    clear hV
    obtain ⟨b, rfl⟩ : ∃ b : Nat, t = b := ⟨t.toNat, by omega⟩
    rw [Int.toNat_natCast] at HZ
    by_cases hn0 : n = 0
    · subst hn0
      obtain rfl : s = 0 := by omega
      have d0 : decide ((b : Int) < 0) = false := decide_eq_false (by omega)
      have d9 : decide ((0 : Int) < (b : Int)) = true := decide_eq_true (by omega)
      have d8 : (0 : Int) < (b : Int) := by omega
      have ub : IntKind.i64.wrap (b : Int) = (b : Int) := IntWalk.i64_in _ (by omega)
      have hC0 : C = [] := List.length_eq_zero_iff.1 HN.out
      obtain ⟨T, hT⟩ : ∃ T : List Int, T = [] := ⟨_, rfl⟩
      have HPT : Hid (∀ wy, Below w.heap.size w wy → IntsAt wy (.slice (some ⟨g, 0, none⟩) 0 0) T) := fun wy hb => by have := HC0.out.below hb; rw [hC0] at this; rw [hT]; exact this
      have HZ2 : Hid (Z = T ++ List.replicate b 0) := by show _ = _; rw [HZ.out, hC0, hT]; simp [winL, shownL]
      have HLL : Hid (T.length = 0) := by show _ = _; rw [hT]; rfl
      clear hC0 hst hT
      go_enter Try.func19, Try.ntmps19
      go_wp2_with fail
      generalize w.alloc (.cells #[.slice (some ⟨g, 0, none⟩) 0 0, .slice ap m cp, .int .i64 0, .int .i64 (b : Int)] 25) = wA at hB HC HP HBX ⊢
      obtain ⟨c0, c1, c2, c3⟩ := hB.cells
      refine (i_ValidDisplay _ _ _ 0 b C P true HC.out HP.out (by omega) (by omega) ⟨fun _ => HV.out, fun _ => rfl⟩).mono ?_
      rintro e w2 ⟨rfl, hb2⟩
      have HBX2 := keptI (below_next HBX.out hb2)
      have hB2 := hB.below hb2 hB.lt
      clear hb2 c0 c1 c2 c3 hB
      obtain ⟨c0, c1, c2, c3⟩ := hB2.cells
      go_wp2_with fail
      refine (i_withSpaces_z w2 _ _ b (HPT.out w2 HBX2.out) (by have := HLL.out; omega) (by omega) (.inl ⟨_, _, _, _, rfl⟩)).mono ?_
      rintro e w3 ⟨a3, n3, c3', rfl, hO3, hb3⟩
      go_wp2
      go_ret
      exact ⟨_, _, _, rfl, by rw [HZ2.out]; exact World.ownsRow.mono hO3 HBX2.out.size, below_next HBX2.out hb3⟩
    · obtain ⟨a, rfl⟩ : ∃ a : Nat, s = a := ⟨s.toNat, by omega⟩
      rw [Int.toNat_natCast] at HZ
      have han : a < n := by omega
      obtain ⟨x, hx⟩ : ∃ x : Nat, a + b = x := ⟨_, rfl⟩
      have u2 : IntKind.i64.wrap ((a : Int) + (b : Int)) = (x : Int) := by rw [show ((a : Int) + (b : Int)) = (x : Int) from by omega]; exact IntWalk.i64_in _ (by omega)
      have f1 : (0 : Int) ≤ (a : Int) := by omega
      have f2 : (a : Int) ≤ (x : Int) := by omega
      have f5 : (a : Int) ≤ (n : Int) := by omega
      have f6 : a ≤ n := by omega
      have f7 : a ≤ x := by omega
      have f8 : ¬ n = a := by omega
      clear hst
      have hcmp : x < n ∨ n < x ∨ x = n := by omega
      rcases hcmp with hcmp | hcmp | hcmp
      · skip
        have e1 : decide ((x : Int) < (n : Int)) = true := decide_eq_true (by omega)
        have e2 : decide ((n : Int) < (x : Int)) = false := decide_eq_false (by omega)
        have e3 : decide (x < n) = true := decide_eq_true (by omega)
        have e4 : decide (n < x) = false := decide_eq_false (by omega)
        have e5 : (x : Int) < (n : Int) := by omega
        have e6 : ¬ (n : Int) < (x : Int) := by omega
        have e7 : (x : Int) ≤ (n : Int) := by omega
        have e8 : x ≤ n := by omega
        obtain ⟨y, hy⟩ : ∃ y, b - (x - a) = y := ⟨_, rfl⟩
        have u3 : IntKind.i64.wrap ((b : Int) - ((x - a) : Nat)) = (y : Int) := by rw [show ((b : Int) - ((x - a) : Nat)) = (y : Int) from by omega]; exact IntWalk.i64_in _ (by omega)
        obtain ⟨T, hT⟩ : ∃ T, (C.drop a).take (x - a) = T := ⟨_, rfl⟩
        have hTl : T.length = (x - a) := by rw [← hT, List.length_take, List.length_drop, HN.out]; omega
        have hTs : T = shownL C a b := by
          unfold shownL
          rw [← hT]
          rw [show (x - a) = b from by omega]
        have HPT : Hid (∀ wy, Below w.heap.size w wy → IntsAt wy (.slice (some ⟨g, a, none⟩) (x - a) (n - a)) T) := fun wy hb => by
          have := part_d (s := a) (l := (x - a)) (HC0.out.below hb) (by omega)
          rw [Nat.zero_add, hT] at this
          exact this
        have HZ2 : Hid (Z = T ++ List.replicate y 0) := by show _ = _; rw [HZ.out, winL, ← hTs, hTl, hy]
        have HLL := Lib.hid hTl
        have hyb : (x - a) + y = b := by omega
        clear hT hTs hTl hy hx
        go_enter Try.func19, Try.ntmps19
        go_wp2_with fail
        generalize w.alloc (.cells #[.slice (some ⟨g, 0, none⟩) n n, .slice ap m cp, .int .i64 (a : Int), .int .i64 (b : Int)] 25) = wA at hB HC HP HBX ⊢
        obtain ⟨c0, c1, c2, c3⟩ := hB.cells
        refine (i_ValidDisplay _ _ _ a b C P true HC.out HP.out (by omega) (by omega) ⟨fun _ => HV.out, fun _ => rfl⟩).mono ?_
        rintro e w2 ⟨rfl, hb2⟩
        have HBX2 := keptI (below_next HBX.out hb2)
        have hB2 := hB.below hb2 hB.lt
        clear hb2 c0 c1 c2 c3 hB
        obtain ⟨c0, c1, c2, c3⟩ := hB2.cells
        go_wp2_with fail
        refine (i_withSpaces_z w2 _ _ y (HPT.out w2 HBX2.out) (by have := HLL.out; omega) (by omega) (.inl ⟨_, _, _, _, rfl⟩)).mono ?_
        rintro e w3 ⟨a3, n3, c3', rfl, hO3, hb3⟩
        go_wp2
        go_ret
        exact ⟨_, _, _, rfl, by rw [HZ2.out]; exact World.ownsRow.mono hO3 HBX2.out.size, below_next HBX2.out hb3⟩
      · skip
        have e1 : decide ((x : Int) < (n : Int)) = false := decide_eq_false (by omega)
        have e2 : decide ((n : Int) < (x : Int)) = true := decide_eq_true (by omega)
        have e3 : decide (x < n) = false := decide_eq_false (by omega)
        have e4 : decide (n < x) = true := decide_eq_true (by omega)
        have e5 : (n : Int) < (x : Int) := by omega
        have e6 : ¬ (x : Int) < (n : Int) := by omega
        obtain ⟨y, hy⟩ : ∃ y, b - (n - a) = y := ⟨_, rfl⟩
        have u3 : IntKind.i64.wrap ((b : Int) - ((n - a) : Nat)) = (y : Int) := by rw [show ((b : Int) - ((n - a) : Nat)) = (y : Int) from by omega]; exact IntWalk.i64_in _ (by omega)
        obtain ⟨T, hT⟩ : ∃ T, (C.drop a).take (n - a) = T := ⟨_, rfl⟩
        have hTl : T.length = (n - a) := by rw [← hT, List.length_take, List.length_drop, HN.out]; omega
        have hTs : T = shownL C a b := by
          unfold shownL
          rw [← hT]
          exact take_more' (by rw [List.length_drop, HN.out]; omega) (by rw [List.length_drop, HN.out]; omega)
        have HPT : Hid (∀ wy, Below w.heap.size w wy → IntsAt wy (.slice (some ⟨g, a, none⟩) (n - a) (n - a)) T) := fun wy hb => by
          have := part_d (s := a) (l := (n - a)) (HC0.out.below hb) (by omega)
          rw [Nat.zero_add, hT] at this
          exact this
        have HZ2 : Hid (Z = T ++ List.replicate y 0) := by show _ = _; rw [HZ.out, winL, ← hTs, hTl, hy]
        have HLL := Lib.hid hTl
        have hyb : (n - a) + y = b := by omega
        clear hT hTs hTl hy hx
        go_enter Try.func19, Try.ntmps19
        go_wp2_with fail
        generalize w.alloc (.cells #[.slice (some ⟨g, 0, none⟩) n n, .slice ap m cp, .int .i64 (a : Int), .int .i64 (b : Int)] 25) = wA at hB HC HP HBX ⊢
        obtain ⟨c0, c1, c2, c3⟩ := hB.cells
        refine (i_ValidDisplay _ _ _ a b C P true HC.out HP.out (by omega) (by omega) ⟨fun _ => HV.out, fun _ => rfl⟩).mono ?_
        rintro e w2 ⟨rfl, hb2⟩
        have HBX2 := keptI (below_next HBX.out hb2)
        have hB2 := hB.below hb2 hB.lt
        clear hb2 c0 c1 c2 c3 hB
        obtain ⟨c0, c1, c2, c3⟩ := hB2.cells
        go_wp2_with fail
        refine (i_withSpaces_z w2 _ _ y (HPT.out w2 HBX2.out) (by have := HLL.out; omega) (by omega) (.inl ⟨_, _, _, _, rfl⟩)).mono ?_
        rintro e w3 ⟨a3, n3, c3', rfl, hO3, hb3⟩
        go_wp2
        go_ret
        exact ⟨_, _, _, rfl, by rw [HZ2.out]; exact World.ownsRow.mono hO3 HBX2.out.size, below_next HBX2.out hb3⟩
      · skip
        subst hcmp
        obtain ⟨y, hy⟩ : ∃ y, b - (x - a) = y := ⟨_, rfl⟩
        have u3 : IntKind.i64.wrap ((b : Int) - ((x - a) : Nat)) = (y : Int) := by rw [show ((b : Int) - ((x - a) : Nat)) = (y : Int) from by omega]; exact IntWalk.i64_in _ (by omega)
        obtain ⟨T, hT⟩ : ∃ T, (C.drop a).take (x - a) = T := ⟨_, rfl⟩
        have hTl : T.length = (x - a) := by rw [← hT, List.length_take, List.length_drop, HN.out]; omega
        have hTs : T = shownL C a b := by
          unfold shownL
          rw [← hT]
          rw [show (x - a) = b from by omega]
        have HPT : Hid (∀ wy, Below w.heap.size w wy → IntsAt wy (.slice (some ⟨g, a, none⟩) (x - a) (x - a)) T) := fun wy hb => by
          have := part_d (s := a) (l := (x - a)) (HC0.out.below hb) (by omega)
          rw [Nat.zero_add, hT] at this
          exact this
        have HZ2 : Hid (Z = T ++ List.replicate y 0) := by show _ = _; rw [HZ.out, winL, ← hTs, hTl, hy]
        have HLL := Lib.hid hTl
        have hyb : (x - a) + y = b := by omega
        clear hT hTs hTl hy hx
        go_enter Try.func19, Try.ntmps19
        go_wp2_with fail
        generalize w.alloc (.cells #[.slice (some ⟨g, 0, none⟩) x x, .slice ap m cp, .int .i64 (a : Int), .int .i64 (b : Int)] 25) = wA at hB HC HP HBX ⊢
        obtain ⟨c0, c1, c2, c3⟩ := hB.cells
        refine (i_ValidDisplay _ _ _ a b C P true HC.out HP.out (by omega) (by omega) ⟨fun _ => HV.out, fun _ => rfl⟩).mono ?_
        rintro e w2 ⟨rfl, hb2⟩
        have HBX2 := keptI (below_next HBX.out hb2)
        have hB2 := hB.below hb2 hB.lt
        clear hb2 c0 c1 c2 c3 hB
        obtain ⟨c0, c1, c2, c3⟩ := hB2.cells
        go_wp2_with fail
        refine (i_withSpaces_z w2 _ _ y (HPT.out w2 HBX2.out) (by have := HLL.out; omega) (by omega) (.inl ⟨_, _, _, _, rfl⟩)).mono ?_
        rintro e w3 ⟨a3, n3, c3', rfl, hO3, hb3⟩
        go_wp2
        go_ret
        exact ⟨_, _, _, rfl, by rw [HZ2.out]; exact World.ownsRow.mono hO3 HBX2.out.size, below_next HBX2.out hb3⟩
set_option maxRecDepth 20000 in
set_option maxHeartbeats 4000000 in
theorem s_WindowOf (w : World) (g n : Nat) (p : Value) (s t : Int) (C P Z : List Int) (hC : IntsAt w (.slice (some ⟨g, 0, none⟩) n n) C) (hP : IntsAt w p P) (hs : -9223372036854775808 ≤ s ∧ s ≤ 9223372036854775807) (ht : -9223372036854775808 ≤ t ∧ t ≤ 9223372036854775807) (hz : Hid (WiIs C P s t Z)) :
    Calls Try.prog 23 #[dspV (.slice (some ⟨g, 0, none⟩) n n) p s t] w fun e w' => WidOut Z w e w' := by
  obtain ⟨i0, hi, hz0, hz1, hz2⟩ := info_parts infoInt
  have hn : C.length = n := by obtain ⟨_, _, e, _⟩ := hC; injection e with _ e _; exact e.symm
  obtain ⟨ap, m, cp, rfl, hm, xp1, xp2, xp3⟩ := hP.partsI
  have HN := Lib.hid hn
  obtain ⟨hB, hbx⟩ := dbox w (.slice (some ⟨g, 0, none⟩) n n) (.slice ap m cp) s t
  have HC0 := keptI hC
  have HC := keptI (hC.below hbx)
  have HP := keptI (hP.below hbx)
  have HBX := keptI hbx
  clear hC hP hbx hn xp3 hm
  by_cases hV : VDp C P s t
  rotate_left
  · have HV := kepD hV
    have HZ : Hid (Z = []) := by rcases hz.out with h | h; exact absurd h.1 hV; exact h.2
    clear hV
    go_enter Try.func23, Try.ntmps23
    go_wp2_with fail
    generalize w.alloc (.cells #[.slice (some ⟨g, 0, none⟩) n n, .slice ap m cp, .int .i64 s, .int .i64 t] 25) = wA at hB HC HP HBX ⊢
    obtain ⟨c0, c1, c2, c3⟩ := hB.cells
    refine (s_validDisplay _ _ _ s t C P false HC.out HP.out (by omega) (by omega) ⟨fun e => (by cases e), fun h => absurd h HV.out⟩).mono ?_
    rintro e w2 ⟨rfl, hb2⟩
    have HBX2 := keptI (below_next HBX.out hb2)
    have hB2 := hB.below hb2 hB.lt
    clear hb2 c0 c1 c2 c3 hB
    go_wp2
    go_ret
    exact ⟨_, _, _, rfl, by rw [HZ.out]; exact OwnInts.nil _ _, HBX2.out⟩
  · have HV := kepD hV
    have hst := hV.start
    have h1t := hV.2.2.1
    have hl200 := hV.1.1
    rw [HN.out] at hst hl200
    have HZ : Hid (Z = winL C s.toNat t.toNat) := by
      rcases hz.out with h | h
      · exact h.2
      · exact absurd hV h.1
    clear hV
    obtain ⟨b, rfl⟩ : ∃ b : Nat, t = b := ⟨t.toNat, by omega⟩
    rw [Int.toNat_natCast] at HZ
    by_cases hn0 : n = 0
    · subst hn0
      obtain rfl : s = 0 := by omega
      have d0 : decide ((b : Int) < 0) = false := decide_eq_false (by omega)
      have d9 : decide ((0 : Int) < (b : Int)) = true := decide_eq_true (by omega)
      have d8 : (0 : Int) < (b : Int) := by omega
      have ub : IntKind.i64.wrap (b : Int) = (b : Int) := IntWalk.i64_in _ (by omega)
      have hC0 : C = [] := List.length_eq_zero_iff.1 HN.out
      obtain ⟨T, hT⟩ : ∃ T : List Int, T = [] := ⟨_, rfl⟩
      have HPT : Hid (∀ wy, Below w.heap.size w wy → IntsAt wy (.slice (some ⟨g, 0, none⟩) 0 0) T) := fun wy hb => by have := HC0.out.below hb; rw [hC0] at this; rw [hT]; exact this
      have HZ2 : Hid (Z = T ++ List.replicate b 0) := by show _ = _; rw [HZ.out, hC0, hT]; simp [winL, shownL]
      have HLL : Hid (T.length = 0) := by show _ = _; rw [hT]; rfl
      clear hC0 hst hT
      go_enter Try.func23, Try.ntmps23
      go_wp2_with fail
      generalize w.alloc (.cells #[.slice (some ⟨g, 0, none⟩) 0 0, .slice ap m cp, .int .i64 0, .int .i64 (b : Int)] 25) = wA at hB HC HP HBX ⊢
      obtain ⟨c0, c1, c2, c3⟩ := hB.cells
      refine (s_validDisplay _ _ _ 0 b C P true HC.out HP.out (by omega) (by omega) ⟨fun _ => HV.out, fun _ => rfl⟩).mono ?_
      rintro e w2 ⟨rfl, hb2⟩
      have HBX2 := keptI (below_next HBX.out hb2)
      have hB2 := hB.below hb2 hB.lt
      clear hb2 c0 c1 c2 c3 hB
      obtain ⟨c0, c1, c2, c3⟩ := hB2.cells
      have HB2 := keptI hB2
      go_wp2_with fail
      refine (s_copyInts_d w2 _ _ (HPT.out w2 HBX2.out) (by have := HLL.out; omega) (.inl ⟨_, _, _, _, rfl⟩)).mono ?_
      rintro e w3 ⟨g3, c3', rfl, hO3, hb3⟩
      have HO3 : Hid (OwnInts w3 w2.heap.size (.slice (some ⟨g3, 0, none⟩) (T).length c3') (T ++ List.replicate 0 0)) := by show OwnInts _ _ _ _; rw [List.replicate_zero, List.append_nil]; exact hO3
      have HBX3 := keptI hb3
      clear hO3 hb3 c0 c1 c2 c3 hB2
      go_wp2
      go_loopw [3] (fun o wr => ∃ q : Nat, q ≤ b ∧ OwnInts wr w2.heap.size o (T ++ List.replicate q 0) ∧ Below w2.heap.size w2 wr) (fun o _ => 1000 - lenD o)
      case atStart => exact ⟨0, Nat.zero_le _, HO3.out, HBX3.out⟩
      case round =>
        obtain ⟨q, hq, hO, hbb⟩ := hrel
        have hlen := hO.lenD
        rw [List.length_append, List.length_replicate, HLL.out] at hlen
        obtain ⟨ao, no, co, hoo⟩ := hO.isSliceZ
        subst hoo
        have hno : no = 0 + q := hlen
        have HO := keptI hO
        have HBr := keptI (below_next HBX2.out hbb)
        obtain ⟨c0, c1, c2, c3⟩ := (HB2.out.below hbb HB2.out.lt).cells
        have HBB := keptI hbb
        have hszr := HBB.out.size
        clear hO hbb hlen
        by_cases hlt : q < b
        · have d1 : decide ((no : Int) < (b : Int)) = true := decide_eq_true (by omega)
          have d2 : decide (no < b) = true := decide_eq_true (by omega)
          have d3 : (no : Int) < (b : Int) := by omega
          have hln : ((T) ++ List.replicate q (0 : Int)).length ≤ 2000 := by rw [List.length_append, List.length_replicate, HLL.out]; omega
          have hlc : ((T) ++ List.replicate q (0 : Int)).length = no := by rw [List.length_append, List.length_replicate, HLL.out]; omega
          have HLC := Lib.hid hlc
          have HNO := Lib.hid hno
          clear hlc hno
          go_wp2_with (at_builtin; go_loud (refine wpList_append_own _ rfl _ _ 23 rfl w2.heap.size 3 i0 (.int .i64 0) 1 8 Try.underlying23 hi hz0 hz1 hz2 rfl (by decide) _ _ _ rfl (HO.out.below ((Below.refl _ _).alloc (Nat.le_refl _) _)) ⟨wr.heap.size, 0, none⟩ 1 1 [.int .i64 0] rfl rfl new_one one_cell (by unfold maxLen; omega) (by omega) (by simp; omega) ?_))
          intro v' w5 hown' hgrow _
          have hO5 : OwnInts w5 w2.heap.size v' ((T) ++ List.replicate (q + 1) 0) := by
            have := OwnInts.snoc (zs := (T) ++ List.replicate q 0) (z := 0) (by first | exact hown' | (rw [HLC.out]; exact hown') | (rw [List.length_append, List.length_replicate]; exact hown'))
            rw [List.append_assoc, ← List.replicate_succ'] at this
            exact this
          have hl5 := hO5.lenD
          rw [List.length_append, List.length_replicate, HLL.out] at hl5
          have HL5 := Lib.hid hl5
          have hb5 := (HBB.out.alloc HBB.out.size (.cells #[.int .i64 0] 3)).grown hgrow (by have := (World.grownBy_alloc wr (.cells #[.int .i64 0] 3) none).size; have := HBB.out.size; omega) (fun x hx => (HO.out.lt x hx).1)
          have NXT := keptI (And.intro hO5 hb5)
          clear hown' hgrow hO5 hb5 hl5 c0 c1 c2 c3
          go_wp2
          go_roundw
          case rel => exact ⟨q + 1, by omega, NXT.out.1, NXT.out.2⟩
          case measure => rw [HL5.out]; have := HNO.out; simp [lenD]; omega
        · have hqm : q = b := by omega
          have d1 : decide ((no : Int) < (b : Int)) = false := decide_eq_false (by omega)
          have d2 : decide (no < b) = false := decide_eq_false (by omega)
          have d3 : ¬ (no : Int) < (b : Int) := by omega
          clear hno
          subst hqm
          go_wp2
          go_ret
          exact ⟨_, _, _, rfl, by rw [HZ2.out]; exact World.ownsRow.mono HO.out HBX2.out.size, HBr.out⟩
    · obtain ⟨a, rfl⟩ : ∃ a : Nat, s = a := ⟨s.toNat, by omega⟩
      rw [Int.toNat_natCast] at HZ
      have han : a < n := by omega
      obtain ⟨x, hx⟩ : ∃ x : Nat, a + b = x := ⟨_, rfl⟩
      have u2 : IntKind.i64.wrap ((a : Int) + (b : Int)) = (x : Int) := by rw [show ((a : Int) + (b : Int)) = (x : Int) from by omega]; exact IntWalk.i64_in _ (by omega)
      have f1 : (0 : Int) ≤ (a : Int) := by omega
      have f2 : (a : Int) ≤ (x : Int) := by omega
      have f5 : (a : Int) ≤ (n : Int) := by omega
      have f6 : a ≤ n := by omega
      have f7 : a ≤ x := by omega
      have f8 : ¬ n = a := by omega
      clear hst
      have hcmp : x < n ∨ n < x ∨ x = n := by omega
      rcases hcmp with hcmp | hcmp | hcmp
      · skip
        have e1 : decide ((x : Int) < (n : Int)) = true := decide_eq_true (by omega)
        have e2 : decide ((n : Int) < (x : Int)) = false := decide_eq_false (by omega)
        have e3 : decide (x < n) = true := decide_eq_true (by omega)
        have e4 : decide (n < x) = false := decide_eq_false (by omega)
        have e5 : (x : Int) < (n : Int) := by omega
        have e6 : ¬ (n : Int) < (x : Int) := by omega
        have e7 : (x : Int) ≤ (n : Int) := by omega
        have e8 : x ≤ n := by omega
        obtain ⟨y, hy⟩ : ∃ y, b - (x - a) = y := ⟨_, rfl⟩
        have u3 : IntKind.i64.wrap ((b : Int) - ((x - a) : Nat)) = (y : Int) := by rw [show ((b : Int) - ((x - a) : Nat)) = (y : Int) from by omega]; exact IntWalk.i64_in _ (by omega)
        obtain ⟨T, hT⟩ : ∃ T, (C.drop a).take (x - a) = T := ⟨_, rfl⟩
        have hTl : T.length = (x - a) := by rw [← hT, List.length_take, List.length_drop, HN.out]; omega
        have hTs : T = shownL C a b := by
          unfold shownL
          rw [← hT]
          rw [show (x - a) = b from by omega]
        have HPT : Hid (∀ wy, Below w.heap.size w wy → IntsAt wy (.slice (some ⟨g, a, none⟩) (x - a) (n - a)) T) := fun wy hb => by
          have := part_d (s := a) (l := (x - a)) (HC0.out.below hb) (by omega)
          rw [Nat.zero_add, hT] at this
          exact this
        have HZ2 : Hid (Z = T ++ List.replicate y 0) := by show _ = _; rw [HZ.out, winL, ← hTs, hTl, hy]
        have HLL := Lib.hid hTl
        have hyb : (x - a) + y = b := by omega
        clear hT hTs hTl hy hx
        go_enter Try.func23, Try.ntmps23
        go_wp2_with fail
        generalize w.alloc (.cells #[.slice (some ⟨g, 0, none⟩) n n, .slice ap m cp, .int .i64 (a : Int), .int .i64 (b : Int)] 25) = wA at hB HC HP HBX ⊢
        obtain ⟨c0, c1, c2, c3⟩ := hB.cells
        refine (s_validDisplay _ _ _ a b C P true HC.out HP.out (by omega) (by omega) ⟨fun _ => HV.out, fun _ => rfl⟩).mono ?_
        rintro e w2 ⟨rfl, hb2⟩
        have HBX2 := keptI (below_next HBX.out hb2)
        have hB2 := hB.below hb2 hB.lt
        clear hb2 c0 c1 c2 c3 hB
        obtain ⟨c0, c1, c2, c3⟩ := hB2.cells
        have HB2 := keptI hB2
        go_wp2_with fail
        refine (s_copyInts_d w2 _ _ (HPT.out w2 HBX2.out) (by have := HLL.out; omega) (.inl ⟨_, _, _, _, rfl⟩)).mono ?_
        rintro e w3 ⟨g3, c3', rfl, hO3, hb3⟩
        have HO3 : Hid (OwnInts w3 w2.heap.size (.slice (some ⟨g3, 0, none⟩) (T).length c3') (T ++ List.replicate 0 0)) := by show OwnInts _ _ _ _; rw [List.replicate_zero, List.append_nil]; exact hO3
        have HBX3 := keptI hb3
        clear hO3 hb3 c0 c1 c2 c3 hB2
        go_wp2
        go_loopw [3] (fun o wr => ∃ q : Nat, q ≤ y ∧ OwnInts wr w2.heap.size o (T ++ List.replicate q 0) ∧ Below w2.heap.size w2 wr) (fun o _ => 1000 - lenD o)
        case atStart => exact ⟨0, Nat.zero_le _, HO3.out, HBX3.out⟩
        case round =>
          obtain ⟨q, hq, hO, hbb⟩ := hrel
          have hlen := hO.lenD
          rw [List.length_append, List.length_replicate, HLL.out] at hlen
          obtain ⟨ao, no, co, hoo⟩ := hO.isSliceZ
          subst hoo
          have hno : no = (x - a) + q := hlen
          have HO := keptI hO
          have HBr := keptI (below_next HBX2.out hbb)
          obtain ⟨c0, c1, c2, c3⟩ := (HB2.out.below hbb HB2.out.lt).cells
          have HBB := keptI hbb
          have hszr := HBB.out.size
          clear hO hbb hlen
          by_cases hlt : q < y
          · have d1 : decide ((no : Int) < (b : Int)) = true := decide_eq_true (by omega)
            have d2 : decide (no < b) = true := decide_eq_true (by omega)
            have d3 : (no : Int) < (b : Int) := by omega
            have hln : ((T) ++ List.replicate q (0 : Int)).length ≤ 2000 := by rw [List.length_append, List.length_replicate, HLL.out]; omega
            have hlc : ((T) ++ List.replicate q (0 : Int)).length = no := by rw [List.length_append, List.length_replicate, HLL.out]; omega
            have HLC := Lib.hid hlc
            have HNO := Lib.hid hno
            clear hlc hno
            go_wp2_with (at_builtin; go_loud (refine wpList_append_own _ rfl _ _ 23 rfl w2.heap.size 3 i0 (.int .i64 0) 1 8 Try.underlying23 hi hz0 hz1 hz2 rfl (by decide) _ _ _ rfl (HO.out.below ((Below.refl _ _).alloc (Nat.le_refl _) _)) ⟨wr.heap.size, 0, none⟩ 1 1 [.int .i64 0] rfl rfl new_one one_cell (by unfold maxLen; omega) (by omega) (by simp; omega) ?_))
            intro v' w5 hown' hgrow _
            have hO5 : OwnInts w5 w2.heap.size v' ((T) ++ List.replicate (q + 1) 0) := by
              have := OwnInts.snoc (zs := (T) ++ List.replicate q 0) (z := 0) (by first | exact hown' | (rw [HLC.out]; exact hown') | (rw [List.length_append, List.length_replicate]; exact hown'))
              rw [List.append_assoc, ← List.replicate_succ'] at this
              exact this
            have hl5 := hO5.lenD
            rw [List.length_append, List.length_replicate, HLL.out] at hl5
            have HL5 := Lib.hid hl5
            have hb5 := (HBB.out.alloc HBB.out.size (.cells #[.int .i64 0] 3)).grown hgrow (by have := (World.grownBy_alloc wr (.cells #[.int .i64 0] 3) none).size; have := HBB.out.size; omega) (fun x hx => (HO.out.lt x hx).1)
            have NXT := keptI (And.intro hO5 hb5)
            clear hown' hgrow hO5 hb5 hl5 c0 c1 c2 c3
            go_wp2
            go_roundw
            case rel => exact ⟨q + 1, by omega, NXT.out.1, NXT.out.2⟩
            case measure => rw [HL5.out]; have := HNO.out; simp [lenD]; omega
          · have hqm : q = y := by omega
            have d1 : decide ((no : Int) < (b : Int)) = false := decide_eq_false (by omega)
            have d2 : decide (no < b) = false := decide_eq_false (by omega)
            have d3 : ¬ (no : Int) < (b : Int) := by omega
            clear hno
            subst hqm
            go_wp2
            go_ret
            exact ⟨_, _, _, rfl, by rw [HZ2.out]; exact World.ownsRow.mono HO.out HBX2.out.size, HBr.out⟩
      · skip
        have e1 : decide ((x : Int) < (n : Int)) = false := decide_eq_false (by omega)
        have e2 : decide ((n : Int) < (x : Int)) = true := decide_eq_true (by omega)
        have e3 : decide (x < n) = false := decide_eq_false (by omega)
        have e4 : decide (n < x) = true := decide_eq_true (by omega)
        have e5 : (n : Int) < (x : Int) := by omega
        have e6 : ¬ (x : Int) < (n : Int) := by omega
        obtain ⟨y, hy⟩ : ∃ y, b - (n - a) = y := ⟨_, rfl⟩
        have u3 : IntKind.i64.wrap ((b : Int) - ((n - a) : Nat)) = (y : Int) := by rw [show ((b : Int) - ((n - a) : Nat)) = (y : Int) from by omega]; exact IntWalk.i64_in _ (by omega)
        obtain ⟨T, hT⟩ : ∃ T, (C.drop a).take (n - a) = T := ⟨_, rfl⟩
        have hTl : T.length = (n - a) := by rw [← hT, List.length_take, List.length_drop, HN.out]; omega
        have hTs : T = shownL C a b := by
          unfold shownL
          rw [← hT]
          exact take_more' (by rw [List.length_drop, HN.out]; omega) (by rw [List.length_drop, HN.out]; omega)
        have HPT : Hid (∀ wy, Below w.heap.size w wy → IntsAt wy (.slice (some ⟨g, a, none⟩) (n - a) (n - a)) T) := fun wy hb => by
          have := part_d (s := a) (l := (n - a)) (HC0.out.below hb) (by omega)
          rw [Nat.zero_add, hT] at this
          exact this
        have HZ2 : Hid (Z = T ++ List.replicate y 0) := by show _ = _; rw [HZ.out, winL, ← hTs, hTl, hy]
        have HLL := Lib.hid hTl
        have hyb : (n - a) + y = b := by omega
        clear hT hTs hTl hy hx
        go_enter Try.func23, Try.ntmps23
        go_wp2_with fail
        generalize w.alloc (.cells #[.slice (some ⟨g, 0, none⟩) n n, .slice ap m cp, .int .i64 (a : Int), .int .i64 (b : Int)] 25) = wA at hB HC HP HBX ⊢
        obtain ⟨c0, c1, c2, c3⟩ := hB.cells
        refine (s_validDisplay _ _ _ a b C P true HC.out HP.out (by omega) (by omega) ⟨fun _ => HV.out, fun _ => rfl⟩).mono ?_
        rintro e w2 ⟨rfl, hb2⟩
        have HBX2 := keptI (below_next HBX.out hb2)
        have hB2 := hB.below hb2 hB.lt
        clear hb2 c0 c1 c2 c3 hB
        obtain ⟨c0, c1, c2, c3⟩ := hB2.cells
        have HB2 := keptI hB2
        go_wp2_with fail
        refine (s_copyInts_d w2 _ _ (HPT.out w2 HBX2.out) (by have := HLL.out; omega) (.inl ⟨_, _, _, _, rfl⟩)).mono ?_
        rintro e w3 ⟨g3, c3', rfl, hO3, hb3⟩
        have HO3 : Hid (OwnInts w3 w2.heap.size (.slice (some ⟨g3, 0, none⟩) (T).length c3') (T ++ List.replicate 0 0)) := by show OwnInts _ _ _ _; rw [List.replicate_zero, List.append_nil]; exact hO3
        have HBX3 := keptI hb3
        clear hO3 hb3 c0 c1 c2 c3 hB2
        go_wp2
        go_loopw [3] (fun o wr => ∃ q : Nat, q ≤ y ∧ OwnInts wr w2.heap.size o (T ++ List.replicate q 0) ∧ Below w2.heap.size w2 wr) (fun o _ => 1000 - lenD o)
        case atStart => exact ⟨0, Nat.zero_le _, HO3.out, HBX3.out⟩
        case round =>
          obtain ⟨q, hq, hO, hbb⟩ := hrel
          have hlen := hO.lenD
          rw [List.length_append, List.length_replicate, HLL.out] at hlen
          obtain ⟨ao, no, co, hoo⟩ := hO.isSliceZ
          subst hoo
          have hno : no = (n - a) + q := hlen
          have HO := keptI hO
          have HBr := keptI (below_next HBX2.out hbb)
          obtain ⟨c0, c1, c2, c3⟩ := (HB2.out.below hbb HB2.out.lt).cells
          have HBB := keptI hbb
          have hszr := HBB.out.size
          clear hO hbb hlen
          by_cases hlt : q < y
          · have d1 : decide ((no : Int) < (b : Int)) = true := decide_eq_true (by omega)
            have d2 : decide (no < b) = true := decide_eq_true (by omega)
            have d3 : (no : Int) < (b : Int) := by omega
            have hln : ((T) ++ List.replicate q (0 : Int)).length ≤ 2000 := by rw [List.length_append, List.length_replicate, HLL.out]; omega
            have hlc : ((T) ++ List.replicate q (0 : Int)).length = no := by rw [List.length_append, List.length_replicate, HLL.out]; omega
            have HLC := Lib.hid hlc
            have HNO := Lib.hid hno
            clear hlc hno
            go_wp2_with (at_builtin; go_loud (refine wpList_append_own _ rfl _ _ 23 rfl w2.heap.size 3 i0 (.int .i64 0) 1 8 Try.underlying23 hi hz0 hz1 hz2 rfl (by decide) _ _ _ rfl (HO.out.below ((Below.refl _ _).alloc (Nat.le_refl _) _)) ⟨wr.heap.size, 0, none⟩ 1 1 [.int .i64 0] rfl rfl new_one one_cell (by unfold maxLen; omega) (by omega) (by simp; omega) ?_))
            intro v' w5 hown' hgrow _
            have hO5 : OwnInts w5 w2.heap.size v' ((T) ++ List.replicate (q + 1) 0) := by
              have := OwnInts.snoc (zs := (T) ++ List.replicate q 0) (z := 0) (by first | exact hown' | (rw [HLC.out]; exact hown') | (rw [List.length_append, List.length_replicate]; exact hown'))
              rw [List.append_assoc, ← List.replicate_succ'] at this
              exact this
            have hl5 := hO5.lenD
            rw [List.length_append, List.length_replicate, HLL.out] at hl5
            have HL5 := Lib.hid hl5
            have hb5 := (HBB.out.alloc HBB.out.size (.cells #[.int .i64 0] 3)).grown hgrow (by have := (World.grownBy_alloc wr (.cells #[.int .i64 0] 3) none).size; have := HBB.out.size; omega) (fun x hx => (HO.out.lt x hx).1)
            have NXT := keptI (And.intro hO5 hb5)
            clear hown' hgrow hO5 hb5 hl5 c0 c1 c2 c3
            go_wp2
            go_roundw
            case rel => exact ⟨q + 1, by omega, NXT.out.1, NXT.out.2⟩
            case measure => rw [HL5.out]; have := HNO.out; simp [lenD]; omega
          · have hqm : q = y := by omega
            have d1 : decide ((no : Int) < (b : Int)) = false := decide_eq_false (by omega)
            have d2 : decide (no < b) = false := decide_eq_false (by omega)
            have d3 : ¬ (no : Int) < (b : Int) := by omega
            clear hno
            subst hqm
            go_wp2
            go_ret
            exact ⟨_, _, _, rfl, by rw [HZ2.out]; exact World.ownsRow.mono HO.out HBX2.out.size, HBr.out⟩
      · skip
        subst hcmp
        obtain ⟨y, hy⟩ : ∃ y, b - (x - a) = y := ⟨_, rfl⟩
        have u3 : IntKind.i64.wrap ((b : Int) - ((x - a) : Nat)) = (y : Int) := by rw [show ((b : Int) - ((x - a) : Nat)) = (y : Int) from by omega]; exact IntWalk.i64_in _ (by omega)
        obtain ⟨T, hT⟩ : ∃ T, (C.drop a).take (x - a) = T := ⟨_, rfl⟩
        have hTl : T.length = (x - a) := by rw [← hT, List.length_take, List.length_drop, HN.out]; omega
        have hTs : T = shownL C a b := by
          unfold shownL
          rw [← hT]
          rw [show (x - a) = b from by omega]
        have HPT : Hid (∀ wy, Below w.heap.size w wy → IntsAt wy (.slice (some ⟨g, a, none⟩) (x - a) (x - a)) T) := fun wy hb => by
          have := part_d (s := a) (l := (x - a)) (HC0.out.below hb) (by omega)
          rw [Nat.zero_add, hT] at this
          exact this
        have HZ2 : Hid (Z = T ++ List.replicate y 0) := by show _ = _; rw [HZ.out, winL, ← hTs, hTl, hy]
        have HLL := Lib.hid hTl
        have hyb : (x - a) + y = b := by omega
        clear hT hTs hTl hy hx
        go_enter Try.func23, Try.ntmps23
        go_wp2_with fail
        generalize w.alloc (.cells #[.slice (some ⟨g, 0, none⟩) x x, .slice ap m cp, .int .i64 (a : Int), .int .i64 (b : Int)] 25) = wA at hB HC HP HBX ⊢
        obtain ⟨c0, c1, c2, c3⟩ := hB.cells
        refine (s_validDisplay _ _ _ a b C P true HC.out HP.out (by omega) (by omega) ⟨fun _ => HV.out, fun _ => rfl⟩).mono ?_
        rintro e w2 ⟨rfl, hb2⟩
        have HBX2 := keptI (below_next HBX.out hb2)
        have hB2 := hB.below hb2 hB.lt
        clear hb2 c0 c1 c2 c3 hB
        obtain ⟨c0, c1, c2, c3⟩ := hB2.cells
        have HB2 := keptI hB2
        go_wp2_with fail
        refine (s_copyInts_d w2 _ _ (HPT.out w2 HBX2.out) (by have := HLL.out; omega) (.inl ⟨_, _, _, _, rfl⟩)).mono ?_
        rintro e w3 ⟨g3, c3', rfl, hO3, hb3⟩
        have HO3 : Hid (OwnInts w3 w2.heap.size (.slice (some ⟨g3, 0, none⟩) (T).length c3') (T ++ List.replicate 0 0)) := by show OwnInts _ _ _ _; rw [List.replicate_zero, List.append_nil]; exact hO3
        have HBX3 := keptI hb3
        clear hO3 hb3 c0 c1 c2 c3 hB2
        go_wp2
        go_loopw [3] (fun o wr => ∃ q : Nat, q ≤ y ∧ OwnInts wr w2.heap.size o (T ++ List.replicate q 0) ∧ Below w2.heap.size w2 wr) (fun o _ => 1000 - lenD o)
        case atStart => exact ⟨0, Nat.zero_le _, HO3.out, HBX3.out⟩
        case round =>
          obtain ⟨q, hq, hO, hbb⟩ := hrel
          have hlen := hO.lenD
          rw [List.length_append, List.length_replicate, HLL.out] at hlen
          obtain ⟨ao, no, co, hoo⟩ := hO.isSliceZ
          subst hoo
          have hno : no = (x - a) + q := hlen
          have HO := keptI hO
          have HBr := keptI (below_next HBX2.out hbb)
          obtain ⟨c0, c1, c2, c3⟩ := (HB2.out.below hbb HB2.out.lt).cells
          have HBB := keptI hbb
          have hszr := HBB.out.size
          clear hO hbb hlen
          by_cases hlt : q < y
          · have d1 : decide ((no : Int) < (b : Int)) = true := decide_eq_true (by omega)
            have d2 : decide (no < b) = true := decide_eq_true (by omega)
            have d3 : (no : Int) < (b : Int) := by omega
            have hln : ((T) ++ List.replicate q (0 : Int)).length ≤ 2000 := by rw [List.length_append, List.length_replicate, HLL.out]; omega
            have hlc : ((T) ++ List.replicate q (0 : Int)).length = no := by rw [List.length_append, List.length_replicate, HLL.out]; omega
            have HLC := Lib.hid hlc
            have HNO := Lib.hid hno
            clear hlc hno
            go_wp2_with (at_builtin; go_loud (refine wpList_append_own _ rfl _ _ 23 rfl w2.heap.size 3 i0 (.int .i64 0) 1 8 Try.underlying23 hi hz0 hz1 hz2 rfl (by decide) _ _ _ rfl (HO.out.below ((Below.refl _ _).alloc (Nat.le_refl _) _)) ⟨wr.heap.size, 0, none⟩ 1 1 [.int .i64 0] rfl rfl new_one one_cell (by unfold maxLen; omega) (by omega) (by simp; omega) ?_))
            intro v' w5 hown' hgrow _
            have hO5 : OwnInts w5 w2.heap.size v' ((T) ++ List.replicate (q + 1) 0) := by
              have := OwnInts.snoc (zs := (T) ++ List.replicate q 0) (z := 0) (by first | exact hown' | (rw [HLC.out]; exact hown') | (rw [List.length_append, List.length_replicate]; exact hown'))
              rw [List.append_assoc, ← List.replicate_succ'] at this
              exact this
            have hl5 := hO5.lenD
            rw [List.length_append, List.length_replicate, HLL.out] at hl5
            have HL5 := Lib.hid hl5
            have hb5 := (HBB.out.alloc HBB.out.size (.cells #[.int .i64 0] 3)).grown hgrow (by have := (World.grownBy_alloc wr (.cells #[.int .i64 0] 3) none).size; have := HBB.out.size; omega) (fun x hx => (HO.out.lt x hx).1)
            have NXT := keptI (And.intro hO5 hb5)
            clear hown' hgrow hO5 hb5 hl5 c0 c1 c2 c3
            go_wp2
            go_roundw
            case rel => exact ⟨q + 1, by omega, NXT.out.1, NXT.out.2⟩
            case measure => rw [HL5.out]; have := HNO.out; simp [lenD]; omega
          · have hqm : q = y := by omega
            have d1 : decide ((no : Int) < (b : Int)) = false := decide_eq_false (by omega)
            have d2 : decide (no < b) = false := decide_eq_false (by omega)
            have d3 : ¬ (no : Int) < (b : Int) := by omega
            clear hno
            subst hqm
            go_wp2
            go_ret
            exact ⟨_, _, _, rfl, by rw [HZ2.out]; exact World.ownsRow.mono HO.out HBX2.out.size, HBr.out⟩
end Go.Proofs.Ytfgnckafpnobhaa
