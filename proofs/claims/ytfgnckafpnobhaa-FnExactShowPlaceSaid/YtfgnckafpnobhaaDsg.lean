
/- CellOfPlace of both sides, its exact law. -/
import Derived.Test.YtfgnckafpnobhaaDsd
import Derived.Deep.RegionHeld3
namespace Go.Proofs.Ytfgnckafpnobhaa
open Go.RowKit

/-- the first cell with the greatest place that is not behind k, of the first cells -/
def cpN (P : List Int) (k : Int) : Nat → Int
  | 0 => -1
  | i + 1 => if P.getD i 0 ≤ k ∧ (cpN P k i < 0 ∨ P.getD (cpN P k i).toNat 0 < P.getD i 0) then (i : Int) else cpN P k i
theorem cpN_bd (P : List Int) (k : Int) (i : Nat) : -1 ≤ cpN P k i ∧ cpN P k i < i := by
  induction i with
  | zero => simp [cpN]
  | succ i ih => simp only [cpN]; split <;> omega
def CpIs (C P : List Int) (s t k r : Int) : Prop :=
  ((VDp C P s t ∧ Wn k 0 59) ∧ r = cpN P k P.length) ∨ (¬ (VDp C P s t ∧ Wn k 0 59) ∧ r = -1)
theorem cpIs_any (C P : List Int) (s t k : Int) : ∃ r, CpIs C P s t k r := by
  by_cases h : VDp C P s t ∧ Wn k 0 59
  · exact ⟨_, .inl ⟨h, rfl⟩⟩
  · exact ⟨_, .inr ⟨h, rfl⟩⟩
set_option maxHeartbeats 400000 in
theorem i_isPlace (n : Int) (w : World) (b : Bool) (hb : Hid (b = true ↔ Wn n 0 59)) :
    Calls Try.prog 59 #[.int .i64 n] w fun e w' => e = .returned (.bool b) ∧ w = w' := by
  go_enter Try.func59, Try.ntmps59
  go_wp2_with fail
  refine (i_within_d _ _ _ _ b hb).mono ?_
  rintro e w' ⟨rfl, rfl⟩
  go_wp2
  go_ret
  exact ⟨rfl, rfl⟩
set_option maxHeartbeats 2000000 in
theorem i_CellOfPlace (w : World) (c p : Value) (s t k r : Int) (C P : List Int) (hC : IntsAt w c C) (hP : IntsAt w p P) (hs : -9223372036854775808 ≤ s ∧ s ≤ 9223372036854775807) (ht : -9223372036854775808 ≤ t ∧ t ≤ 9223372036854775807) (hr : Hid (CpIs C P s t k r)) :
    Calls Try.prog 29 #[dspV c p s t, .int .i64 k] w fun e w' => e = .returned (.int .i64 r) ∧ Below w.heap.size w w' := by
  obtain ⟨ac, n, cc, rfl, hn, xc1, xc2, _⟩ := hC.partsI
  obtain ⟨ap, m, cp, rfl, hm, xp1, xp2, xp3⟩ := hP.partsI
  have HM := Lib.hid hm
  have HP3 := keptI xp3
  obtain ⟨hB, hbx⟩ := dbox w (.slice ac n cc) (.slice ap m cp) s t
  have HC := keptI (hC.below hbx)
  have HP := keptI (hP.below hbx)
  have HBX := keptI hbx
  clear hC hP hbx hn xp3 hm
  by_cases hV : VDp C P s t
  rotate_left
  · have HV := kepD hV
    have HR : Hid (r = -1) := by rcases hr.out with h | h; exact absurd h.1.1 hV; exact h.2
    clear hV
    go_enter Try.func29, Try.ntmps29
    go_wp2_with fail
    generalize w.alloc (.cells #[.slice ac n cc, .slice ap m cp, .int .i64 s, .int .i64 t] 25) = wA at hB HC HP HBX ⊢
    obtain ⟨c0, c1, c2, c3⟩ := hB.cells
    refine (i_ValidDisplay _ _ _ s t C P false HC.out HP.out hs ht ⟨fun e => (by cases e), fun h => absurd h HV.out⟩).mono ?_
    rintro e w2 ⟨rfl, hb2⟩
    have HBX2 := keptI (below_next HBX.out hb2)
    have hB2 := hB.below hb2 hB.lt
    clear hb2 c0 c1 c2 c3 hB
    go_wp2
    go_ret
    exact ⟨by rw [HR.out]; rfl, HBX2.out⟩
  · have HV := kepD hV
    have hm200 : m ≤ 200 := by have h1 := hV.1.1; have h2 := hV.2.1.1; have := HM.out; omega
    clear hV
    by_cases hK : Wn k 0 59
    rotate_left
    · have HK := kepD hK
      have HR : Hid (r = -1) := by rcases hr.out with h | h; exact absurd h.1.2 hK; exact h.2
      clear hK
      go_enter Try.func29, Try.ntmps29
      go_wp2_with fail
      generalize w.alloc (.cells #[.slice ac n cc, .slice ap m cp, .int .i64 s, .int .i64 t] 25) = wA at hB HC HP HBX ⊢
      obtain ⟨c0, c1, c2, c3⟩ := hB.cells
      refine (i_ValidDisplay _ _ _ s t C P true HC.out HP.out hs ht ⟨fun _ => HV.out, fun _ => rfl⟩).mono ?_
      rintro e w2 ⟨rfl, hb2⟩
      have HBX2 := keptI (below_next HBX.out hb2)
      have hB2 := hB.below hb2 hB.lt
      clear hb2 c0 c1 c2 c3 hB
      go_wp2_with fail
      refine (i_isPlace _ _ false ⟨fun e => (by cases e), fun h => absurd h HK.out⟩).mono ?_
      rintro e w' ⟨rfl, rfl⟩
      go_wp2
      go_ret
      exact ⟨by rw [HR.out]; rfl, HBX2.out⟩
    · have HK := kepD hK
      have HR : Hid (r = cpN P k m) := by
        rcases hr.out with h | h
        · rw [← HM.out]; exact h.2
        · exact absurd ⟨HV.out, HK.out⟩ h.1
      clear hK
      go_enter Try.func29, Try.ntmps29
      go_wp2_with fail
      generalize w.alloc (.cells #[.slice ac n cc, .slice ap m cp, .int .i64 s, .int .i64 t] 25) = wA at hB HC HP HBX ⊢
      obtain ⟨c0, c1, c2, c3⟩ := hB.cells
      refine (i_ValidDisplay _ _ _ s t C P true HC.out HP.out hs ht ⟨fun _ => HV.out, fun _ => rfl⟩).mono ?_
      rintro e w2 ⟨rfl, hb2⟩
      have HBX2 := keptI (below_next HBX.out hb2)
      have hB2 := hB.below hb2 hB.lt
      clear hb2 c0 c1 c2 c3 hB
      go_wp2_with fail
      refine (i_isPlace _ _ true ⟨fun _ => HK.out, fun _ => rfl⟩).mono ?_
      rintro e w' ⟨rfl, rfl⟩
      have HBox := keptI hB2
      have HB0 := HBX2
      obtain ⟨c0, c1, c2, c3⟩ := hB2.cells
      clear hB2
      go_wp2
      clear c0 c1 c2 c3
      go_loopw [5, 19] (fun f i wr => ∃ q : Nat, q ≤ m ∧ i = .int .i64 q ∧ f = .int .i64 (cpN P k q) ∧ Below w2.heap.size w2 wr) (fun _ i _ => m - (intOf i).toNat)
      case atStart => exact ⟨0, Nat.zero_le _, rfl, rfl, Below.refl _ _⟩
      case round =>
        obtain ⟨q, hq, rfl, rfl, hbb⟩ := hrel
        obtain ⟨c0, c1, c2, c3⟩ := (HBox.out.below hbb HBox.out.lt).cells
        have HBr := keptI (below_next HB0.out hbb)
        have HBB := keptI hbb
        have hfb := cpN_bd P k q
        obtain ⟨f, hf⟩ : ∃ f, cpN P k q = f := ⟨_, rfl⟩
        rw [hf] at hfb ⊢
        clear hbb
        by_cases hlt : q < m
        · obtain ⟨g, off, rfl, hc⟩ : ∃ g off, ap = some ⟨g, off, none⟩ ∧ ∀ i, i < m → w.cell? ⟨g, off + i, none⟩ = some (.int .i64 (P.getD i 0)) := by
            rcases HP3.out with h | h
            · omega
            · exact h
          have HS : Hid (cpN P k (q + 1) = if P.getD q 0 ≤ k ∧ (f < 0 ∨ P.getD f.toNat 0 < P.getD q 0) then (q : Int) else f) := by show _ = _; rw [cpN, hf]
          obtain ⟨y, hy⟩ : ∃ y, P.getD q 0 = y := ⟨_, rfl⟩
          have c5 := hc q hlt
          rw [hy] at c5 HS
          have c5 := (HBr.out.cell (World.block_lt_of_cell? w _ c5)).trans c5
          have q1 : (q : Int) < (m : Int) := by omega
          have q0 : (0 : Int) ≤ (q : Int) := by omega
          clear hf hy
          by_cases hyk : y ≤ k
          · have d1 : decide (y ≤ k) = true := decide_eq_true hyk
            by_cases hf0 : f < 0
            · have d2 : decide (f < 0) = true := decide_eq_true hf0
              have HN2 : Hid (cpN P k (q + 1) = (q : Int)) := by show _ = _; rw [HS.out, if_pos ⟨hyk, .inl hf0⟩]
              clear hc
              go_wp2
              go_roundw
              case rel => exact ⟨q + 1, by omega, by go_num, by rw [HN2.out], HBB.out⟩
              case measure => simp [intOf]; omega
            · have d2 : decide (f < 0) = false := decide_eq_false hf0
              obtain ⟨j, rfl⟩ : ∃ j : Nat, f = j := ⟨f.toNat, by omega⟩
              obtain ⟨x, hx⟩ : ∃ x, P.getD j 0 = x := ⟨_, rfl⟩
              have c6 := hc j (by omega)
              rw [hx] at c6
              have c6 := (HBr.out.cell (World.block_lt_of_cell? w _ c6)).trans c6
              rw [Int.toNat_natCast, hx] at HS
              have q2 : (j : Int) < (m : Int) := by omega
              have q3 : (0 : Int) ≤ (j : Int) := by omega
              have q4 : j < m := by omega
              clear hc hx
              by_cases hxy : x < y
              · have d3 : decide (x < y) = true := decide_eq_true hxy
                have HN2 : Hid (cpN P k (q + 1) = (q : Int)) := by show _ = _; rw [HS.out, if_pos ⟨hyk, .inr hxy⟩]
                go_wp2
                go_roundw
                case rel => exact ⟨q + 1, by omega, by go_num, by rw [HN2.out], HBB.out⟩
                case measure => simp [intOf]; omega
              · have d3 : decide (x < y) = false := decide_eq_false hxy
                have HN2 : Hid (cpN P k (q + 1) = (j : Int)) := by show _ = _; rw [HS.out, if_neg (fun h => by rcases h.2 with h | h; exact hf0 h; exact hxy h)]
                go_wp2
                go_roundw
                case rel => exact ⟨q + 1, by omega, by go_num, by rw [HN2.out], HBB.out⟩
                case measure => simp [intOf]; omega
          · have d1 : decide (y ≤ k) = false := decide_eq_false hyk
            have HN2 : Hid (cpN P k (q + 1) = f) := by show _ = _; rw [HS.out, if_neg (fun h => hyk h.1)]
            clear hc
            go_wp2
            go_roundw
            case rel => exact ⟨q + 1, by omega, by go_num, by rw [HN2.out], HBB.out⟩
            case measure => simp [intOf]; omega
        · obtain rfl : q = m := by omega
          have HFF := Lib.hid hf
          clear hf
          go_wp2
          go_ret
          exact ⟨by rw [HR.out, HFF.out]; rfl, HBr.out⟩
set_option maxHeartbeats 2000000 in
theorem s_cellOfPlace (w : World) (c p : Value) (s t k : Int) (C P : List Int) (hC : IntsAt w c C) (hP : IntsAt w p P) :
    Calls Try.prog 60 #[dspV c p s t, .int .i64 k] w fun e w' => e = .returned (.int .i64 (cpN P k P.length)) ∧ Below w.heap.size w w' := by
  obtain ⟨ac, n, cc, rfl, hn, xc1, xc2, _⟩ := hC.partsI
  obtain ⟨ap, m, cp, rfl, hm, xp1, xp2, xp3⟩ := hP.partsI
  have HP3 := keptI xp3
  obtain ⟨hB, hbx⟩ := dbox w (.slice ac n cc) (.slice ap m cp) s t
  have HB0 := keptI hbx
  have HBox := keptI hB
  rw [hm]
  clear hC hP hbx hn xp3 hm hB
  go_enter Try.func60, Try.ntmps60
  go_wp2
  generalize w.alloc (.cells #[.slice ac n cc, .slice ap m cp, .int .i64 s, .int .i64 t] 25) = wA at HB0 HBox ⊢
  go_loopw [5, 6] (fun f i wr => ∃ q : Nat, q ≤ m ∧ i = .int .i64 q ∧ f = .int .i64 (cpN P k q) ∧ Below wA.heap.size wA wr) (fun _ i _ => m - (intOf i).toNat)
  case atStart => exact ⟨0, Nat.zero_le _, rfl, rfl, Below.refl _ _⟩
  case round =>
    obtain ⟨q, hq, rfl, rfl, hbb⟩ := hrel
    obtain ⟨c0, c1, c2, c3⟩ := (HBox.out.below hbb HBox.out.lt).cells
    have HBr := keptI (below_next HB0.out hbb)
    have HBB := keptI hbb
    have hfb := cpN_bd P k q
    obtain ⟨f, hf⟩ : ∃ f, cpN P k q = f := ⟨_, rfl⟩
    rw [hf] at hfb ⊢
    clear hbb
    by_cases hlt : q < m
    · obtain ⟨g, off, rfl, hc⟩ : ∃ g off, ap = some ⟨g, off, none⟩ ∧ ∀ i, i < m → w.cell? ⟨g, off + i, none⟩ = some (.int .i64 (P.getD i 0)) := by
        rcases HP3.out with h | h
        · omega
        · exact h
      have HS : Hid (cpN P k (q + 1) = if P.getD q 0 ≤ k ∧ (f < 0 ∨ P.getD f.toNat 0 < P.getD q 0) then (q : Int) else f) := by show _ = _; rw [cpN, hf]
      obtain ⟨y, hy⟩ : ∃ y, P.getD q 0 = y := ⟨_, rfl⟩
      have c5 := hc q hlt
      rw [hy] at c5 HS
      have c5 := (HBr.out.cell (World.block_lt_of_cell? w _ c5)).trans c5
      have q1 : (q : Int) < (m : Int) := by omega
      have q0 : (0 : Int) ≤ (q : Int) := by omega
      clear hf hy
      by_cases hyk : y ≤ k
      · have d1 : decide (y ≤ k) = true := decide_eq_true hyk
        by_cases hf0 : f < 0
        · have d2 : decide (f < 0) = true := decide_eq_true hf0
          have HN2 : Hid (cpN P k (q + 1) = (q : Int)) := by show _ = _; rw [HS.out, if_pos ⟨hyk, .inl hf0⟩]
          clear hc
          go_wp2_with fail
          go_quiet (fail)
          go_wp2
          go_roundw
          case rel => exact ⟨q + 1, by omega, by go_num, by rw [HN2.out], below_drewD HBB.out _⟩
          case measure => simp [intOf]; omega
        · have d2 : decide (f < 0) = false := decide_eq_false hf0
          obtain ⟨j, rfl⟩ : ∃ j : Nat, f = j := ⟨f.toNat, by omega⟩
          obtain ⟨x, hx⟩ : ∃ x, P.getD j 0 = x := ⟨_, rfl⟩
          have c6 := hc j (by omega)
          rw [hx] at c6
          have c6 := (HBr.out.cell (World.block_lt_of_cell? w _ c6)).trans c6
          rw [Int.toNat_natCast, hx] at HS
          have q2 : (j : Int) < (m : Int) := by omega
          have q3 : (0 : Int) ≤ (j : Int) := by omega
          have q4 : j < m := by omega
          clear hc hx
          by_cases hxy : x < y
          · have d3 : decide (x < y) = true := decide_eq_true hxy
            have HN2 : Hid (cpN P k (q + 1) = (q : Int)) := by show _ = _; rw [HS.out, if_pos ⟨hyk, .inr hxy⟩]
            go_wp2_with fail
            go_quiet (fail)
            go_wp2
            go_roundw
            case rel => exact ⟨q + 1, by omega, by go_num, by rw [HN2.out], below_drewD HBB.out _⟩
            case measure => simp [intOf]; omega
          · have d3 : decide (x < y) = false := decide_eq_false hxy
            have HN2 : Hid (cpN P k (q + 1) = (j : Int)) := by show _ = _; rw [HS.out, if_neg (fun h => by rcases h.2 with h | h; exact hf0 h; exact hxy h)]
            go_wp2_with fail
            go_quiet (fail)
            go_wp2
            go_roundw
            case rel => exact ⟨q + 1, by omega, by go_num, by rw [HN2.out], below_drewD HBB.out _⟩
            case measure => simp [intOf]; omega
      · have d1 : decide (y ≤ k) = false := decide_eq_false hyk
        have HN2 : Hid (cpN P k (q + 1) = f) := by show _ = _; rw [HS.out, if_neg (fun h => hyk h.1)]
        clear hc
        go_wp2_with fail
        go_quiet (fail)
        go_wp2
        go_roundw
        case rel => exact ⟨q + 1, by omega, by go_num, by rw [HN2.out], below_drewD HBB.out _⟩
        case measure => simp [intOf]; omega
    · obtain rfl : q = m := by omega
      have HFF := Lib.hid hf
      clear hf
      go_wp2
      go_ret
      exact ⟨by rw [HFF.out]; rfl, HBr.out⟩
set_option maxHeartbeats 2000000 in
theorem s_CellOfPlace (w : World) (c p : Value) (s t k r : Int) (C P : List Int) (hC : IntsAt w c C) (hP : IntsAt w p P) (hs : -9223372036854775808 ≤ s ∧ s ≤ 9223372036854775807) (ht : -9223372036854775808 ≤ t ∧ t ≤ 9223372036854775807) (hr : Hid (CpIs C P s t k r)) :
    Calls Try.prog 30 #[dspV c p s t, .int .i64 k] w fun e w' => e = .returned (.int .i64 r) ∧ Below w.heap.size w w' := by
  obtain ⟨ac, n, cc, rfl, hn, xc1, xc2, _⟩ := hC.partsI
  obtain ⟨ap, m, cp, rfl, hm, xp1, xp2, xp3⟩ := hP.partsI
  have HM := Lib.hid hm
  have HP3 := keptI xp3
  obtain ⟨hB, hbx⟩ := dbox w (.slice ac n cc) (.slice ap m cp) s t
  have HC := keptI (hC.below hbx)
  have HP := keptI (hP.below hbx)
  have HBX := keptI hbx
  clear hC hP hbx hn xp3 hm
  by_cases hV : VDp C P s t
  rotate_left
  · have HV := kepD hV
    have HR : Hid (r = -1) := by rcases hr.out with h | h; exact absurd h.1.1 hV; exact h.2
    clear hV
    go_enter Try.func30, Try.ntmps30
    go_wp2_with fail
    generalize w.alloc (.cells #[.slice ac n cc, .slice ap m cp, .int .i64 s, .int .i64 t] 25) = wA at hB HC HP HBX ⊢
    obtain ⟨c0, c1, c2, c3⟩ := hB.cells
    refine (s_validDisplay _ _ _ s t C P false HC.out HP.out hs ht ⟨fun e => (by cases e), fun h => absurd h HV.out⟩).mono ?_
    rintro e w2 ⟨rfl, hb2⟩
    have HC2 := keptI (HC.out.below hb2)
    have HP2 := keptI (HP.out.below hb2)
    have HBX2 := keptI (below_next HBX.out hb2)
    have hB2 := hB.below hb2 hB.lt
    clear hb2 c0 c1 c2 c3 hB
    go_wp2
    go_ret
    exact ⟨by rw [HR.out]; rfl, HBX2.out⟩
  · have HV := kepD hV
    have hm200 : m ≤ 200 := by have h1 := hV.1.1; have h2 := hV.2.1.1; have := HM.out; omega
    clear hV
    by_cases hK : Wn k 0 59
    rotate_left
    · have HK := kepD hK
      have HR : Hid (r = -1) := by rcases hr.out with h | h; exact absurd h.1.2 hK; exact h.2
      clear hK
      go_enter Try.func30, Try.ntmps30
      go_wp2_with fail
      generalize w.alloc (.cells #[.slice ac n cc, .slice ap m cp, .int .i64 s, .int .i64 t] 25) = wA at hB HC HP HBX ⊢
      obtain ⟨c0, c1, c2, c3⟩ := hB.cells
      refine (s_validDisplay _ _ _ s t C P true HC.out HP.out hs ht ⟨fun _ => HV.out, fun _ => rfl⟩).mono ?_
      rintro e w2 ⟨rfl, hb2⟩
      have HC2 := keptI (HC.out.below hb2)
      have HP2 := keptI (HP.out.below hb2)
      have HBX2 := keptI (below_next HBX.out hb2)
      have hB2 := hB.below hb2 hB.lt
      clear hb2 c0 c1 c2 c3 hB
      go_wp2_with fail
      refine (s_range_d _ _ _ _ false ⟨fun e => (by cases e), fun h => absurd h HK.out⟩).mono ?_
      rintro e w' ⟨rfl, rfl⟩
      go_wp2
      go_ret
      exact ⟨by rw [HR.out]; rfl, HBX2.out⟩
    · have HK := kepD hK
      have HR : Hid (r = cpN P k m) := by
        rcases hr.out with h | h
        · rw [← HM.out]; exact h.2
        · exact absurd ⟨HV.out, HK.out⟩ h.1
      clear hK
      go_enter Try.func30, Try.ntmps30
      go_wp2_with fail
      generalize w.alloc (.cells #[.slice ac n cc, .slice ap m cp, .int .i64 s, .int .i64 t] 25) = wA at hB HC HP HBX ⊢
      obtain ⟨c0, c1, c2, c3⟩ := hB.cells
      refine (s_validDisplay _ _ _ s t C P true HC.out HP.out hs ht ⟨fun _ => HV.out, fun _ => rfl⟩).mono ?_
      rintro e w2 ⟨rfl, hb2⟩
      have HC2 := keptI (HC.out.below hb2)
      have HP2 := keptI (HP.out.below hb2)
      have HBX2 := keptI (below_next HBX.out hb2)
      have hB2 := hB.below hb2 hB.lt
      clear hb2 c0 c1 c2 c3 hB
      go_wp2_with fail
      refine (s_range_d _ _ _ _ true ⟨fun _ => HK.out, fun _ => rfl⟩).mono ?_
      rintro e w' ⟨rfl, rfl⟩
      obtain ⟨c0, c1, c2, c3⟩ := hB2.cells
      have hb12 : Below w.heap.size w w2 := HBX2.out
      go_wp2_with fail
      refine (s_cellOfPlace _ _ _ s t k C P HC2.out HP2.out).mono ?_
      rintro e w3 ⟨rfl, hb3⟩
      go_wp2
      go_ret
      exact ⟨by rw [HR.out, ← HM.out]; rfl, below_next HBX2.out hb3⟩
set_option maxRecDepth 20000 in
set_option maxHeartbeats 4000000 in
theorem exCellOfPlace_walk (c p : Value) (s t : Int) (C P : List Int) (k : Int) (_hk : -9223372036854775808 ≤ k ∧ k ≤ 9223372036854775807) (w : World) (hC : IntsAt w c C) (hP : IntsAt w p P) (hs : -9223372036854775808 ≤ s ∧ s ≤ 9223372036854775807) (ht : -9223372036854775808 ≤ t ∧ t ≤ 9223372036854775807) :
    Calls Try.prog 13 #[.agg #[c, p, .int .i64 s, .int .i64 t], .int .i64 k] w fun e w' => e = .returned (.bool true) ∧ Below w.heap.size w w' := by
  obtain ⟨ac, n, cc, rfl, hn, xc1, xc2, _⟩ := hC.partsI
  obtain ⟨ap, m, cp, rfl, hm, xp1, xp2, _⟩ := hP.partsI
  obtain ⟨r, hrv⟩ := cpIs_any C P s t k
  have HV := Lib.hid hrv
  clear hrv
  have HI : Hid (∀ w c p, IntsAt w c C → IntsAt w p P → Calls Try.prog 29 #[.agg #[c, p, .int .i64 s, .int .i64 t], .int .i64 k] w fun e w' => e = .returned (.int .i64 r) ∧ Below w.heap.size w w') := fun w c p h1 h2 => i_CellOfPlace w c p s t k r C P h1 h2 hs ht HV
  have HS : Hid (∀ w c p, IntsAt w c C → IntsAt w p P → Calls Try.prog 30 #[.agg #[c, p, .int .i64 s, .int .i64 t], .int .i64 k] w fun e w' => e = .returned (.int .i64 r) ∧ Below w.heap.size w w') := fun w c p h1 h2 => s_CellOfPlace w c p s t k r C P h1 h2 hs ht HV
  have HT : Hid (∀ w c p, C.length ≤ 1048576 → P.length ≤ 1048576 → IntsAt w c C → IntsAt w p P → Calls Try.prog 38 #[.agg #[c, p, .int .i64 s, .int .i64 t]] w fun e w' => DspMade C P s t w e w') := fun w c p h1 h2 h3 h4 => toDisplay_any w c p s t C P h3 h4 h1 h2
  have HE : Hid (∀ w c p c' p', IntsAt w c C → IntsAt w p P → IntsAt w c' C → IntsAt w p' P → Calls Try.prog 39 #[.agg #[c, p, .int .i64 s, .int .i64 t], .agg #[c', p', .int .i64 s, .int .i64 t]] w fun e w' => e = .returned (.bool true) ∧ Below w.heap.size w w') := fun w c p c' p' h1 h2 h3 h4 => eqDisplay_same w c p c' p' s t C P h1 h2 h3 h4
  obtain ⟨hB, hbx⟩ := lboxD w (.slice ac n cc) (.slice ap m cp) s t
  have HC := keptI (hC.below hbx)
  have HP := keptI (hP.below hbx)
  have HB := keptI hbx
  have HL := keptI hB
  clear hC hP hbx hB hn hm
  go_enter Try.func13, Try.ntmps13
  go_wp2_with fail
  generalize w.alloc (.cells #[.slice ac n cc, .slice ap m cp, .int .i64 s, .int .i64 t] 38) = wA at HB HC HP HL ⊢
  refine (szDisplay_any wA _ _ s t C P HC.out HP.out).mono ?_
  rintro e w1 ⟨⟨z, rfl, hz⟩, hb1⟩
  have HL1 := keptI (HL.out.below hb1 HL.out.lt)
  have HCa := keptI (HC.out.below hb1)
  have HPa := keptI (HP.out.below hb1)
  have HB1 := keptI (below_next HB.out hb1)
  clear hb1 HL HC HP HB
  rcases hz with rfl | ⟨z0, z1, z2⟩
  · go_wp2
    go_ret
    exact ⟨rfl, HB1.out⟩
  · have d1 : decide (z < 0) = false := decide_eq_false (by omega)
    have K1 := Lib.hid z1
    have K2 := Lib.hid z2
    clear z1 z2
    obtain ⟨c0, c1, c2, c3⟩ := HL1.out.cells
    go_wp2_with fail
    refine (HT.out w1 _ _ K1.out K2.out HCa.out HPa.out).mono ?_
    rintro e w2 ⟨g1, n1, g2, n2, rfl, hO1, hO2, _, _, _, hb2⟩
    have HO1 := keptI hO1.at
    have HO2 := keptI hO2.at
    have HL2 := keptI (HL1.out.below hb2 HL1.out.lt)
    have HCb := keptI (HCa.out.below hb2)
    have HPb := keptI (HPa.out.below hb2)
    have HB2 := keptI (below_next HB1.out hb2)
    clear hO1 hO2 hb2 c0 c1 c2 c3
    go_wp2_with fail
    refine (HS.out w2 _ _ HO1.out HO2.out).mono ?_
    rintro e w3 ⟨rfl, hb3⟩
    have HL3 := keptI (HL2.out.below hb3 HL2.out.lt)
    have HCc := keptI (HCb.out.below hb3)
    have HPc := keptI (HPb.out.below hb3)
    have HB3 := keptI (below_next HB2.out hb3)
    clear hb3
    obtain ⟨c0, c1, c2, c3⟩ := HL3.out.cells
    go_wp2_with fail
    refine (HT.out w3 _ _ K1.out K2.out HCc.out HPc.out).mono ?_
    rintro e w4 ⟨g3, n3, g4, n4, rfl, hO3, hO4, _, _, _, hb4⟩
    obtain ⟨hD4, hal⟩ := dbox w4 (.slice (some ⟨g3, 0, none⟩) n3 n3) (.slice (some ⟨g4, 0, none⟩) n4 n4) s t
    have HO3 := keptI (hO3.at.below hal)
    have HO4 := keptI (hO4.at.below hal)
    have HF4 := keptI hD4
    have HL4 := keptI ((HL3.out.below hb4 HL3.out.lt).below hal (HL3.out.below hb4 HL3.out.lt).lt)
    have HCd := keptI ((HCc.out.below hb4).below hal)
    have HPd := keptI ((HPc.out.below hb4).below hal)
    have HB4 := keptI (below_next (below_next HB3.out hb4) hal)
    clear hO3 hO4 hb4 hal hD4 c0 c1 c2 c3
    go_wp2_with fail
    generalize w4.alloc (.cells #[.slice (some ⟨g3, 0, none⟩) n3 n3, .slice (some ⟨g4, 0, none⟩) n4 n4, .int .i64 s, .int .i64 t] 25) = w5 at HO3 HO4 HF4 HL4 HCd HPd HB4 ⊢
    refine (HI.out w5 _ _ HO3.out HO4.out).mono ?_
    rintro e w6 ⟨rfl, hb6⟩
    have HF6 := keptI (HF4.out.below hb6 HF4.out.lt)
    have HL6 := keptI (HL4.out.below hb6 HL4.out.lt)
    have HO3b := keptI (HO3.out.below hb6)
    have HO4b := keptI (HO4.out.below hb6)
    have HCe := keptI (HCd.out.below hb6)
    have HPe := keptI (HPd.out.below hb6)
    have HB6 := keptI (below_next HB4.out hb6)
    clear hb6
    have HK : Hid (∀ wx, Below w6.heap.size w6 wx → (wx.cell? ⟨w.heap.size, 0, none⟩ = some (.slice ac n cc) ∧ wx.cell? ⟨w.heap.size, 1, none⟩ = some (.slice ap m cp) ∧ wx.cell? ⟨w.heap.size, 2, none⟩ = some (.int .i64 s) ∧ wx.cell? ⟨w.heap.size, 3, none⟩ = some (.int .i64 t)) ∧ (wx.cell? ⟨w4.heap.size, 0, none⟩ = some (.slice (some ⟨g3, 0, none⟩) n3 n3) ∧ wx.cell? ⟨w4.heap.size, 1, none⟩ = some (.slice (some ⟨g4, 0, none⟩) n4 n4) ∧ wx.cell? ⟨w4.heap.size, 2, none⟩ = some (.int .i64 s) ∧ wx.cell? ⟨w4.heap.size, 3, none⟩ = some (.int .i64 t))) := fun wx hb => ⟨(HL6.out.below hb HL6.out.lt).cells, (HF6.out.below hb HF6.out.lt).cells⟩
    have HD0 : Hid (Below w6.heap.size w6 w6.drew) := (Below.refl _ _).drew
    go_wp2_with fail
    go_region_held3 (fun wx => (wx.cell? ⟨w.heap.size, 0, none⟩ = some (.slice ac n cc) ∧ wx.cell? ⟨w.heap.size, 1, none⟩ = some (.slice ap m cp) ∧ wx.cell? ⟨w.heap.size, 2, none⟩ = some (.int .i64 s) ∧ wx.cell? ⟨w.heap.size, 3, none⟩ = some (.int .i64 t)) ∧ (wx.cell? ⟨w4.heap.size, 0, none⟩ = some (.slice (some ⟨g3, 0, none⟩) n3 n3) ∧ wx.cell? ⟨w4.heap.size, 1, none⟩ = some (.slice (some ⟨g4, 0, none⟩) n4 n4) ∧ wx.cell? ⟨w4.heap.size, 2, none⟩ = some (.int .i64 s) ∧ wx.cell? ⟨w4.heap.size, 3, none⟩ = some (.int .i64 t))) (first | assumption | exact HK.out _ HD0.out | exact HK.out _ (below_next HD0.out hb7) | exact HK.out _ HD8.out) (first | (go_at_call 38; (with_reducible refine (HT.out _ _ _ K1.out K2.out (HCe.out.below HD0.out) (HPe.out.below HD0.out)).mono ?_); rintro e w7 ⟨g7, n7, g8, n8, rfl, hO7, hO8, _, _, _, hb7⟩; have HO7 := keptI hO7.at; have HO8 := keptI hO8.at; have HO37 := keptI ((HO3b.out.below HD0.out).below hb7); have HO47 := keptI ((HO4b.out.below HD0.out).below hb7); have HB7 := keptI (below_next HB6.out (below_next HD0.out hb7))) | (go_at_call 39; (with_reducible refine (HE.out _ _ _ _ _ HO37.out HO47.out HO7.out HO8.out).mono ?_); rintro e w8 ⟨rfl, hb8⟩; have HB8 := keptI (below_next HB7.out hb8); have HD8 := keptI (below_next (below_next HD0.out hb7) hb8)))
    all_goals
      go_wp2
      go_ret
      exact ⟨rfl, HB8.out⟩
end Go.Proofs.Ytfgnckafpnobhaa
