
/- ProofCost of both sides. -/
import Derived.Test.YtekchmbbafjmmaaPdh
namespace Go.Proofs.Ytekchmbbafjmmaa
open Go.RowKit

/-- cells that can be compared -/
def OkP (zs : List Int) : Prop := zs.length ≤ 30 ∧ ValidL zs
instance (zs : List Int) : Decidable (OkP zs) := inferInstanceAs (Decidable (_ ∧ _))
theorem OkP.cl {zs : List Int} (h : OkP zs) : ∀ z ∈ zs, Cl z := h.2.2
def costA (A B : List Int) : Int := if OkP A ∧ OkP B then (dist A B : Int) else -1
theorem p_valid (w : World) (u : Value) (zs : List Int) (b : Bool) (hx : IntsAt w u zs) (hb : Hid (decide (ValidL zs) = b)) :
    Calls Try.prog 73 #[u] w fun e w' => e = .returned (.bool b) ∧ w = w' := by
  have := i_ValidCells w u zs hx
  rw [hb.out] at this
  exact this
theorem q_valid (w : World) (u : Value) (zs : List Int) (b : Bool) (hx : IntsAt w u zs) (hb : Hid (decide (ValidL zs) = b)) :
    Calls Try.prog 67 #[u] w fun e w' => e = .returned (.bool b) ∧ w = w' := by
  have := s_validCells w u zs hx
  rw [hb.out] at this
  exact this
theorem i_canProof (w : World) (u : Value) (zs : List Int) (b : Bool) (hx : IntsAt w u zs) (hb : Hid (decide (OkP zs) = b)) :
    Calls Try.prog 59 #[u] w fun e w' => e = .returned (.bool b) ∧ w = w' := by
  have HX := keptI hx
  obtain ⟨a, n, ca, rfl, hn, _, x2, _⟩ := hx.partsI
  by_cases h30 : n ≤ 30
  · have d1 : decide ((n : Int) ≤ 30) = true := decide_eq_true (by omega)
    have HV : Hid (decide (ValidL zs) = b) := by
      show _ = _
      rw [← hb.out]
      by_cases hv : ValidL zs
      · rw [decide_eq_true hv, decide_eq_true (show OkP zs from ⟨by omega, hv⟩)]
      · rw [decide_eq_false hv, decide_eq_false (fun h : OkP zs => hv h.2)]
    clear hx hn
    go_enter Try.func59, Try.ntmps59
    go_wp2_with fail
    refine (p_valid _ _ zs b HX.out HV).mono ?_
    rintro e w' ⟨rfl, rfl⟩
    go_wp2
    go_ret
    exact ⟨rfl, rfl⟩
  · have d1 : decide ((n : Int) ≤ 30) = false := decide_eq_false (by omega)
    have HBb : Hid (b = false) := by
      show _ = _
      rw [← hb.out]
      exact decide_eq_false (fun h : OkP zs => h30 (by have := h.1; omega))
    clear hx hn hb
    go_enter Try.func59, Try.ntmps59
    go_wp2
    go_ret
    exact ⟨by rw [HBb.out]; rfl, rfl⟩
set_option maxHeartbeats 1000000 in
theorem s_validProof (w : World) (u v : Value) (A B : List Int) (b : Bool) (hA : IntsAt w u A) (hB : IntsAt w v B) (hb : Hid (decide (OkP A ∧ OkP B) = b)) :
    Calls Try.prog 61 #[u, v] w fun e w' => e = .returned (.bool b) ∧ w = w' := by
  have HA := keptI hA
  have HB := keptI hB
  obtain ⟨a, n, ca, rfl, hn, _, x2, _⟩ := hA.partsI
  obtain ⟨a2, m, cb, rfl, hm, _, y2, _⟩ := hB.partsI
  by_cases hva : ValidL A
  · have HVA : Hid (decide (ValidL A) = true) := decide_eq_true hva
    by_cases hvb : ValidL B
    · have HVB : Hid (decide (ValidL B) = true) := decide_eq_true hvb
      by_cases h1 : n ≤ 30
      · have d1 : decide ((n : Int) ≤ 30) = true := decide_eq_true (by omega)
        by_cases h2 : m ≤ 30
        · have d2 : decide ((m : Int) ≤ 30) = true := decide_eq_true (by omega)
          have HBb : Hid (b = true) := by show _ = _; rw [← hb.out]; exact decide_eq_true ⟨⟨by omega, hva⟩, ⟨by omega, hvb⟩⟩
          clear hA hB hn hm hb hva hvb
          go_enter Try.func61, Try.ntmps61
          go_wp2_with fail
          refine (q_valid _ _ A true HA.out HVA).mono ?_
          rintro e w' ⟨rfl, rfl⟩
          go_wp2_with fail
          refine (q_valid _ _ B true HB.out HVB).mono ?_
          rintro e w' ⟨rfl, rfl⟩
          go_wp2
          go_ret
          exact ⟨by rw [HBb.out]; rfl, rfl⟩
        · have d2 : decide ((m : Int) ≤ 30) = false := decide_eq_false (by omega)
          have HBb : Hid (b = false) := by show _ = _; rw [← hb.out]; exact decide_eq_false (fun h => h2 (by have := h.2.1; omega))
          clear hA hB hn hm hb hva hvb
          go_enter Try.func61, Try.ntmps61
          go_wp2_with fail
          refine (q_valid _ _ A true HA.out HVA).mono ?_
          rintro e w' ⟨rfl, rfl⟩
          go_wp2_with fail
          refine (q_valid _ _ B true HB.out HVB).mono ?_
          rintro e w' ⟨rfl, rfl⟩
          go_wp2
          go_ret
          exact ⟨by rw [HBb.out]; rfl, rfl⟩
      · have d1 : decide ((n : Int) ≤ 30) = false := decide_eq_false (by omega)
        have HBb : Hid (b = false) := by show _ = _; rw [← hb.out]; exact decide_eq_false (fun h => h1 (by have := h.1.1; omega))
        clear hA hB hn hm hb hva hvb
        go_enter Try.func61, Try.ntmps61
        go_wp2_with fail
        refine (q_valid _ _ A true HA.out HVA).mono ?_
        rintro e w' ⟨rfl, rfl⟩
        go_wp2_with fail
        refine (q_valid _ _ B true HB.out HVB).mono ?_
        rintro e w' ⟨rfl, rfl⟩
        go_wp2
        go_ret
        exact ⟨by rw [HBb.out]; rfl, rfl⟩
    · have HVB : Hid (decide (ValidL B) = false) := decide_eq_false hvb
      have HBb : Hid (b = false) := by show _ = _; rw [← hb.out]; exact decide_eq_false (fun h => hvb h.2.2)
      clear hA hB hn hm hb hva hvb
      go_enter Try.func61, Try.ntmps61
      go_wp2_with fail
      refine (q_valid _ _ A true HA.out HVA).mono ?_
      rintro e w' ⟨rfl, rfl⟩
      go_wp2_with fail
      refine (q_valid _ _ B false HB.out HVB).mono ?_
      rintro e w' ⟨rfl, rfl⟩
      go_wp2
      go_ret
      exact ⟨by rw [HBb.out]; rfl, rfl⟩
  · have HVA : Hid (decide (ValidL A) = false) := decide_eq_false hva
    have HBb : Hid (b = false) := by show _ = _; rw [← hb.out]; exact decide_eq_false (fun h => hva h.1.2)
    clear hA hB hn hm hb hva
    go_enter Try.func61, Try.ntmps61
    go_wp2_with fail
    refine (q_valid _ _ A false HA.out HVA).mono ?_
    rintro e w' ⟨rfl, rfl⟩
    go_wp2
    go_ret
    exact ⟨by rw [HBb.out]; rfl, rfl⟩
/-- a table, its first number -/
def TabOut (c : Int) (w : World) (e : Ending) (w' : World) : Prop :=
  ∃ g n cp b m d, e = .returned (.slice (some ⟨g, 0, none⟩) n cp) ∧ 0 < n ∧ 0 < m ∧ w'.cell? ⟨g, 0, none⟩ = some (.slice (some ⟨b, 0, none⟩) m d) ∧ w'.cell? ⟨b, 0, none⟩ = some (.int .i64 c) ∧ Below w.heap.size w w'
theorem plOut_tab {A B : List Int} {w w' : World} {e : Ending} (h : PlOut (gridOf (A.length + 1) (B.length + 1) (dF A B)) w e w') : TabOut (dist A B : Int) w e w' := by
  obtain ⟨a, n, c, rfl, hO, hB⟩ := h
  obtain ⟨hn, g, b, d, rfl, _, _, k1, k2, _⟩ := hO.dot (y := 0) (x := 0) (by omega) (by omega)
  exact ⟨g, n, c, b, _, d, rfl, by omega, by omega, k1, by rw [k2, dF]; simp, hB⟩
set_option maxHeartbeats 1000000 in
theorem i_ProofCost (w : World) (u v : Value) (A B : List Int) (c : Int) (hA : IntsAt w u A) (hB : IntsAt w v B) (hc : Hid (costA A B = c)) :
    Calls Try.prog 24 #[u, v] w fun e w' => KInt c w e w' := by
  have hc := hc.out
  unfold costA at hc
  have HA := keptI hA
  have HB := keptI hB
  by_cases h1 : OkP A
  · have H1 : Hid (decide (OkP A) = true) := decide_eq_true h1
    by_cases h2 : OkP B
    · have H2 : Hid (decide (OkP B) = true) := decide_eq_true h2
      rw [if_pos ⟨h1, h2⟩] at hc
      subst hc
      have HT : Hid (Calls Try.prog 60 #[u, v] w fun e w' => TabOut (dist A B : Int) w e w') := (i_leastCosts w u v A B hA hB h1.1 h2.1 h1.cl h2.cl).mono fun _ _ h => plOut_tab h
      clear hA hB h1 h2
      go_enter Try.func24, Try.ntmps24
      go_wp2_with fail
      refine (i_canProof _ _ A true HA.out H1).mono ?_
      rintro e w' ⟨rfl, rfl⟩
      go_wp2_with fail
      refine (i_canProof _ _ B true HB.out H2).mono ?_
      rintro e w' ⟨rfl, rfl⟩
      go_wp2_with fail
      refine HT.out.mono ?_
      rintro e w1 ⟨g, n, cp, b, m, d, rfl, hn, hm, k1, k2, hb⟩
      have q1 : (0 : Int) < (n : Int) := by omega
      have q2 : (0 : Int) < (m : Int) := by omega
      go_wp2
      go_ret
      exact ⟨rfl, hb⟩
    · have H2 : Hid (decide (OkP B) = false) := decide_eq_false h2
      rw [if_neg (fun h => h2 h.2)] at hc
      subst hc
      clear hA hB h1 h2
      go_enter Try.func24, Try.ntmps24
      go_wp2_with fail
      refine (i_canProof _ _ A true HA.out H1).mono ?_
      rintro e w' ⟨rfl, rfl⟩
      go_wp2_with fail
      refine (i_canProof _ _ B false HB.out H2).mono ?_
      rintro e w' ⟨rfl, rfl⟩
      go_wp2
      go_ret
      exact ⟨rfl, Below.refl _ _⟩
  · have H1 : Hid (decide (OkP A) = false) := decide_eq_false h1
    rw [if_neg (fun h => h1 h.1)] at hc
    subst hc
    clear hA hB h1
    go_enter Try.func24, Try.ntmps24
    go_wp2_with fail
    refine (i_canProof _ _ A false HA.out H1).mono ?_
    rintro e w' ⟨rfl, rfl⟩
    go_wp2
    go_ret
    exact ⟨rfl, Below.refl _ _⟩
set_option maxHeartbeats 1000000 in
theorem s_ProofCost (w : World) (u v : Value) (A B : List Int) (c : Int) (hA : IntsAt w u A) (hB : IntsAt w v B) (hc : Hid (costA A B = c)) :
    Calls Try.prog 25 #[u, v] w fun e w' => KInt c w e w' := by
  have hc := hc.out
  unfold costA at hc
  have HA := keptI hA
  have HB := keptI hB
  by_cases h1 : OkP A ∧ OkP B
  · have H1 : Hid (decide (OkP A ∧ OkP B) = true) := decide_eq_true h1
    rw [if_pos h1] at hc
    subst hc
    have HT : Hid (Calls Try.prog 62 #[u, v] w fun e w' => TabOut (dist A B : Int) w e w') := (s_costs w u v A B hA hB h1.1.1 h1.2.1 h1.1.cl h1.2.cl).mono fun _ _ h => plOut_tab h
    clear hA hB h1
    go_enter Try.func25, Try.ntmps25
    go_wp2_with fail
    refine (s_validProof _ _ _ A B true HA.out HB.out H1).mono ?_
    rintro e w' ⟨rfl, rfl⟩
    go_wp2_with fail
    refine HT.out.mono ?_
    rintro e w1 ⟨g, n, cp, b, m, d, rfl, hn, hm, k1, k2, hb⟩
    have q1 : (0 : Int) < (n : Int) := by omega
    have q2 : (0 : Int) < (m : Int) := by omega
    go_wp2
    go_ret
    exact ⟨rfl, hb⟩
  · have H1 : Hid (decide (OkP A ∧ OkP B) = false) := decide_eq_false h1
    rw [if_neg h1] at hc
    subst hc
    clear hA hB h1
    go_enter Try.func25, Try.ntmps25
    go_wp2_with fail
    refine (s_validProof _ _ _ A B false HA.out HB.out H1).mono ?_
    rintro e w' ⟨rfl, rfl⟩
    go_wp2
    go_ret
    exact ⟨rfl, Below.refl _ _⟩
end Go.Proofs.Ytekchmbbafjmmaa
