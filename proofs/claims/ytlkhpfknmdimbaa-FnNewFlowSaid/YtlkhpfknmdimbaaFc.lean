
/- validFlow of the model. -/
import Derived.Test.YtlkhpfknmdimbaaFb
import Derived.Deep.QuietTactic
import Derived.BigQuiet
namespace Go.Proofs.Ytlkhpfknmdimbaa
open Go.RowKit

theorem not_in {n lo hi : Int} (h : ¬ In n lo hi) : n < lo ∨ hi < n := by unfold In at h; omega
theorem FlAt.drewN {w : World} {g : Nat} {l : FL} {s : Value} (h : FlAt w g l s) (q : Nat) : FlAt (w.drewN q) g l s := h
theorem SigsAt.drewN {w : World} {v : Value} {P : List PSig} (h : SigsAt w v P) (q : Nat) : SigsAt (w.drewN q) v P := h
theorem below_drewNF {B : Nat} {a w : World} (h : Below B a w) (n : Nat) : Below B a (w.drewN n) := ⟨h.os, h.tape, h.output, h.size, h.block⟩
set_option maxRecDepth 20000 in
set_option maxHeartbeats 2000000 in
theorem s_validSignals (l : FL) (s : Value) (P : List PSig) (b : Bool) (w : World) (hx : SigsAt w s P) (hc : -1000000 ≤ l.clock ∧ l.clock ≤ 1000000) (hd : -1000000 ≤ l.delay ∧ l.delay ≤ 1000000) (hb : Hid (b = true ↔ UnderWay P l.clock (l.clock + l.delay))) :
    Calls Try.prog 58 #[flV l s] w fun e w' => e = .returned (.bool b) ∧ Below w.heap.size w w' := by
  have HX := keptF hx
  obtain ⟨a, cp, rfl, x1, x2, _⟩ := hx
  obtain ⟨n, hn⟩ : ∃ n, P.length = n := ⟨_, rfl⟩
  rw [hn] at HX x1 ⊢
  have HN := keptF hn
  have hnm : n ≤ 9223372036854775807 := by omega
  have hB : Below w.heap.size w (w.alloc (.cells (flC l (.slice a n cp)) 25)) := (Below.refl _ _).alloc (Nat.le_refl _) _
  have HB := keptF hB
  have HX1 := keptF (HX.out.below hB)
  have HF := keptF (FlAt.new w l (.slice a n cp))
  clear hn hB
  obtain ⟨v0, v1, v2, v3, v4, v5, v6, v7, v8, v9, v10, v12⟩ := l
  simp only [flV, flC] at HB HX1 HF hc hd hb ⊢
  have u1 : IntKind.i64.wrap (v12 + 1) = v12 + 1 := IntWalk.i64_in _ (by omega)
  have u2 : IntKind.i64.wrap (v12 + v3) = v12 + v3 := IntWalk.i64_in _ (by omega)
  go_enter Try.func58, Try.ntmps58
  go_wp2_with fail
  generalize (w.alloc (.cells #[.int .i64 v0, .int .i64 v1, .int .i64 v2, .int .i64 v3, .int .i64 v4, .int .i64 v5, .int .i64 v6, .int .i64 v7, .int .i64 v8, .bool v9, .bool v10, .slice a n cp, .int .i64 v12] 25)) = wA at HB HX1 HF ⊢
  go_loopw [3] (fun i wr => ∃ k : Nat, k ≤ n ∧ i = .int .i64 k ∧ Hid (UWto P v12 (v12 + v3) k) ∧ ∃ q, wr = wA.drewN q) (fun i _ => n - (intOf i).toNat)
  case atStart => exact ⟨0, Nat.zero_le _, rfl, UWto.zero _ _ _, 0, rfl⟩
  case round =>
    obtain ⟨k, hk, rfl, hu, q, rfl⟩ := hrel
    have HFq := keptF (HF.out.drewN q)
    have HXq := keptF (HX1.out.drewN q)
    have HBq := keptF (below_drewNF HB.out q)
    obtain ⟨wq, hwq⟩ : ∃ wq, wA.drewN q = wq := ⟨_, rfl⟩
    have HWQ := keptF hwq
    rw [hwq] at HFq HXq HBq ⊢
    clear hwq
    obtain ⟨c0, c1, c2, c3, c4, c5, c6, c7, c8, c9, c10, c11, c12⟩ := HFq.out.cells
    simp only at c3 c11 c12
    clear c0 c1 c2 c4 c5 c6 c7 c8 c9 c10
    by_cases hlt : k < n
    · obtain ⟨g, off, c', hv, s0, _⟩ := HXq.out.nth (k := k) (by rw [HN.out]; exact hlt)
      rw [HN.out] at hv
      injection hv with e1 e2 e3
      subst e1 e3
      obtain ⟨x, hx⟩ : ∃ x, (P.getD k noS).at_ = x := ⟨_, rfl⟩
      have HQ := keptF hx
      rw [hx] at s0
      have k0 : (0 : Int) ≤ (k : Int) := by omega
      have k1 : (k : Int) < (n : Int) := by omega
      clear e2 hx
      by_cases hin : v12 + 1 ≤ x ∧ x ≤ v12 + v3
      · obtain ⟨hi1, hi2⟩ := hin
        have HL1 : Hid (∀ p, Calls Try.prog 49 #[.int .i64 x, .int .i64 (v12 + 1), .int .i64 (v12 + v3)] (wq.drewN p) fun e w' => e = .returned (.bool true) ∧ w' = wq.drewN p) := fun p => (inRange_yes x (v12 + 1) (v12 + v3) (wq.drewN p) hi1 hi2).mono fun _ _ ⟨h, k⟩ => ⟨h, k.symm⟩
        by_cases hk0 : k = 0
        · have hu' : Hid (UWto P v12 (v12 + v3) (k + 1)) := hu.out.succ (by rw [HQ.out, before, if_pos hk0]; omega)
          have d0 : decide ((0 : Int) < (k : Int)) = false := decide_eq_false (by omega)
          have d0b : decide (0 < k) = false := decide_eq_false (by omega)
          clear hk0
          go_wp2_with fail
          go_quiet (first | (go_at_call 49; with_reducible exact Calls.quiet_of_same (HL1.out _)))
          clear HL1
          go_wp2
          go_roundw
          case rel => exact ⟨k + 1, by omega, by go_num, hu', q + nq, by rw [← HWQ.out, World.drewN_drewN]⟩
          case measure => simp [intOf]; omega
        · obtain ⟨j, hj⟩ : ∃ j, k = j + 1 := ⟨k - 1, by omega⟩
          obtain ⟨g', off', c'', hv', t0, _⟩ := HXq.out.nth (k := j) (by rw [HN.out]; omega)
          injection hv' with e1 e5 e6
          clear e5 e6
          injection e1 with e1
          injection e1 with e1 e4 e7
          clear e7
          subst e1 e4
          obtain ⟨y, hy⟩ : ∃ y, (P.getD j noS).at_ = y := ⟨_, rfl⟩
          have HY : Hid (before P v12 k = y) := by show _ = _; rw [hj, before_succ, hy]
          rw [hy] at t0
          have uj : IntKind.i64.wrap ((k : Int) - 1) = (j : Int) := by rw [hj, IntWalk.i64_in _ (by omega)]; omega
          have j0 : (0 : Int) ≤ (j : Int) := by omega
          have j1 : (j : Int) < (n : Int) := by omega
          have d0 : decide ((0 : Int) < (k : Int)) = true := decide_eq_true (by omega)
          have d0b : decide (0 < k) = true := decide_eq_true (by omega)
          clear hk0 hj hy
          by_cases hxy : x ≤ y
          · have dx : decide (x ≤ y) = true := decide_eq_true hxy
            have HF0 : Hid (b = false) := by
              show _ = _
              cases hbb : b
              · rfl
              · have := (hb.out.1 hbb) k (by rw [HN.out]; exact hlt)
                rw [HQ.out, HY.out] at this
                omega
            clear hxy
            go_wp2_with fail
            go_quiet (first | (go_at_call 49; with_reducible exact Calls.quiet_of_same (HL1.out _)))
            go_wp2
            go_ret
            exact ⟨ret_bool HF0.out.symm, below_drewNF HBq.out _⟩
          · have dx : decide (x ≤ y) = false := decide_eq_false hxy
            have hu' : Hid (UWto P v12 (v12 + v3) (k + 1)) := hu.out.succ (by rw [HQ.out, HY.out]; omega)
            clear hxy
            go_wp2_with fail
            go_quiet (first | (go_at_call 49; with_reducible exact Calls.quiet_of_same (HL1.out _)))
            clear HL1
            go_wp2
            go_roundw
            case rel => exact ⟨k + 1, by omega, by go_num, hu', q + nq, by rw [← HWQ.out, World.drewN_drewN]⟩
            case measure => simp [intOf]; omega
      · have hno : x < v12 + 1 ∨ v12 + v3 < x := by omega
        have HL1 : Hid (∀ p, Calls Try.prog 49 #[.int .i64 x, .int .i64 (v12 + 1), .int .i64 (v12 + v3)] (wq.drewN p) fun e w' => e = .returned (.bool false) ∧ w' = wq.drewN p) := fun p => (inRange_no x (v12 + 1) (v12 + v3) (wq.drewN p) hno).mono fun _ _ ⟨h, k⟩ => ⟨h, k.symm⟩
        have HF0 : Hid (b = false) := by
          show _ = _
          cases hbb : b
          · rfl
          · have hall := hb.out.1 hbb
            have h2 := UWto.past hall k (by rw [HN.out]; exact hlt)
            have h3 := (hall k (by rw [HN.out]; exact hlt)).2
            rw [HQ.out] at h2 h3
            omega
        clear hno hin
        go_wp2_with fail
        go_quiet (first | (go_at_call 49; with_reducible exact Calls.quiet_of_same (HL1.out _)))
        go_wp2
        go_ret
        exact ⟨ret_bool HF0.out.symm, below_drewNF HBq.out _⟩
    · obtain rfl : k = n := by omega
      have HT : Hid (b = true) := hb.out.2 (by unfold UnderWay; rw [HN.out]; exact hu.out)
      go_wp2
      go_ret
      exact ⟨ret_bool HT.out.symm, HBq.out⟩
set_option maxHeartbeats 2000000 in
theorem s_validFlow (l : FL) (s : Value) (P : List PSig) (b : Bool) (w : World) (hx : SigsAt w s P) (hb : Hid (b = true ↔ ValidF l P)) :
    Calls Try.prog 44 #[flV l s] w fun e w' => e = .returned (.bool b) ∧ Below w.heap.size w w' := by
  have HX := keptF hx
  obtain ⟨a, cp, rfl, _⟩ := hx
  obtain ⟨n, hn⟩ : ∃ n, P.length = n := ⟨_, rfl⟩
  rw [hn] at HX ⊢
  have hB : Below w.heap.size w (w.alloc (.cells (flC l (.slice a n cp)) 25)) := (Below.refl _ _).alloc (Nat.le_refl _) _
  have HB := keptF hB
  have HX1 := keptF (HX.out.below hB)
  clear hn hB
  obtain ⟨v0, v1, v2, v3, v4, v5, v6, v7, v8, v9, v10, v12⟩ := l
  simp only [flV, flC, ValidF, SetUp, Counted] at HB HX1 hb ⊢
  go_enter Try.func44, Try.ntmps44
  by_cases h0 : In v0 1 40
  · obtain ⟨h0a, h0b⟩ := id h0
    go_wp2_with fail
    refine (inRange_yes _ _ _ _ h0a h0b).mono ?_
    rintro e w' ⟨rfl, rfl⟩
    by_cases h1 : In v1 1 v0
    · obtain ⟨h1a, h1b⟩ := id h1
      have u1 : IntKind.i64.wrap (v1 - 1) = v1 - 1 := IntWalk.i64_in _ (by omega)
      go_wp2_with fail
      refine (inRange_yes _ _ _ _ h1a h1b).mono ?_
      rintro e w' ⟨rfl, rfl⟩
      by_cases h2 : In v2 0 (v1 - 1)
      · obtain ⟨h2a, h2b⟩ := id h2
        go_wp2_with fail
        refine (inRange_yes _ _ _ _ h2a h2b).mono ?_
        rintro e w' ⟨rfl, rfl⟩
        by_cases h3 : In v3 1 8
        · obtain ⟨h3a, h3b⟩ := id h3
          go_wp2_with fail
          refine (inRange_yes _ _ _ _ h3a h3b).mono ?_
          rintro e w' ⟨rfl, rfl⟩
          by_cases h4 : In v4 1 4
          · obtain ⟨h4a, h4b⟩ := id h4
            go_wp2_with fail
            refine (inRange_yes _ _ _ _ h4a h4b).mono ?_
            rintro e w' ⟨rfl, rfl⟩
            by_cases h5 : In v5 0 200
            · obtain ⟨h5a, h5b⟩ := id h5
              go_wp2_with fail
              refine (inRange_yes _ _ _ _ h5a h5b).mono ?_
              rintro e w' ⟨rfl, rfl⟩
              by_cases h6 : In v6 0 v0
              · obtain ⟨h6a, h6b⟩ := id h6
                go_wp2_with fail
                refine (inRange_yes _ _ _ _ h6a h6b).mono ?_
                rintro e w' ⟨rfl, rfl⟩
                by_cases h7 : In v7 0 200
                · obtain ⟨h7a, h7b⟩ := id h7
                  go_wp2_with fail
                  refine (inRange_yes _ _ _ _ h7a h7b).mono ?_
                  rintro e w' ⟨rfl, rfl⟩
                  by_cases h8 : In v8 0 200
                  · obtain ⟨h8a, h8b⟩ := id h8
                    go_wp2_with fail
                    refine (inRange_yes _ _ _ _ h8a h8b).mono ?_
                    rintro e w' ⟨rfl, rfl⟩
                    by_cases h9 : In v12 0 4000
                    · obtain ⟨h9a, h9b⟩ := id h9
                      go_wp2_with fail
                      refine (inRange_yes _ _ _ _ h9a h9b).mono ?_
                      rintro e w' ⟨rfl, rfl⟩
                      have HU : Hid (b = true ↔ UnderWay P v12 (v12 + v3)) := by
                        show _ ↔ _
                        rw [hb.out]
                        exact ⟨fun h => h.2.2, fun h => ⟨⟨h0, h1, h2, h3, h4⟩, ⟨h5, h7, h8, h6, h9⟩, h⟩⟩
                      go_wp2_with fail
                      refine (s_validSignals ⟨v0, v1, v2, v3, v4, v5, v6, v7, v8, v9, v10, v12⟩ (.slice a n cp) P b _ HX1.out (by simp only; omega) (by simp only; omega) HU).mono ?_
                      rintro e w3 ⟨rfl, hb3⟩
                      have HB3 := keptF (below_next HB.out hb3)
                      go_wp2
                      go_ret
                      exact ⟨rfl, HB3.out⟩
                    · have HF : Hid (b = false) := by
                        show _ = _
                        cases hbb : b
                        · rfl
                        · exact absurd (hb.out.1 hbb).2.1.2.2.2.2 h9
                      have h9n := not_in h9
                      go_wp2_with fail
                      refine (inRange_no _ _ _ _ h9n).mono ?_
                      rintro e w' ⟨rfl, rfl⟩
                      go_wp2
                      go_ret
                      exact ⟨ret_bool HF.out.symm, HB.out⟩
                  · have HF : Hid (b = false) := by
                      show _ = _
                      cases hbb : b
                      · rfl
                      · exact absurd (hb.out.1 hbb).2.1.2.2.1 h8
                    have h8n := not_in h8
                    go_wp2_with fail
                    refine (inRange_no _ _ _ _ h8n).mono ?_
                    rintro e w' ⟨rfl, rfl⟩
                    go_wp2
                    go_ret
                    exact ⟨ret_bool HF.out.symm, HB.out⟩
                · have HF : Hid (b = false) := by
                    show _ = _
                    cases hbb : b
                    · rfl
                    · exact absurd (hb.out.1 hbb).2.1.2.1 h7
                  have h7n := not_in h7
                  go_wp2_with fail
                  refine (inRange_no _ _ _ _ h7n).mono ?_
                  rintro e w' ⟨rfl, rfl⟩
                  go_wp2
                  go_ret
                  exact ⟨ret_bool HF.out.symm, HB.out⟩
              · have HF : Hid (b = false) := by
                  show _ = _
                  cases hbb : b
                  · rfl
                  · exact absurd (hb.out.1 hbb).2.1.2.2.2.1 h6
                have h6n := not_in h6
                go_wp2_with fail
                refine (inRange_no _ _ _ _ h6n).mono ?_
                rintro e w' ⟨rfl, rfl⟩
                go_wp2
                go_ret
                exact ⟨ret_bool HF.out.symm, HB.out⟩
            · have HF : Hid (b = false) := by
                show _ = _
                cases hbb : b
                · rfl
                · exact absurd (hb.out.1 hbb).2.1.1 h5
              have h5n := not_in h5
              go_wp2_with fail
              refine (inRange_no _ _ _ _ h5n).mono ?_
              rintro e w' ⟨rfl, rfl⟩
              go_wp2
              go_ret
              exact ⟨ret_bool HF.out.symm, HB.out⟩
          · have HF : Hid (b = false) := by
              show _ = _
              cases hbb : b
              · rfl
              · exact absurd (hb.out.1 hbb).1.2.2.2.2 h4
            have h4n := not_in h4
            go_wp2_with fail
            refine (inRange_no _ _ _ _ h4n).mono ?_
            rintro e w' ⟨rfl, rfl⟩
            go_wp2
            go_ret
            exact ⟨ret_bool HF.out.symm, HB.out⟩
        · have HF : Hid (b = false) := by
            show _ = _
            cases hbb : b
            · rfl
            · exact absurd (hb.out.1 hbb).1.2.2.2.1 h3
          have h3n := not_in h3
          go_wp2_with fail
          refine (inRange_no _ _ _ _ h3n).mono ?_
          rintro e w' ⟨rfl, rfl⟩
          go_wp2
          go_ret
          exact ⟨ret_bool HF.out.symm, HB.out⟩
      · have HF : Hid (b = false) := by
          show _ = _
          cases hbb : b
          · rfl
          · exact absurd (hb.out.1 hbb).1.2.2.1 h2
        have h2n := not_in h2
        go_wp2_with fail
        refine (inRange_no _ _ _ _ h2n).mono ?_
        rintro e w' ⟨rfl, rfl⟩
        go_wp2
        go_ret
        exact ⟨ret_bool HF.out.symm, HB.out⟩
    · have HF : Hid (b = false) := by
        show _ = _
        cases hbb : b
        · rfl
        · exact absurd (hb.out.1 hbb).1.2.1 h1
      have h1n := not_in h1
      go_wp2_with fail
      refine (inRange_no _ _ _ _ h1n).mono ?_
      rintro e w' ⟨rfl, rfl⟩
      go_wp2
      go_ret
      exact ⟨ret_bool HF.out.symm, HB.out⟩
  · have HF : Hid (b = false) := by
      show _ = _
      cases hbb : b
      · rfl
      · exact absurd (hb.out.1 hbb).1.1 h0
    have h0n := not_in h0
    go_wp2_with fail
    refine (inRange_no _ _ _ _ h0n).mono ?_
    rintro e w' ⟨rfl, rfl⟩
    go_wp2
    go_ret
    exact ⟨ret_bool HF.out.symm, HB.out⟩

set_option maxHeartbeats 1000000 in
theorem s_ValidFlow (l : FL) (s : Value) (P : List PSig) (b : Bool) (w : World) (hx : SigsAt w s P) (hb : Hid (b = true ↔ ValidF l P)) :
    Calls Try.prog 20 #[flV l s] w fun e w' => e = .returned (.bool b) ∧ Below w.heap.size w w' := by
  have HX := keptF hx
  obtain ⟨a, cp, rfl, _⟩ := hx
  obtain ⟨n, hn⟩ : ∃ n, P.length = n := ⟨_, rfl⟩
  rw [hn] at HX ⊢
  have hB : Below w.heap.size w (w.alloc (.cells (flC l (.slice a n cp)) 25)) := (Below.refl _ _).alloc (Nat.le_refl _) _
  have HB := keptF hB
  have HX1 := keptF (HX.out.below hB)
  have HS : Hid (∀ w, SigsAt w (.slice a n cp) P → Calls Try.prog 44 #[flV l (.slice a n cp)] w fun e w' => e = .returned (.bool b) ∧ Below w.heap.size w w') := fun w h => s_validFlow l _ P b w h hb
  clear hn hB hb
  obtain ⟨v0, v1, v2, v3, v4, v5, v6, v7, v8, v9, v10, v12⟩ := l
  simp only [flV, flC] at HB HX1 HS ⊢
  go_enter Try.func20, Try.ntmps20
  go_wp2_with fail
  refine (HS.out _ HX1.out).mono ?_
  rintro e w1 ⟨rfl, hb1⟩
  have HB1 := keptF (below_next HB.out hb1)
  go_wp2
  go_ret
  exact ⟨rfl, HB1.out⟩
end Go.Proofs.Ytlkhpfknmdimbaa
