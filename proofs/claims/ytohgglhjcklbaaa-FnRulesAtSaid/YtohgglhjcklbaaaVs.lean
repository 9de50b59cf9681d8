
/- FnRulesAt: its walk. -/
import Derived.Test.YtohgglhjcklbaaaVt
import Derived.Test.YtohgglhjcklbaaaTbH
namespace Go.Proofs.Ytohgglhjcklbaaa
open Go.RowKit

theorem TableAt.rule {w : World} {g n c k : Nat} {T : List PRule} (h : TableAt w (.slice (some ⟨g, 0, none⟩) n c) T) (hn : T.length = n) (hk : k < n) : RuleAt w g (k * 3) (T.getD k noR) := by
  obtain ⟨a, cp, e, x1, x2, x3⟩ := h
  injection e with e1 e2 e3
  rcases x3 with rfl | ⟨g', off, e, x3⟩
  · simp at hn; omega
  · rw [e] at e1
    injection e1 with e1
    injection e1 with e1 e4 _
    subst e1 e4
    have := x3 k (by omega)
    rw [Nat.zero_add] at this
    exact this
theorem ra_lists (T : List PRule) (s : ByteArray) (p : Int) (hf : TableFits T) (hs : s.size ≤ 17) (hp0 : -1 ≤ p) (hp1 : p ≤ 17) :
    ∃ L : List Int, Hid (∀ wx u, TableAt wx u T → Calls Try.prog 25 #[u, .string s, .int .i64 p] wx fun e w' => ListMade L wx e w') ∧ Hid (∀ wx u, TableAt wx u T → Calls Try.prog 26 #[u, .string s, .int .i64 p] wx fun e w' => ListMade L wx e w') ∧ Hid (ValidTb T ∧ WordB 16 s.data.toList → L = rulesL T s p) := by
  have hss : s.size ≤ 9223372036854775807 := by omega
  by_cases hv : ValidTb T ∧ WordB 16 s.data.toList
  · exact ⟨rulesL T s p, fun wx u h => s_RulesAt wx u T s p h hf (Lib.hid hv.1) hss (Lib.hid hv.2), fun wx u h => i_RulesAt wx u T s p h hf (Lib.hid hv.1) hss (Lib.hid hv.2) (by omega) (by omega), fun _ => rfl⟩
  · exact ⟨[], fun wx u h => s_RulesAt_no wx u T s p h hf hss (Lib.hid hv), fun wx u h => i_RulesAt_no wx u T s p h hf hss (Lib.hid hv), fun h => absurd h hv⟩

set_option maxHeartbeats 8000000 in
theorem rulesAt_walk (a : Option Addr) (len cap : Nat) (zs : List Int) (w : World) (h : RowIn .u8 w a len cap zs) :
    Calls Try.prog 8 #[.slice a len cap] w fun e w' => e = .returned (.bool true) ∧ Below w.heap.size w w' := by
  have hlen : len ≤ 9223372036854775807 := by
    obtain ⟨_, h2, h3⟩ := bytesAt_of_row h; unfold maxLen at h3; omega
  by_cases hbig : len ≤ 1048576
  · go_enter Try.func8, Try.ntmps8
    go_wp2_with fail
    refine (drawRulesAt_any w a len cap zs h).mono ?_
    rintro e w1 ⟨S, g, n, c1, Q, s, p, rfl, hTO, HN, hF, hn9, _, hb1, hs, hp0, hp1⟩
    clear h
    have hx1 := hTO.at
    have hnt : (tabOf Q).length = n := by rw [tabOf_len]; exact HN.out
    clear hTO HN
    generalize tabOf Q = T at hx1 hF hnt
    clear Q
    obtain ⟨L, HS, HI, HLv⟩ := ra_lists T s p hF hs hp0 hp1
    have hnc : n ≤ c1 ∧ c1 ≤ 9223372036854775807 := by
      obtain ⟨_, _, e, x1, x2, _⟩ := hx1
      injection e with _ e2 e3
      subst e3
      omega
    obtain ⟨b, HB⟩ : ∃ b : Bool, Hid (b = true ↔ ValidTb T) := by
      by_cases hv : ValidTb T
      · exact ⟨true, show _ ↔ _ from ⟨fun _ => hv, fun _ => rfl⟩⟩
      · exact ⟨false, show _ ↔ _ from ⟨fun e => by simp at e, fun e => absurd e hv⟩⟩
    have HF := keptH hF
    have HNT := Lib.hid hnt
    clear hF hnt
    go_wp2_with fail
    refine (HI.out w1 _ hx1).mono ?_
    rintro e w2 ⟨v2, rfl, hO2, hb2, a2, n2, c2, rfl⟩
    have hx2 := hx1.below hb2
    have hB2 := below_next hb1 hb2
    clear hx1 hb1 hb2
    go_wp2_with fail
    refine (HS.out w2 _ hx2).mono ?_
    rintro e w3 ⟨v3, rfl, hO3, hb3, a3, n3, c3, rfl⟩
    have hx3 := hx2.below hb3
    have hB3 := below_next hB2 hb3
    have hI3 := (hO2.below hb3).at
    have hJ3 := hO3.at
    clear hx2 hB2 hb3 hO2 hO3
    go_wp2_with fail
    refine (equalInts_alike w3 _ _ L hI3 hJ3).mono ?_
    rintro e w4 ⟨rfl, hb4⟩
    have hx4 := hx3.below hb4
    have hB4 := below_next hB3 hb4
    have hI4 := hI3.below hb4
    clear hx3 hB3 hb4 hI3 hJ3
    go_wp2_with fail
    refine (i_ValidTable w4 _ T b hx4 HF.out HB).mono ?_
    rintro e w5 ⟨rfl, hb5⟩
    have hx5 := hx4.below hb5
    have hB5 := below_next hB4 hb5
    have hI5 := hI4.below hb5
    clear hx4 hB4 hb5 hI4
    obtain ⟨bw, hbw⟩ : ∃ bw, decide (WordB 16 s.data.toList) = bw := ⟨_, rfl⟩
    have HBW := Lib.hid hbw
    clear hbw
    cases b with
    | false =>
      go_wp2_with fail
      refine (HS.out w5 _ hx5).mono ?_
      rintro e w7 ⟨v7, rfl, hO7, hb7, a7, n7, c7, rfl⟩
      have hB7 := below_next hB5 hb7
      have hI7 := hI5.below hb7
      have hJ7 := hO7.at
      clear hb7 hO7
      go_wp2_with fail
      refine (equalInts_alike w7 _ _ L hI7 hJ7).mono ?_
      rintro e w8 ⟨rfl, hb8⟩
      have FIN := keptH (below_next hB7 hb8)
      clear hJ7 hI7 hb8 hB7
      go_wp2
      go_ret
      exact ⟨rfl, FIN.out⟩
    | true =>
      have HV : Hid (ValidTb T) := HB.out.1 rfl
      clear HB
      go_wp2_with fail
      refine (l_isWord_b s bw w5 (by omega) HBW).mono ?_
      rintro e w' ⟨rfl, rfl⟩
      cases bw with
      | false =>
        go_wp2_with fail
        refine (HS.out w5 _ hx5).mono ?_
        rintro e w7 ⟨v7, rfl, hO7, hb7, a7, n7, c7, rfl⟩
        have hB7 := below_next hB5 hb7
        have hI7 := hI5.below hb7
        have hJ7 := hO7.at
        clear hb7 hO7
        go_wp2_with fail
        refine (equalInts_alike w7 _ _ L hI7 hJ7).mono ?_
        rintro e w8 ⟨rfl, hb8⟩
        have FIN := keptH (below_next hB7 hb8)
        clear hJ7 hI7 hb8 hB7
        go_wp2
        go_ret
        exact ⟨rfl, FIN.out⟩
      | true =>
        have HW : Hid (WordB 16 s.data.toList) := (show WordB 16 s.data.toList from of_decide_eq_true HBW.out)
        clear HBW
        have hs16 : s.size ≤ 16 := by have := HW.out.2.1; have := wd_size s; omega
        by_cases p0 : p < 0
        · have d0 : decide (p < 0) = true := decide_eq_true p0
          go_wp2_with fail
          refine (HS.out w5 _ hx5).mono ?_
          rintro e w7 ⟨v7, rfl, hO7, hb7, a7, n7, c7, rfl⟩
          have hB7 := below_next hB5 hb7
          have hI7 := hI5.below hb7
          have hJ7 := hO7.at
          clear hb7 hO7
          go_wp2_with fail
          refine (equalInts_alike w7 _ _ L hI7 hJ7).mono ?_
          rintro e w8 ⟨rfl, hb8⟩
          have FIN := keptH (below_next hB7 hb8)
          clear hJ7 hI7 hb8 hB7
          go_wp2
          go_ret
          exact ⟨rfl, FIN.out⟩
        · have d0 : decide (p < 0) = false := decide_eq_false p0
          by_cases p1 : (s.size : Int) ≤ p
          · have d1 : decide ((s.size : Int) ≤ p) = true := decide_eq_true p1
            go_wp2_with fail
            refine (HS.out w5 _ hx5).mono ?_
            rintro e w7 ⟨v7, rfl, hO7, hb7, a7, n7, c7, rfl⟩
            have hB7 := below_next hB5 hb7
            have hI7 := hI5.below hb7
            have hJ7 := hO7.at
            clear hb7 hO7
            go_wp2_with fail
            refine (equalInts_alike w7 _ _ L hI7 hJ7).mono ?_
            rintro e w8 ⟨rfl, hb8⟩
            have FIN := keptH (below_next hB7 hb8)
            clear hJ7 hI7 hb8 hB7
            go_wp2
            go_ret
            exact ⟨rfl, FIN.out⟩
          · have d1 : decide ((s.size : Int) ≤ p) = false := decide_eq_false p1
            have HLL := Lib.hid (HLv.out ⟨HV.out, HW.out⟩)
            obtain ⟨j, rfl⟩ : ∃ j : Nat, p = j := ⟨p.toNat, by omega⟩
            have hj : j < s.size := by omega
            have HX5 := keptH hx5
            have HI5 := keptH hI5
            have HB5 := keptH hB5
            clear hx5 hI5 hB5 d0 d1 p0 p1 HS HI HLv
            have d0 : decide ((j : Int) < 0) = false := decide_eq_false (by omega)
            have d7 : decide (s.size ≤ j) = false := decide_eq_false (by omega)
            have d8 : decide ((s.size : Int) ≤ (j : Int)) = false := decide_eq_false (by omega)
            go_wp2_with fail
            go_loopw [7] (fun i wr => ∃ k : Nat, k ≤ n ∧ i = .int .i64 k ∧ Below w5.heap.size w5 wr) (fun i _ => n - (intOf i).toNat)
            case atStart => exact ⟨0, Nat.zero_le _, rfl, Below.refl _ _⟩
            case round =>
              obtain ⟨k, hk, rfl, hbr⟩ := hrel
              by_cases hlt : k < n
              · have hru := (HX5.out.below hbr).rule HNT.out hlt
                have HIr := keptH (HI5.out.below hbr)
                have HBR := keptH hbr
                have hvr := HV.out.2.1 k (by rw [HNT.out]; exact hlt)
                have HMM : Hid ((k : Int) ∈ L ↔ App (T.getD k noR) s j) := by
                  show _ ↔ _
                  rw [HLL.out, rulesL, mem_rulesTo, HNT.out]
                  exact ⟨fun h => h.2, fun h => ⟨hlt, h⟩⟩
                obtain ⟨r, hr⟩ : ∃ r, T.getD k noR = r := ⟨_, rfl⟩
                rw [hr] at hru hvr HMM
                clear hr hbr
                obtain ⟨t, ys, q⟩ := r
                obtain ⟨c0, _, c2⟩ := hru
                simp only at c0 c2
                have ht1 : 1 ≤ t.size := by have := hvr.1.1; have := wd_size t; simp only at *; omega
                have ht2 : t.size ≤ 6 := by have := hvr.1.2.1; have := wd_size t; simp only at *; omega
                clear hvr
                have b1 : (0 : Int) ≤ (k : Int) := by omega
                have b2 : (k : Int) < (n : Int) := by omega
                have b3 : (0 : Int) ≤ (j : Int) := by omega
                have b4 : (j : Int) ≤ (j : Int) + (t.size : Int) := by omega
                have u2 : IntKind.i64.wrap ((j : Int) + (t.size : Int)) = (j : Int) + (t.size : Int) := IntWalk.i64_in _ (by omega)
                have n1 : ((j : Int) + (t.size : Int)).toNat = j + t.size := by omega
                have n2 : ((j : Int)).toNat = j := by omega
                have HA : Hid (App ⟨t, ys, q⟩ s (j : Int) ↔ (j : Int) + t.size ≤ s.size ∧ s.extract j (j + t.size) = t ∧ PF q j (j + t.size) s.size) := by
                  unfold App
                  simp only [n2]
                  constructor
                  · intro h; exact ⟨h.2.1, h.2.2.1, (pf_iff (by omega) (by omega) h.2.1 (by omega)).2 h.2.2.2⟩
                  · intro h; exact ⟨by omega, h.1, h.2.1, (pf_iff (by omega) (by omega) h.1 (by omega)).1 h.2.2⟩
                by_cases e1 : (j : Int) + (t.size : Int) ≤ (s.size : Int)
                · have d1 : decide ((j : Int) + (t.size : Int) ≤ (s.size : Int)) = true := decide_eq_true e1
                  by_cases e : s.extract j (j + t.size) = t
                  · obtain ⟨b, hb⟩ : ∃ b, decide (PF q j (j + t.size) s.size) = b := ⟨_, rfl⟩
                    have HB := Lib.hid hb
                    have e3 : (s.extract j (j + t.size)).toList = t.toList := by rw [e]
                    have HMEM : Hid (decide ((k : Int) ∈ L) = b) := by
                      show decide _ = b
                      rw [← HB.out]
                      exact decide_eq_decide.2 (HMM.out.trans (HA.out.trans ⟨fun h => h.2.2, fun h => ⟨e1, e, h⟩⟩))
                    clear e hb HA HMM
                    cases b with
                    | false =>
                      go_wp2_with fail
                      go_quiet ((go_at_call 16; exact Calls.quiet_of_same (i_PlaceFits_w _ _ _ _ false _ HB)))
                      go_wp2_with fail
                      refine (isIn_told _ _ L _ false (HIr.out.below (below_drewN (Below.refl _ _) _)) HMEM).mono ?_
                      rintro e w' ⟨rfl, rfl⟩
                      go_wp2
                      go_roundw
                      case rel => exact ⟨k + 1, by omega, by go_num, below_drewN HBR.out _⟩
                      case measure => simp [intOf]; omega
                    | true =>
                      go_wp2_with fail
                      go_quiet ((go_at_call 16; exact Calls.quiet_of_same (i_PlaceFits_w _ _ _ _ true _ HB)))
                      go_wp2_with fail
                      refine (isIn_told _ _ L _ true (HIr.out.below (below_drewN (Below.refl _ _) _)) HMEM).mono ?_
                      rintro e w' ⟨rfl, rfl⟩
                      go_wp2
                      go_roundw
                      case rel => exact ⟨k + 1, by omega, by go_num, below_drewN HBR.out _⟩
                      case measure => simp [intOf]; omega
                  · have e3 := toList_nei e
                    have e5 : ((s.extract j (j + t.size)).toList == t.toList) = false := by simpa using e3
                    have HMEM : Hid (decide ((k : Int) ∈ L) = false) := decide_eq_false (fun h => e (HA.out.1 (HMM.out.1 h)).2.1)
                    clear e HA HMM
                    go_wp2_with fail
                    go_quiet (fail)
                    go_wp2_with fail
                    refine (isIn_told _ _ L _ false (HIr.out.below (below_drewN (Below.refl _ _) _)) HMEM).mono ?_
                    rintro e w' ⟨rfl, rfl⟩
                    go_wp2
                    go_roundw
                    case rel => exact ⟨k + 1, by omega, by go_num, below_drewN HBR.out _⟩
                    case measure => simp [intOf]; omega
                · have d1 : decide ((j : Int) + (t.size : Int) ≤ (s.size : Int)) = false := decide_eq_false e1
                  have HMEM : Hid (decide ((k : Int) ∈ L) = false) := decide_eq_false (fun h => e1 (HA.out.1 (HMM.out.1 h)).1)
                  clear HA HMM
                  go_wp2_with fail
                  go_quiet (fail)
                  go_wp2_with fail
                  refine (isIn_told _ _ L _ false (HIr.out.below (below_drewN (Below.refl _ _) _)) HMEM).mono ?_
                  rintro e w' ⟨rfl, rfl⟩
                  go_wp2
                  go_roundw
                  case rel => exact ⟨k + 1, by omega, by go_num, below_drewN HBR.out _⟩
                  case measure => simp [intOf]; omega
              · have HBR := keptH hbr
                have hA : AscUp L L.length := by rw [HLL.out]; exact asc_rules T s j _
                have hIr := HI5.out.below hbr
                clear hbr
                go_wp2_with fail
                refine (ascends_yes wr _ L hIr hA).mono ?_
                rintro e w6 ⟨rfl, hb6⟩
                have FIN := keptH (below_next (below_next HB5.out HBR.out) hb6)
                clear hIr hA hb6
                go_wp2
                go_ret
                exact ⟨rfl, FIN.out⟩
  · have hbig' : 1048576 < len := by omega
    go_enter Try.func8, Try.ntmps8
    go_wp2
    go_ret
    exact ⟨rfl, Below.refl _ _⟩
end Go.Proofs.Ytohgglhjcklbaaa
