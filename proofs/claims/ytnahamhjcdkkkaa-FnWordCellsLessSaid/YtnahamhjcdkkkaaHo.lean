
/- WordCells of tables that lose a rule: P32. -/
import Derived.Test.YtnahamhjcdkkkaaHn
import Derived.Test.YtnahamhjcdkkkaaVy
namespace Go.Proofs.Ytnahamhjcdkkkaa
open Go.RowKit

theorem less_least {T T' : List PRule} {s : ByteArray} {A A' : Nat → Int} (hv' : ValidTb T') (h : LeastUp T s A 0) (h' : LeastUp T' s A' 0) (hm : ∀ k j, Applies T' s k j → ∃ i, Applies T s k i ∧ T.getD i noR = T'.getD j noR) : ∀ d k, s.size - k = d → k ≤ s.size → A k ≤ A' k := by
  intro d
  induction d using Nat.strongRecOn with
  | _ d ih =>
    intro k hd hk
    by_cases e : k = s.size
    · subst e; rw [h.1, h'.1]; exact Int.le_refl _
    · have h1 := h.2 k (Nat.zero_le _) (by omega)
      have h2 := h'.2 k (Nat.zero_le _) (by omega)
      rcases h2.2.2 with h3 | ⟨j, hj, h3⟩
      · have h4 := ih (s.size - (k + 1)) (by omega) (k + 1) rfl (by omega)
        have := h1.1
        omega
      · obtain ⟨i, hi, ei⟩ := hm k j hj
        have hs := hj.size hv'
        have h4 := h1.2.1 i hi
        have e1 : costR T k A (i : Int) = ((T'.getD j noR).c.length : Int) + A (k + (T'.getD j noR).t.size) := by
          unfold costR czR
          rw [if_neg (by omega), szR_nat, Int.toNat_natCast, ei]
        have e2 : costR T' k A' (j : Int) = ((T'.getD j noR).c.length : Int) + A' (k + (T'.getD j noR).t.size) := by
          unfold costR czR
          rw [if_neg (by omega), szR_nat, Int.toNat_natCast]
        rw [szR_nat] at hs
        have h5 := ih (s.size - (k + (T'.getD j noR).t.size)) (by omega) (k + (T'.getD j noR).t.size) rfl (by omega)
        omega
theorem less_cells {T T' : List PRule} {s : ByteArray} {C C' : List Int} (h : WcFacts T s C) (h' : WcFacts T' s C') (hm : ∀ k j, Applies T' s k j → ∃ i, Applies T s k i ∧ T.getD i noR = T'.getD j noR) : C.length ≤ C'.length := by
  obtain ⟨P, ⟨A, a1, a2⟩, _, rfl⟩ := h.best
  obtain ⟨P', ⟨A', b1, b2⟩, _, rfl⟩ := h'.best
  rw [pcsL_len, pcsL_len]
  have h1 := (a2.chain h.ok.1 a1).2
  have h2 := (b2.chain h'.ok.1 b1).2
  have h3 := less_least h'.ok.1 a1 b1 hm _ 0 rfl (Nat.zero_le _)
  omega
theorem wout_rules {T : List PRule} {i : Nat} (hi : i < T.length) (s : ByteArray) (k j : Nat) (h : Applies (T.take i ++ T.drop (i + 1)) s k j) : ∃ m, Applies T s k m ∧ T.getD m noR = (T.take i ++ T.drop (i + 1)).getD j noR := by
  have hl := wout_len T i hi
  obtain ⟨h1, h2⟩ := h
  rw [wout_getD] at h2 ⊢
  rw [hl] at h1
  exact ⟨_, ⟨by split <;> omega, h2⟩, rfl⟩
set_option maxHeartbeats 4000000 in
theorem wordCellsLess_walk (a : Option Addr) (len cap : Nat) (zs : List Int) (w : World) (h : RowIn .u8 w a len cap zs) :
    Calls Try.prog 12 #[.slice a len cap] w fun e w' => e = .returned (.bool true) ∧ Below w.heap.size w w' := by
  have hlen : len ≤ 9223372036854775807 := by
    obtain ⟨_, h2, h3⟩ := bytesAt_of_row h; unfold maxLen at h3; omega
  by_cases hbig : len ≤ 1048576
  · go_enter Try.func12, Try.ntmps12
    go_wp2_with fail
    refine (drawWordCells_any w a len cap zs h).mono ?_
    rintro e w1 ⟨S, g, n, c1, Q, s, rfl, hTO, HN, hF, hn9, hS1, hb1, hs⟩
    clear h
    have HTO := keptH hTO
    have HSS := keptH hS1
    have HQN := keptH HN.out
    have hx1 := hTO.at
    have hnt : (tabOf Q).length = n := by rw [tabOf_len]; exact HN.out
    clear hTO HN hS1
    obtain ⟨T, hTQ⟩ : ∃ T, tabOf Q = T := ⟨_, rfl⟩
    have HTQ := Lib.hid hTQ
    rw [hTQ] at hx1 hF hnt
    clear hTQ
    obtain ⟨C, HS, HI, h16, HP⟩ := wc_lists T s n hnt hF hs
    have HF := keptH hF
    have HNT := Lib.hid hnt
    have HPP := keptH HP
    clear hF hnt HP
    go_wp2_with fail
    refine (HI.out w1 _ hx1).mono ?_
    rintro e w2 ⟨v2, rfl, hO2, hb2, a2, n2, c2, rfl⟩
    have hG2 := hb2
    have hx2 := hx1.below hb2
    have hB2 := below_next hb1 hb2
    have hI2 := hO2.at
    have HL := Lib.hid (ListMade.len hO2)
    clear hx1 hb1 hb2 hO2
    go_wp2_with fail
    refine (HS.out w2 _ _ hx2).mono ?_
    rintro e w3 ⟨v3, rfl, hO3, hb3, a3, n3, c3, rfl⟩
    have hG3 := below_next hG2 hb3
    clear hG2
    have hx3 := hx2.below hb3
    have hB3 := below_next hB2 hb3
    have hI3 := hI2.below hb3
    have hJ3 := hO3.at
    clear hx2 hB2 hb3 hI2 hO3
    go_wp2_with fail
    refine (equalInts_h w3 _ _ C hI3 hJ3).mono ?_
    rintro e w4 ⟨rfl, hb4⟩
    have HB4G := keptH (below_next hG3 hb4)
    clear hG3
    have hx4 := hx3.below hb4
    have hB4 := below_next hB3 hb4
    have hI4 := hI3.below hb4
    clear hx3 hB3 hb4 hI3 hJ3
    by_cases h0 : n2 = 0
    · subst h0
      go_wp2_with fail
      refine (HS.out w4 _ _ hx4).mono ?_
      rintro e w5 ⟨v5, rfl, hO5, hb5, a5, n5, c5, rfl⟩
      have hB5 := below_next hB4 hb5
      have hI5 := hI4.below hb5
      have hJ5 := hO5.at
      clear hb5 hO5 hI4 hB4
      go_wp2_with fail
      refine (equalInts_h w5 _ _ C hI5 hJ5).mono ?_
      rintro e w6 ⟨rfl, hb6⟩
      have FIN := keptH (below_next hB5 hb6)
      clear hI5 hJ5 hb6 hB5
      go_wp2
      go_ret
      exact ⟨rfl, FIN.out⟩
    · obtain HQ : Hid (WcFacts T s C) := by
        rcases HPP.out with rfl | h
        · exact absurd HL.out (by simp; omega)
        · exact h
      have q0 : ((n2 : Int) == 0) = false := by simp; omega
      have hn16 : n2 ≤ 16 := by have := HL.out; omega
      have HX4 := keptH hx4
      have HB4 := keptH hB4
      have HI4 := keptH hI4
      clear HPP hx4 hB4 hI4 h0
      have HOKW : Hid (OkW (tabOf Q) s) := by show OkW _ _; rw [HTQ.out]; exact HQ.out.ok
      have HWQ : Hid (WcFacts (tabOf Q) s C) := by show WcFacts _ _ _; rw [HTQ.out]; exact HQ.out
      have HFQ : Hid (TableFits (tabOf Q)) := by show TableFits _; rw [HTQ.out]; exact HF.out
      have HQL : Hid (Q.length = n) := HQN.out
      have HTO4 := keptH (HTO.out.below HB4G.out)
      have hS4 : S ≤ w4.heap.size := Nat.le_trans HSS.out HB4G.out.size
      go_wp2
      go_loopw [6] (fun i wr => ∃ k : Nat, k ≤ n ∧ i = .int .i64 k ∧ Below w4.heap.size w4 wr) (fun i _ => n - (intOf i).toNat)
      case atStart => exact ⟨0, Nat.zero_le _, rfl, Below.refl _ _⟩
      case round =>
        obtain ⟨k, hk, rfl, hbr⟩ := hrel
        have hsz := hbr.size
        by_cases hlt : k < n
        · have HTr := keptH (HTO4.out.below hbr)
          have HBR := keptH hbr
          clear hbr
          go_wp2_with fail
          refine (withoutRule_any wr S g n c1 k Q HTr.out HQL hlt (by omega) (by omega)).mono ?_
          rintro e wa ⟨ga, ca, rfl, hTa, hba⟩
          have hkq : k < Q.length := by rw [HQL.out]; exact hlt
          obtain ⟨C', HWI, HWF⟩ := wc_yes (tabOf (wout Q k)) s (fits_wout HFQ.out) hs ⟨validTb_wout hkq HOKW.out.1, HOKW.out.2⟩
          have hcmp : C.length ≤ C'.length := by
            have h1 := HWF.out
            rw [tabOf_wout] at h1
            exact less_cells HWQ.out h1 (wout_rules (by rw [tabOf_len]; exact hkq) s)
          have HXA := keptH hTa.at
          have HBA := keptH (below_next HBR.out hba)
          clear hTa hba hkq
          go_wp2_with fail
          refine (HWI.out wa _ HXA.out).mono ?_
          rintro e wb ⟨vb, rfl, hOb, hbb, ab, nb, cb, rfl⟩
          have hnb : n2 ≤ nb := by
            have h1 := ListMade.len hOb
            have h2 := HL.out
            omega
          have d1 : decide ((nb : Int) < (n2 : Int)) = false := decide_eq_false (by omega)
          have NXT := keptH (below_next HBA.out hbb)
          clear hOb hbb hcmp
          go_wp2
          go_roundw
          case rel => exact ⟨k + 1, by omega, by go_num, NXT.out⟩
          case measure => simp [intOf]; omega
        · have FIN := keptH (below_next HB4.out hbr)
          clear hbr
          go_wp2
          go_ret
          exact ⟨rfl, FIN.out⟩
  · have hbig' : 1048576 < len := by omega
    go_enter Try.func12, Try.ntmps12
    go_wp2
    go_ret
    exact ⟨rfl, Below.refl _ _⟩
end Go.Proofs.Ytnahamhjcdkkkaa
