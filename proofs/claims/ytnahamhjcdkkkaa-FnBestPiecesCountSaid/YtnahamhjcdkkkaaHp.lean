
/- How many the best pieces are: P186. -/
import Derived.Test.YtnahamhjcdkkkaaHn
namespace Go.Proofs.Ytnahamhjcdkkkaa
open Go.RowKit

set_option maxHeartbeats 4000000 in
theorem bestPiecesCount_walk (a : Option Addr) (len cap : Nat) (zs : List Int) (w : World) (h : RowIn .u8 w a len cap zs) :
    Calls Try.prog 8 #[.slice a len cap] w fun e w' => e = .returned (.bool true) ∧ Below w.heap.size w w' := by
  have hlen : len ≤ 9223372036854775807 := by
    obtain ⟨_, h2, h3⟩ := bytesAt_of_row h; unfold maxLen at h3; omega
  by_cases hbig : len ≤ 1048576
  · go_enter Try.func8, Try.ntmps8
    go_wp2_with fail
    refine (drawBest_any w a len cap zs h).mono ?_
    rintro e w1 ⟨S, g, n, c1, Q, s, rfl, hTO, HN, hF, hn9, _, hb1, hs⟩
    clear h
    have hx1 := hTO.at
    have hnt : (tabOf Q).length = n := by rw [tabOf_len]; exact HN.out
    clear hTO HN
    generalize tabOf Q = T at hx1 hF hnt
    clear Q
    obtain ⟨P, HS, HI, h16, HP⟩ := bp_lists T s n hnt hF hs
    have HF := keptH hF
    have HNT := Lib.hid hnt
    have HPP := keptH HP
    clear hF hnt HP
    go_wp2_with fail
    refine (HI.out w1 _ hx1).mono ?_
    rintro e w2 ⟨v2, rfl, hO2, hb2, a2, n2, c2, rfl⟩
    have hx2 := hx1.below hb2
    have hB2 := below_next hb1 hb2
    have hI2 := hO2.at
    have HL := Lib.hid hO2.at.len
    clear hx1 hb1 hb2 hO2
    go_wp2_with fail
    refine (HS.out w2 _ _ hx2).mono ?_
    rintro e w3 ⟨v3, rfl, hO3, hb3, a3, n3, c3, rfl⟩
    have hx3 := hx2.below hb3
    have hB3 := below_next hB2 hb3
    have hI3 := hI2.below hb3
    have hJ3 := hO3.at
    clear hx2 hB2 hb3 hI2 hO3
    go_wp2_with fail
    refine (equalPieces_same w3 _ _ P hI3 hJ3).mono ?_
    rintro e w4 ⟨rfl, hb4⟩
    have hx4 := hx3.below hb4
    have hB4 := below_next hB3 hb4
    have hI4 := hI3.below hb4
    clear hx3 hB3 hb4 hI3 hJ3
    by_cases h0 : n2 = 0
    · subst h0
      go_wp2_with fail
      refine (HS.out w4 _ _ hx4).mono ?_
      rintro e w5 ⟨v5, rfl, hO5, hb5, a5, n5, c5, rfl⟩
      have hB5 := below_next hB4 hb5
      have hI5 := hI4.below hb5
      have hJ5 := hO5.at
      clear hb5 hO5 hI4 hB4
      go_wp2_with fail
      refine (equalPieces_same w5 _ _ P hI5 hJ5).mono ?_
      rintro e w6 ⟨rfl, hb6⟩
      have FIN := keptH (below_next hB5 hb6)
      clear hI5 hJ5 hb6 hB5
      go_wp2
      go_ret
      exact ⟨rfl, FIN.out⟩
    · obtain HQ : Hid (OkW T s ∧ BestPs T s P ∧ BestFacts T s P) := by
        rcases HPP.out with rfl | h
        · exact absurd HL.out (by simp; omega)
        · exact h
      have q0 : ((n2 : Int) == 0) = false := by simp; omega
      have HPV : Hid ((ValidTb T ∧ WordB 16 s.data.toList) ∧ ValidPv T s P) := ⟨HQ.out.1, HQ.out.2.2.pv⟩
      obtain ⟨C, HWI, HWF⟩ := wc_yes T s HF.out hs HQ.out.1
      have HX4 := keptH hx4
      have HB4 := keptH hB4
      have HI4 := keptH hI4
      have hn16 : n2 ≤ 16 := by have := HL.out; omega
      have HPC : Hid (∀ i, i < n2 → (P.getD i noP).f = endAt P i ∧ 0 ≤ (P.getD i noP).f ∧ (P.getD i noP).f < (P.getD i noP).t ∧ (P.getD i noP).t ≤ 16) := fun i hi => by
        have h1 := HPV.out.2.1 i (by rw [HL.out]; exact hi)
        have h2 := pcOk_end h1.2 HQ.out.1.1.2.1
        have h3 : s.size ≤ 16 := by have := HQ.out.1.2.2.1; rw [wd_size] at this; exact this
        exact ⟨h1.1, by omega, by omega, by omega⟩
      clear HPP hx4 hB4 hI4
      go_wp2
      go_loopw [6] (fun i wr => ∃ (k : Nat) (y : Int), 1 ≤ k ∧ k ≤ n2 ∧ i = .int .i64 y ∧ y = k ∧ Hid (Below w4.heap.size w4 wr)) (fun i _ => n2 + 1 - (intOf i).toNat)
      case atStart => exact ⟨1, 1, Nat.le_refl _, by omega, rfl, rfl, Below.refl _ _⟩
      case round =>
        obtain ⟨k, y, hk1, hk, rfl, hy, HBR⟩ := hrel
        by_cases hlt : k < n2
        · obtain ⟨j, rfl⟩ : ∃ j, k = j + 1 := ⟨k - 1, by omega⟩
          obtain ⟨g2, off, rfl, _, q1, _⟩ := (HI4.out.below HBR.out).cell3 (i := j + 1) (by rw [HL.out]; exact hlt)
          obtain ⟨_, _, e9, _, r1, r2⟩ := (HI4.out.below HBR.out).cell3 (i := j) (by rw [HL.out]; omega)
          injection e9 with e9
          injection e9 with e91 e92 _
          subst e91 e92
          obtain ⟨p1, p2, p3, p4⟩ := HPC.out (j + 1) hlt
          obtain ⟨o1, o2, o3, o4⟩ := HPC.out j (by omega)
          have p1' : (P.getD (j + 1) noP).f = (P.getD j noP).t := p1
          rw [p1'] at q1
          obtain ⟨f0, hf0⟩ : ∃ f0, (P.getD j noP).f = f0 := ⟨_, rfl⟩
          obtain ⟨t0, ht0⟩ : ∃ t0, (P.getD j noP).t = t0 := ⟨_, rfl⟩
          rw [hf0] at r1 o2 o3
          rw [ht0] at q1 r2 o3 o4
          have b1 : (0 : Int) ≤ y := by omega
          have b2 : y < (n2 : Int) := by omega
          have b3 : (0 : Int) ≤ y - 1 := by omega
          have b4 : y - 1 < (n2 : Int) := by omega
          have b5 : y.toNat = j + 1 := by omega
          have b6 : (y - 1).toNat = j := by omega
          have u1 : IntKind.i64.wrap (y - 1) = y - 1 := IntWalk.i64_in _ (by omega)
          have u2 : IntKind.i64.wrap (y + 1) = y + 1 := IntWalk.i64_in _ (by omega)
          have d1 : decide (t0 ≤ f0) = false := decide_eq_false (by omega)
          have HY := Lib.hid hy
          clear p1 p1' p2 p3 p4 o1 hf0 ht0 hy
          go_wp2_with fail
          go_quiet (fail)
          go_wp2
          go_roundw
          case rel => exact ⟨j + 1 + 1, y + 1, by omega, by omega, by go_num, by have := HY.out; omega, below_drewN HBR.out _⟩
          case measure => simp [intOf]; omega
        · obtain rfl : k = n2 := by omega
          have HY := Lib.hid hy
          have d9 : decide (y < (k : Int)) = false := decide_eq_false (by omega)
          clear hy
          go_wp2_with fail
          refine (HWI.out wr _ (HX4.out.below HBR.out)).mono ?_
          rintro e w5 ⟨v5, rfl, hO5, hb5, a5, n5, c5, rfl⟩
          have hle : k ≤ n5 := by
            have h1 := ListMade.len hO5
            obtain ⟨P9, h3, h4, h5⟩ := HWF.out.best
            have h6 := h3.same HQ.out.1.1 HQ.out.2.1
            have h7 := lenP_ge HQ.out.1.1 ((chain_iff HQ.out.1.1).2 HPV.out.2)
            have h8 := HL.out
            rw [h5, pcsL_len, h6] at h1
            omega
          obtain ⟨g2, off, rfl, _, q1, _⟩ := ((HI4.out.below HBR.out).below hb5).cell3 (i := 0) (by rw [HL.out]; omega)
          obtain ⟨_, _, e9, _, _, r2⟩ := ((HI4.out.below HBR.out).below hb5).cell3 (i := k - 1) (by rw [HL.out]; omega)
          injection e9 with e9
          injection e9 with e91 e92 _
          subst e91 e92
          have z1 : (P.getD 0 noP).f = 0 := (HPC.out 0 (by omega)).1
          have z2 : (P.getD (k - 1) noP).t = (s.size : Int) := by
            have h9 := HPV.out.2.2
            rw [HL.out] at h9
            obtain ⟨m, hm⟩ : ∃ m, k = m + 1 := ⟨k - 1, by omega⟩
            rw [hm] at h9 ⊢
            exact h9
          rw [z1] at q1
          rw [z2] at r2
          have d1 : decide ((k : Int) ≤ (n5 : Int)) = true := decide_eq_true (by omega)
          have b1 : (0 : Int) < (k : Int) := by omega
          have b2 : (0 : Int) ≤ (k : Int) - 1 := by omega
          have b3 : (k : Int) - 1 < (k : Int) := by omega
          have b4 : ((k : Int) - 1).toNat = k - 1 := by omega
          have u1 : IntKind.i64.wrap ((k : Int) - 1) = (k : Int) - 1 := IntWalk.i64_in _ (by omega)
          have FIN := keptH (below_next (below_next HB4.out HBR.out) hb5)
          clear hO5 hb5 z1 z2
          go_wp2
          go_ret
          exact ⟨rfl, FIN.out⟩
  · have hbig' : 1048576 < len := by omega
    go_enter Try.func8, Try.ntmps8
    go_wp2
    go_ret
    exact ⟨rfl, Below.refl _ _⟩
end Go.Proofs.Ytnahamhjcdkkkaa
