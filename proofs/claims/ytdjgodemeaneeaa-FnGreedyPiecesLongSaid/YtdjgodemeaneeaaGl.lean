
/- GreedyPieces of drawn tables and words: the laws' walks. -/
import Derived.Test.YtdjgodemeaneeaaGj
namespace Go.Proofs.Ytdjgodemeaneeaa
open Go.RowKit

theorem PiecesAt.len {w : World} {a : Option Addr} {n c : Nat} {P : List PPiece} (h : PiecesAt w (.slice a n c) P) : P.length = n := by
  obtain ⟨_, _, e, _⟩ := h
  injection e with _ e2 _
  exact e2.symm
theorem PiecesAt.cell3 {w : World} {a : Option Addr} {n c : Nat} {P : List PPiece} (h : PiecesAt w (.slice a n c) P) {i : Nat} (hi : i < P.length) :
    ∃ g off, a = some ⟨g, off, none⟩ ∧ w.cell? ⟨g, off + i * 3, none⟩ = some (.int .i64 (P.getD i noP).r) ∧ w.cell? ⟨g, off + i * 3 + 1, none⟩ = some (.int .i64 (P.getD i noP).f) ∧ w.cell? ⟨g, off + i * 3 + 2, none⟩ = some (.int .i64 (P.getD i noP).t) := by
  obtain ⟨a', cap, e, _, _, hc⟩ := h
  injection e with e1 _ _
  subst e1
  rcases hc with rfl | ⟨g, off, e, hc⟩
  · simp at hi
  · obtain ⟨h1, h2, h3⟩ := hc i hi
    exact ⟨g, off, e, h1, h2, h3⟩
set_option maxHeartbeats 4000000 in
theorem greedyPieces_walk (a : Option Addr) (len cap : Nat) (zs : List Int) (w : World) (h : RowIn .u8 w a len cap zs) :
    Calls Try.prog 3 #[.slice a len cap] w fun e w' => e = .returned (.bool true) ∧ Below w.heap.size w w' := by
  have hlen : len ≤ 9223372036854775807 := by
    obtain ⟨_, h2, h3⟩ := bytesAt_of_row h; unfold maxLen at h3; omega
  by_cases hbig : len ≤ 1048576
  · go_enter Try.func3, Try.ntmps3
    go_wp2_with fail
    refine (drawGreedy_any w a len cap zs h).mono ?_
    rintro e w1 ⟨S, g, n, c1, Q, s, rfl, hTO, HN, hF, hn9, _, hb1, hs⟩
    clear h
    have hx1 := hTO.at
    have hnt : (tabOf Q).length = n := by rw [tabOf_len]; exact HN.out
    clear hTO HN
    generalize tabOf Q = T at hx1 hF hnt
    clear Q
    obtain ⟨P, HS, HI, h16, HP⟩ := gr_lists T s g n c1 hnt hF hs
    have HF := keptH hF
    have HNT := Lib.hid hnt
    have HPP := keptH HP
    clear hF hnt HP
    go_wp2_with fail
    refine (HI.out w1 hx1).mono ?_
    rintro e w2 ⟨v2, rfl, hO2, hb2, a2, n2, c2, rfl⟩
    have hx2 := hx1.below hb2
    have hB2 := below_next hb1 hb2
    have hI2 := hO2.at
    have HL := Lib.hid hO2.at.len
    clear hx1 hb1 hb2 hO2
    go_wp2_with fail
    refine (HS.out w2 hx2).mono ?_
    rintro e w3 ⟨v3, rfl, hO3, hb3, a3, n3, c3, rfl⟩
    have hx3 := hx2.below hb3
    have hB3 := below_next hB2 hb3
    have hI3 := hI2.below hb3
    have hJ3 := hO3.at
    clear hx2 hB2 hb3 hI2 hO3
    go_wp2_with fail
    refine (equalPieces_same w3 _ _ P hI3 hJ3).mono ?_
    rintro e w4 ⟨rfl, hb4⟩
    have hx4 := hx3.below hb4
    have hB4 := below_next hB3 hb4
    have hI4 := hI3.below hb4
    clear hx3 hB3 hb4 hI3 hJ3
    by_cases h0 : n2 = 0
    · subst h0
      go_wp2_with fail
      refine (HS.out w4 hx4).mono ?_
      rintro e w5 ⟨v5, rfl, hO5, hb5, a5, n5, c5, rfl⟩
      have hB5 := below_next hB4 hb5
      have hI5 := hI4.below hb5
      have hJ5 := hO5.at
      clear hb5 hO5 hI4 hB4
      go_wp2_with fail
      refine (equalPieces_same w5 _ _ P hI5 hJ5).mono ?_
      rintro e w6 ⟨rfl, hb6⟩
      have FIN := keptH (below_next hB5 hb6)
      clear hI5 hJ5 hb6 hB5
      go_wp2
      go_ret
      exact ⟨rfl, FIN.out⟩
    · obtain HQ : Hid ((ValidTb T ∧ WordB 16 s.data.toList) ∧ PiecesFit P ∧ ValidPv T s P ∧ ∀ i, i < P.length → ∃ q : Nat, (P.getD i noP).f = q ∧ (P.getD i noP).r < 20 ∧ q ≤ 16 ∧ (P.getD i noP).t ≤ 16 ∧ ((P.getD i noP).r < 0 → rulesL T s q = []) ∧ ∀ z ∈ rulesL T s q, 0 ≤ z ∧ z < T.length ∧ ((T.getD z.toNat noR).t.size : Int) ≤ (P.getD i noP).t - q) := by
        rcases HPP.out with rfl | h
        · exact absurd HL.out (by simp; omega)
        · exact h
      have q0 : ((n2 : Int) == 0) = false := by simp; omega
      have hn16 : n2 ≤ 16 := by have := HL.out; omega
      have HX4 := keptH hx4
      have HB4 := keptH hB4
      have HI4 := keptH hI4
      have hwT : Hid (ValidTb T) := (show ValidTb T from HQ.out.1.1)
      have hwW : Hid (WordB 16 s.data.toList) := (show WordB 16 s.data.toList from HQ.out.1.2)
      clear HPP hx4 hB4 hI4 h0
      go_wp2
      go_loopw [6] (fun i wr => ∃ k : Nat, k ≤ n2 ∧ i = .int .i64 k ∧ Below w4.heap.size w4 wr) (fun i _ => n2 - (intOf i).toNat)
      case atStart => exact ⟨0, Nat.zero_le _, rfl, Below.refl _ _⟩
      case round =>
        obtain ⟨k, hk, rfl, hbr⟩ := hrel
        by_cases hlt : k < n2
        · obtain ⟨g2, off, rfl, q1, q2, _⟩ := (HI4.out.below hbr).cell3 (i := k) (by rw [HL.out]; exact hlt)
          obtain ⟨q, p1, p2, p3, _, p4, _⟩ := HQ.out.2.2.2 k (by rw [HL.out]; exact hlt)
          rw [p1] at q2
          obtain ⟨r, hr⟩ : ∃ r, (P.getD k noP).r = r := ⟨_, rfl⟩
          rw [hr] at q1 p4
          have HBR := keptH hbr
          clear hr hbr p1 p2
          have b1 : (0 : Int) ≤ (k : Int) := by omega
          have b2 : (k : Int) < (n2 : Int) := by omega
          by_cases hr0 : r < 0
          · have d0 : decide (r < 0) = true := decide_eq_true hr0
            have HL0 : Hid (rulesL T s q = []) := (show rulesL T s q = [] from p4 hr0)
            clear p4 hr0
            go_wp2_with fail
            refine (i_RulesAt wr _ T s q (HX4.out.below HBR.out) HF.out hwT (by omega) hwW (by omega) (by omega)).mono ?_
            rw [HL0.out]
            rintro e w5 ⟨v5, rfl, hO5, hb5, a5, n5, c5, rfl⟩
            obtain rfl : n5 = 0 := by
              obtain ⟨_, _, e, _⟩ := hO5.at
              injection e
            have HB5 := keptH (below_next HBR.out hb5)
            clear hO5 hb5
            go_wp2
            go_roundw
            case rel => exact ⟨k + 1, by omega, by go_num, HB5.out⟩
            case measure => simp [intOf]; omega
          · have d0 : decide (r < 0) = false := decide_eq_false hr0
            clear p4 hr0
            go_wp2
            go_roundw
            case rel => exact ⟨k + 1, by omega, by go_num, HBR.out⟩
            case measure => simp [intOf]; omega
        · have hbr' := keptH hbr
          clear hbr
          go_wp2_with fail
          refine (i_ValidPieces_b wr _ _ T s P (HX4.out.below hbr'.out) HF.out (by omega) (HI4.out.below hbr'.out) HQ.out.2.1 (show _ ∧ _ from ⟨HQ.out.1, HQ.out.2.2.1⟩)).mono ?_
          rintro e w6 ⟨rfl, hb6⟩
          have FIN := keptH (below_next HB4.out (below_next hbr'.out hb6))
          clear hb6
          go_wp2
          go_ret
          exact ⟨rfl, FIN.out⟩
  · have hbig' : 1048576 < len := by omega
    go_enter Try.func3, Try.ntmps3
    go_wp2
    go_ret
    exact ⟨rfl, Below.refl _ _⟩
end Go.Proofs.Ytdjgodemeaneeaa
