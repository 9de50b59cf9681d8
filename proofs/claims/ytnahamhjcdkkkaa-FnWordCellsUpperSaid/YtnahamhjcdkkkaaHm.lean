
/- BestPieces of drawn tables and words: the laws' walks P29 and P30. -/
import Derived.Test.YtnahamhjcdkkkaaHl
import Derived.Test.YtnahamhjcdkkkaaMJ
namespace Go.Proofs.Ytnahamhjcdkkkaa
open Go.RowKit

set_option maxHeartbeats 1000000 in
theorem drawBest_any (w : World) (a : Option Addr) (len cap : Nat) (zs : List Int) (h : RowIn .u8 w a len cap zs) :
    Calls Try.prog 30 #[.slice a len cap] w fun e w' => GrMade w e w' := by
  go_enter Try.func30, Try.ntmps30
  go_wp2_with fail
  refine (drawGreedy_any w a len cap zs h).mono ?_
  rintro e w1 ⟨S, g, n, c, Q, s, rfl, H⟩
  have HK := keptH H
  clear H
  go_wp2
  refine bodyPost_ret (results_two rfl _ _ _) rfl ?_
  exact ⟨S, g, n, c, Q, s, rfl, HK.out⟩
set_option maxHeartbeats 1000000 in
theorem drawWordCells_any (w : World) (a : Option Addr) (len cap : Nat) (zs : List Int) (h : RowIn .u8 w a len cap zs) :
    Calls Try.prog 41 #[.slice a len cap] w fun e w' => GrMade w e w' := by
  go_enter Try.func41, Try.ntmps41
  go_wp2_with fail
  refine (drawGreedy_any w a len cap zs h).mono ?_
  rintro e w1 ⟨S, g, n, c, Q, s, rfl, H⟩
  have HK := keptH H
  clear H
  go_wp2
  refine bodyPost_ret (results_two rfl _ _ _) rfl ?_
  exact ⟨S, g, n, c, Q, s, rfl, HK.out⟩
theorem bp_lists (T : List PRule) (s : ByteArray) (n : Nat) (hn : T.length = n) (hf : TableFits T) (hs : s.size ≤ 17) :
    ∃ P : List PPiece, Hid (∀ wx g c, TableAt wx (.slice (some ⟨g, 0, none⟩) n c) T → Calls Try.prog 22 #[.slice (some ⟨g, 0, none⟩) n c, .string s] wx fun e w' => PcsMade P wx e w') ∧ Hid (∀ wx u, TableAt wx u T → Calls Try.prog 24 #[u, .string s] wx fun e w' => PcsMade P wx e w') ∧
      P.length ≤ 16 ∧ (P = [] ∨ Hid (OkW T s ∧ BestPs T s P ∧ BestFacts T s P)) := by
  have hss : s.size ≤ 9223372036854775807 := by omega
  obtain ⟨b, P, hb, hP⟩ := bpRes_ex T s
  refine ⟨P, fun wx g c h => (s_BestPieces wx g n c T s b h hn hf hss (Lib.hid hb)).mono fun e w' ⟨Q, hQ, hM⟩ => by rw [hP.same hb hQ]; exact hM, fun wx u h => (i_BestPieces wx u T s b h hf hss (Lib.hid hb)).mono fun e w' ⟨Q, hQ, hM⟩ => by rw [hP.same hb hQ]; exact hM, hP.len16 hb, ?_⟩
  cases b with
  | false => left; unfold BpRes at hP; simpa using hP
  | true =>
    right
    have hk := hb.1 rfl
    have h2 : BestPs T s P := by unfold BpRes at hP; simpa using hP
    exact ⟨hk, h2, h2.facts hk.1 hk.2⟩
theorem gr_yes (T : List PRule) (s : ByteArray) (hf : TableFits T) (hv : OkW T s) :
    ∃ P : List PPiece, Hid (∀ wx u, TableAt wx u T → Calls Try.prog 16 #[u, .string s] wx fun e w' => PcsMade P wx e w') ∧ Hid (PiecesFit P ∧ ValidPv T s P) := by
  obtain ⟨j, h1, h2, h3⟩ := greedy_end hv.1 s
  have h4 := hv.2.2.1
  rw [wd_size] at h4
  have h0 : 0 < s.size := by have := hv.2.1; rw [wd_size] at this; omega
  exact ⟨grL T s j, fun wx u h => (i_GreedyPieces wx u T s h hf (Lib.hid hv.1) (Lib.hid hv.2)).mono fun e w' hm => made_of_greedy hm h1 h2, grL_fit hv.1 h1 (by omega), grL_valid hv.1 h1 h2 h0⟩
theorem bp_yes (T : List PRule) (s : ByteArray) (hf : TableFits T) (hs : s.size ≤ 17) (hv : OkW T s) :
    ∃ P : List PPiece, Hid (∀ wx u, TableAt wx u T → Calls Try.prog 24 #[u, .string s] wx fun e w' => PcsMade P wx e w') ∧ Hid (BestPs T s P ∧ BestFacts T s P) := by
  have hss : s.size ≤ 9223372036854775807 := by omega
  obtain ⟨P, hP⟩ := bestPs_ex hv.1 s
  have hb : true = true ↔ OkW T s := ⟨fun _ => hv, fun _ => rfl⟩
  have hR : BpRes T s true P := hP
  exact ⟨P, fun wx u h => (i_BestPieces wx u T s true h hf hss (Lib.hid hb)).mono fun e w' ⟨Q, hQ, hM⟩ => by rw [hR.same hb hQ]; exact hM, hP, hP.facts hv.1 hv.2⟩
theorem ListMade.len {C : List Int} {w' : World} {a : Option Addr} {n c : Nat} {S : Nat} (h : OwnInts w' S (.slice a n c) C) : C.length = n := by
  obtain ⟨_, _, e, _⟩ := h.at
  injection e with _ e2 _
  exact e2.symm
set_option maxHeartbeats 4000000 in
theorem bestPieces_walk (a : Option Addr) (len cap : Nat) (zs : List Int) (w : World) (h : RowIn .u8 w a len cap zs) :
    Calls Try.prog 6 #[.slice a len cap] w fun e w' => e = .returned (.bool true) ∧ Below w.heap.size w w' := by
  have hlen : len ≤ 9223372036854775807 := by
    obtain ⟨_, h2, h3⟩ := bytesAt_of_row h; unfold maxLen at h3; omega
  by_cases hbig : len ≤ 1048576
  · go_enter Try.func6, Try.ntmps6
    go_wp2_with fail
    refine (drawBest_any w a len cap zs h).mono ?_
    rintro e w1 ⟨S, g, n, c1, Q, s, rfl, hTO, HN, hF, hn9, _, hb1, hs⟩
    clear h
    have hx1 := hTO.at
    have hnt : (tabOf Q).length = n := by rw [tabOf_len]; exact HN.out
    clear hTO HN
    generalize tabOf Q = T at hx1 hF hnt
    clear Q
    obtain ⟨P, HS, HI, h16, HP⟩ := bp_lists T s n hnt hF hs
    have HF := keptH hF
    have HNT := Lib.hid hnt
    have HPP := keptH HP
    clear hF hnt HP
    go_wp2_with fail
    refine (HI.out w1 _ hx1).mono ?_
    rintro e w2 ⟨v2, rfl, hO2, hb2, a2, n2, c2, rfl⟩
    have hx2 := hx1.below hb2
    have hB2 := below_next hb1 hb2
    have hI2 := hO2.at
    have HL := Lib.hid hO2.at.len
    clear hx1 hb1 hb2 hO2
    go_wp2_with fail
    refine (HS.out w2 _ _ hx2).mono ?_
    rintro e w3 ⟨v3, rfl, hO3, hb3, a3, n3, c3, rfl⟩
    have hx3 := hx2.below hb3
    have hB3 := below_next hB2 hb3
    have hI3 := hI2.below hb3
    have hJ3 := hO3.at
    clear hx2 hB2 hb3 hI2 hO3
    go_wp2_with fail
    refine (equalPieces_same w3 _ _ P hI3 hJ3).mono ?_
    rintro e w4 ⟨rfl, hb4⟩
    have hx4 := hx3.below hb4
    have hB4 := below_next hB3 hb4
    have hI4 := hI3.below hb4
    clear hx3 hB3 hb4 hI3 hJ3
    by_cases h0 : n2 = 0
    · subst h0
      go_wp2_with fail
      refine (HS.out w4 _ _ hx4).mono ?_
      rintro e w5 ⟨v5, rfl, hO5, hb5, a5, n5, c5, rfl⟩
      have hB5 := below_next hB4 hb5
      have hI5 := hI4.below hb5
      have hJ5 := hO5.at
      clear hb5 hO5 hI4 hB4
      go_wp2_with fail
      refine (equalPieces_same w5 _ _ P hI5 hJ5).mono ?_
      rintro e w6 ⟨rfl, hb6⟩
      have FIN := keptH (below_next hB5 hb6)
      clear hI5 hJ5 hb6 hB5
      go_wp2
      go_ret
      exact ⟨rfl, FIN.out⟩
    · obtain HQ : Hid (OkW T s ∧ BestPs T s P ∧ BestFacts T s P) := by
        rcases HPP.out with rfl | h
        · exact absurd HL.out (by simp; omega)
        · exact h
      have q0 : ((n2 : Int) == 0) = false := by simp; omega
      have HPV : Hid ((ValidTb T ∧ WordB 16 s.data.toList) ∧ ValidPv T s P) := ⟨HQ.out.1, HQ.out.2.2.pv⟩
      obtain ⟨P2, HG, HV2⟩ := gr_yes T s HF.out HQ.out.1
      have HPV2 : Hid ((ValidTb T ∧ WordB 16 s.data.toList) ∧ ValidPv T s P2) := ⟨HQ.out.1, HV2.out.2⟩
      have HX4 := keptH hx4
      have HB4 := keptH hB4
      have HI4 := keptH hI4
      clear HPP hx4 hB4 hI4 h0
      go_wp2_with fail
      refine (i_PiecesCells w4 _ _ T s P HX4.out HF.out (by omega) HI4.out HQ.out.2.2.fit HPV).mono ?_
      rintro e w5 ⟨v5, rfl, hO5, hb5, a5, n5, c5, rfl⟩
      have HL5 := Lib.hid (ListMade.len hO5)
      have HX5 := keptH (HX4.out.below hb5)
      have HI5 := keptH (HI4.out.below hb5)
      have HB5 := keptH (below_next HB4.out hb5)
      clear hO5 hb5 HX4 HI4 HB4
      go_wp2_with fail
      refine (i_ValidPieces_b w5 _ _ T s P HX5.out HF.out (by omega) HI5.out HQ.out.2.2.fit HPV).mono ?_
      rintro e w6 ⟨rfl, hb6⟩
      have HX6 := keptH (HX5.out.below hb6)
      have HB6 := keptH (below_next HB5.out hb6)
      clear hb6 HX5 HI5 HB5
      go_wp2_with fail
      refine (HG.out w6 _ HX6.out).mono ?_
      rintro e w7 ⟨v7, rfl, hO7, hb7, a7, n7, c7, rfl⟩
      have HI7 := keptH hO7.at
      have HX7 := keptH (HX6.out.below hb7)
      have HB7 := keptH (below_next HB6.out hb7)
      clear hO7 hb7 HX6 HB6
      go_wp2_with fail
      refine (i_PiecesCells w7 _ _ T s P2 HX7.out HF.out (by omega) HI7.out HV2.out.1 HPV2).mono ?_
      rintro e w8 ⟨v8, rfl, hO8, hb8, a8, n8, c8, rfl⟩
      have h85 : n5 ≤ n8 := by
        have h1 := HQ.out.2.2.low HV2.out.2
        have h2 := ListMade.len hO8
        have h3 := HL5.out
        rw [pcsL_len] at h2 h3
        omega
      have h5s : n5 ≤ s.size := by
        have h1 := HQ.out.2.2.few
        have h3 := HL5.out
        rw [pcsL_len] at h3
        omega
      have d1 : decide ((n5 : Int) ≤ (n8 : Int)) = true := decide_eq_true (by omega)
      have d2 : decide ((n5 : Int) ≤ (s.size : Int)) = true := decide_eq_true (by omega)
      have FIN := keptH (below_next HB7.out hb8)
      clear hO8 hb8 HX7 HI7 HB7
      go_wp2
      go_ret
      exact ⟨rfl, FIN.out⟩
  · have hbig' : 1048576 < len := by omega
    go_enter Try.func6, Try.ntmps6
    go_wp2
    go_ret
    exact ⟨rfl, Below.refl _ _⟩
theorem TableAt.nilH (w : World) : TableAt w (.slice none 0 0) [] := ⟨none, 0, rfl, Nat.le_refl _, by omega, .inl rfl⟩
theorem valid_nil {s : ByteArray} {P : List PPiece} (h : ValidPv [] s P) : P = plainP s.size := by
  have key : ∀ i, i ≤ P.length → endAt P i = i ∧ ∀ j, j < i → P.getD j noP = ⟨-1, j, (j : Int) + 1⟩ := by
    intro i
    induction i with
    | zero => intro _; exact ⟨rfl, fun j hj => by omega⟩
    | succ i ih =>
      intro hi
      obtain ⟨h1, h2⟩ := ih (by omega)
      obtain ⟨h3, h4⟩ := h.1 i (by omega)
      rw [h1] at h3
      have h5 : (P.getD i noP).r = -1 ∧ (P.getD i noP).t = (P.getD i noP).f + 1 := by
        rcases h4.2.2 with h5 | ⟨h5, h6, _⟩
        · exact h5
        · have h6' : (P.getD i noP).r < 0 := h6
          omega
      have e : P.getD i noP = ⟨-1, i, (i : Int) + 1⟩ := by
        obtain ⟨h6, h7⟩ := h5
        rw [h3] at h7
        generalize P.getD i noP = p at h3 h6 h7 ⊢
        obtain ⟨r, f, t⟩ := p
        simp only at h3 h6 h7
        rw [h3, h6, h7]
      refine ⟨?_, fun j hj => ?_⟩
      · show (P.getD i noP).t = _
        rw [e]; simp
      · by_cases ej : j = i
        · subst ej; exact e
        · exact h2 j (by omega)
  obtain ⟨h1, h2⟩ := key P.length (Nat.le_refl _)
  have h3 := h.2
  rw [h1] at h3
  have hl : P.length = s.size := by omega
  apply List.ext_getElem
  · rw [plainP_len]; exact hl
  · intro i i1 i2
    have e1 := h2 i i1
    have e2 := plainP_at (n := s.size) (k := i) (by omega)
    rw [List.getD_eq_getElem?_getD, List.getElem?_eq_getElem i1] at e1
    rw [List.getD_eq_getElem?_getD, List.getElem?_eq_getElem i2] at e2
    simp only [Option.getD_some] at e1 e2
    rw [e1, e2]
theorem okW_nil {T : List PRule} {s : ByteArray} (h : OkW T s) : OkW [] s := ⟨⟨Nat.zero_le _, fun _ hi => absurd hi (Nat.not_lt_zero _), fun _ _ hi _ => absurd hi (Nat.not_lt_zero _)⟩, h.2⟩
set_option maxHeartbeats 4000000 in
theorem bestPiecesNone_walk (a : Option Addr) (len cap : Nat) (zs : List Int) (w : World) (h : RowIn .u8 w a len cap zs) :
    Calls Try.prog 7 #[.slice a len cap] w fun e w' => e = .returned (.bool true) ∧ Below w.heap.size w w' := by
  have hlen : len ≤ 9223372036854775807 := by
    obtain ⟨_, h2, h3⟩ := bytesAt_of_row h; unfold maxLen at h3; omega
  by_cases hbig : len ≤ 1048576
  · go_enter Try.func7, Try.ntmps7
    go_wp2_with fail
    refine (drawBest_any w a len cap zs h).mono ?_
    rintro e w1 ⟨S, g, n, c1, Q, s, rfl, hTO, HN, hF, hn9, _, hb1, hs⟩
    clear h
    have hx1 := hTO.at
    have hnt : (tabOf Q).length = n := by rw [tabOf_len]; exact HN.out
    clear hTO HN
    generalize tabOf Q = T at hx1 hF hnt
    clear Q
    obtain ⟨P, HS, HI, h16, HP⟩ := bp_lists T s n hnt hF hs
    have HPP := keptH HP
    clear hF hnt HP
    go_wp2_with fail
    refine (HI.out w1 _ hx1).mono ?_
    rintro e w2 ⟨v2, rfl, hO2, hb2, a2, n2, c2, rfl⟩
    have hx2 := hx1.below hb2
    have hB2 := below_next hb1 hb2
    have hI2 := hO2.at
    have HL := Lib.hid hO2.at.len
    clear hx1 hb1 hb2 hO2
    go_wp2_with fail
    refine (HS.out w2 _ _ hx2).mono ?_
    rintro e w3 ⟨v3, rfl, hO3, hb3, a3, n3, c3, rfl⟩
    have hx3 := hx2.below hb3
    have hB3 := below_next hB2 hb3
    have hI3 := hI2.below hb3
    have hJ3 := hO3.at
    clear hx2 hB2 hb3 hI2 hO3
    go_wp2_with fail
    refine (equalPieces_same w3 _ _ P hI3 hJ3).mono ?_
    rintro e w4 ⟨rfl, hb4⟩
    have hx4 := hx3.below hb4
    have hB4 := below_next hB3 hb4
    have hI4 := hI3.below hb4
    clear hx3 hB3 hb4 hI3 hJ3
    by_cases h0 : n2 = 0
    · subst h0
      go_wp2_with fail
      refine (HS.out w4 _ _ hx4).mono ?_
      rintro e w5 ⟨v5, rfl, hO5, hb5, a5, n5, c5, rfl⟩
      have hB5 := below_next hB4 hb5
      have hI5 := hI4.below hb5
      have hJ5 := hO5.at
      clear hb5 hO5 hI4 hB4
      go_wp2_with fail
      refine (equalPieces_same w5 _ _ P hI5 hJ5).mono ?_
      rintro e w6 ⟨rfl, hb6⟩
      have FIN := keptH (below_next hB5 hb6)
      clear hI5 hJ5 hb6 hB5
      go_wp2
      go_ret
      exact ⟨rfl, FIN.out⟩
    · obtain HQ : Hid (OkW T s ∧ BestPs T s P ∧ BestFacts T s P) := by
        rcases HPP.out with rfl | h
        · exact absurd HL.out (by simp; omega)
        · exact h
      have q0 : ((n2 : Int) == 0) = false := by simp; omega
      have HOK : Hid (OkW [] s) := okW_nil HQ.out.1
      have HFN : Hid (TableFits []) := (show TableFits [] from fun r hr => by simp at hr)
      obtain ⟨P3, HI3, HP3⟩ := bp_yes [] s HFN.out hs HOK.out
      have HE3 : Hid (P3 = plainP s.size) := valid_nil HP3.out.2.pv
      obtain ⟨P2, HG, HV2⟩ := gr_yes [] s HFN.out HOK.out
      have HE2 : Hid (P2 = plainP s.size) := valid_nil HV2.out.2
      have HB4 := keptH hB4
      clear HPP hx4 hB4 hI4 h0
      go_wp2_with fail
      refine (HI3.out w4 _ (TableAt.nilH w4)).mono ?_
      rintro e w5 ⟨v5, rfl, hO5, hb5, a5, n5, c5, rfl⟩
      have hI5 := hO5.at
      rw [HE3.out] at hI5
      have hB5 := below_next HB4.out hb5
      clear hb5 hO5
      go_wp2_with fail
      refine (plain_any w5 s (by omega)).mono ?_
      rintro e w6 ⟨v6, rfl, hJ6, hb6⟩
      have hI6 := hI5.below hb6
      have hB6 := below_next hB5 hb6
      clear hb6 hI5 hB5
      go_wp2_with fail
      refine (equalPieces_same w6 _ _ _ hI6 hJ6).mono ?_
      rintro e w7 ⟨rfl, hb7⟩
      have hB7 := below_next hB6 hb7
      clear hb7 hI6 hJ6 hB6
      go_wp2_with fail
      refine (HG.out w7 _ (TableAt.nilH w7)).mono ?_
      rintro e w8 ⟨v8, rfl, hO8, hb8, a8, n8, c8, rfl⟩
      have hI8 := hO8.at
      rw [HE2.out] at hI8
      have hB8 := below_next hB7 hb8
      clear hb8 hO8 hB7
      go_wp2_with fail
      refine (plain_any w8 s (by omega)).mono ?_
      rintro e w9 ⟨v9, rfl, hJ9, hb9⟩
      have hI9 := hI8.below hb9
      have hB9 := below_next hB8 hb9
      clear hb9 hI8 hB8
      go_wp2_with fail
      refine (equalPieces_same w9 _ _ _ hI9 hJ9).mono ?_
      rintro e w10 ⟨rfl, hb10⟩
      have FIN := keptH (below_next hB9 hb10)
      clear hb10 hI9 hJ9 hB9
      go_wp2
      go_ret
      exact ⟨rfl, FIN.out⟩
  · have hbig' : 1048576 < len := by omega
    go_enter Try.func7, Try.ntmps7
    go_wp2
    go_ret
    exact ⟨rfl, Below.refl _ _⟩
end Go.Proofs.Ytnahamhjcdkkkaa
