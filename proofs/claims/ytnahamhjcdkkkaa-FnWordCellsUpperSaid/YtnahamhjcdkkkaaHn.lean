
/- WordCells of drawn tables and words: P31 and P26. -/
import Derived.Test.YtnahamhjcdkkkaaHm
import Derived.Test.YtnahamhjcdkkkaaVm
namespace Go.Proofs.Ytnahamhjcdkkkaa
open Go.RowKit

theorem equalInts_h (w : World) (u v : Value) (xs : List Int) (hx : IntsAt w u xs) (hy : IntsAt w v xs) :
    Calls Try.prog 35 #[u, v] w fun e w' => e = .returned (.bool true) ∧ Below w.heap.size w w' := by
  have := equalInts_any w u v xs xs hx hy
  rw [decide_eq_true rfl] at this
  exact this
/-- the cells of the best pieces of a word -/
structure WcFacts (T : List PRule) (s : ByteArray) (C : List Int) : Prop where
  ok : OkW T s
  best : ∃ P, BestPs T s P ∧ BestFacts T s P ∧ C = pcsL T s P
theorem wc_lists (T : List PRule) (s : ByteArray) (n : Nat) (hn : T.length = n) (hf : TableFits T) (hs : s.size ≤ 17) :
    ∃ C : List Int, Hid (∀ wx g c, TableAt wx (.slice (some ⟨g, 0, none⟩) n c) T → Calls Try.prog 37 #[.slice (some ⟨g, 0, none⟩) n c, .string s] wx fun e w' => ListMade C wx e w') ∧ Hid (∀ wx u, TableAt wx u T → Calls Try.prog 33 #[u, .string s] wx fun e w' => ListMade C wx e w') ∧
      C.length ≤ 16 ∧ (C = [] ∨ Hid (WcFacts T s C)) := by
  have hss : s.size ≤ 9223372036854775807 := by omega
  obtain ⟨b, C, hb, hC⟩ := wcRes_ex T s
  refine ⟨C, fun wx g c h => (s_WordCells wx g n c T s b h hn hf hss (Lib.hid hb)).mono fun e w' ⟨Q, hQ, hM⟩ => by rw [hC.same hb hQ]; exact hM, fun wx u h => (i_WordCells wx u T s b h hf hss (Lib.hid hb)).mono fun e w' ⟨Q, hQ, hM⟩ => by rw [hC.same hb hQ]; exact hM, hC.len16 hb, ?_⟩
  cases b with
  | false => left; unfold WcRes at hC; simpa using hC
  | true =>
    right
    have hk := hb.1 rfl
    unfold WcRes at hC
    simp at hC
    obtain ⟨P, h1, h2⟩ := hC
    exact ⟨hk, P, h1, h1.facts hk.1 hk.2, h2⟩
theorem wc_yes (T : List PRule) (s : ByteArray) (hf : TableFits T) (hs : s.size ≤ 17) (hv : OkW T s) :
    ∃ C : List Int, Hid (∀ wx u, TableAt wx u T → Calls Try.prog 33 #[u, .string s] wx fun e w' => ListMade C wx e w') ∧ Hid (WcFacts T s C) := by
  have hss : s.size ≤ 9223372036854775807 := by omega
  obtain ⟨P, hP⟩ := bestPs_ex hv.1 s
  have hb : true = true ↔ OkW T s := ⟨fun _ => hv, fun _ => rfl⟩
  have hR : WcRes T s true (pcsL T s P) := ⟨P, hP, rfl⟩
  exact ⟨_, fun wx u h => (i_WordCells wx u T s true h hf hss (Lib.hid hb)).mono fun e w' ⟨Q, hQ, hM⟩ => by rw [hR.same hb hQ]; exact hM, hv, P, hP, hP.facts hv.1 hv.2, rfl⟩
theorem WcFacts.same {T : List PRule} {s : ByteArray} {C : List Int} (h : WcFacts T s C) {P : List PPiece} (hP : BestPs T s P) : C = pcsL T s P := by
  obtain ⟨P', h1, _, h2⟩ := h.best
  rw [h2, h1.same h.ok.1 hP]
theorem letS_ok {s : ByteArray} (hw : WordB 16 s.data.toList) {k : Nat} (hk : k < s.size) : WordCell (letS s (k : Int)) := by
  obtain ⟨j, hj, _, e⟩ := small_at hw hk
  rw [e]
  have key : ∀ j : Fin 26, WordCell (letL.getD j.1 0) := by decide +kernel
  exact key ⟨j, hj⟩
theorem pcsL_ok {T : List PRule} {s : ByteArray} {P : List PPiece} (hv : ValidTb T) (hw : WordB 16 s.data.toList) (hp : ValidPv T s P) : ∀ z ∈ pcsL T s P, WordCell z := by
  have key : ∀ k, k ≤ P.length → ∀ z ∈ pcsTo T s P k, WordCell z := by
    intro k
    induction k with
    | zero => intro _ z hz; simp [pcsTo] at hz
    | succ k ih =>
      intro hk z hz
      rcases List.mem_append.1 hz with h | h
      · exact ih (by omega) z h
      · have h1 := (hp.1 k (by omega)).2
        unfold pcC at h
        split at h
        · have h := List.mem_singleton.1 h
          obtain ⟨m, hm⟩ : ∃ m : Nat, (P.getD k noP).f = m := ⟨(P.getD k noP).f.toNat, by have := h1.1; omega⟩
          rw [h, hm]
          exact letS_ok hw (by have := h1.2.1; omega)
        · rename_i hr
          rcases h1.2.2 with ⟨h2, _⟩ | ⟨h2, h3, _⟩
          · exact absurd h2 hr
          · exact (hv.2.1 _ (by omega)).2.2.1 z h
  exact key P.length (Nat.le_refl _)
set_option maxHeartbeats 4000000 in
theorem wordCells_walk (a : Option Addr) (len cap : Nat) (zs : List Int) (w : World) (h : RowIn .u8 w a len cap zs) :
    Calls Try.prog 11 #[.slice a len cap] w fun e w' => e = .returned (.bool true) ∧ Below w.heap.size w w' := by
  have hlen : len ≤ 9223372036854775807 := by
    obtain ⟨_, h2, h3⟩ := bytesAt_of_row h; unfold maxLen at h3; omega
  by_cases hbig : len ≤ 1048576
  · go_enter Try.func11, Try.ntmps11
    go_wp2_with fail
    refine (drawWordCells_any w a len cap zs h).mono ?_
    rintro e w1 ⟨S, g, n, c1, Q, s, rfl, hTO, HN, hF, hn9, hS1, hb1, hs⟩
    clear h
    have hx1 := hTO.at
    have hnt : (tabOf Q).length = n := by rw [tabOf_len]; exact HN.out
    clear hTO HN hS1
    generalize tabOf Q = T at hx1 hF hnt
    clear Q
    obtain ⟨C, HS, HI, h16, HP⟩ := wc_lists T s n hnt hF hs
    have HF := keptH hF
    have HNT := Lib.hid hnt
    have HPP := keptH HP
    clear hF hnt HP
    go_wp2_with fail
    refine (HI.out w1 _ hx1).mono ?_
    rintro e w2 ⟨v2, rfl, hO2, hb2, a2, n2, c2, rfl⟩
    have hx2 := hx1.below hb2
    have hB2 := below_next hb1 hb2
    have hI2 := hO2.at
    have HL := Lib.hid (ListMade.len hO2)
    clear hx1 hb1 hb2 hO2
    go_wp2_with fail
    refine (HS.out w2 _ _ hx2).mono ?_
    rintro e w3 ⟨v3, rfl, hO3, hb3, a3, n3, c3, rfl⟩
    have hx3 := hx2.below hb3
    have hB3 := below_next hB2 hb3
    have hI3 := hI2.below hb3
    have hJ3 := hO3.at
    clear hx2 hB2 hb3 hI2 hO3
    go_wp2_with fail
    refine (equalInts_h w3 _ _ C hI3 hJ3).mono ?_
    rintro e w4 ⟨rfl, hb4⟩
    have hx4 := hx3.below hb4
    have hB4 := below_next hB3 hb4
    have hI4 := hI3.below hb4
    clear hx3 hB3 hb4 hI3 hJ3
    by_cases h0 : n2 = 0
    · subst h0
      go_wp2_with fail
      refine (HS.out w4 _ _ hx4).mono ?_
      rintro e w5 ⟨v5, rfl, hO5, hb5, a5, n5, c5, rfl⟩
      have hB5 := below_next hB4 hb5
      have hI5 := hI4.below hb5
      have hJ5 := hO5.at
      clear hb5 hO5 hI4 hB4
      go_wp2_with fail
      refine (equalInts_h w5 _ _ C hI5 hJ5).mono ?_
      rintro e w6 ⟨rfl, hb6⟩
      have FIN := keptH (below_next hB5 hb6)
      clear hI5 hJ5 hb6 hB5
      go_wp2
      go_ret
      exact ⟨rfl, FIN.out⟩
    · obtain HQ : Hid (WcFacts T s C) := by
        rcases HPP.out with rfl | h
        · exact absurd HL.out (by simp; omega)
        · exact h
      have q0 : ((n2 : Int) == 0) = false := by simp; omega
      have hn16 : n2 ≤ 16 := by have := HL.out; omega
      have HX4 := keptH hx4
      have HB4 := keptH hB4
      have HI4 := keptH hI4
      clear HPP hx4 hB4 hI4 h0
      obtain ⟨P, HBI, HBP⟩ := bp_yes T s HF.out hs HQ.out.ok
      have HCE : Hid (C = pcsL T s P) := HQ.out.same HBP.out.1
      have HPV : Hid ((ValidTb T ∧ WordB 16 s.data.toList) ∧ ValidPv T s P) := ⟨HQ.out.ok, HBP.out.2.pv⟩
      have HOK : Hid (∀ z ∈ C, WordCell z) := by show ∀ _, _; rw [HCE.out]; exact pcsL_ok HQ.out.ok.1 HQ.out.ok.2 HBP.out.2.pv
      go_wp2
      go_loopw [6] (fun i wr => ∃ k : Nat, k ≤ n2 ∧ i = .int .i64 k ∧ w4 = wr) (fun i _ => n2 - (intOf i).toNat)
      case atStart => exact ⟨0, Nat.zero_le _, rfl, rfl⟩
      case round =>
        obtain ⟨k, hk, rfl, rfl⟩ := hrel
        by_cases hlt : k < n2
        · obtain ⟨g2, off, cc, e⟩ := HI4.out.someAddr (by rw [HL.out]; omega)
          injection e with e1 _ _
          subst e1
          have cz := HI4.out.news k (.int .i64 (C.getD k 0)) (by simp [ints, List.getD_eq_getElem?_getD, HL.out, hlt])
          rw [Addr.add_lit] at cz
          have hz := HOK.out (C.getD k 0) (getD_mem (by rw [HL.out]; exact hlt))
          obtain ⟨z, hze⟩ : ∃ z, C.getD k 0 = z := ⟨_, rfl⟩
          rw [hze] at cz hz
          clear hze
          have b1 : (0 : Int) ≤ (k : Int) := by omega
          have b2 : (k : Int) < (n2 : Int) := by omega
          have d1 : (z == 0) = false := by have := hz.1; simp; omega
          have d2 : (z == 60) = false := by simp; exact hz.2.2.1
          have d3 : (z == 32) = false := by simp; exact hz.2.2.2.1
          have d4 : (z == 48) = false := by simp; exact hz.2.2.2.2
          clear hz
          go_wp2
          go_roundw
          case rel => exact ⟨k + 1, by omega, by go_num, by first | trivial | rfl⟩
          case measure => simp [intOf]; omega
        · go_wp2_with fail
          refine (HBI.out w4 _ HX4.out).mono ?_
          rintro e w5 ⟨v5, rfl, hO5, hb5, a5, n5, c5, rfl⟩
          have HX5 := keptH (HX4.out.below hb5)
          have HI5 := keptH (HI4.out.below hb5)
          have HJ5 := keptH hO5.at
          have HB5 := keptH (below_next HB4.out hb5)
          clear hO5 hb5
          go_wp2_with fail
          refine (i_PiecesCells w5 _ _ T s P HX5.out HF.out (by omega) HJ5.out HBP.out.2.fit HPV).mono ?_
          rintro e w6 ⟨v6, rfl, hO6, hb6, a6, n6, c6, rfl⟩
          have hI6 := HI5.out.below hb6
          have hJ6 := hO6.at
          rw [← HCE.out] at hJ6
          have hB6 := below_next HB5.out hb6
          clear hO6 hb6
          go_wp2_with fail
          refine (equalInts_h w6 _ _ C hJ6 hI6).mono ?_
          rintro e w7 ⟨rfl, hb7⟩
          have FIN := keptH (below_next hB6 hb7)
          clear hI6 hJ6 hB6 hb7
          go_wp2
          go_ret
          exact ⟨rfl, FIN.out⟩
  · have hbig' : 1048576 < len := by omega
    go_enter Try.func11, Try.ntmps11
    go_wp2
    go_ret
    exact ⟨rfl, Below.refl _ _⟩
set_option maxRecDepth 20000 in
set_option maxHeartbeats 8000000 in
theorem piecesCellsLeast_walk (a : Option Addr) (len cap : Nat) (zs : List Int) (w : World) (h : RowIn .u8 w a len cap zs) :
    Calls Try.prog 9 #[.slice a len cap] w fun e w' => e = .returned (.bool true) ∧ Below w.heap.size w w' := by
  have hlen : len ≤ 9223372036854775807 := by
    obtain ⟨_, h2, h3⟩ := bytesAt_of_row h; unfold maxLen at h3; omega
  by_cases hbig : len ≤ 1048576
  · go_enter Try.func9, Try.ntmps9
    go_wp2_with fail
    refine (drawPiecesCells_any w a len cap zs h).mono ?_
    rintro e w1 ⟨g, n, c1, T, s, v, P, rfl, hx1, hF, hs, hy1, hPF, hPl, hb1⟩
    clear h
    obtain ⟨m, hm⟩ : ∃ m, P.length = m := ⟨_, rfl⟩
    obtain ⟨a4, c4, hv4, _⟩ := id hy1
    rw [hm] at hv4 hPl
    have HM := Lib.hid hm
    subst hv4
    clear hm
    have HF := keptH hF
    have HPF := keptH hPF
    obtain ⟨b, HB⟩ : ∃ b : Bool, Hid (b = true ↔ (ValidTb T ∧ WordB 16 s.data.toList) ∧ ValidPv T s P) := by
      by_cases hv : (ValidTb T ∧ WordB 16 s.data.toList) ∧ ValidPv T s P
      · exact ⟨true, show _ ↔ _ from ⟨fun _ => hv, fun _ => rfl⟩⟩
      · exact ⟨false, show _ ↔ _ from ⟨fun e => by simp at e, fun e => absurd e hv⟩⟩
    obtain ⟨L, HSp, HIm, HLv⟩ : ∃ L : List Int, Hid (∀ wx u v, TableAt wx u T → PiecesAt wx v P → Calls Try.prog 36 #[u, .string s, v] wx fun e w' => ListMade L wx e w') ∧ Hid (∀ wx u v, TableAt wx u T → PiecesAt wx v P → Calls Try.prog 31 #[u, .string s, v] wx fun e w' => ListMade L wx e w') ∧ Hid ((ValidTb T ∧ WordB 16 s.data.toList) ∧ ValidPv T s P → L = pcsL T s P) := by
      have hss : s.size ≤ 9223372036854775807 := by omega
      by_cases hv : (ValidTb T ∧ WordB 16 s.data.toList) ∧ ValidPv T s P
      · exact ⟨pcsL T s P, fun wx u v h h' => s_PiecesCells wx u v T s P h hF hss h' hPF (Lib.hid hv), fun wx u v h h' => i_PiecesCells wx u v T s P h hF hss h' hPF (Lib.hid hv), fun _ => rfl⟩
      · exact ⟨[], fun wx u v h h' => s_PiecesCells_no wx u v T s P h hF hss h' hPF (Lib.hid hv), fun wx u v h h' => i_PiecesCells_no wx u v T s P h hF hss h' hPF (Lib.hid hv), fun h => absurd h hv⟩
    clear hF hPF
    go_wp2_with fail
    refine (HIm.out w1 _ _ hx1 hy1).mono ?_
    rintro e w2 ⟨v2, rfl, hO2, hb2, a2, n2, c2, rfl⟩
    have hx2 := hx1.below hb2
    have hy2 := hy1.below hb2
    have hB2 := below_next hb1 hb2
    clear hx1 hy1 hb1 hb2
    go_wp2_with fail
    refine (HSp.out w2 _ _ hx2 hy2).mono ?_
    rintro e w3 ⟨v3, rfl, hO3, hb3, a3, n3, c3, rfl⟩
    have hx3 := hx2.below hb3
    have hy3 := hy2.below hb3
    have hB3 := below_next hB2 hb3
    have hI3 := (hO2.below hb3).at
    have hJ3 := hO3.at
    clear hx2 hy2 hB2 hb3 hO2 hO3
    go_wp2_with fail
    refine (equalInts_alike w3 _ _ L hI3 hJ3).mono ?_
    rintro e w4 ⟨rfl, hb4⟩
    have hx4 := hx3.below hb4
    have hy4 := hy3.below hb4
    have hB4 := below_next hB3 hb4
    have hI4 := hI3.below hb4
    clear hx3 hy3 hB3 hb4 hI3 hJ3
    go_wp2_with fail
    refine (i_ValidPieces w4 _ _ T s P b hx4 HF.out (by omega) hy4 HPF.out HB).mono ?_
    rintro e w5 ⟨rfl, hb5⟩
    have HX5 := keptH (hx4.below hb5)
    have HY5 := keptH (hy4.below hb5)
    have HB5 := keptH (below_next hB4 hb5)
    have HI5 := keptH (hI4.below hb5)
    clear hx4 hy4 hB4 hb5 hI4
    cases b with
    | false =>
      go_wp2_with fail
      refine (HSp.out w5 _ _ HX5.out HY5.out).mono ?_
      rintro e w7 ⟨v7, rfl, hO7, hb7, a7, n7, c7, rfl⟩
      have hB7 := below_next HB5.out hb7
      have hI7 := HI5.out.below hb7
      have hJ7 := hO7.at
      clear hb7 hO7
      go_wp2_with fail
      refine (equalInts_alike w7 _ _ L hI7 hJ7).mono ?_
      rintro e w8 ⟨rfl, hb8⟩
      have FIN := keptH (below_next hB7 hb8)
      clear hJ7 hI7 hb8 hB7
      go_wp2
      go_ret
      exact ⟨rfl, FIN.out⟩
    | true =>
      have HV := keptH (HB.out.1 rfl)
      have HLL0 := Lib.hid (HLv.out HV.out)
      obtain ⟨C, HWI, HWF⟩ := wc_yes T s HF.out hs HV.out.1
      have HLN : Hid (L.length = n2) := by
        obtain ⟨_, _, e, _⟩ := HI5.out
        injection e with _ e2 _
        exact e2.symm
      clear HB HSp HIm HLv
      go_wp2_with fail
      refine (HWI.out w5 _ HX5.out).mono ?_
      rintro e w6 ⟨v6, rfl, hO6, hb6, a6, n6, c6, rfl⟩
      have hle : n6 ≤ n2 := by
        have h1 := ListMade.len hO6
        have h2 := HLN.out
        obtain ⟨P9, _, h4, h5⟩ := HWF.out.best
        have h6 := h4.low HV.out.2
        rw [HLL0.out, pcsL_len] at h2
        rw [h5, pcsL_len] at h1
        omega
      have d1 : decide ((n6 : Int) ≤ (n2 : Int)) = true := decide_eq_true (by omega)
      have FIN := keptH (below_next HB5.out hb6)
      clear hO6 hb6
      go_wp2
      go_ret
      exact ⟨rfl, FIN.out⟩
  · have hbig' : 1048576 < len := by omega
    go_enter Try.func9, Try.ntmps9
    go_wp2
    go_ret
    exact ⟨rfl, Below.refl _ _⟩
end Go.Proofs.Ytnahamhjcdkkkaa
