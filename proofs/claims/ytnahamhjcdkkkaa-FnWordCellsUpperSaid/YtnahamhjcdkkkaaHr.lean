
/- A word without rules has the cells of its letters: the plain list. -/
import Derived.Test.YtnahamhjcdkkkaaHn
import Derived.Test.YtnahamhjcdkkkaaHq
namespace Go.Proofs.Ytnahamhjcdkkkaa
open Go.RowKit

theorem pcsTo_plain {T : List PRule} {s : ByteArray} : ∀ k, k ≤ s.size → pcsTo T s (plainP s.size) k = (s.data.toList.take k).map fun b => letL.getD (b.toNat - 97) 0 := by
  intro k
  induction k with
  | zero => intro _; rfl
  | succ k ih =>
    intro hk
    have hl : k < s.data.toList.length := by rw [wd_size]; omega
    show pcsTo T s (plainP s.size) k ++ pcC T s ((plainP s.size).getD k noP) = _
    rw [ih (by omega), plainP_at (by omega), List.take_add_one, List.getElem?_eq_getElem hl, List.map_append]
    congr 1
    unfold pcC letS
    rw [if_pos rfl]
    simp only [Int.toNat_natCast, Option.toList_some, List.map_cons, List.map_nil]
    have e9 : s.data.toList.getD k 0 = s.data.toList[k] := by rw [List.getD_eq_getElem?_getD, List.getElem?_eq_getElem hl]; rfl
    rw [e9]
theorem word_bytes {s : ByteArray} (h : WordB 16 s.data.toList) : 0 < s.data.toList.length ∧ s.data.toList.length ≤ 16 ∧ ∀ b ∈ s.data.toList, 97 ≤ b.toNat ∧ b.toNat ≤ 122 := by
  refine ⟨by have := h.1; omega, h.2.1, fun b hb => ?_⟩
  have := h.2.2 b hb
  exact of_decide_eq_true this
theorem wc_nil {s : ByteArray} {C : List Int} (h : WcFacts [] s C) : C = plainC s.data.toList := by
  obtain ⟨P, _, h2, rfl⟩ := h.best
  have h3 := word_bytes h.ok.2
  rw [valid_nil h2.pv, plainC_small h3.1 h3.2.2]
  unfold pcsL
  rw [plainP_len, pcsTo_plain _ (Nat.le_refl _), ← wd_size, List.take_length]
theorem word_text {s : ByteArray} (h : WordB 16 s.data.toList) : ValidT s.data.toList := by
  have h3 := word_bytes h
  refine ⟨by omega, fun b hb => ?_⟩
  unfold okB
  rw [(small_let (h3.2.2 b hb)).1]
  rfl
set_option maxHeartbeats 4000000 in
theorem wordCellsPlain_walk (a : Option Addr) (len cap : Nat) (zs : List Int) (w : World) (h : RowIn .u8 w a len cap zs) :
    Calls Try.prog 13 #[.slice a len cap] w fun e w' => e = .returned (.bool true) ∧ Below w.heap.size w w' := by
  have hlen : len ≤ 9223372036854775807 := by
    obtain ⟨_, h2, h3⟩ := bytesAt_of_row h; unfold maxLen at h3; omega
  by_cases hbig : len ≤ 1048576
  · go_enter Try.func13, Try.ntmps13
    go_wp2_with fail
    refine (drawWordCells_any w a len cap zs h).mono ?_
    rintro e w1 ⟨S, g, n, c1, Q, s, rfl, hTO, HN, hF, hn9, hS1, hb1, hs⟩
    clear h
    have hx1 := hTO.at
    have hnt : (tabOf Q).length = n := by rw [tabOf_len]; exact HN.out
    clear hTO HN hS1
    generalize tabOf Q = T at hx1 hF hnt
    clear Q
    obtain ⟨C, HS, HI, h16, HP⟩ := wc_lists T s n hnt hF hs
    have HF := keptH hF
    have HNT := Lib.hid hnt
    have HPP := keptH HP
    clear hF hnt HP
    go_wp2_with fail
    refine (HI.out w1 _ hx1).mono ?_
    rintro e w2 ⟨v2, rfl, hO2, hb2, a2, n2, c2, rfl⟩
    have hx2 := hx1.below hb2
    have hB2 := below_next hb1 hb2
    have hI2 := hO2.at
    have HL := Lib.hid (ListMade.len hO2)
    clear hx1 hb1 hb2 hO2
    go_wp2_with fail
    refine (HS.out w2 _ _ hx2).mono ?_
    rintro e w3 ⟨v3, rfl, hO3, hb3, a3, n3, c3, rfl⟩
    have hx3 := hx2.below hb3
    have hB3 := below_next hB2 hb3
    have hI3 := hI2.below hb3
    have hJ3 := hO3.at
    clear hx2 hB2 hb3 hI2 hO3
    go_wp2_with fail
    refine (equalInts_h w3 _ _ C hI3 hJ3).mono ?_
    rintro e w4 ⟨rfl, hb4⟩
    have hx4 := hx3.below hb4
    have hB4 := below_next hB3 hb4
    have hI4 := hI3.below hb4
    clear hx3 hB3 hb4 hI3 hJ3
    by_cases h0 : n2 = 0
    · subst h0
      go_wp2_with fail
      refine (HS.out w4 _ _ hx4).mono ?_
      rintro e w5 ⟨v5, rfl, hO5, hb5, a5, n5, c5, rfl⟩
      have hB5 := below_next hB4 hb5
      have hI5 := hI4.below hb5
      have hJ5 := hO5.at
      clear hb5 hO5 hI4 hB4
      go_wp2_with fail
      refine (equalInts_h w5 _ _ C hI5 hJ5).mono ?_
      rintro e w6 ⟨rfl, hb6⟩
      have FIN := keptH (below_next hB5 hb6)
      clear hI5 hJ5 hb6 hB5
      go_wp2
      go_ret
      exact ⟨rfl, FIN.out⟩
    · obtain HQ : Hid (WcFacts T s C) := by
        rcases HPP.out with rfl | h
        · exact absurd HL.out (by simp; omega)
        · exact h
      have q0 : ((n2 : Int) == 0) = false := by simp; omega
      have hn16 : n2 ≤ 16 := by have := HL.out; omega
      have HX4 := keptH hx4
      have HB4 := keptH hB4
      have HI4 := keptH hI4
      clear HPP hx4 hB4 hI4 h0
      have HOK : Hid (OkW [] s) := okW_nil HQ.out.ok
      have HFN : Hid (TableFits []) := (show TableFits [] from fun r hr => by simp at hr)
      obtain ⟨C3, HI3, HW3⟩ := wc_yes [] s HFN.out hs HOK.out
      have HE3 : Hid (C3 = plainC s.data.toList) := wc_nil HW3.out
      have HVT : Hid (ValidT s.data.toList) := word_text HQ.out.ok.2
      go_wp2_with fail
      refine (HI3.out w4 _ (TableAt.nilH w4)).mono ?_
      rintro e w5 ⟨v5, rfl, hO5, hb5, a5, n5, c5, rfl⟩
      have hI5 := hO5.at
      rw [HE3.out] at hI5
      have hB5 := below_next HB4.out hb5
      clear hb5 hO5
      go_wp2_with fail
      refine (i_PlainCells s s.data.toList w5 (Txt.of s) rfl HVT.out).mono ?_
      rintro e w6 ⟨v6, rfl, hO6, hb6, a6, n6, c6, rfl⟩
      have hI6 := hI5.below hb6
      have hJ6 := hO6.at
      have hB6 := below_next hB5 hb6
      clear hb6 hI5 hB5 hO6
      go_wp2_with fail
      refine (equalInts_h w6 _ _ _ hI6 hJ6).mono ?_
      rintro e w7 ⟨rfl, hb7⟩
      have FIN := keptH (below_next hB6 hb7)
      clear hb7 hI6 hJ6 hB6
      go_wp2
      go_ret
      exact ⟨rfl, FIN.out⟩
  · have hbig' : 1048576 < len := by omega
    go_enter Try.func13, Try.ntmps13
    go_wp2
    go_ret
    exact ⟨rfl, Below.refl _ _⟩
end Go.Proofs.Ytnahamhjcdkkkaa
