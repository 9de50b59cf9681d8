
/- P112: the characters of a word without rules are its letters, in capitals. -/
import Derived.Test.YthojahknocageaaHn
import Derived.Test.YthojahknocageaaAb
import Derived.IntWalk
import Derived.Deep.QuietTactic
import Derived.BigQuiet
namespace Go.Proofs.Ythojahknocageaa
open Go.RowKit

theorem below_drewNT {B : Nat} {a w : World} (h : Below B a w) (n : Nat) : Below B a (w.drewN n) := ⟨h.os, h.tape, h.output, h.size, h.block⟩
theorem pcsTo_plain {T : List PRule} {s : ByteArray} : ∀ k, k ≤ s.size → pcsTo T s (plainP s.size) k = (s.data.toList.take k).map fun b => letL.getD (b.toNat - 97) 0 := by
  intro k
  induction k with
  | zero => intro _; rfl
  | succ k ih =>
    intro hk
    have hl : k < s.data.toList.length := by rw [wd_size]; omega
    show pcsTo T s (plainP s.size) k ++ pcC T s ((plainP s.size).getD k noP) = _
    rw [ih (by omega), plainP_at (by omega), List.take_add_one, List.getElem?_eq_getElem hl, List.map_append]
    congr 1
    unfold pcC letS
    rw [if_pos rfl]
    simp only [Int.toNat_natCast, Option.toList_some, List.map_cons, List.map_nil]
    have e9 : s.data.toList.getD k 0 = s.data.toList[k] := by rw [List.getD_eq_getElem?_getD, List.getElem?_eq_getElem hl]; rfl
    rw [e9]
theorem word_bytes {s : ByteArray} (h : WordB 16 s.data.toList) : 0 < s.data.toList.length ∧ s.data.toList.length ≤ 16 ∧ ∀ b ∈ s.data.toList, 97 ≤ b.toNat ∧ b.toNat ≤ 122 := by
  refine ⟨by have := h.1; omega, h.2.1, fun b hb => ?_⟩
  have := h.2.2 b hb
  exact of_decide_eq_true this
theorem wc_nilA {s : ByteArray} {C : List Int} (h : WcFacts [] s C) : C = s.data.toList.map fun b => letL.getD (b.toNat - 97) 0 := by
  obtain ⟨P, _, h2, rfl⟩ := h.best
  rw [valid_nil h2.pv]
  unfold pcsL
  rw [plainP_len, pcsTo_plain _ (Nat.le_refl _), ← wd_size, List.take_length]
theorem ach_let : ∀ j : Nat, j < 26 → (ach (letL.getD j 0)).toNat = 65 + j ∧ 0 ≤ letL.getD j 0 ∧ letL.getD j 0 < 64 := by decide +kernel
theorem i_AsciiOf_l (w : World) (u : Value) (zs : List Int) (t : ByteArray) (hx : IntsAt w u zs) (ht : Hid (bs (ascL zs) = t)) :
    Calls Try.prog 10 #[u] w fun e w' => e = .returned (.string t) ∧ Below w.heap.size w w' := by
  have := i_AsciiOf w u zs hx
  unfold TextOut at this
  rw [ht.out] at this
  exact this
theorem up_chars {s t : ByteArray} {C : List Int} (hC : C = s.data.toList.map fun b => letL.getD (b.toNat - 97) 0) (hw : 0 < s.data.toList.length ∧ s.data.toList.length ≤ 16 ∧ ∀ b ∈ s.data.toList, 97 ≤ b.toNat ∧ b.toNat ≤ 122) (ht : bs (ascL C) = t) :
    t.size = s.size ∧ ∀ k (h : k < s.size) (h2 : k < t.size), 97 ≤ (s[k]'h).toNat ∧ (s[k]'h).toNat ≤ 122 ∧ ((t[k]'h2).toNat : Int) = ((s[k]'h).toNat : Int) - 97 + 65 := by
  have hv : ValidL C := by
    rw [hC]
    refine ⟨by rw [List.length_map]; omega, fun z hz => ?_⟩
    obtain ⟨b, hb, rfl⟩ := List.mem_map.1 hz
    have h1 := hw.2.2 b hb
    exact (ach_let (b.toNat - 97) (by omega)).2
  have ha : ascL C = s.data.toList.map fun b => ach (letL.getD (b.toNat - 97) 0) := by
    rw [show ascL C = asL C from if_pos hv, hC]
    simp [asL, List.map_map, Function.comp]
  have hs : t.size = s.size := by
    rw [← ht, bs_size, ha, List.length_map, wd_size]
  refine ⟨hs, fun k h h2 => ?_⟩
  have hl : k < s.data.toList.length := by rw [wd_size]; exact h
  have hsk : s.data.toList[k]'hl = s[k]'h := rfl
  have h1 := hw.2.2 _ (List.getElem_mem hl)
  rw [hsk] at h1
  refine ⟨h1.1, h1.2, ?_⟩
  have htl : t.data.toList = ascL C := by rw [← ht]; simp [bs]
  have htk : t[k]'h2 = ach (letL.getD ((s[k]'h).toNat - 97) 0) := by
    have e1 : t[k]'h2 = t.data.toList[k]'(by rw [Array.length_toList]; exact h2) := rfl
    rw [e1]
    have : ∀ (l : List UInt8) (hl' : k < l.length), l = ascL C → l[k]'hl' = ach (letL.getD ((s[k]'h).toNat - 97) 0) := by
      intro l hl' e
      subst e
      simp only [ha, List.getElem_map]
      rw [hsk]
    exact this _ _ htl
  rw [htk, (ach_let ((s[k]'h).toNat - 97) (by omega)).1]
  omega
set_option maxHeartbeats 4000000 in
theorem asciiOfLetters_walk (a : Option Addr) (len cap : Nat) (zs : List Int) (w : World) (h : RowIn .u8 w a len cap zs) :
    Calls Try.prog 5 #[.slice a len cap] w fun e w' => e = .returned (.bool true) ∧ Below w.heap.size w w' := by
  have hlen : len ≤ 9223372036854775807 := by
    obtain ⟨_, h2, h3⟩ := bytesAt_of_row h; unfold maxLen at h3; omega
  by_cases hbig : len ≤ 1048576
  · go_enter Try.func5, Try.ntmps5
    go_wp2_with fail
    refine (drawWordCells_any w a len cap zs h).mono ?_
    rintro e w1 ⟨S, g, n, c1, Q, s, rfl, hTO, HN, hF, hn9, hS1, hb1, hs⟩
    clear h
    have hx1 := hTO.at
    have hnt : (tabOf Q).length = n := by rw [tabOf_len]; exact HN.out
    clear hTO HN hS1
    generalize tabOf Q = T at hx1 hF hnt
    clear Q
    obtain ⟨C, HS, HI, h16, HP⟩ := wc_lists T s n hnt hF hs
    have HF := keptH hF
    have HNT := Lib.hid hnt
    have HPP := keptH HP
    clear hF hnt HP
    go_wp2_with fail
    refine (HI.out w1 _ hx1).mono ?_
    rintro e w2 ⟨v2, rfl, hO2, hb2, a2, n2, c2, rfl⟩
    have hx2 := hx1.below hb2
    have hB2 := below_next hb1 hb2
    have hI2 := hO2.at
    have HL := Lib.hid (ListMade.len hO2)
    clear hx1 hb1 hb2 hO2
    go_wp2_with fail
    refine (HS.out w2 _ _ hx2).mono ?_
    rintro e w3 ⟨v3, rfl, hO3, hb3, a3, n3, c3, rfl⟩
    have hx3 := hx2.below hb3
    have hB3 := below_next hB2 hb3
    have hI3 := hI2.below hb3
    have hJ3 := hO3.at
    clear hx2 hB2 hb3 hI2 hO3
    go_wp2_with fail
    refine (equalInts_h w3 _ _ C hI3 hJ3).mono ?_
    rintro e w4 ⟨rfl, hb4⟩
    have hx4 := hx3.below hb4
    have hB4 := below_next hB3 hb4
    have hI4 := hI3.below hb4
    clear hx3 hB3 hb4 hI3 hJ3
    by_cases h0 : n2 = 0
    · subst h0
      go_wp2_with fail
      refine (HS.out w4 _ _ hx4).mono ?_
      rintro e w5 ⟨v5, rfl, hO5, hb5, a5, n5, c5, rfl⟩
      have hB5 := below_next hB4 hb5
      have hI5 := hI4.below hb5
      have hJ5 := hO5.at
      clear hb5 hO5 hI4 hB4
      go_wp2_with fail
      refine (equalInts_h w5 _ _ C hI5 hJ5).mono ?_
      rintro e w6 ⟨rfl, hb6⟩
      have FIN := keptH (below_next hB5 hb6)
      clear hI5 hJ5 hb6 hB5
      go_wp2
      go_ret
      exact ⟨rfl, FIN.out⟩
    · obtain HQ : Hid (WcFacts T s C) := by
        rcases HPP.out with rfl | h
        · exact absurd HL.out (by simp; omega)
        · exact h
      have q0 : ((n2 : Int) == 0) = false := by simp; omega
      have hn16 : n2 ≤ 16 := by have := HL.out; omega
      have HX4 := keptH hx4
      have HB4 := keptH hB4
      have HI4 := keptH hI4
      clear HPP hx4 hB4 hI4 h0
      have HOK : Hid (OkW [] s) := okW_nil HQ.out.ok
      have HFN : Hid (TableFits []) := (show TableFits [] from fun r hr => by simp at hr)
      obtain ⟨C3, HI3, HW3⟩ := wc_yes [] s HFN.out hs HOK.out
      have hE3 := wc_nilA HW3.out
      have hwb := word_bytes HQ.out.ok.2
      obtain ⟨t, ht⟩ : ∃ t, bs (ascL C3) = t := ⟨_, rfl⟩
      obtain ⟨hts, htk⟩ := up_chars hE3 hwb ht
      have HT := keptH ht
      have HTK := keptH htk
      have hs16 : s.size ≤ 16 := by have := hwb.2.1; rw [wd_size] at this; exact this
      have HAT : Hid (∀ w u, IntsAt w u C3 → Calls Try.prog 10 #[u] w fun e w' => e = .returned (.string t) ∧ Below w.heap.size w w') := fun w u h => i_AsciiOf_l w u C3 t h HT
      clear ht htk hwb hE3 HT
      go_wp2_with fail
      refine (HI3.out w4 _ (TableAt.nilH w4)).mono ?_
      rintro e w5 ⟨v5, rfl, hO5, hb5, a5, n5, c5, rfl⟩
      have HI5 := keptH hO5.at
      have HB5 := keptH (below_next HB4.out hb5)
      clear hb5 hO5
      go_wp2_with fail
      refine (HAT.out w5 _ HI5.out).mono ?_
      rintro e w6 ⟨rfl, hb6⟩
      have HB6 := keptH (below_next HB5.out hb6)
      clear hb6 HAT HI5 HB5 HB4 HX4 HI4 HI3 HW3 HFN HOK HI HS HNT HF HL HQ q0
      go_wp2
      go_loopw [7] (fun i wr => ∃ k : Nat, k ≤ s.size ∧ i = .int .i64 k ∧ Below w.heap.size w wr) (fun i _ => s.size - (intOf i).toNat)
      case atStart => exact ⟨0, Nat.zero_le _, rfl, HB6.out⟩
      case round =>
        obtain ⟨k, hk, rfl, hb⟩ := hrel
        by_cases hlt : k < s.size
        · have hkt : k < t.size := by omega
          obtain ⟨m1, m2, m3⟩ := HTK.out k hlt hkt
          have d1 : decide (t.size ≤ k) = false := decide_eq_false (by omega)
          have d2 : decide ((t.size : Int) ≤ (k : Int)) = false := decide_eq_false (by omega)
          have u1 : IntKind.u8.wrap (((s[k]'hlt).toNat : Int) - 97) = ((s[k]'hlt).toNat : Int) - 97 := IntWalk.u8_in _ (by omega)
          have u2 : IntKind.u8.wrap (((s[k]'hlt).toNat : Int) - 97 + 65) = ((s[k]'hlt).toNat : Int) - 97 + 65 := IntWalk.u8_in _ (by omega)
          have e1 : (((t[k]'hkt).toNat : Int) != ((s[k]'hlt).toNat : Int) - 97 + 65) = false := by simp; omega
          have b1 : (0 : Int) ≤ (k : Int) := by omega
          have b2 : (k : Int) < (t.size : Int) := by omega
          have b3 : (k : Int) < (s.size : Int) := by omega
          have HBB := keptH hb
          clear m1 m2 m3 hb
          go_wp2_with fail
          go_quiet (fail)
          clear u1 u2
          go_wp2
          go_roundw
          case rel => exact ⟨k + 1, by omega, by go_num, below_drewNT HBB.out _⟩
          case measure => simp [intOf]; omega
        · have e1 : ((t.size : Int) == (s.size : Int)) = true := by simp; omega
          have HBB := keptH hb
          clear hb
          go_wp2
          go_ret
          exact ⟨rfl, HBB.out⟩
  · have hbig' : 1048576 < len := by omega
    go_enter Try.func5, Try.ntmps5
    go_wp2
    go_ret
    exact ⟨rfl, Below.refl _ _⟩
end Go.Proofs.Ythojahknocageaa
