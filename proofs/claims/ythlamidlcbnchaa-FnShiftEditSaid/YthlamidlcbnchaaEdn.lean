
/- P158: edits apart can be made in any order. -/
import Derived.Test.YthlamidlcbnchaaEdm
import Derived.Test.YthlamidlcbnchaaEdg
namespace Go.Proofs.Ythlamidlcbnchaa
open Go.RowKit

theorem ba_ext {a b : ByteArray} (h : a.data.toList = b.data.toList) : a = b := by
  cases a; cases b; simp at h; rw [h]
theorem edS_list (s t : ByteArray) (q d : Nat) (hq : q + d ≤ s.size) : (edS s q d t).data.toList = s.data.toList.take q ++ t.data.toList ++ s.data.toList.drop (q + d) := by
  have hl := size_data s
  unfold edS
  rw [ByteArray.data_append, ByteArray.data_append, Array.toList_append, Array.toList_append, extract_list, extract_list]
  simp only [sub, List.drop_zero, Nat.sub_zero]
  rw [List.take_of_length_le (l := s.data.toList.drop (q + d)) (by rw [List.length_drop]; omega)]
theorem edS_size {s t : ByteArray} {q d : Nat} (hq : q + d ≤ s.size) : (edS s q d t).size = s.size - d + t.size := by
  rw [← size_data, edS_list s t q d hq, List.length_append, List.length_append, List.length_take, List.length_drop, size_data, size_data]
  omega
theorem ed_swap {S t t2 : ByteArray} {p c p2 c2 q2 : Nat} (hq : q2 + c = p2 + t.size) (h1 : p + c ≤ p2) (h2 : p2 + c2 ≤ S.size) : edS (edS S p2 c2 t2) p c t = edS (edS S p c t) q2 c2 t2 := by
  apply ba_ext
  have hl := size_data S
  have hlt := size_data t
  rw [edS_list _ _ _ _ (by rw [edS_size h2]; omega), edS_list _ _ _ _ h2, edS_list _ _ _ _ (by rw [edS_size (by omega)]; omega), edS_list _ _ _ _ (by omega)]
  obtain ⟨l, hL⟩ : ∃ l, S.data.toList = l := ⟨_, rfl⟩
  obtain ⟨m, hM⟩ : ∃ m, t.data.toList = m := ⟨_, rfl⟩
  obtain ⟨m2, hM2⟩ : ∃ m, t2.data.toList = m := ⟨_, rfl⟩
  rw [hL] at hl ⊢
  rw [hM] at hlt ⊢
  rw [hM2]
  obtain ⟨d, hd⟩ : ∃ d, p2 = p + c + d := ⟨p2 - (p + c), by omega⟩
  have hq2 : q2 = p + m.length + d := by omega
  subst hd hq2
  have e1 : (l.take (p + c + d) ++ m2 ++ l.drop (p + c + d + c2)).take p = l.take p := by
    rw [List.append_assoc, List.take_append_of_le_length (by rw [List.length_take]; omega), List.take_take, Nat.min_eq_left (by omega)]
  have e2 : (l.take (p + c + d) ++ m2 ++ l.drop (p + c + d + c2)).drop (p + c) = (l.drop (p + c)).take d ++ m2 ++ l.drop (p + c + d + c2) := by
    rw [List.append_assoc, List.drop_append_of_le_length (by rw [List.length_take]; omega), List.drop_take, ← List.append_assoc, show p + c + d - (p + c) = d from by omega]
  have e3 : (l.take p ++ m ++ l.drop (p + c)).take (p + m.length + d) = l.take p ++ m ++ (l.drop (p + c)).take d := by
    rw [List.take_append, List.length_append, List.length_take, Nat.min_eq_left (by omega), List.take_of_length_le (by rw [List.length_append, List.length_take]; omega), show p + m.length + d - (p + m.length) = d from by omega]
  have e4 : (l.take p ++ m ++ l.drop (p + c)).drop (p + m.length + d + c2) = l.drop (p + c + d + c2) := by
    rw [List.drop_append, List.length_append, List.length_take, Nat.min_eq_left (by omega), List.drop_of_length_le (by rw [List.length_append, List.length_take]; omega), List.nil_append, List.drop_drop, show p + c + (p + m.length + d + c2 - (p + m.length)) = p + c + d + c2 from by omega]
  rw [e1, e2, e3, e4]
  simp only [List.append_assoc]
theorem ed_both {S t t2 : ByteArray} {p c p2 c2 q2 : Nat} (hq : q2 + c = p2 + t.size) (hB : p + c ≤ p2) (h1 : CanE (p : Int) (c : Int) t S.size) (h2 : CanE (p2 : Int) (c2 : Int) t2 S.size) :
    CanE (p : Int) (c : Int) t (edS S p2 c2 t2).size ↔ CanE (q2 : Int) (c2 : Int) t2 (edS S p c t).size := by
  obtain ⟨a1, a2, a3, a4, a5⟩ := h1
  obtain ⟨b1, b2, b3, b4, b5⟩ := h2
  have z1 := edS_size (s := S) (t := t2) (q := p2) (d := c2) (by omega)
  have z2 := edS_size (s := S) (t := t) (q := p) (d := c) (by omega)
  constructor
  · rintro ⟨_, _, _, _, h⟩
    exact ⟨by omega, by omega, by omega, b4, by omega⟩
  · rintro ⟨_, _, _, _, h⟩
    exact ⟨by omega, by omega, by omega, a4, by omega⟩
/-- what two edits apart do, in either order -/
structure Both (S t t2 : ByteArray) (p c p2 c2 q q2 : Nat) : Prop where
  can : CanE (q : Int) (c : Int) t (edS S p2 c2 t2).size ↔ CanE (q2 : Int) (c2 : Int) t2 (edS S p c t).size
  same : edS (edS S p2 c2 t2) q c t = edS (edS S p c t) q2 c2 t2
theorem shP_both {p c p2 c2 : Int} {t t2 : ByteArray} {many q : Int} (h : shP p c t p2 c2 t2 many = some q) :
    ∃ np nc np2 nc2 m nq nq2 : Nat, p = np ∧ c = nc ∧ p2 = np2 ∧ c2 = nc2 ∧ many = m ∧ q = nq ∧ CanE (np : Int) (nc : Int) t (m : Int) ∧ CanE (np2 : Int) (nc2 : Int) t2 (m : Int) ∧ shP p2 c2 t2 p c t many = some (nq2 : Int) ∧
      ∀ S : ByteArray, S.size = m → Both S t t2 np nc np2 nc2 nq nq2 := by
  unfold shP at h
  by_cases h1 : CanE p c t many ∧ CanE p2 c2 t2 many
  · rw [if_pos h1] at h
    have h1' : CanE p2 c2 t2 many ∧ CanE p c t many := ⟨h1.2, h1.1⟩
    obtain ⟨m, np, nc, e1, e2, e3, a1, a2, a3, a4, a5⟩ := h1.1.nat
    obtain ⟨m', np2, nc2, e1', e4, e5, b1, b2, b3, b4, b5⟩ := h1.2.nat
    subst e1 e2 e3 e4 e5
    obtain rfl : m = m' := by omega
    have e6 : shP (np2 : Int) (nc2 : Int) t2 (np : Int) (nc : Int) t (m : Int) = if Bef (np2 : Int) (nc2 : Int) (np : Int) then some (np2 : Int) else if Bef (np : Int) (nc : Int) (np2 : Int) then some ((np2 : Int) + ((t.size : Int) - nc)) else none := by unfold shP; rw [if_pos h1']
    by_cases h2 : Bef (np : Int) (nc : Int) (np2 : Int)
    · rw [if_pos h2] at h
      injection h with h
      have h3 : ¬ Bef (np2 : Int) (nc2 : Int) (np : Int) := by unfold Bef at h2 ⊢; omega
      have hB : np + nc ≤ np2 := by unfold Bef at h2; omega
      rw [if_neg h3, if_pos h2] at e6
      obtain ⟨q2, hq2⟩ : ∃ q2 : Nat, q2 + nc = np2 + t.size := ⟨np2 + t.size - nc, by omega⟩
      refine ⟨np, nc, np2, nc2, m, np, q2, rfl, rfl, rfl, rfl, rfl, h.symm, h1.1, h1.2, by rw [e6]; congr 1; omega, fun S hS => ⟨?_, ed_swap hq2 hB (by omega)⟩⟩
      exact ed_both hq2 hB (by rw [hS]; exact h1.1) (by rw [hS]; exact h1.2)
    · rw [if_neg h2] at h
      by_cases h3 : Bef (np2 : Int) (nc2 : Int) (np : Int)
      · rw [if_pos h3] at h
        injection h with h
        have hB : np2 + nc2 ≤ np := by unfold Bef at h3; omega
        rw [if_pos h3] at e6
        obtain ⟨q, hq⟩ : ∃ q : Nat, q + nc2 = np + t2.size := ⟨np + t2.size - nc2, by omega⟩
        refine ⟨np, nc, np2, nc2, m, q, np2, rfl, rfl, rfl, rfl, rfl, by omega, h1.1, h1.2, e6, fun S hS => ⟨?_, (ed_swap hq hB (by omega)).symm⟩⟩
        exact (ed_both hq hB (by rw [hS]; exact h1.2) (by rw [hS]; exact h1.1)).symm
      · rw [if_neg h3] at h; cases h
  · rw [if_neg h1] at h; cases h
theorem abc_size : (⟨#[97, 98, 99, 100, 101, 102, 103, 104, 105, 106, 107, 108, 109, 110, 111, 112, 113, 114, 115, 116, 117, 118, 119, 120, 121, 122]⟩ : ByteArray).size = 26 := by rfl
theorem abc_ok : ∀ b ∈ (⟨#[97, 98, 99, 100, 101, 102, 103, 104, 105, 106, 107, 108, 109, 110, 111, 112, 113, 114, 115, 116, 117, 118, 119, 120, 121, 122]⟩ : ByteArray).data.toList, okB b.toNat = true := by decide +kernel
set_option maxHeartbeats 4000000 in
theorem shiftEdit_walk (a : Option Addr) (len cap : Nat) (zs : List Int) (w : World) (h : RowIn .u8 w a len cap zs) :
    Calls Try.prog 8 #[.slice a len cap] w fun e w' => e = .returned (.bool true) ∧ Below w.heap.size w w' := by
  have hlen : len ≤ 9223372036854775807 := by
    obtain ⟨_, h2, h3⟩ := bytesAt_of_row h; unfold maxLen at h3; omega
  by_cases hbig : len ≤ 1048576
  · go_enter Try.func8, Try.ntmps8
    go_wp2_with fail
    refine (drawShiftEdit_any w a len cap zs h).mono ?_
    rintro e w1 ⟨x, c, t, x2, c2, t2, many, rfl, ht, ht2, hm0, hm1, HB⟩
    clear h
    cases hs : shP x c t x2 c2 t2 many with
    | some q =>
      obtain ⟨np, nc, np2, nc2, m, nq, nq2, e1, e2, e3, e4, e5, e6, hc1, hc2, hs2, hboth⟩ := shP_both hs
      subst e1 e2 e3 e4 e5 e6
      have HS := Lib.hid hs
      have HS2 := Lib.hid hs2
      have HC1 := Lib.hid hc1
      have HC2 := Lib.hid hc2
      have HBO := Lib.hid hboth
      have hm60 : m ≤ 60 := by have := hc1.1; omega
      clear hs hs2 hc1 hc2 hboth
      have E1 := (EdAt.new w1 ((np : Int)) ((nc : Int)) (t)).alloc (.cells #[.int .i64 ((np2 : Int)), .int .i64 ((nc2 : Int)), .string (t2)] 24)
      have E2 := EdAt.new (w1.alloc (.cells #[.int .i64 ((np : Int)), .int .i64 ((nc : Int)), .string (t)] 24)) ((np2 : Int)) ((nc2 : Int)) (t2)
      rw [World.size_alloc] at E2
      replace HB : Below w.heap.size w ((w1.alloc (.cells #[.int .i64 ((np : Int)), .int .i64 ((nc : Int)), .string (t)] 24)).alloc (.cells #[.int .i64 ((np2 : Int)), .int .i64 ((nc2 : Int)), .string (t2)] 24)) := (HB.alloc HB.size _).alloc (by rw [World.size_alloc]; have := HB.size; omega) _
      go_wp2_with fail
      generalize ((w1.alloc (.cells #[.int .i64 ((np : Int)), .int .i64 ((nc : Int)), .string (t)] 24)).alloc (.cells #[.int .i64 ((np2 : Int)), .int .i64 ((nc2 : Int)), .string (t2)] 24)) = v1 at E1 E2 HB ⊢
      generalize w1.heap.size = G1 at E1 E2 ⊢
      obtain ⟨c1a, c1b, c1c⟩ := E1.cells
      obtain ⟨c2a, c2b, c2c⟩ := E2.cells
      refine (i_ShiftEdit_some _ _ t _ _ t2 _ _ _ (by omega) (by omega) HS.out).mono ?_
      rintro e w2 ⟨rfl, hbn⟩
      clear c1a c1b c1c c2a c2b c2c
      replace E1 := E1.below hbn E1.lt
      replace E2 := E2.below hbn E2.lt
      replace HB := below_next HB hbn
      clear hbn
      obtain ⟨c1a, c1b, c1c⟩ := E1.cells
      obtain ⟨c2a, c2b, c2c⟩ := E2.cells
      clear c1a c1b c1c c2a c2b c2c
      replace E1 := E1.alloc (.cells #[.int .i64 ((nq : Int)), .int .i64 ((nc : Int)), .string (t)] 24)
      replace E2 := E2.alloc (.cells #[.int .i64 ((nq : Int)), .int .i64 ((nc : Int)), .string (t)] 24)
      have E3 := EdAt.new w2 ((nq : Int)) ((nc : Int)) (t)
      replace HB := HB.alloc HB.size (.cells #[.int .i64 ((nq : Int)), .int .i64 ((nc : Int)), .string (t)] 24)
      obtain ⟨c1a, c1b, c1c⟩ := E1.cells
      obtain ⟨c2a, c2b, c2c⟩ := E2.cells
      obtain ⟨c3a, c3b, c3c⟩ := E3.cells
      go_wp2_with fail
      clear c1a c1b c1c c2a c2b c2c c3a c3b c3c
      generalize (w2.alloc (.cells #[.int .i64 ((nq : Int)), .int .i64 ((nc : Int)), .string (t)] 24)) = v2 at E1 E2 E3 HB ⊢
      generalize w2.heap.size = G3 at E3 ⊢
      obtain ⟨c1a, c1b, c1c⟩ := E1.cells
      obtain ⟨c2a, c2b, c2c⟩ := E2.cells
      obtain ⟨c3a, c3b, c3c⟩ := E3.cells
      refine (s_ShiftEdit_some _ _ t _ _ t2 _ _ _ (by omega) (by omega) HS.out).mono ?_
      rintro e w3 ⟨rfl, hbn⟩
      clear c1a c1b c1c c2a c2b c2c c3a c3b c3c
      replace E1 := E1.below hbn E1.lt
      replace E2 := E2.below hbn E2.lt
      replace E3 := E3.below hbn E3.lt
      replace HB := below_next HB hbn
      clear hbn
      obtain ⟨c1a, c1b, c1c⟩ := E1.cells
      obtain ⟨c2a, c2b, c2c⟩ := E2.cells
      obtain ⟨c3a, c3b, c3c⟩ := E3.cells
      clear c1a c1b c1c c2a c2b c2c c3a c3b c3c
      replace E1 := E1.alloc (.cells #[.int .i64 ((nq : Int)), .int .i64 ((nc : Int)), .string (t)] 24)
      replace E2 := E2.alloc (.cells #[.int .i64 ((nq : Int)), .int .i64 ((nc : Int)), .string (t)] 24)
      replace E3 := E3.alloc (.cells #[.int .i64 ((nq : Int)), .int .i64 ((nc : Int)), .string (t)] 24)
      have E4 := EdAt.new w3 ((nq : Int)) ((nc : Int)) (t)
      replace HB := HB.alloc HB.size (.cells #[.int .i64 ((nq : Int)), .int .i64 ((nc : Int)), .string (t)] 24)
      obtain ⟨c1a, c1b, c1c⟩ := E1.cells
      obtain ⟨c2a, c2b, c2c⟩ := E2.cells
      obtain ⟨c3a, c3b, c3c⟩ := E3.cells
      obtain ⟨c4a, c4b, c4c⟩ := E4.cells
      go_wp2_with fail
      clear c1a c1b c1c c2a c2b c2c c3a c3b c3c c4a c4b c4c
      generalize (w3.alloc (.cells #[.int .i64 ((nq : Int)), .int .i64 ((nc : Int)), .string (t)] 24)) = v3 at E1 E2 E3 E4 HB ⊢
      generalize w3.heap.size = G4 at E4 ⊢
      obtain ⟨c1a, c1b, c1c⟩ := E1.cells
      obtain ⟨c2a, c2b, c2c⟩ := E2.cells
      obtain ⟨c3a, c3b, c3c⟩ := E3.cells
      obtain ⟨c4a, c4b, c4c⟩ := E4.cells
      refine (equalEdit_same _ _ _ _).mono ?_
      rintro e w4 ⟨rfl, hbn⟩
      clear c1a c1b c1c c2a c2b c2c c3a c3b c3c c4a c4b c4c
      replace E1 := E1.below hbn E1.lt
      replace E2 := E2.below hbn E2.lt
      replace E3 := E3.below hbn E3.lt
      replace E4 := E4.below hbn E4.lt
      replace HB := below_next HB hbn
      clear hbn
      obtain ⟨c1a, c1b, c1c⟩ := E1.cells
      obtain ⟨c2a, c2b, c2c⟩ := E2.cells
      obtain ⟨c3a, c3b, c3c⟩ := E3.cells
      obtain ⟨c4a, c4b, c4c⟩ := E4.cells
      go_wp2_with fail
      refine (i_ShiftEdit_some _ _ t2 _ _ t _ _ _ (by omega) (by omega) HS2.out).mono ?_
      rintro e w5 ⟨rfl, hbn⟩
      clear c1a c1b c1c c2a c2b c2c c3a c3b c3c c4a c4b c4c
      replace E1 := E1.below hbn E1.lt
      replace E2 := E2.below hbn E2.lt
      replace E3 := E3.below hbn E3.lt
      replace E4 := E4.below hbn E4.lt
      replace HB := below_next HB hbn
      clear hbn
      obtain ⟨c1a, c1b, c1c⟩ := E1.cells
      obtain ⟨c2a, c2b, c2c⟩ := E2.cells
      obtain ⟨c3a, c3b, c3c⟩ := E3.cells
      obtain ⟨c4a, c4b, c4c⟩ := E4.cells
      clear c1a c1b c1c c2a c2b c2c c3a c3b c3c c4a c4b c4c
      replace E1 := E1.alloc (.cells #[.int .i64 ((nq2 : Int)), .int .i64 ((nc2 : Int)), .string (t2)] 24)
      replace E2 := E2.alloc (.cells #[.int .i64 ((nq2 : Int)), .int .i64 ((nc2 : Int)), .string (t2)] 24)
      replace E3 := E3.alloc (.cells #[.int .i64 ((nq2 : Int)), .int .i64 ((nc2 : Int)), .string (t2)] 24)
      replace E4 := E4.alloc (.cells #[.int .i64 ((nq2 : Int)), .int .i64 ((nc2 : Int)), .string (t2)] 24)
      have E5 := EdAt.new w5 ((nq2 : Int)) ((nc2 : Int)) (t2)
      replace HB := HB.alloc HB.size (.cells #[.int .i64 ((nq2 : Int)), .int .i64 ((nc2 : Int)), .string (t2)] 24)
      obtain ⟨c1a, c1b, c1c⟩ := E1.cells
      obtain ⟨c2a, c2b, c2c⟩ := E2.cells
      obtain ⟨c3a, c3b, c3c⟩ := E3.cells
      obtain ⟨c4a, c4b, c4c⟩ := E4.cells
      obtain ⟨c5a, c5b, c5c⟩ := E5.cells
      go_wp2_with fail
      clear c1a c1b c1c c2a c2b c2c c3a c3b c3c c4a c4b c4c c5a c5b c5c
      generalize (w5.alloc (.cells #[.int .i64 ((nq2 : Int)), .int .i64 ((nc2 : Int)), .string (t2)] 24)) = v5 at E1 E2 E3 E4 E5 HB ⊢
      generalize w5.heap.size = G5 at E5 ⊢
      obtain ⟨c1a, c1b, c1c⟩ := E1.cells
      obtain ⟨c2a, c2b, c2c⟩ := E2.cells
      obtain ⟨c3a, c3b, c3c⟩ := E3.cells
      obtain ⟨c4a, c4b, c4c⟩ := E4.cells
      obtain ⟨c5a, c5b, c5c⟩ := E5.cells
      have EA := Lib.hid E1
      have EB := Lib.hid E2
      have EO := Lib.hid E3
      have EP := Lib.hid E5
      have HBx := Lib.hid HB
      clear E1 E2 E3 E4 E5 HB
      clear c1a c1b c1c c2a c2b c2c c3a c3b c3c c4a c4b c4c c5a c5b c5c
      go_loop [12, 13] (fun v i => ∃ (k : Nat) (S : ByteArray), k ≤ m ∧ i = .int .i64 k ∧ v = .string S ∧ S.size = k ∧ Hid (∀ b ∈ S.data.toList, okB b.toNat = true)) (fun _ i => m - (intOf i).toNat)
      case atStart => exact ⟨0, ⟨#[]⟩, by omega, rfl, rfl, rfl, fun b hb => by simp at hb⟩
      case round =>
        obtain ⟨k, S, hk, rfl, rfl, hSk, hok⟩ := hrel
        by_cases hlt : k < m
        · obtain ⟨r, hr⟩ : ∃ r, k % 26 = r := ⟨_, rfl⟩
          have hr26 : r < 26 := by omega
          obtain ⟨r1, hr1⟩ : ∃ r1, r + 1 = r1 := ⟨_, rfl⟩
          have t1 : (k : Int) % 26 = (r : Int) := by omega
          have u1 : IntKind.i64.wrap ((r : Int) + 1) = (r1 : Int) := by rw [show ((r : Int) + 1) = (r1 : Int) from by omega]; exact IntWalk.i64_in _ (by omega)
          have b1 : (r : Int) ≤ (r1 : Int) := by omega
          have b2 : (r1 : Int) ≤ 26 := by omega
          have n1 : r ≤ r1 := by omega
          have n2 : r1 ≤ 26 := by omega
          have z1 := ext_sz (s := ⟨#[97, 98, 99, 100, 101, 102, 103, 104, 105, 106, 107, 108, 109, 110, 111, 112, 113, 114, 115, 116, 117, 118, 119, 120, 121, 122]⟩) (a := r) (b := r1) (by rw [abc_size]; exact n2)
          have z2 := size_app S ((⟨#[97, 98, 99, 100, 101, 102, 103, 104, 105, 106, 107, 108, 109, 110, 111, 112, 113, 114, 115, 116, 117, 118, 119, 120, 121, 122]⟩ : ByteArray).extract r r1)
          have HZ2 : Hid ((S ++ (⟨#[97, 98, 99, 100, 101, 102, 103, 104, 105, 106, 107, 108, 109, 110, 111, 112, 113, 114, 115, 116, 117, 118, 119, 120, 121, 122]⟩ : ByteArray).extract r r1).size = k + 1) := by show _ = _; omega
          have HZl : Hid (((⟨#[97, 98, 99, 100, 101, 102, 103, 104, 105, 106, 107, 108, 109, 110, 111, 112, 113, 114, 115, 116, 117, 118, 119, 120, 121, 122]⟩ : ByteArray).extract r r1).size ≤ 26) := by show _ ≤ _; omega
          have HOK : Hid (∀ b ∈ (S ++ (⟨#[97, 98, 99, 100, 101, 102, 103, 104, 105, 106, 107, 108, 109, 110, 111, 112, 113, 114, 115, 116, 117, 118, 119, 120, 121, 122]⟩ : ByteArray).extract r r1).data.toList, okB b.toNat = true) := fun b hb => by
            rw [ByteArray.data_append, Array.toList_append] at hb
            rcases List.mem_append.1 hb with hb | hb
            · exact hok.out b hb
            · rw [extract_list] at hb
              exact abc_ok b (List.mem_of_mem_drop (List.mem_of_mem_take hb))
          have rr := fun (wx : World) => run_string_add_sum (P := Try.prog) wx S ((⟨#[97, 98, 99, 100, 101, 102, 103, 104, 105, 106, 107, 108, 109, 110, 111, 112, 113, 114, 115, 116, 117, 118, 119, 120, 121, 122]⟩ : ByteArray).extract r r1) (by omega)
          clear z1 z2 hr hr1 hok
          go_wp2
          go_round
          case rel => exact ⟨k + 1, _, by omega, by go_num, rfl, HZ2.out, HOK⟩
          case measure => simp [intOf]; omega
        · obtain rfl : k = m := by omega
          have hv : ValidT S.data.toList := ⟨by rw [size_data]; omega, hok.out⟩
          have hbo := HBO.out S hSk
          have hc1 := HC1.out
          have hc2 := HC2.out
          rw [← hSk] at hc1 hc2
          have y1 := ed_valid hv hc1
          have y2 := ed_valid hv hc2
          obtain ⟨X1, hX1⟩ : ∃ X, edS S np2 nc2 t2 = X := ⟨_, rfl⟩
          obtain ⟨Y1, hY1⟩ : ∃ Y, edS S np nc t = Y := ⟨_, rfl⟩
          rw [hX1] at y2
          rw [hY1] at y1
          have HX1 := Lib.hid hX1
          have HY1 := Lib.hid hY1
          have HV := Lib.hid hv
          have HK1 := Lib.hid hc1
          have HK2 := Lib.hid hc2
          have HVX := Lib.hid y2.1
          have HVY := Lib.hid y1.1
          have hx60 := y2.2.2
          have hy60 := y1.2.2
          have hcan := hbo.can
          have hsame := hbo.same
          rw [hX1, hY1] at hcan hsame
          have HSK := Lib.hid hSk
          have E1 := EA.out
          have E2 := EB.out
          have E3 := EO.out
          have E4 := EP.out
          have HB := HBx.out
          clear hv hc1 hc2 y1 y2 hX1 hY1 hbo hok hSk hlt hk
          by_cases h2 : CanE (nq : Int) (nc : Int) t X1.size
          · have h4 := hcan.1 h2
            obtain ⟨Xs, hXs⟩ : ∃ X, edS X1 nq nc t = X := ⟨_, rfl⟩
            rw [hXs] at hsame
            have HXs := Lib.hid hXs
            have HYs := Lib.hid hsame.symm
            have H2 := Lib.hid h2
            have H4 := Lib.hid h4
            clear hcan h2 h4 hsame hXs
            obtain ⟨c1a, c1b, c1c⟩ := E1.cells
            obtain ⟨c2a, c2b, c2c⟩ := E2.cells
            obtain ⟨c3a, c3b, c3c⟩ := E3.cells
            obtain ⟨c4a, c4b, c4c⟩ := E4.cells
            go_wp2_with fail
            refine (i_ApplyEdit_at S t2 X1 np2 nc2 _ (by have := HSK.out; omega) (by omega) HV.out HK2.out HX1.out).mono ?_
            rintro e w6 ⟨rfl, hbn⟩
            clear c1a c1b c1c c2a c2b c2c c3a c3b c3c c4a c4b c4c
            replace E1 := E1.below hbn E1.lt
            replace E2 := E2.below hbn E2.lt
            replace E3 := E3.below hbn E3.lt
            replace E4 := E4.below hbn E4.lt
            replace HB := below_next HB hbn
            clear hbn
            obtain ⟨c1a, c1b, c1c⟩ := E1.cells
            obtain ⟨c2a, c2b, c2c⟩ := E2.cells
            obtain ⟨c3a, c3b, c3c⟩ := E3.cells
            obtain ⟨c4a, c4b, c4c⟩ := E4.cells
            go_wp2_with fail
            refine (i_ApplyEdit_at X1 t Xs nq nc _ (by omega) (by omega) HVX.out H2.out HXs.out).mono ?_
            rintro e w7 ⟨rfl, hbn⟩
            clear c1a c1b c1c c2a c2b c2c c3a c3b c3c c4a c4b c4c
            replace E1 := E1.below hbn E1.lt
            replace E2 := E2.below hbn E2.lt
            replace E3 := E3.below hbn E3.lt
            replace E4 := E4.below hbn E4.lt
            replace HB := below_next HB hbn
            clear hbn
            obtain ⟨c1a, c1b, c1c⟩ := E1.cells
            obtain ⟨c2a, c2b, c2c⟩ := E2.cells
            obtain ⟨c3a, c3b, c3c⟩ := E3.cells
            obtain ⟨c4a, c4b, c4c⟩ := E4.cells
            go_wp2_with fail
            refine (i_ApplyEdit_at S t Y1 np nc _ (by have := HSK.out; omega) (by omega) HV.out HK1.out HY1.out).mono ?_
            rintro e w8 ⟨rfl, hbn⟩
            clear c1a c1b c1c c2a c2b c2c c3a c3b c3c c4a c4b c4c
            replace E1 := E1.below hbn E1.lt
            replace E2 := E2.below hbn E2.lt
            replace E3 := E3.below hbn E3.lt
            replace E4 := E4.below hbn E4.lt
            replace HB := below_next HB hbn
            clear hbn
            obtain ⟨c1a, c1b, c1c⟩ := E1.cells
            obtain ⟨c2a, c2b, c2c⟩ := E2.cells
            obtain ⟨c3a, c3b, c3c⟩ := E3.cells
            obtain ⟨c4a, c4b, c4c⟩ := E4.cells
            go_wp2_with fail
            refine (i_ApplyEdit_at Y1 t2 Xs nq2 nc2 _ (by omega) (by omega) HVY.out H4.out HYs.out).mono ?_
            rintro e w9 ⟨rfl, hbn⟩
            clear c1a c1b c1c c2a c2b c2c c3a c3b c3c c4a c4b c4c
            replace E1 := E1.below hbn E1.lt
            replace E2 := E2.below hbn E2.lt
            replace E3 := E3.below hbn E3.lt
            replace E4 := E4.below hbn E4.lt
            replace HB := below_next HB hbn
            clear hbn
            obtain ⟨c1a, c1b, c1c⟩ := E1.cells
            obtain ⟨c2a, c2b, c2c⟩ := E2.cells
            obtain ⟨c3a, c3b, c3c⟩ := E3.cells
            obtain ⟨c4a, c4b, c4c⟩ := E4.cells
            go_wp2
            go_ret
            exact ⟨rfl, HB⟩
          · have h4 : ¬ CanE (nq2 : Int) (nc2 : Int) t2 Y1.size := fun h => h2 (hcan.2 h)
            have H2 : Hid (¬ (ValidT X1.data.toList ∧ CanE (nq : Int) (nc : Int) t X1.size)) := fun h => h2 h.2
            have H4 : Hid (¬ (ValidT Y1.data.toList ∧ CanE (nq2 : Int) (nc2 : Int) t2 Y1.size)) := fun h => h4 h.2
            clear hcan h2 h4 hsame
            obtain ⟨c1a, c1b, c1c⟩ := E1.cells
            obtain ⟨c2a, c2b, c2c⟩ := E2.cells
            obtain ⟨c3a, c3b, c3c⟩ := E3.cells
            obtain ⟨c4a, c4b, c4c⟩ := E4.cells
            go_wp2_with fail
            refine (i_ApplyEdit_at S t2 X1 np2 nc2 _ (by have := HSK.out; omega) (by omega) HV.out HK2.out HX1.out).mono ?_
            rintro e w6 ⟨rfl, hbn⟩
            clear c1a c1b c1c c2a c2b c2c c3a c3b c3c c4a c4b c4c
            replace E1 := E1.below hbn E1.lt
            replace E2 := E2.below hbn E2.lt
            replace E3 := E3.below hbn E3.lt
            replace E4 := E4.below hbn E4.lt
            replace HB := below_next HB hbn
            clear hbn
            obtain ⟨c1a, c1b, c1c⟩ := E1.cells
            obtain ⟨c2a, c2b, c2c⟩ := E2.cells
            obtain ⟨c3a, c3b, c3c⟩ := E3.cells
            obtain ⟨c4a, c4b, c4c⟩ := E4.cells
            go_wp2_with fail
            refine (i_ApplyEdit_no X1 t _ _ _ (by omega) (by omega) H2.out).mono ?_
            rintro e w7 ⟨rfl, hbn⟩
            clear c1a c1b c1c c2a c2b c2c c3a c3b c3c c4a c4b c4c
            replace E1 := E1.below hbn E1.lt
            replace E2 := E2.below hbn E2.lt
            replace E3 := E3.below hbn E3.lt
            replace E4 := E4.below hbn E4.lt
            replace HB := below_next HB hbn
            clear hbn
            obtain ⟨c1a, c1b, c1c⟩ := E1.cells
            obtain ⟨c2a, c2b, c2c⟩ := E2.cells
            obtain ⟨c3a, c3b, c3c⟩ := E3.cells
            obtain ⟨c4a, c4b, c4c⟩ := E4.cells
            go_wp2_with fail
            refine (i_ApplyEdit_at S t Y1 np nc _ (by have := HSK.out; omega) (by omega) HV.out HK1.out HY1.out).mono ?_
            rintro e w8 ⟨rfl, hbn⟩
            clear c1a c1b c1c c2a c2b c2c c3a c3b c3c c4a c4b c4c
            replace E1 := E1.below hbn E1.lt
            replace E2 := E2.below hbn E2.lt
            replace E3 := E3.below hbn E3.lt
            replace E4 := E4.below hbn E4.lt
            replace HB := below_next HB hbn
            clear hbn
            obtain ⟨c1a, c1b, c1c⟩ := E1.cells
            obtain ⟨c2a, c2b, c2c⟩ := E2.cells
            obtain ⟨c3a, c3b, c3c⟩ := E3.cells
            obtain ⟨c4a, c4b, c4c⟩ := E4.cells
            go_wp2_with fail
            refine (i_ApplyEdit_no Y1 t2 _ _ _ (by omega) (by omega) H4.out).mono ?_
            rintro e w9 ⟨rfl, hbn⟩
            clear c1a c1b c1c c2a c2b c2c c3a c3b c3c c4a c4b c4c
            replace E1 := E1.below hbn E1.lt
            replace E2 := E2.below hbn E2.lt
            replace E3 := E3.below hbn E3.lt
            replace E4 := E4.below hbn E4.lt
            replace HB := below_next HB hbn
            clear hbn
            obtain ⟨c1a, c1b, c1c⟩ := E1.cells
            obtain ⟨c2a, c2b, c2c⟩ := E2.cells
            obtain ⟨c3a, c3b, c3c⟩ := E3.cells
            obtain ⟨c4a, c4b, c4c⟩ := E4.cells
            go_wp2
            go_ret
            exact ⟨rfl, HB⟩
    | none =>
      have HS := Lib.hid hs
      clear hs
      have E1 := (EdAt.new w1 (x) (c) (t)).alloc (.cells #[.int .i64 (x2), .int .i64 (c2), .string (t2)] 24)
      have E2 := EdAt.new (w1.alloc (.cells #[.int .i64 (x), .int .i64 (c), .string (t)] 24)) (x2) (c2) (t2)
      rw [World.size_alloc] at E2
      replace HB : Below w.heap.size w ((w1.alloc (.cells #[.int .i64 (x), .int .i64 (c), .string (t)] 24)).alloc (.cells #[.int .i64 (x2), .int .i64 (c2), .string (t2)] 24)) := (HB.alloc HB.size _).alloc (by rw [World.size_alloc]; have := HB.size; omega) _
      go_wp2_with fail
      generalize ((w1.alloc (.cells #[.int .i64 (x), .int .i64 (c), .string (t)] 24)).alloc (.cells #[.int .i64 (x2), .int .i64 (c2), .string (t2)] 24)) = v1 at E1 E2 HB ⊢
      generalize w1.heap.size = G1 at E1 E2 ⊢
      obtain ⟨c1a, c1b, c1c⟩ := E1.cells
      obtain ⟨c2a, c2b, c2c⟩ := E2.cells
      refine (i_ShiftEdit_none x c t x2 c2 t2 many _ (by omega) (by omega) HS.out).mono ?_
      rintro e w2 ⟨rfl, hbn⟩
      clear c1a c1b c1c c2a c2b c2c
      replace E1 := E1.below hbn E1.lt
      replace E2 := E2.below hbn E2.lt
      replace HB := below_next HB hbn
      clear hbn
      obtain ⟨c1a, c1b, c1c⟩ := E1.cells
      obtain ⟨c2a, c2b, c2c⟩ := E2.cells
      clear c1a c1b c1c c2a c2b c2c
      replace E1 := E1.alloc (.cells #[.int .i64 (0), .int .i64 (0), .string (⟨#[]⟩)] 24)
      replace E2 := E2.alloc (.cells #[.int .i64 (0), .int .i64 (0), .string (⟨#[]⟩)] 24)
      have E3 := EdAt.new w2 (0) (0) (⟨#[]⟩)
      replace HB := HB.alloc HB.size (.cells #[.int .i64 (0), .int .i64 (0), .string (⟨#[]⟩)] 24)
      obtain ⟨c1a, c1b, c1c⟩ := E1.cells
      obtain ⟨c2a, c2b, c2c⟩ := E2.cells
      obtain ⟨c3a, c3b, c3c⟩ := E3.cells
      go_wp2_with fail
      clear c1a c1b c1c c2a c2b c2c c3a c3b c3c
      generalize (w2.alloc (.cells #[.int .i64 (0), .int .i64 (0), .string (⟨#[]⟩)] 24)) = v2 at E1 E2 E3 HB ⊢
      generalize w2.heap.size = G3 at E3 ⊢
      obtain ⟨c1a, c1b, c1c⟩ := E1.cells
      obtain ⟨c2a, c2b, c2c⟩ := E2.cells
      obtain ⟨c3a, c3b, c3c⟩ := E3.cells
      refine (s_ShiftEdit_none x c t x2 c2 t2 many _ (by omega) (by omega) HS.out).mono ?_
      rintro e w3 ⟨rfl, hbn⟩
      clear c1a c1b c1c c2a c2b c2c c3a c3b c3c
      replace E1 := E1.below hbn E1.lt
      replace E2 := E2.below hbn E2.lt
      replace E3 := E3.below hbn E3.lt
      replace HB := below_next HB hbn
      clear hbn
      obtain ⟨c1a, c1b, c1c⟩ := E1.cells
      obtain ⟨c2a, c2b, c2c⟩ := E2.cells
      obtain ⟨c3a, c3b, c3c⟩ := E3.cells
      clear c1a c1b c1c c2a c2b c2c c3a c3b c3c
      replace E1 := E1.alloc (.cells #[.int .i64 (0), .int .i64 (0), .string (⟨#[]⟩)] 24)
      replace E2 := E2.alloc (.cells #[.int .i64 (0), .int .i64 (0), .string (⟨#[]⟩)] 24)
      replace E3 := E3.alloc (.cells #[.int .i64 (0), .int .i64 (0), .string (⟨#[]⟩)] 24)
      have E4 := EdAt.new w3 (0) (0) (⟨#[]⟩)
      replace HB := HB.alloc HB.size (.cells #[.int .i64 (0), .int .i64 (0), .string (⟨#[]⟩)] 24)
      obtain ⟨c1a, c1b, c1c⟩ := E1.cells
      obtain ⟨c2a, c2b, c2c⟩ := E2.cells
      obtain ⟨c3a, c3b, c3c⟩ := E3.cells
      obtain ⟨c4a, c4b, c4c⟩ := E4.cells
      go_wp2_with fail
      clear c1a c1b c1c c2a c2b c2c c3a c3b c3c c4a c4b c4c
      generalize (w3.alloc (.cells #[.int .i64 (0), .int .i64 (0), .string (⟨#[]⟩)] 24)) = v3 at E1 E2 E3 E4 HB ⊢
      generalize w3.heap.size = G4 at E4 ⊢
      obtain ⟨c1a, c1b, c1c⟩ := E1.cells
      obtain ⟨c2a, c2b, c2c⟩ := E2.cells
      obtain ⟨c3a, c3b, c3c⟩ := E3.cells
      obtain ⟨c4a, c4b, c4c⟩ := E4.cells
      refine (equalEdit_same _ _ _ _).mono ?_
      rintro e w4 ⟨rfl, hbn⟩
      clear c1a c1b c1c c2a c2b c2c c3a c3b c3c c4a c4b c4c
      replace E1 := E1.below hbn E1.lt
      replace E2 := E2.below hbn E2.lt
      replace E3 := E3.below hbn E3.lt
      replace E4 := E4.below hbn E4.lt
      replace HB := below_next HB hbn
      clear hbn
      obtain ⟨c1a, c1b, c1c⟩ := E1.cells
      obtain ⟨c2a, c2b, c2c⟩ := E2.cells
      obtain ⟨c3a, c3b, c3c⟩ := E3.cells
      obtain ⟨c4a, c4b, c4c⟩ := E4.cells
      go_wp2_with fail
      refine (equalEdit_same _ _ _ _).mono ?_
      rintro e w5 ⟨rfl, hbn⟩
      clear c1a c1b c1c c2a c2b c2c c3a c3b c3c c4a c4b c4c
      replace E1 := E1.below hbn E1.lt
      replace E2 := E2.below hbn E2.lt
      replace E3 := E3.below hbn E3.lt
      replace E4 := E4.below hbn E4.lt
      replace HB := below_next HB hbn
      clear hbn
      obtain ⟨c1a, c1b, c1c⟩ := E1.cells
      obtain ⟨c2a, c2b, c2c⟩ := E2.cells
      obtain ⟨c3a, c3b, c3c⟩ := E3.cells
      obtain ⟨c4a, c4b, c4c⟩ := E4.cells
      go_wp2
      go_ret
      exact ⟨rfl, HB⟩
  · have d : decide (len ≤ 1048576) = false := decide_eq_false hbig
    have hl : (1048576 : Int) < len := by omega
    clear h
    go_enter Try.func8, Try.ntmps8
    go_wp2
    go_ret
    exact ⟨rfl, Below.refl _ _⟩
end Go.Proofs.Ythlamidlcbnchaa
