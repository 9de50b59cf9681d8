
/- P159: the first one of two edits stays. -/
import Derived.Test.YthlamidlcbnchaaEdl
import Derived.Test.YthlamidlcbnchaaEdi
import Derived.Test.YthlamidlcbnchaaEdc
namespace Go.Proofs.Ythlamidlcbnchaa
open Go.RowKit

/-- two edits that can be shifted can be shifted the other way round, and one of them stays -/
theorem shP_other {p c : Int} {t : ByteArray} {p2 c2 : Int} {t2 : ByteArray} {many q : Int} (h : shP p c t p2 c2 t2 many = some q) : ∃ q2, shP p2 c2 t2 p c t many = some q2 ∧ (q = p ∨ q2 = p2) := by
  unfold shP at h
  by_cases h1 : CanE p c t many ∧ CanE p2 c2 t2 many
  · rw [if_pos h1] at h
    have h1' : CanE p2 c2 t2 many ∧ CanE p c t many := ⟨h1.2, h1.1⟩
    unfold shP
    rw [if_pos h1']
    by_cases h2 : Bef p c p2
    · rw [if_pos h2] at h
      injection h with h
      have h3 : ¬ Bef p2 c2 p := by
        have a1 := h1.1.2.2.1
        have a2 := h1.2.2.2.1
        unfold Bef at h2 ⊢
        omega
      rw [if_neg h3, if_pos h2]
      exact ⟨_, rfl, .inl h.symm⟩
    · rw [if_neg h2] at h
      by_cases h3 : Bef p2 c2 p
      · rw [if_pos h3]
        exact ⟨_, rfl, .inr rfl⟩
      · rw [if_neg h3] at h; cases h
  · rw [if_neg h1] at h; cases h
set_option maxHeartbeats 4000000 in
theorem shiftEditFirst_walk (a : Option Addr) (len cap : Nat) (zs : List Int) (w : World) (h : RowIn .u8 w a len cap zs) :
    Calls Try.prog 9 #[.slice a len cap] w fun e w' => e = .returned (.bool true) ∧ Below w.heap.size w w' := by
  have hlen : len ≤ 9223372036854775807 := by
    obtain ⟨_, h2, h3⟩ := bytesAt_of_row h; unfold maxLen at h3; omega
  by_cases hbig : len ≤ 1048576
  · go_enter Try.func9, Try.ntmps9
    go_wp2_with fail
    refine (drawShiftEdit_any w a len cap zs h).mono ?_
    rintro e w1 ⟨x, c, t, x2, c2, t2, many, rfl, ht, ht2, hm0, hm1, HB⟩
    clear h
    cases hs : shP x c t x2 c2 t2 many with
    | some q =>
      obtain ⟨q2, hs2, hor⟩ := shP_other hs
      have HS := Lib.hid hs
      have HS2 := Lib.hid hs2
      clear hs hs2
      have E1 := (EdAt.new w1 (x) (c) (t)).alloc (.cells #[.int .i64 (x2), .int .i64 (c2), .string (t2)] 24)
      have E2 := EdAt.new (w1.alloc (.cells #[.int .i64 (x), .int .i64 (c), .string (t)] 24)) (x2) (c2) (t2)
      rw [World.size_alloc] at E2
      replace HB : Below w.heap.size w ((w1.alloc (.cells #[.int .i64 (x), .int .i64 (c), .string (t)] 24)).alloc (.cells #[.int .i64 (x2), .int .i64 (c2), .string (t2)] 24)) := (HB.alloc HB.size _).alloc (by rw [World.size_alloc]; have := HB.size; omega) _
      go_wp2_with fail
      generalize ((w1.alloc (.cells #[.int .i64 (x), .int .i64 (c), .string (t)] 24)).alloc (.cells #[.int .i64 (x2), .int .i64 (c2), .string (t2)] 24)) = v1 at E1 E2 HB ⊢
      generalize w1.heap.size = G1 at E1 E2 ⊢
      obtain ⟨c1a, c1b, c1c⟩ := E1.cells
      obtain ⟨c2a, c2b, c2c⟩ := E2.cells
      refine (i_ShiftEdit_some x c t x2 c2 t2 many q _ (by omega) (by omega) HS.out).mono ?_
      rintro e w2 ⟨rfl, hbn⟩
      clear c1a c1b c1c c2a c2b c2c
      replace E1 := E1.below hbn E1.lt
      replace E2 := E2.below hbn E2.lt
      replace HB := below_next HB hbn
      clear hbn
      obtain ⟨c1a, c1b, c1c⟩ := E1.cells
      obtain ⟨c2a, c2b, c2c⟩ := E2.cells
      clear c1a c1b c1c c2a c2b c2c
      replace E1 := E1.alloc (.cells #[.int .i64 (q), .int .i64 (c), .string (t)] 24)
      replace E2 := E2.alloc (.cells #[.int .i64 (q), .int .i64 (c), .string (t)] 24)
      have E3 := EdAt.new w2 (q) (c) (t)
      replace HB := HB.alloc HB.size (.cells #[.int .i64 (q), .int .i64 (c), .string (t)] 24)
      obtain ⟨c1a, c1b, c1c⟩ := E1.cells
      obtain ⟨c2a, c2b, c2c⟩ := E2.cells
      obtain ⟨c3a, c3b, c3c⟩ := E3.cells
      go_wp2_with fail
      clear c1a c1b c1c c2a c2b c2c c3a c3b c3c
      generalize (w2.alloc (.cells #[.int .i64 (q), .int .i64 (c), .string (t)] 24)) = v2 at E1 E2 E3 HB ⊢
      generalize w2.heap.size = G3 at E3 ⊢
      obtain ⟨c1a, c1b, c1c⟩ := E1.cells
      obtain ⟨c2a, c2b, c2c⟩ := E2.cells
      obtain ⟨c3a, c3b, c3c⟩ := E3.cells
      refine (s_ShiftEdit_some x c t x2 c2 t2 many q _ (by omega) (by omega) HS.out).mono ?_
      rintro e w3 ⟨rfl, hbn⟩
      clear c1a c1b c1c c2a c2b c2c c3a c3b c3c
      replace E1 := E1.below hbn E1.lt
      replace E2 := E2.below hbn E2.lt
      replace E3 := E3.below hbn E3.lt
      replace HB := below_next HB hbn
      clear hbn
      obtain ⟨c1a, c1b, c1c⟩ := E1.cells
      obtain ⟨c2a, c2b, c2c⟩ := E2.cells
      obtain ⟨c3a, c3b, c3c⟩ := E3.cells
      clear c1a c1b c1c c2a c2b c2c c3a c3b c3c
      replace E1 := E1.alloc (.cells #[.int .i64 (q), .int .i64 (c), .string (t)] 24)
      replace E2 := E2.alloc (.cells #[.int .i64 (q), .int .i64 (c), .string (t)] 24)
      replace E3 := E3.alloc (.cells #[.int .i64 (q), .int .i64 (c), .string (t)] 24)
      have E4 := EdAt.new w3 (q) (c) (t)
      replace HB := HB.alloc HB.size (.cells #[.int .i64 (q), .int .i64 (c), .string (t)] 24)
      obtain ⟨c1a, c1b, c1c⟩ := E1.cells
      obtain ⟨c2a, c2b, c2c⟩ := E2.cells
      obtain ⟨c3a, c3b, c3c⟩ := E3.cells
      obtain ⟨c4a, c4b, c4c⟩ := E4.cells
      go_wp2_with fail
      clear c1a c1b c1c c2a c2b c2c c3a c3b c3c c4a c4b c4c
      generalize (w3.alloc (.cells #[.int .i64 (q), .int .i64 (c), .string (t)] 24)) = v3 at E1 E2 E3 E4 HB ⊢
      generalize w3.heap.size = G4 at E4 ⊢
      obtain ⟨c1a, c1b, c1c⟩ := E1.cells
      obtain ⟨c2a, c2b, c2c⟩ := E2.cells
      obtain ⟨c3a, c3b, c3c⟩ := E3.cells
      obtain ⟨c4a, c4b, c4c⟩ := E4.cells
      refine (equalEdit_same _ _ _ _).mono ?_
      rintro e w4 ⟨rfl, hbn⟩
      clear c1a c1b c1c c2a c2b c2c c3a c3b c3c c4a c4b c4c
      replace E1 := E1.below hbn E1.lt
      replace E2 := E2.below hbn E2.lt
      replace E3 := E3.below hbn E3.lt
      replace E4 := E4.below hbn E4.lt
      replace HB := below_next HB hbn
      clear hbn
      obtain ⟨c1a, c1b, c1c⟩ := E1.cells
      obtain ⟨c2a, c2b, c2c⟩ := E2.cells
      obtain ⟨c3a, c3b, c3c⟩ := E3.cells
      obtain ⟨c4a, c4b, c4c⟩ := E4.cells
      go_wp2_with fail
      refine (i_ShiftEdit_some x2 c2 t2 x c t many q2 _ (by omega) (by omega) HS2.out).mono ?_
      rintro e w5 ⟨rfl, hbn⟩
      clear c1a c1b c1c c2a c2b c2c c3a c3b c3c c4a c4b c4c
      replace E1 := E1.below hbn E1.lt
      replace E2 := E2.below hbn E2.lt
      replace E3 := E3.below hbn E3.lt
      replace E4 := E4.below hbn E4.lt
      replace HB := below_next HB hbn
      clear hbn
      obtain ⟨c1a, c1b, c1c⟩ := E1.cells
      obtain ⟨c2a, c2b, c2c⟩ := E2.cells
      obtain ⟨c3a, c3b, c3c⟩ := E3.cells
      obtain ⟨c4a, c4b, c4c⟩ := E4.cells
      clear c1a c1b c1c c2a c2b c2c c3a c3b c3c c4a c4b c4c
      replace E1 := E1.alloc (.cells #[.int .i64 (q2), .int .i64 (c2), .string (t2)] 24)
      replace E2 := E2.alloc (.cells #[.int .i64 (q2), .int .i64 (c2), .string (t2)] 24)
      replace E3 := E3.alloc (.cells #[.int .i64 (q2), .int .i64 (c2), .string (t2)] 24)
      replace E4 := E4.alloc (.cells #[.int .i64 (q2), .int .i64 (c2), .string (t2)] 24)
      have E5 := EdAt.new w5 (q2) (c2) (t2)
      replace HB := HB.alloc HB.size (.cells #[.int .i64 (q2), .int .i64 (c2), .string (t2)] 24)
      obtain ⟨c1a, c1b, c1c⟩ := E1.cells
      obtain ⟨c2a, c2b, c2c⟩ := E2.cells
      obtain ⟨c3a, c3b, c3c⟩ := E3.cells
      obtain ⟨c4a, c4b, c4c⟩ := E4.cells
      obtain ⟨c5a, c5b, c5c⟩ := E5.cells
      by_cases hq : q = x
      · subst hq
        go_wp2
        go_ret
        exact ⟨rfl, HB⟩
      · have hq2 : q2 = x2 := hor.resolve_left hq
        subst hq2
        have dq : (q == x) = false := by simpa using hq
        clear hor
        go_wp2
        go_ret
        exact ⟨rfl, HB⟩
    | none =>
      have HS := Lib.hid hs
      clear hs
      have E1 := (EdAt.new w1 (x) (c) (t)).alloc (.cells #[.int .i64 (x2), .int .i64 (c2), .string (t2)] 24)
      have E2 := EdAt.new (w1.alloc (.cells #[.int .i64 (x), .int .i64 (c), .string (t)] 24)) (x2) (c2) (t2)
      rw [World.size_alloc] at E2
      replace HB : Below w.heap.size w ((w1.alloc (.cells #[.int .i64 (x), .int .i64 (c), .string (t)] 24)).alloc (.cells #[.int .i64 (x2), .int .i64 (c2), .string (t2)] 24)) := (HB.alloc HB.size _).alloc (by rw [World.size_alloc]; have := HB.size; omega) _
      go_wp2_with fail
      generalize ((w1.alloc (.cells #[.int .i64 (x), .int .i64 (c), .string (t)] 24)).alloc (.cells #[.int .i64 (x2), .int .i64 (c2), .string (t2)] 24)) = v1 at E1 E2 HB ⊢
      generalize w1.heap.size = G1 at E1 E2 ⊢
      obtain ⟨c1a, c1b, c1c⟩ := E1.cells
      obtain ⟨c2a, c2b, c2c⟩ := E2.cells
      refine (i_ShiftEdit_none x c t x2 c2 t2 many _ (by omega) (by omega) HS.out).mono ?_
      rintro e w2 ⟨rfl, hbn⟩
      clear c1a c1b c1c c2a c2b c2c
      replace E1 := E1.below hbn E1.lt
      replace E2 := E2.below hbn E2.lt
      replace HB := below_next HB hbn
      clear hbn
      obtain ⟨c1a, c1b, c1c⟩ := E1.cells
      obtain ⟨c2a, c2b, c2c⟩ := E2.cells
      clear c1a c1b c1c c2a c2b c2c
      replace E1 := E1.alloc (.cells #[.int .i64 (0), .int .i64 (0), .string (⟨#[]⟩)] 24)
      replace E2 := E2.alloc (.cells #[.int .i64 (0), .int .i64 (0), .string (⟨#[]⟩)] 24)
      have E3 := EdAt.new w2 (0) (0) (⟨#[]⟩)
      replace HB := HB.alloc HB.size (.cells #[.int .i64 (0), .int .i64 (0), .string (⟨#[]⟩)] 24)
      obtain ⟨c1a, c1b, c1c⟩ := E1.cells
      obtain ⟨c2a, c2b, c2c⟩ := E2.cells
      obtain ⟨c3a, c3b, c3c⟩ := E3.cells
      go_wp2_with fail
      clear c1a c1b c1c c2a c2b c2c c3a c3b c3c
      generalize (w2.alloc (.cells #[.int .i64 (0), .int .i64 (0), .string (⟨#[]⟩)] 24)) = v2 at E1 E2 E3 HB ⊢
      generalize w2.heap.size = G3 at E3 ⊢
      obtain ⟨c1a, c1b, c1c⟩ := E1.cells
      obtain ⟨c2a, c2b, c2c⟩ := E2.cells
      obtain ⟨c3a, c3b, c3c⟩ := E3.cells
      refine (s_ShiftEdit_none x c t x2 c2 t2 many _ (by omega) (by omega) HS.out).mono ?_
      rintro e w3 ⟨rfl, hbn⟩
      clear c1a c1b c1c c2a c2b c2c c3a c3b c3c
      replace E1 := E1.below hbn E1.lt
      replace E2 := E2.below hbn E2.lt
      replace E3 := E3.below hbn E3.lt
      replace HB := below_next HB hbn
      clear hbn
      obtain ⟨c1a, c1b, c1c⟩ := E1.cells
      obtain ⟨c2a, c2b, c2c⟩ := E2.cells
      obtain ⟨c3a, c3b, c3c⟩ := E3.cells
      clear c1a c1b c1c c2a c2b c2c c3a c3b c3c
      replace E1 := E1.alloc (.cells #[.int .i64 (0), .int .i64 (0), .string (⟨#[]⟩)] 24)
      replace E2 := E2.alloc (.cells #[.int .i64 (0), .int .i64 (0), .string (⟨#[]⟩)] 24)
      replace E3 := E3.alloc (.cells #[.int .i64 (0), .int .i64 (0), .string (⟨#[]⟩)] 24)
      have E4 := EdAt.new w3 (0) (0) (⟨#[]⟩)
      replace HB := HB.alloc HB.size (.cells #[.int .i64 (0), .int .i64 (0), .string (⟨#[]⟩)] 24)
      obtain ⟨c1a, c1b, c1c⟩ := E1.cells
      obtain ⟨c2a, c2b, c2c⟩ := E2.cells
      obtain ⟨c3a, c3b, c3c⟩ := E3.cells
      obtain ⟨c4a, c4b, c4c⟩ := E4.cells
      go_wp2_with fail
      clear c1a c1b c1c c2a c2b c2c c3a c3b c3c c4a c4b c4c
      generalize (w3.alloc (.cells #[.int .i64 (0), .int .i64 (0), .string (⟨#[]⟩)] 24)) = v3 at E1 E2 E3 E4 HB ⊢
      generalize w3.heap.size = G4 at E4 ⊢
      obtain ⟨c1a, c1b, c1c⟩ := E1.cells
      obtain ⟨c2a, c2b, c2c⟩ := E2.cells
      obtain ⟨c3a, c3b, c3c⟩ := E3.cells
      obtain ⟨c4a, c4b, c4c⟩ := E4.cells
      refine (equalEdit_same _ _ _ _).mono ?_
      rintro e w4 ⟨rfl, hbn⟩
      clear c1a c1b c1c c2a c2b c2c c3a c3b c3c c4a c4b c4c
      replace E1 := E1.below hbn E1.lt
      replace E2 := E2.below hbn E2.lt
      replace E3 := E3.below hbn E3.lt
      replace E4 := E4.below hbn E4.lt
      replace HB := below_next HB hbn
      clear hbn
      obtain ⟨c1a, c1b, c1c⟩ := E1.cells
      obtain ⟨c2a, c2b, c2c⟩ := E2.cells
      obtain ⟨c3a, c3b, c3c⟩ := E3.cells
      obtain ⟨c4a, c4b, c4c⟩ := E4.cells
      go_wp2_with fail
      refine (equalEdit_same _ _ _ _).mono ?_
      rintro e w5 ⟨rfl, hbn⟩
      clear c1a c1b c1c c2a c2b c2c c3a c3b c3c c4a c4b c4c
      replace E1 := E1.below hbn E1.lt
      replace E2 := E2.below hbn E2.lt
      replace E3 := E3.below hbn E3.lt
      replace E4 := E4.below hbn E4.lt
      replace HB := below_next HB hbn
      clear hbn
      obtain ⟨c1a, c1b, c1c⟩ := E1.cells
      obtain ⟨c2a, c2b, c2c⟩ := E2.cells
      obtain ⟨c3a, c3b, c3c⟩ := E3.cells
      obtain ⟨c4a, c4b, c4c⟩ := E4.cells
      go_wp2
      go_ret
      exact ⟨rfl, HB⟩
  · have d : decide (len ≤ 1048576) = false := decide_eq_false hbig
    have hl : (1048576 : Int) < len := by omega
    clear h
    go_enter Try.func9, Try.ntmps9
    go_wp2
    go_ret
    exact ⟨rfl, Below.refl _ _⟩
end Go.Proofs.Ythlamidlcbnchaa
