
/- P154: edits can be taken back. -/
import Derived.Test.YthlamidlcbnchaaEdi
import Derived.Test.YthlamidlcbnchaaEdg
namespace Go.Proofs.Ythlamidlcbnchaa
open Go.RowKit

theorem i_InvertEdit_at (s t X : ByteArray) (q d : Nat) (w : World) (hs : s.size ≤ 1048576) (ht : t.size ≤ 1048576) (hv : ValidT s.data.toList) (hc : CanE (q : Int) (d : Int) t s.size) (hX : s.extract q (q + d) = X) :
    Calls Try.prog 19 #[.string s, edV q d t] w fun e w' => e = .returned (.tuple #[edV q t.size X, .bool true]) ∧ Below w.heap.size w w' := by
  rw [← hX]; exact i_InvertEdit_yes s t q d w hs ht hv hc
theorem s_InvertEdit_at (s t X : ByteArray) (q d : Nat) (w : World) (hs : s.size ≤ 1048576) (ht : t.size ≤ 1048576) (hv : ValidT s.data.toList) (hc : CanE (q : Int) (d : Int) t s.size) (hX : s.extract q (q + d) = X) :
    Calls Try.prog 20 #[.string s, edV q d t] w fun e w' => e = .returned (.tuple #[edV q t.size X, .bool true]) ∧ Below w.heap.size w w' := by
  rw [← hX]; exact s_InvertEdit_yes s t q d w hs ht hv hc
theorem i_InvertEdit_bk (O t X : ByteArray) (q d : Nat) (w : World) (hO : O.size ≤ 60) (hX : X.size ≤ 60) (hXd : X.size = d) (hv : ValidT O.data.toList) (hc : CanE (q : Int) (t.size : Int) X O.size) (ht : O.extract q (q + t.size) = t) :
    Calls Try.prog 19 #[.string O, edV q t.size X] w fun e w' => e = .returned (.tuple #[edV q d t, .bool true]) ∧ Below w.heap.size w w' := by
  have := i_InvertEdit_yes O X q t.size w (by omega) (by omega) hv hc
  rw [ht, hXd] at this
  exact this
set_option maxHeartbeats 4000000 in
theorem invertEdit_walk (a : Option Addr) (len cap : Nat) (zs : List Int) (w : World) (h : RowIn .u8 w a len cap zs) :
    Calls Try.prog 4 #[.slice a len cap] w fun e w' => e = .returned (.bool true) ∧ Below w.heap.size w w' := by
  have hlen : len ≤ 9223372036854775807 := by
    obtain ⟨_, h2, h3⟩ := bytesAt_of_row h; unfold maxLen at h3; omega
  by_cases hbig : len ≤ 1048576
  · go_enter Try.func4, Try.ntmps4
    go_wp2_with fail
    refine (drawInvertEdit_any w a len cap zs h).mono ?_
    rintro e w1 ⟨s, x, c, t, rfl, hs, ht, HB⟩
    clear h
    by_cases hok : ValidT s.data.toList ∧ CanE x c t s.size
    · obtain ⟨hv, hc⟩ := hok
      obtain ⟨m, q, d, e1, e2, e3, e4, e5, e6, e7, e8⟩ := hc.nat
      subst e2 e3
      obtain rfl : s.size = m := by omega
      clear e1
      have htz := e7.size
      have HV := Lib.hid hv
      have HC := Lib.hid hc
      have hcan := ed_can hv hc
      have hback := ed_back (s := s) (t := t) e5
      have hval := ed_valid hv hc
      obtain ⟨X, hX⟩ : ∃ X, s.extract q (q + d) = X := ⟨_, rfl⟩
      obtain ⟨O, hO⟩ : ∃ O, edS s q d t = O := ⟨_, rfl⟩
      rw [hX, hO] at hcan
      rw [hX, hO] at hback
      rw [hO] at hval
      have HX := Lib.hid hX
      have HO := Lib.hid hO
      have HCAN := Lib.hid hcan
      have HBACK := Lib.hid hback
      have HVAL := Lib.hid hval
      have hX60 : X.size ≤ 60 := by have := hcan.2; omega
      have hO60 : O.size ≤ 60 := hval.2.2
      clear hv hc e7 hcan hback hval hX hO
      have E1 := EdAt.new w1 (q : Int) (d : Int) (t)
      replace HB := HB.alloc HB.size (.cells #[.int .i64 (q : Int), .int .i64 (d : Int), .string (t)] 24)
      obtain ⟨c1a, c1b, c1c⟩ := E1.cells
      go_wp2_with fail
      clear c1a c1b c1c
      generalize (w1.alloc (.cells #[.int .i64 (q : Int), .int .i64 (d : Int), .string (t)] 24)) = v1 at E1 HB ⊢
      generalize w1.heap.size = G1 at E1 ⊢
      obtain ⟨c1a, c1b, c1c⟩ := E1.cells
      refine (i_InvertEdit_at s t X q d _ (by omega) (by omega) HV.out HC.out HX.out).mono ?_
      rintro e w2 ⟨rfl, hbn⟩
      clear c1a c1b c1c
      replace E1 := E1.below hbn E1.lt
      replace HB := below_next HB hbn
      clear hbn
      obtain ⟨c1a, c1b, c1c⟩ := E1.cells
      clear c1a c1b c1c
      replace E1 := E1.alloc (.cells #[.int .i64 (q : Int), .int .i64 (t.size : Int), .string (X)] 24)
      have E2 := EdAt.new w2 (q : Int) (t.size : Int) (X)
      replace HB := HB.alloc HB.size (.cells #[.int .i64 (q : Int), .int .i64 (t.size : Int), .string (X)] 24)
      obtain ⟨c1a, c1b, c1c⟩ := E1.cells
      obtain ⟨c2a, c2b, c2c⟩ := E2.cells
      go_wp2_with fail
      clear c1a c1b c1c c2a c2b c2c
      generalize (w2.alloc (.cells #[.int .i64 (q : Int), .int .i64 (t.size : Int), .string (X)] 24)) = v2 at E1 E2 HB ⊢
      generalize w2.heap.size = G2 at E2 ⊢
      obtain ⟨c1a, c1b, c1c⟩ := E1.cells
      obtain ⟨c2a, c2b, c2c⟩ := E2.cells
      refine (s_InvertEdit_at s t X q d _ (by omega) (by omega) HV.out HC.out HX.out).mono ?_
      rintro e w3 ⟨rfl, hbn⟩
      clear c1a c1b c1c c2a c2b c2c
      replace E1 := E1.below hbn E1.lt
      replace E2 := E2.below hbn E2.lt
      replace HB := below_next HB hbn
      clear hbn
      obtain ⟨c1a, c1b, c1c⟩ := E1.cells
      obtain ⟨c2a, c2b, c2c⟩ := E2.cells
      clear c1a c1b c1c c2a c2b c2c
      replace E1 := E1.alloc (.cells #[.int .i64 (q : Int), .int .i64 (t.size : Int), .string (X)] 24)
      replace E2 := E2.alloc (.cells #[.int .i64 (q : Int), .int .i64 (t.size : Int), .string (X)] 24)
      have E3 := EdAt.new w3 (q : Int) (t.size : Int) (X)
      replace HB := HB.alloc HB.size (.cells #[.int .i64 (q : Int), .int .i64 (t.size : Int), .string (X)] 24)
      obtain ⟨c1a, c1b, c1c⟩ := E1.cells
      obtain ⟨c2a, c2b, c2c⟩ := E2.cells
      obtain ⟨c3a, c3b, c3c⟩ := E3.cells
      go_wp2_with fail
      clear c1a c1b c1c c2a c2b c2c c3a c3b c3c
      generalize (w3.alloc (.cells #[.int .i64 (q : Int), .int .i64 (t.size : Int), .string (X)] 24)) = v3 at E1 E2 E3 HB ⊢
      generalize w3.heap.size = G3 at E3 ⊢
      obtain ⟨c1a, c1b, c1c⟩ := E1.cells
      obtain ⟨c2a, c2b, c2c⟩ := E2.cells
      obtain ⟨c3a, c3b, c3c⟩ := E3.cells
      refine (equalEdit_same _ _ _ _).mono ?_
      rintro e w4 ⟨rfl, hbn⟩
      clear c1a c1b c1c c2a c2b c2c c3a c3b c3c
      replace E1 := E1.below hbn E1.lt
      replace E2 := E2.below hbn E2.lt
      replace E3 := E3.below hbn E3.lt
      replace HB := below_next HB hbn
      clear hbn
      obtain ⟨c1a, c1b, c1c⟩ := E1.cells
      obtain ⟨c2a, c2b, c2c⟩ := E2.cells
      obtain ⟨c3a, c3b, c3c⟩ := E3.cells
      go_wp2_with fail
      refine (i_ApplyEdit_at s t O q d _ (by omega) (by omega) HV.out HC.out HO.out).mono ?_
      rintro e w5 ⟨rfl, hbn⟩
      clear c1a c1b c1c c2a c2b c2c c3a c3b c3c
      replace E1 := E1.below hbn E1.lt
      replace E2 := E2.below hbn E2.lt
      replace E3 := E3.below hbn E3.lt
      replace HB := below_next HB hbn
      clear hbn
      obtain ⟨c1a, c1b, c1c⟩ := E1.cells
      obtain ⟨c2a, c2b, c2c⟩ := E2.cells
      obtain ⟨c3a, c3b, c3c⟩ := E3.cells
      go_wp2_with fail
      refine (i_ApplyEdit_at O X s q t.size _ (by omega) (by omega) HVAL.out.1 HCAN.out.1 HBACK.out.1).mono ?_
      rintro e w6 ⟨rfl, hbn⟩
      clear c1a c1b c1c c2a c2b c2c c3a c3b c3c
      replace E1 := E1.below hbn E1.lt
      replace E2 := E2.below hbn E2.lt
      replace E3 := E3.below hbn E3.lt
      replace HB := below_next HB hbn
      clear hbn
      obtain ⟨c1a, c1b, c1c⟩ := E1.cells
      obtain ⟨c2a, c2b, c2c⟩ := E2.cells
      obtain ⟨c3a, c3b, c3c⟩ := E3.cells
      go_wp2_with fail
      refine (i_InvertEdit_bk O t X q d _ hO60 hX60 HCAN.out.2 HVAL.out.1 HCAN.out.1 HBACK.out.2).mono ?_
      rintro e w7 ⟨rfl, hbn⟩
      clear c1a c1b c1c c2a c2b c2c c3a c3b c3c
      replace E1 := E1.below hbn E1.lt
      replace E2 := E2.below hbn E2.lt
      replace E3 := E3.below hbn E3.lt
      replace HB := below_next HB hbn
      clear hbn
      obtain ⟨c1a, c1b, c1c⟩ := E1.cells
      obtain ⟨c2a, c2b, c2c⟩ := E2.cells
      obtain ⟨c3a, c3b, c3c⟩ := E3.cells
      clear c1a c1b c1c c2a c2b c2c c3a c3b c3c
      replace E1 := E1.alloc (.cells #[.int .i64 (q : Int), .int .i64 (d : Int), .string (t)] 24)
      replace E2 := E2.alloc (.cells #[.int .i64 (q : Int), .int .i64 (d : Int), .string (t)] 24)
      replace E3 := E3.alloc (.cells #[.int .i64 (q : Int), .int .i64 (d : Int), .string (t)] 24)
      have E4 := EdAt.new w7 (q : Int) (d : Int) (t)
      replace HB := HB.alloc HB.size (.cells #[.int .i64 (q : Int), .int .i64 (d : Int), .string (t)] 24)
      obtain ⟨c1a, c1b, c1c⟩ := E1.cells
      obtain ⟨c2a, c2b, c2c⟩ := E2.cells
      obtain ⟨c3a, c3b, c3c⟩ := E3.cells
      obtain ⟨c4a, c4b, c4c⟩ := E4.cells
      go_wp2
      go_ret
      exact ⟨rfl, HB⟩
    · have HN := Lib.hid hok
      clear hok
      have E1 := EdAt.new w1 (x) (c) (t)
      replace HB := HB.alloc HB.size (.cells #[.int .i64 (x), .int .i64 (c), .string (t)] 24)
      obtain ⟨c1a, c1b, c1c⟩ := E1.cells
      go_wp2_with fail
      clear c1a c1b c1c
      generalize (w1.alloc (.cells #[.int .i64 (x), .int .i64 (c), .string (t)] 24)) = v1 at E1 HB ⊢
      generalize w1.heap.size = G1 at E1 ⊢
      obtain ⟨c1a, c1b, c1c⟩ := E1.cells
      refine (i_InvertEdit_no s t x c _ (by omega) (by omega) HN.out).mono ?_
      rintro e w2 ⟨rfl, hbn⟩
      clear c1a c1b c1c
      replace E1 := E1.below hbn E1.lt
      replace HB := below_next HB hbn
      clear hbn
      obtain ⟨c1a, c1b, c1c⟩ := E1.cells
      clear c1a c1b c1c
      replace E1 := E1.alloc (.cells #[.int .i64 (0), .int .i64 (0), .string (⟨#[]⟩)] 24)
      have E2 := EdAt.new w2 (0) (0) (⟨#[]⟩)
      replace HB := HB.alloc HB.size (.cells #[.int .i64 (0), .int .i64 (0), .string (⟨#[]⟩)] 24)
      obtain ⟨c1a, c1b, c1c⟩ := E1.cells
      obtain ⟨c2a, c2b, c2c⟩ := E2.cells
      go_wp2_with fail
      clear c1a c1b c1c c2a c2b c2c
      generalize (w2.alloc (.cells #[.int .i64 (0), .int .i64 (0), .string (⟨#[]⟩)] 24)) = v2 at E1 E2 HB ⊢
      generalize w2.heap.size = G2 at E2 ⊢
      obtain ⟨c1a, c1b, c1c⟩ := E1.cells
      obtain ⟨c2a, c2b, c2c⟩ := E2.cells
      refine (s_InvertEdit_no s t x c _ (by omega) (by omega) HN.out).mono ?_
      rintro e w3 ⟨rfl, hbn⟩
      clear c1a c1b c1c c2a c2b c2c
      replace E1 := E1.below hbn E1.lt
      replace E2 := E2.below hbn E2.lt
      replace HB := below_next HB hbn
      clear hbn
      obtain ⟨c1a, c1b, c1c⟩ := E1.cells
      obtain ⟨c2a, c2b, c2c⟩ := E2.cells
      clear c1a c1b c1c c2a c2b c2c
      replace E1 := E1.alloc (.cells #[.int .i64 (0), .int .i64 (0), .string (⟨#[]⟩)] 24)
      replace E2 := E2.alloc (.cells #[.int .i64 (0), .int .i64 (0), .string (⟨#[]⟩)] 24)
      have E3 := EdAt.new w3 (0) (0) (⟨#[]⟩)
      replace HB := HB.alloc HB.size (.cells #[.int .i64 (0), .int .i64 (0), .string (⟨#[]⟩)] 24)
      obtain ⟨c1a, c1b, c1c⟩ := E1.cells
      obtain ⟨c2a, c2b, c2c⟩ := E2.cells
      obtain ⟨c3a, c3b, c3c⟩ := E3.cells
      go_wp2_with fail
      clear c1a c1b c1c c2a c2b c2c c3a c3b c3c
      generalize (w3.alloc (.cells #[.int .i64 (0), .int .i64 (0), .string (⟨#[]⟩)] 24)) = v3 at E1 E2 E3 HB ⊢
      generalize w3.heap.size = G3 at E3 ⊢
      obtain ⟨c1a, c1b, c1c⟩ := E1.cells
      obtain ⟨c2a, c2b, c2c⟩ := E2.cells
      obtain ⟨c3a, c3b, c3c⟩ := E3.cells
      refine (equalEdit_same _ _ _ _).mono ?_
      rintro e w4 ⟨rfl, hbn⟩
      clear c1a c1b c1c c2a c2b c2c c3a c3b c3c
      replace E1 := E1.below hbn E1.lt
      replace E2 := E2.below hbn E2.lt
      replace E3 := E3.below hbn E3.lt
      replace HB := below_next HB hbn
      clear hbn
      obtain ⟨c1a, c1b, c1c⟩ := E1.cells
      obtain ⟨c2a, c2b, c2c⟩ := E2.cells
      obtain ⟨c3a, c3b, c3c⟩ := E3.cells
      go_wp2_with fail
      refine (equalEdit_same _ _ _ _).mono ?_
      rintro e w5 ⟨rfl, hbn⟩
      clear c1a c1b c1c c2a c2b c2c c3a c3b c3c
      replace E1 := E1.below hbn E1.lt
      replace E2 := E2.below hbn E2.lt
      replace E3 := E3.below hbn E3.lt
      replace HB := below_next HB hbn
      clear hbn
      obtain ⟨c1a, c1b, c1c⟩ := E1.cells
      obtain ⟨c2a, c2b, c2c⟩ := E2.cells
      obtain ⟨c3a, c3b, c3c⟩ := E3.cells
      go_wp2
      go_ret
      exact ⟨rfl, HB⟩
  · have d : decide (len ≤ 1048576) = false := decide_eq_false hbig
    have hl : (1048576 : Int) < len := by omega
    clear h
    go_enter Try.func4, Try.ntmps4
    go_wp2
    go_ret
    exact ⟨rfl, Below.refl _ _⟩
end Go.Proofs.Ythlamidlcbnchaa
