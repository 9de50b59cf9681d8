
/- P155: marks stay in order. -/
import Derived.Test.YthlamidlcbnchaaEdp
import Derived.Test.YthlamidlcbnchaaEdb
namespace Go.Proofs.Ythlamidlcbnchaa
open Go.RowKit

theorem mvM_mono {y x c : Int} {t : ByteArray} (_hc : 0 ≤ c) : mvM (y - 1) x c t ≤ mvM y x c t := by
  unfold mvM
  split <;> split <;> (try split) <;> (try split) <;> omega
theorem mvM_bd {y x c many : Int} {t : ByteArray} (hy : 0 ≤ y ∧ y ≤ many) (hx : 0 ≤ x ∧ x ≤ many) (hc : 0 ≤ c ∧ c ≤ many - x) : 0 ≤ mvM y x c t ∧ mvM y x c t ≤ many - c + (t.size : Int) := by
  unfold mvM
  split
  · omega
  · split <;> omega
set_option maxHeartbeats 4000000 in
theorem moveMark_walk (a : Option Addr) (len cap : Nat) (zs : List Int) (w : World) (h : RowIn .u8 w a len cap zs) :
    Calls Try.prog 5 #[.slice a len cap] w fun e w' => e = .returned (.bool true) ∧ Below w.heap.size w w' := by
  have hlen : len ≤ 9223372036854775807 := by
    obtain ⟨_, h2, h3⟩ := bytesAt_of_row h; unfold maxLen at h3; omega
  by_cases hbig : len ≤ 1048576
  · go_enter Try.func5, Try.ntmps5
    go_wp2_with fail
    refine (drawMoveMark_any w a len cap zs h).mono ?_
    rintro e w1 ⟨y, x, c, t, many, rfl, ht, HB⟩
    clear h
    obtain ⟨v, hv⟩ : ∃ v, mvA y x c t many = v := ⟨_, rfl⟩
    have HV := Lib.hid hv
    have E1 := EdAt.new w1 (x) (c) (t)
    replace HB := HB.alloc HB.size (.cells #[.int .i64 (x), .int .i64 (c), .string (t)] 24)
    obtain ⟨c1a, c1b, c1c⟩ := E1.cells
    go_wp2_with fail
    clear c1a c1b c1c
    generalize (w1.alloc (.cells #[.int .i64 (x), .int .i64 (c), .string (t)] 24)) = v1 at E1 HB ⊢
    generalize w1.heap.size = G1 at E1 ⊢
    obtain ⟨c1a, c1b, c1c⟩ := E1.cells
    refine (i_MoveMark y x c many v t _ (by omega) HV.out).mono ?_
    rintro e w2 ⟨rfl, hbn⟩
    clear c1a c1b c1c
    replace E1 := E1.below hbn E1.lt
    replace HB := below_next HB hbn
    clear hbn
    obtain ⟨c1a, c1b, c1c⟩ := E1.cells
    go_wp2_with fail
    refine (s_MoveMark y x c many v t _ (by omega) HV.out).mono ?_
    rintro e w3 ⟨rfl, hbn⟩
    clear c1a c1b c1c
    replace E1 := E1.below hbn E1.lt
    replace HB := below_next HB hbn
    clear hbn
    obtain ⟨c1a, c1b, c1c⟩ := E1.cells
    by_cases hok : CanE x c t many ∧ 0 ≤ y ∧ y ≤ many
    · obtain ⟨hc, hy⟩ := hok
      obtain ⟨g1, g2, g3, g4, g5⟩ := hc
      have htz := g4.size
      have hvm : mvM y x c t = v := by rw [← hv, mvA, if_pos ⟨⟨g1, g2, g3, g4, g5⟩, hy⟩]
      have hbd := mvM_bd (t := t) hy g2 g3
      have hmo := mvM_mono (y := y) (x := x) (t := t) g3.1
      rw [hvm] at hbd hmo
      have d0 : decide (v < 0) = false := decide_eq_false (by omega)
      have d1 : decide (0 ≤ v) = true := decide_eq_true hbd.1
      have d2 : decide (v ≤ many - c + (t.size : Int)) = true := decide_eq_true hbd.2
      have u1 : IntKind.i64.wrap (many - c) = many - c := IntWalk.i64_in _ (by omega)
      have u2 : IntKind.i64.wrap (many - c + (t.size : Int)) = many - c + (t.size : Int) := IntWalk.i64_in _ (by omega)
      by_cases hy0 : 0 < y
      · obtain ⟨v2, hv2⟩ : ∃ v2, mvM (y - 1) x c t = v2 := ⟨_, rfl⟩
        have HV2 : Hid (mvA (y - 1) x c t many = v2) := by show _ = _; rw [← hv2, mvA, if_pos ⟨⟨g1, g2, g3, g4, g5⟩, by omega⟩]
        rw [hv2] at hmo
        have d3 : decide (0 < y) = true := decide_eq_true hy0
        have d4 : decide (v < v2) = false := decide_eq_false (by omega)
        have u3 : IntKind.i64.wrap (y - 1) = y - 1 := IntWalk.i64_in _ (by omega)
        clear hv g4 hvm hv2
        go_wp2_with fail
        refine (i_MoveMark (y - 1) x c many v2 t _ (by omega) HV2.out).mono ?_
        rintro e w4 ⟨rfl, hbn⟩
        clear c1a c1b c1c
        replace E1 := E1.below hbn E1.lt
        replace HB := below_next HB hbn
        clear hbn
        obtain ⟨c1a, c1b, c1c⟩ := E1.cells
        go_wp2
        go_ret
        exact ⟨rfl, HB⟩
      · have d3 : decide (0 < y) = false := decide_eq_false hy0
        clear hv g4 hvm hmo
        go_wp2
        go_ret
        exact ⟨rfl, HB⟩
    · have hv1 : v = -1 := by rw [← hv, mvA, if_neg hok]
      subst hv1
      clear hv hok
      go_wp2_with fail
      refine (s_MoveMark y x c many _ t _ (by omega) HV.out).mono ?_
      rintro e w4 ⟨rfl, hbn⟩
      clear c1a c1b c1c
      replace E1 := E1.below hbn E1.lt
      replace HB := below_next HB hbn
      clear hbn
      obtain ⟨c1a, c1b, c1c⟩ := E1.cells
      go_wp2
      go_ret
      exact ⟨rfl, HB⟩
  · have d : decide (len ≤ 1048576) = false := decide_eq_false hbig
    have hl : (1048576 : Int) < len := by omega
    clear h
    go_enter Try.func5, Try.ntmps5
    go_wp2
    go_ret
    exact ⟨rfl, Below.refl _ _⟩
end Go.Proofs.Ythlamidlcbnchaa
