
/- FnValidPieces: its walk. -/
import Derived.Test.YtohgglhjcklbaaaVo
import Derived.Test.YtohgglhjcklbaaaPh
import Derived.Deep.QuietTactic
import Derived.BigQuiet
namespace Go.Proofs.Ytohgglhjcklbaaa
open Go.RowKit

set_option maxHeartbeats 4000000 in
theorem validPieces_walk (a : Option Addr) (len cap : Nat) (zs : List Int) (w : World) (h : RowIn .u8 w a len cap zs) :
    Calls Try.prog 11 #[.slice a len cap] w fun e w' => e = .returned (.bool true) ∧ Below w.heap.size w w' := by
  have hlen : len ≤ 9223372036854775807 := by
    obtain ⟨_, h2, h3⟩ := bytesAt_of_row h; unfold maxLen at h3; omega
  by_cases hbig : len ≤ 1048576
  · go_enter Try.func11, Try.ntmps11
    go_wp2_with fail
    refine (drawValidPieces_any w a len cap zs h).mono ?_
    rintro e w1 ⟨g, n, c1, T, s, v, P, rfl, hx1, hF, hs, hy1, hPF, hPl, hb1⟩
    clear h
    obtain ⟨m, hm⟩ : ∃ m, P.length = m := ⟨_, rfl⟩
    obtain ⟨a4, c4, hv4, _⟩ := id hy1
    rw [hm] at hv4 hPl
    have HM := Lib.hid hm
    subst hv4
    clear hm
    have HF := keptH hF
    have HPF := keptH hPF
    obtain ⟨b, HB⟩ : ∃ b : Bool, Hid (b = true ↔ (ValidTb T ∧ WordB 16 s.data.toList) ∧ ValidPv T s P) := by
      by_cases hv : (ValidTb T ∧ WordB 16 s.data.toList) ∧ ValidPv T s P
      · exact ⟨true, show _ ↔ _ from ⟨fun _ => hv, fun _ => rfl⟩⟩
      · exact ⟨false, show _ ↔ _ from ⟨fun e => by simp at e, fun e => absurd e hv⟩⟩
    clear hF hPF
    go_wp2_with fail
    refine (i_ValidPieces w1 _ _ T s P b hx1 HF.out (by omega) hy1 HPF.out HB).mono ?_
    rintro e w2 ⟨rfl, hb2⟩
    have hx2 := hx1.below hb2
    have hy2 := hy1.below hb2
    have hB2 := below_next hb1 hb2
    clear hx1 hy1 hb1 hb2
    go_wp2_with fail
    refine (s_ValidPieces w2 _ _ T s P b hx2 HF.out (by omega) hy2 HPF.out HB).mono ?_
    rintro e w3 ⟨rfl, hb3⟩
    have hx3 := hx2.below hb3
    have hy3 := hy2.below hb3
    have hB3 := below_next hB2 hb3
    clear hx2 hy2 hB2 hb3
    cases b with
    | false =>
      go_wp2_with fail
      refine (s_ValidPieces w3 _ _ T s P false hx3 HF.out (by omega) hy3 HPF.out HB).mono ?_
      rintro e w4 ⟨rfl, hb4⟩
      have FIN := keptH (below_next hB3 hb4)
      clear hx3 hy3 hB3 hb4
      go_wp2
      go_ret
      exact ⟨rfl, FIN.out⟩
    | true =>
      have HV := keptH (HB.out.1 rfl)
      have HX3 := keptH hx3
      have HY3 := keptH hy3
      have HB3 := keptH hB3
      clear HB hx3 hy3 hB3
      go_wp2_with fail
      go_loopw [7, 8] (fun o i wr => ∃ k : Nat, k ≤ m ∧ i = .int .i64 k ∧ o = .string (s.extract 0 (endAt P k).toNat) ∧ Below w3.heap.size w3 wr) (fun _ i _ => m - (intOf i).toNat)
      case atStart => exact ⟨0, Nat.zero_le _, rfl, by congr 1; apply ByteArray.ext; simp [endAt], Below.refl _ _⟩
      case round =>
        obtain ⟨k, hk, rfl, ho, hbr⟩ := hrel
        by_cases hlt : k < m
        · have hyr := HY3.out.below hbr
          have hpv := HV.out.2.1 k (by rw [HM.out]; exact hlt)
          have hend := pcOk_end hpv.2 HV.out.1.1.2.1
          obtain ⟨_, _, e, _, _, hc⟩ := hyr
          rcases hc with rfl | ⟨g2, off, hc1, hc⟩
          · exact absurd HM.out (by simp; omega)
          injection e with e1 e2 e3
          clear e2 e3
          rw [hc1] at e1
          subst e1
          obtain ⟨q0, q1, q2⟩ := hc k (by rw [HM.out]; exact hlt)
          have hnx : endAt P (k + 1) = (P.getD k noP).t := rfl
          rw [← hpv.1] at ho
          clear hc hc1
          have hpv1 := hpv.1
          clear hpv
          obtain ⟨x, hx⟩ : ∃ x, P.getD k noP = x := ⟨_, rfl⟩
          rw [hx] at q0 q1 q2 hend hnx ho
          clear hx hpv1
          obtain ⟨r, f, t⟩ := x
          simp only at q0 q1 q2 hend hnx ho
          obtain ⟨h0, h1, h2⟩ := hend
          obtain ⟨f', rfl⟩ : ∃ f' : Nat, f = f' := ⟨f.toNat, by omega⟩
          obtain ⟨t', rfl⟩ : ∃ t' : Nat, t = t' := ⟨t.toNat, by omega⟩
          have hft : f' ≤ t' := by omega
          rw [show ((f' : Int)).toNat = f' from by omega] at ho
          subst ho
          have HNX := Lib.hid hnx
          have HBR := keptH hbr
          have hts : t' ≤ s.size := by omega
          have b1 : (0 : Int) ≤ (k : Int) := by omega
          have b2 : (k : Int) < (m : Int) := by omega
          have b3 : (f' : Int) ≤ (t' : Int) := by omega
          have b4 : (t' : Int) ≤ (s.size : Int) := by omega
          have n1 : ((f' : Int)).toNat = f' := by omega
          have n2 : ((t' : Int)).toNat = t' := by omega
          clear hnx hbr h0 h1 h2
          go_wp2_with fail
          go_quiet (fail)
          go_wp2
          go_roundw
          case rel => exact ⟨k + 1, by omega, by go_num, by rw [HNX.out]; rfl, below_drewN HBR.out _⟩
          case measure => simp [intOf]; omega
        · obtain rfl : k = m := by omega
          have he : s.extract 0 (endAt P k).toNat = s := by
            have := HV.out.2.2
            rw [HM.out] at this
            rw [this, show ((s.size : Int)).toNat = s.size from by omega]
            exact ext_all s
          rw [he] at ho
          subst ho
          have HBR := keptH hbr
          clear he hbr
          go_wp2_with fail
          refine (plain_any wr s (by omega)).mono ?_
          rintro e w5 ⟨v5, rfl, hP5, hb5⟩
          have hx5 := (HX3.out.below HBR.out).below hb5
          have hB5 := below_next HBR.out hb5
          have hv5 := HV.out.1
          obtain ⟨a5, c5, hv, _⟩ := id hP5
          subst hv
          clear hb5
          go_wp2_with fail
          refine (i_ValidPieces_b w5 _ _ T s (plainP s.size) hx5 HF.out (by omega) hP5 (plainP_fit (by omega)) (show _ ∧ _ from ⟨hv5, plainP_valid T s⟩)).mono ?_
          rintro e w6 ⟨rfl, hb6⟩
          have FIN := keptH (below_next HB3.out (below_next hB5 hb6))
          clear hx5 hP5 hB5 hb6 hv5
          go_wp2
          go_ret
          exact ⟨rfl, FIN.out⟩
  · have hbig' : 1048576 < len := by omega
    go_enter Try.func11, Try.ntmps11
    go_wp2
    go_ret
    exact ⟨rfl, Below.refl _ _⟩
end Go.Proofs.Ytohgglhjcklbaaa
