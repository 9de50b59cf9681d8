
/- The law that rests stay. -/
import Derived.Test.YtdkmbkojipkojaaNtm
namespace Go.Proofs.Ytdkmbkojipkojaa
open Go.RowKit

set_option maxRecDepth 20000 in
set_option maxHeartbeats 4000000 in
theorem transposeRests_walk (a : Option Addr) (len cap : Nat) (zs : List Int) (w : World) (h : RowIn .u8 w a len cap zs) :
    Calls Try.prog 7 #[.slice a len cap] w fun e w' => e = .returned (.bool true) ∧ Below w.heap.size w w' := by
  have hlen : len ≤ 9223372036854775807 := by
    obtain ⟨_, h2, h3⟩ := bytesAt_of_row h; unfold maxLen at h3; omega
  by_cases hbig : len ≤ 1048576
  · go_enter Try.func7, Try.ntmps7
    go_wp2_with fail
    refine (drawTranspose_any w a len cap zs h).mono ?_
    rintro e w1 ⟨a1, n1, c1, P, s, rfl, hx, hl, hs, hb1⟩
    clear h
    obtain ⟨L, ok, hr⟩ := transIs_ex P s
    have HR := keptN hr
    have HX := keptN hx
    clear hx
    go_wp2_with fail
    refine (i_Transpose w1 _ P s L ok HX.out HR).mono ?_
    rintro e w2 ⟨a2, n2, c2, rfl, hO2, hb2⟩
    have hB2 := below_next hb1 hb2
    have hI2 := hO2.at
    go_wp2_with fail
    refine (s_Transpose w2 _ P s L ok (HX.out.below hb2) HR).mono ?_
    rintro e w3 ⟨a3, n3, c3, rfl, hO3, hb3⟩
    have hB3 := below_next hB2 hb3
    have hI23 := hI2.below hb3
    have hI3 := hO3.at
    have HX3 := keptN ((HX.out.below hb2).below hb3)
    clear hO2 hO3 hb2 hb3 hI2 hB2 hb1 HX
    go_wp2_with fail
    refine (equalNotes_same w3 _ _ L hI23 hI3).mono ?_
    rintro e w4 ⟨rfl, hb4⟩
    have hB4 := below_next hB3 hb4
    have hI24 := hI23.below hb4
    have hI34 := hI3.below hb4
    have HX4 := keptN (HX3.out.below hb4)
    clear hB3 hb4 hI23 hI3 HX3
    cases ok with
    | true =>
      obtain ⟨_, ⟨k1, k2, k3⟩, hL⟩ | ⟨k1, _⟩ := hr
      · have HLL : Hid (L = trL P s P.length) := hL
        have hn1 := HX4.out.len
        have hn2 := hI24.len
        have HN1 := Lib.hid hn1
        have hnn : n2 = n1 := by rw [← hn1, ← hn2, hL, trL_length]
        subst hnn
        have HK := keptN (And.intro k1 k3)
        have HI24 := keptN hI24
        have hn40 : n2 ≤ 40 := by rw [← hn1]; exact k1.1
        have HN2 := Lib.hid hn2
        clear hL hn1 hn2 k1 k3 hI24 hI34
        go_wp2_with fail
        go_loopw [9] (fun i wr => ∃ k : Nat, k ≤ n2 ∧ i = .int .i64 k ∧ Below w4.heap.size w4 wr) (fun i _ => n2 - (intOf i).toNat)
        case atStart => exact ⟨0, Nat.zero_le _, rfl, Below.refl _ _⟩
        case round =>
          obtain ⟨k, hk, rfl, hbr⟩ := hrel
          by_cases hlt : k < n2
          · obtain ⟨g, off, c', hv, e0, e1⟩ := (HX4.out.below hbr).nth (k := k) (by rw [HN1.out]; exact hlt)
            obtain ⟨g2, off2, c2', hv2, e2, e3⟩ := (HI24.out.below hbr).nth (k := k) (by rw [HN2.out]; exact hlt)
            injection hv with v1 v8 v2
            injection hv2 with v3 v9 v4
            subst v1 v2 v3 v4
            clear v8 v9
            rw [HLL.out, trL_at (by rw [HN1.out]; exact hlt) (Nat.le_refl _)] at e2 e3
            have hok := HK.out.1.2 k (by rw [HN1.out]; exact hlt)
            have hon := HK.out.2 k (by rw [HN1.out]; exact hlt)
            obtain ⟨q, hq⟩ : ∃ q, P.getD k noN = q := ⟨_, rfl⟩
            rw [hq] at e0 e1 e2 e3 hok hon
            obtain ⟨p, f⟩ := q
            obtain ⟨o1, o2, o3, o4⟩ := hok
            simp only at e0 e1 o1 o2 o3 o4
            have b1 : (0 : Int) ≤ (k : Int) := by omega
            have b2 : (k : Int) < (n2 : Int) := by omega
            have b3 : decide ((n2 : Int) ≤ (k : Int)) = false := decide_eq_false (by omega)
            have b4 : decide (n2 ≤ k) = false := decide_eq_false (by omega)
            clear hq
            by_cases hp : p = -1
            · subst hp
              rw [trN, if_pos rfl] at e2 e3
              simp only at e2 e3
              have HBR := keptN hbr
              clear hon HX4 HI24 HN1 HN2 HLL HK HR hbr hl hs
              go_wp2_with fail
              go_quiet (fail)
              go_wp2
              go_roundw
              case rel => exact ⟨k + 1, by omega, by go_num, below_drewN HBR.out _⟩
              case measure => simp [intOf]; omega
            · rw [trN, if_neg hp] at e2 e3
              simp only at e2 e3
              have us : IntKind.i64.wrap (p + s) = p + s := IntWalk.i64_in _ (by omega)
              have dp : decide (p < 0) = false := decide_eq_false (by omega)
              have dq : decide (0 ≤ p) = true := decide_eq_true (by omega)
              have HBR := keptN hbr
              clear hon HX4 HI24 HN1 HN2 HLL HK HR hbr hl hs
              go_wp2_with fail
              go_quiet (fail)
              go_wp2
              go_roundw
              case rel => exact ⟨k + 1, by omega, by go_num, below_drewN HBR.out _⟩
              case measure => simp [intOf]; omega
          · obtain rfl : k = n2 := by omega
            go_wp2
            go_ret
            exact ⟨rfl, below_next hB4 hbr⟩
      · simp at k1
    | false =>
      clear hr
      go_wp2_with fail
      refine (equalNotes_same w4 _ _ L hI24 hI34).mono ?_
      rintro e w6 ⟨rfl, hb6⟩
      have hB6 := below_next hB4 hb6
      go_wp2
      go_ret
      exact ⟨rfl, hB6⟩
  · go_enter Try.func7, Try.ntmps7
    go_wp2
    go_ret
    exact ⟨rfl, Below.refl _ _⟩
end Go.Proofs.Ytdkmbkojipkojaa
