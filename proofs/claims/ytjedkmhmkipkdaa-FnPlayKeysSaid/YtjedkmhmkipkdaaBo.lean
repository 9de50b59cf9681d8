
/- Laws of valid and of played events: how often keys are pressed, and what codes there are. -/
import Derived.Test.YtjedkmhmkipkdaaBk
namespace Go.Proofs.Ytjedkmhmkipkdaa
open Go.RowKit

theorem count_takeB {zs : List Int} {z : Int} {k : Nat} (h : k < zs.length) : (zs.take (k + 1)).count z = (zs.take k).count z + if zs.getD k 0 = z then 1 else 0 := by
  rw [List.take_succ_eq_append_getElem h, List.count_append, List.getD_eq_getElem?_getD, List.getElem?_eq_getElem h, Option.getD_some]
  by_cases e : zs[k] = z
  · rw [if_pos e, e]; simp
  · rw [if_neg e, List.count_singleton]; simp [e]

set_option maxHeartbeats 1000000 in
theorem countB_any (w : World) (u : Value) (zs : List Int) (z : Int) (c : Nat) (hx : IntsAt w u zs) (hc : Hid (zs.count z = c)) :
    Calls Try.prog 17 #[u, .int .i64 z] w fun e w' => e = .returned (.int .i64 c) ∧ w = w' := by
  obtain ⟨a, cp, rfl, x1, x2, x3⟩ := hx
  obtain ⟨n, hn⟩ : ∃ n, zs.length = n := ⟨_, rfl⟩
  rw [hn] at x1 x3 ⊢
  have HN := Lib.hid hn
  clear hn
  go_enter Try.func17, Try.ntmps17
  go_wp2
  go_loop [5, 6] (fun m i => ∃ k q : Nat, k ≤ n ∧ i = .int .i64 k ∧ m = .int .i64 q ∧ q ≤ k ∧ Hid ((zs.take k).count z = q)) (fun _ i => n - (intOf i).toNat)
  case atStart => exact ⟨0, 0, Nat.zero_le _, rfl, rfl, by omega, rfl⟩
  case round =>
    obtain ⟨k, q, hk, rfl, rfl, hqk, hq⟩ := hrel
    by_cases hlt : k < n
    · rcases x3 with rfl | ⟨g, off, rfl, x3⟩
      · exact absurd HN.out (by simp; omega)
      have cx := x3 k hlt
      have hct := count_takeB (zs := zs) (z := z) (k := k) (by rw [HN.out]; exact hlt)
      obtain ⟨y, hy⟩ : ∃ y, zs.getD k 0 = y := ⟨_, rfl⟩
      rw [hy] at cx hct
      clear hy x3
      by_cases e : y = z
      · have e1 : (y == z) = true := by simpa using e
        have hq' : Hid ((zs.take (k + 1)).count z = q + 1) := by show _ = _; rw [hct, if_pos e, hq.out]
        clear e hct
        go_wp2
        go_round
        case rel => exact ⟨k + 1, q + 1, by omega, by go_num, by go_num, by omega, hq'⟩
        case measure => simp [intOf]; omega
      · have e1 : (y == z) = false := by simpa using e
        have hq' : Hid ((zs.take (k + 1)).count z = q) := by show _ = _; rw [hct, if_neg e, hq.out]; rfl
        clear e hct
        go_wp2
        go_round
        case rel => exact ⟨k + 1, q, by omega, by go_num, rfl, by omega, hq'⟩
        case measure => simp [intOf]; omega
    · have hqc : q = c := by rw [← hq.out, ← hc.out, List.take_of_length_le (by have := HN.out; omega)]
      clear hc
      subst hqc
      go_wp2
      go_ret
      exact ⟨rfl, rfl⟩


theorem okB_counts {zs : List Int} (hk : okB zs = true) {k : Int} (h0 : 1 ≤ k) (h1 : k ≤ 7) : zs.count k = zs.count (-k) := by
  obtain ⟨_, x, hx⟩ := (okB_iff zs).1 hk
  have := hx.counts (k - 1).toNat (by omega)
  rw [show (((k - 1).toNat : Nat) : Int) + 1 = k from by omega] at this
  exact this
set_option maxHeartbeats 2000000 in
theorem validKeys_walk (a : Option Addr) (len cap : Nat) (zs : List Int) (w : World) (h : RowIn .u8 w a len cap zs) :
    Calls Try.prog 3 #[.slice a len cap] w fun e w' => e = .returned (.bool true) ∧ Below w.heap.size w w' := by
  have hlen : len ≤ 9223372036854775807 := by
    obtain ⟨_, h2, h3⟩ := bytesAt_of_row h; unfold maxLen at h3; omega
  by_cases hbig : len ≤ 1048576
  · go_enter Try.func3, Try.ntmps3
    go_wp2_with fail
    refine (drawValidKeys_any w a len cap zs h).mono ?_
    rintro e w1 ⟨a1, n1, c1, E, rfl, hO, hn, hm, hbt, hB⟩
    clear h
    have HN := keptE hn
    have HF := keptE (hbt.fits (by omega) (by omega))
    have HE1 := keptE hO.sh
    have HB1 := keptE hB
    obtain ⟨b, hb⟩ : ∃ b, okB E = b := ⟨_, rfl⟩
    have HK := keptE hb
    clear hb hn hbt hO hB
    go_wp2_with fail
    refine (i_ValidKeys w1 _ E b HE1.out.1 HF.out HK).mono ?_
    rintro e w' ⟨rfl, rfl⟩
    go_wp2_with fail
    refine (s_ValidKeys w1 _ E b HE1.out.1 HF.out HK).mono ?_
    rintro e w2 ⟨rfl, hb2⟩
    have HE2 := keptE (HE1.out.below hb2)
    have HB2 := keptE (below_next HB1.out hb2)
    clear hb2 HE1 HB1
    cases b with
    | false =>
      go_wp2_with fail
      refine (s_ValidKeys w2 _ E false HE2.out.1 HF.out HK).mono ?_
      rintro e w3 ⟨rfl, hb3⟩
      have HB3 := keptE (below_next HB2.out hb3)
      clear hb3
      go_wp2
      go_ret
      exact ⟨rfl, HB3.out⟩
    | true =>
      go_wp2_with fail
      go_loop [5] (fun y => ∃ k : Nat, 1 ≤ k ∧ k ≤ 8 ∧ y = .int .i64 k) (fun y => 8 - (intOf y).toNat)
      case atStart => exact ⟨1, by omega, by omega, rfl⟩
      case round =>
        obtain ⟨k, hk1, hk8, rfl⟩ := hrel
        by_cases hlt : k ≤ 7
        · obtain ⟨m, hm1⟩ : ∃ m, E.count (k : Int) = m := ⟨_, rfl⟩
          have hm2 : Hid (E.count (-(k : Int)) = m) := by show _ = _; rw [← okB_counts HK.out (by omega) (by omega), hm1]
          have HM := keptE hm1
          have uw : IntKind.i64.wrap (-(k : Int)) = -(k : Int) := IntWalk.i64_in _ (by omega)
          clear hm1
          go_wp2_with fail
          refine (countB_any w2 _ E _ m HE2.out.1 HM).mono ?_
          rintro e w' ⟨rfl, rfl⟩
          go_wp2_with fail
          refine (countB_any w2 _ E _ m HE2.out.1 hm2).mono ?_
          rintro e w' ⟨rfl, rfl⟩
          go_wp2
          go_round
          case rel => exact ⟨k + 1, by omega, by omega, by go_num⟩
          case measure => simp [intOf]; omega
        · have d1 : decide (280 < 2 * (n1 : Int)) = false := decide_eq_false (by omega)
          have u1 : IntKind.i64.wrap (2 * (n1 : Int)) = 2 * (n1 : Int) := IntWalk.i64_in _ (by omega)
          have HF2 : Hid (Fits (E ++ E)) := fun z hz => HF.out z (by rcases List.mem_append.1 hz with h | h <;> exact h)
          have HK2 : Hid (okB (E ++ E) = true) := okB_twice HK.out (by have := HN.out; omega)
          go_wp2_with fail
          refine (join_sh w2 _ _ E E HE2.out HE2.out (by have := HN.out; omega)).mono ?_
          rintro e w5 ⟨a5, n5, c5, rfl, hO5, hb5⟩
          have HJ5 := keptE hO5.at
          have HB5 := keptE (below_next HB2.out hb5)
          clear hO5 hb5
          go_wp2_with fail
          refine (i_ValidKeys w5 _ (E ++ E) true HJ5.out HF2.out HK2).mono ?_
          rintro e w' ⟨rfl, rfl⟩
          go_wp2
          go_ret
          exact ⟨rfl, HB5.out⟩
  · go_enter Try.func3, Try.ntmps3
    go_wp2
    go_ret
    exact ⟨rfl, Below.refl _ _⟩
set_option maxHeartbeats 2000000 in
theorem playKeys_walk (a : Option Addr) (len cap : Nat) (zs : List Int) (w : World) (h : RowIn .u8 w a len cap zs) :
    Calls Try.prog 4 #[.slice a len cap] w fun e w' => e = .returned (.bool true) ∧ Below w.heap.size w w' := by
  have hlen : len ≤ 9223372036854775807 := by
    obtain ⟨_, h2, h3⟩ := bytesAt_of_row h; unfold maxLen at h3; omega
  by_cases hbig : len ≤ 1048576
  · go_enter Try.func4, Try.ntmps4
    go_wp2_with fail
    refine (drawPlayKeys_any w a len cap zs h).mono ?_
    rintro e w1 ⟨a1, n1, c1, E, rfl, hO, hn, hm, hbt, hB⟩
    clear h
    have HN := keptE hn
    have HF := keptE (hbt.fits (by omega) (by omega))
    have HE1 := keptE hO.sh
    have HB1 := keptE hB
    obtain ⟨L, hr⟩ : ∃ L, playL E = L := ⟨_, rfl⟩
    have HR := keptE hr
    have hpb := playL_bounds E
    rw [hr, hn] at hpb
    have HLB := keptE hpb.1
    have hLL := hpb.2
    clear hr hn hbt hO hB hpb
    go_wp2_with fail
    refine (i_PlayKeys w1 _ E L HE1.out.1 HF.out HR).mono ?_
    rintro e w2 ⟨a2, n2, c2, rfl, hO2, hb2⟩
    have HN2 := keptE hO2.lenB
    have HO2 := keptE hO2.sh
    have HE2 := keptE (HE1.out.below hb2)
    have HB2 := keptE (below_next HB1.out hb2)
    rw [hO2.lenB] at hLL
    clear hO2 hb2 HE1 HB1
    go_wp2_with fail
    refine (s_PlayKeys w2 _ E L HE2.out.1 HF.out HR).mono ?_
    rintro e w3 ⟨a3, n3, c3, rfl, hO3, hb3⟩
    have HS3 := keptE hO3.at
    have HO3 := keptE (HO2.out.below hb3)
    have HE3 := keptE (HE2.out.below hb3)
    have HB3 := keptE (below_next HB2.out hb3)
    clear hO3 hb3 HE2 HB2 HO2
    go_wp2_with fail
    refine (equalInts_sameB w3 _ _ L HO3.out.1 HS3.out).mono ?_
    rintro e w4 ⟨rfl, hb4⟩
    have HS4 := keptE (HS3.out.below hb4)
    have HO4 := keptE (HO3.out.below hb4)
    have HE4 := keptE (HE3.out.below hb4)
    have HB4 := keptE (below_next HB3.out hb4)
    clear hb4 HE3 HB3 HO3 HS3
    by_cases h0 : n2 = 0
    · subst h0
      go_wp2_with fail
      refine (s_PlayKeys w4 _ E L HE4.out.1 HF.out HR).mono ?_
      rintro e w5 ⟨a5, n5, c5, rfl, hO5, hb5⟩
      have HS5 := keptE hO5.at
      have HO5 := keptE (HO4.out.below hb5)
      have HB5 := keptE (below_next HB4.out hb5)
      clear hO5 hb5
      go_wp2_with fail
      refine (equalInts_sameB w5 _ _ L HO5.out.1 HS5.out).mono ?_
      rintro e w6 ⟨rfl, hb6⟩
      have HB6 := keptE (below_next HB5.out hb6)
      clear hb6
      go_wp2
      go_ret
      exact ⟨rfl, HB6.out⟩
    · have e0 : ((n2 : Int) == 0) = false := by simp; omega
      have HOO := HO4.out.1
      obtain ⟨g, off, hga, hcs⟩ : ∃ g off, a2 = some ⟨g, off, none⟩ ∧ Hid (∀ i, i < n2 → w4.cell? ⟨g, off + i, none⟩ = some (.int .i64 (L.getD i 0))) := by
        obtain ⟨a', c', e, _, _, h5⟩ := HOO
        injection e with e1 _ _
        rcases h5 with h0' | ⟨g', off', e5, h6⟩
        · have := HN2.out; rw [h0'] at this; simp at this; omega
        · exact ⟨g', off', by rw [e1, e5], fun i hi => h6 i (by rw [HN2.out]; exact hi)⟩
      subst hga
      clear HOO h0
      go_wp2_with fail
      go_loop [5] (fun y => ∃ k : Nat, k ≤ n2 ∧ y = .int .i64 k) (fun y => n2 - (intOf y).toNat)
      case atStart => exact ⟨0, by omega, rfl⟩
      case round =>
        obtain ⟨k, hk, rfl⟩ := hrel
        by_cases hlt : k < n2
        · have hc := hcs.out k hlt
          obtain ⟨z, hz⟩ : ∃ z, L.getD k 0 = z := ⟨_, rfl⟩
          have hzb := HLB.out z (by rw [← hz]; exact mem_atB (by rw [HN2.out]; exact hlt))
          rw [hz] at hc
          obtain ⟨z1, z2⟩ := hzb
          have d1 : decide (z < 1) = false := decide_eq_false (by omega)
          have d2 : decide (127 < z) = false := decide_eq_false (by omega)
          clear hz
          go_wp2
          go_round
          case rel => exact ⟨k + 1, by omega, by go_num⟩
          case measure => simp [intOf]; omega
        · have d1 : decide (2 * (n2 : Int) ≤ (n1 : Int)) = true := decide_eq_true (by omega)
          have u1 : IntKind.i64.wrap (2 * (n2 : Int)) = 2 * (n2 : Int) := IntWalk.i64_in _ (by omega)
          go_wp2
          go_ret
          exact ⟨rfl, HB4.out⟩
  · go_enter Try.func4, Try.ntmps4
    go_wp2
    go_ret
    exact ⟨rfl, Below.refl _ _⟩
end Go.Proofs.Ytjedkmhmkipkdaa
