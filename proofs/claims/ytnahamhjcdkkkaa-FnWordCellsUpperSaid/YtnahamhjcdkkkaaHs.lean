
/- A word in capitals: P185. -/
import Derived.Test.YtnahamhjcdkkkaaHr
import Derived.Test.YtnahamhjcdkkkaaJn
namespace Go.Proofs.Ytnahamhjcdkkkaa
open Go.RowKit

def upB (b : UInt8) : UInt8 := UInt8.ofNat (b.toNat - 32)
def upL (s : ByteArray) (k : Nat) : List UInt8 := (s.data.toList.take k).map upB
def upS (s : ByteArray) (k : Nat) : ByteArray := ⟨(upL s k).toArray⟩
def abcS : ByteArray := ⟨#[65, 66, 67, 68, 69, 70, 71, 72, 73, 74, 75, 76, 77, 78, 79, 80, 81, 82, 83, 84, 85, 86, 87, 88, 89, 90]⟩
theorem abc_at (j : Nat) (h : j < 26) : abcS.extract j (j + 1) = ⟨#[UInt8.ofNat (65 + j)]⟩ := by
  have key : ∀ j : Fin 26, abcS.extract j.1 (j.1 + 1) = ⟨#[UInt8.ofNat (65 + j.1)]⟩ := by decide +kernel
  exact key ⟨j, h⟩
theorem upS_size (s : ByteArray) (k : Nat) (h : k ≤ s.size) : (upS s k).size = k := by
  have : (upL s k).length = k := by unfold upL; rw [List.length_map, List.length_take, wd_size]; omega
  show (upL s k).toArray.size = k
  rw [List.size_toArray, this]
theorem upS_succ {s : ByteArray} {k j : Nat} (hk : k < s.size) (hj : j < 26) (e : (s[k]'hk).toNat = 97 + j) : upS s (k + 1) = upS s k ++ abcS.extract j (j + 1) := by
  rw [abc_at j hj]
  have hl : k < s.data.toList.length := by rw [wd_size]; exact hk
  have e2 : upL s (k + 1) = upL s k ++ [UInt8.ofNat (65 + j)] := by
    unfold upL
    rw [List.take_add_one, List.getElem?_eq_getElem hl, List.map_append]
    simp only [Option.toList_some, List.map_cons, List.map_nil]
    rw [show s.data.toList[k] = s[k]'hk from wd_byte hk hl]
    unfold upB
    rw [e, show 97 + j - 32 = 65 + j from by omega]
  apply ByteArray.ext
  show (upL s (k + 1)).toArray = _
  rw [e2, ByteArray.data_append]
  show _ = (upL s k).toArray ++ #[UInt8.ofNat (65 + j)]
  simp
theorem upS_all (s : ByteArray) : (upS s s.size).data.toList = s.data.toList.map upB := by
  show (upL s s.size).toArray.toList = _
  rw [upL, ← wd_size, List.take_length]
theorem up_caps {s : ByteArray} (h : WordB 16 s.data.toList) : (∀ b ∈ s.data.toList.map upB, 65 ≤ b.toNat ∧ b.toNat ≤ 90) ∧ (s.data.toList.map upB).map (fun b => letL.getD (b.toNat - 65) 0) = s.data.toList.map fun b => letL.getD (b.toNat - 97) 0 := by
  have h3 := (word_bytes h).2.2
  have e : ∀ b ∈ s.data.toList, (upB b).toNat = b.toNat - 32 := fun b hb => by
    have := h3 b hb
    unfold upB
    rw [UInt8.toNat_ofNat_of_lt' (by simp [UInt8.size]; omega)]
  refine ⟨fun b hb => ?_, ?_⟩
  · obtain ⟨c, hc, rfl⟩ := List.mem_map.1 hb
    rw [e c hc]
    have := h3 c hc
    omega
  · rw [List.map_map]
    refine List.map_congr_left fun b hb => ?_
    show letL.getD ((upB b).toNat - 65) 0 = _
    rw [e b hb, show b.toNat - 32 - 65 = b.toNat - 97 from by have := h3 b hb; omega]
theorem up_text {s : ByteArray} (h : WordB 16 s.data.toList) : ValidT (upS s s.size).data.toList := by
  have h3 := word_bytes h
  rw [upS_all]
  refine ⟨by rw [List.length_map]; omega, fun b hb => ?_⟩
  unfold okB
  rw [(cap_let ((up_caps h).1 b hb)).1]
  rfl
theorem own_lit (w : World) (z : Int) : OwnInts (w.alloc (.cells #[.int .i64 z] 3)) w.heap.size (.slice (some ⟨w.heap.size, 0, none⟩) 1 1) [z] :=
  ⟨rfl, .inr ⟨w.heap.size, 1, #[.int .i64 z], rfl, Nat.le_refl _, by show (w.heap.push _)[w.heap.size]? = _; simp, Nat.le_refl _, by unfold maxLen; omega, rfl, rfl⟩⟩
theorem up_cells {s : ByteArray} (h : WordB 16 s.data.toList) : plainC (upS s s.size).data.toList = (if 1 < s.size then [32, 32] else [32]) ++ plainC s.data.toList := by
  have h3 := word_bytes h
  rw [upS_all, plainC_caps (by rw [List.length_map]; exact h3.1) (up_caps h).1, (up_caps h).2, plainC_small h3.1 h3.2.2, List.length_map, wd_size]
set_option maxHeartbeats 4000000 in
theorem wordCellsUpper_walk (a : Option Addr) (len cap : Nat) (zs : List Int) (w : World) (h : RowIn .u8 w a len cap zs) :
    Calls Try.prog 14 #[.slice a len cap] w fun e w' => e = .returned (.bool true) ∧ Below w.heap.size w w' := by
  have hlen : len ≤ 9223372036854775807 := by
    obtain ⟨_, h2, h3⟩ := bytesAt_of_row h; unfold maxLen at h3; omega
  by_cases hbig : len ≤ 1048576
  · go_enter Try.func14, Try.ntmps14
    go_wp2_with fail
    refine (drawWordCells_any w a len cap zs h).mono ?_
    rintro e w1 ⟨S, g, n, c1, Q, s, rfl, hTO, HN, hF, hn9, hS1, hb1, hs⟩
    clear h
    have hx1 := hTO.at
    have hnt : (tabOf Q).length = n := by rw [tabOf_len]; exact HN.out
    clear hTO HN hS1
    generalize tabOf Q = T at hx1 hF hnt
    clear Q
    obtain ⟨C, HS, HI, h16, HP⟩ := wc_lists T s n hnt hF hs
    have HF := keptH hF
    have HNT := Lib.hid hnt
    have HPP := keptH HP
    clear hF hnt HP
    go_wp2_with fail
    refine (HI.out w1 _ hx1).mono ?_
    rintro e w2 ⟨v2, rfl, hO2, hb2, a2, n2, c2, rfl⟩
    have hx2 := hx1.below hb2
    have hB2 := below_next hb1 hb2
    have hI2 := hO2.at
    have HL := Lib.hid (ListMade.len hO2)
    clear hx1 hb1 hb2 hO2
    go_wp2_with fail
    refine (HS.out w2 _ _ hx2).mono ?_
    rintro e w3 ⟨v3, rfl, hO3, hb3, a3, n3, c3, rfl⟩
    have hx3 := hx2.below hb3
    have hB3 := below_next hB2 hb3
    have hI3 := hI2.below hb3
    have hJ3 := hO3.at
    clear hx2 hB2 hb3 hI2 hO3
    go_wp2_with fail
    refine (equalInts_h w3 _ _ C hI3 hJ3).mono ?_
    rintro e w4 ⟨rfl, hb4⟩
    have hx4 := hx3.below hb4
    have hB4 := below_next hB3 hb4
    have hI4 := hI3.below hb4
    clear hx3 hB3 hb4 hI3 hJ3
    by_cases h0 : n2 = 0
    · subst h0
      go_wp2_with fail
      refine (HS.out w4 _ _ hx4).mono ?_
      rintro e w5 ⟨v5, rfl, hO5, hb5, a5, n5, c5, rfl⟩
      have hB5 := below_next hB4 hb5
      have hI5 := hI4.below hb5
      have hJ5 := hO5.at
      clear hb5 hO5 hI4 hB4
      go_wp2_with fail
      refine (equalInts_h w5 _ _ C hI5 hJ5).mono ?_
      rintro e w6 ⟨rfl, hb6⟩
      have FIN := keptH (below_next hB5 hb6)
      clear hI5 hJ5 hb6 hB5
      go_wp2
      go_ret
      exact ⟨rfl, FIN.out⟩
    · obtain HQ : Hid (WcFacts T s C) := by
        rcases HPP.out with rfl | h
        · exact absurd HL.out (by simp; omega)
        · exact h
      have q0 : ((n2 : Int) == 0) = false := by simp; omega
      have hn16 : n2 ≤ 16 := by have := HL.out; omega
      have HX4 := keptH hx4
      have HB4 := keptH hB4
      have HI4 := keptH hI4
      clear HPP hx4 hB4 hI4 h0
      have hsl : 1 ≤ s.size ∧ s.size ≤ 16 := by have h1 := HQ.out.ok.2.1; have h2 := HQ.out.ok.2.2.1; rw [wd_size] at h1 h2; exact ⟨h1, h2⟩
      have HU0 : Hid ((⟨#[]⟩ : ByteArray) = upS s 0) := (show _ = _ from rfl)
      go_wp2
      go_loopw [6, 7] (fun q i wr => ∃ (k : Nat) (u : ByteArray), k ≤ s.size ∧ i = .int .i64 k ∧ q = .string u ∧ Hid (u = upS s k) ∧ w4 = wr) (fun _ i _ => s.size - (intOf i).toNat)
      case atStart => exact ⟨0, _, Nat.zero_le _, rfl, rfl, HU0, rfl⟩
      case round =>
        clear HU0
        obtain ⟨k, u, hk, rfl, rfl, HU, rfl⟩ := hrel
        by_cases hlt : k < s.size
        · obtain ⟨j, hj, hc, _⟩ := small_at HQ.out.ok.2 hlt
          have HS1 : Hid (u ++ abcS.extract j (j + 1) = upS s (k + 1)) := by show _ = _; rw [HU.out, upS_succ hlt hj hc]
          have husz : u.size ≤ 16 := by rw [HU.out, upS_size s k hk]; omega
          have hasz : (abcS.extract j (j + 1)).size = 1 := by rw [abc_at j hj]; rfl
          have u1 : IntKind.u8.wrap (j : Int) = (j : Int) := IntWalk.u8_in _ (by omega)
          have u2 : IntKind.i64.wrap (j : Int) = (j : Int) := IntWalk.i64_in _ (by omega)
          have u3 : IntKind.i64.wrap ((j : Int) + 1) = (j : Int) + 1 := IntWalk.i64_in _ (by omega)
          have b1 : (0 : Int) ≤ (j : Int) := by omega
          have b2 : (j : Int) + 1 ≤ 26 := by omega
          have b3 : (j : Int) ≤ (j : Int) + 1 := by omega
          have b4 : ((j : Int) + 1).toNat = j + 1 := by omega
          have c1 : (0 : Int) ≤ (k : Int) := by omega
          have c2 : (k : Int) < (s.size : Int) := by omega
          go_wp2
          go_roundw
          case rel => exact ⟨k + 1, _, by omega, by go_num, rfl, HS1, by first | trivial | rfl⟩
          case measure => simp [intOf]; omega
        · obtain rfl : k = s.size := by omega
          have HVU : Hid (ValidT u.data.toList) := by show ValidT _; rw [HU.out]; exact up_text HQ.out.ok.2
          have HVS : Hid (ValidT s.data.toList) := word_text HQ.out.ok.2
          have HUC : Hid (plainC u.data.toList = (if 1 < s.size then [32, 32] else [32]) ++ plainC s.data.toList) := by show _ = _; rw [HU.out]; exact up_cells HQ.out.ok.2
          have HO1 : Hid (OwnInts (w4.alloc (.cells #[.int .i64 32] 3)) w4.heap.size (.slice (some ⟨w4.heap.size, 0, none⟩) 1 1) [32]) := own_lit w4 32
          have HBa : Hid (Below w4.heap.size w4 (w4.alloc (.cells #[.int .i64 32] 3))) := (Below.refl _ _).alloc (Nat.le_refl _) _
          have HPS : Hid ((plainC s.data.toList).length ≤ 100) := by
            show _ ≤ _
            have h3 := word_bytes HQ.out.ok.2
            rw [plainC_small h3.1 h3.2.2, List.length_map]
            omega
          clear HU
          by_cases h1 : 1 < s.size
          · have d1 : decide ((1 : Int) < (s.size : Int)) = true := decide_eq_true (by omega)
            obtain ⟨i0, hi, hz0, hz1, hz2⟩ := info_parts infoInt
            have HUC2 : Hid (plainC u.data.toList = [32, 32] ++ plainC s.data.toList) := by have h9 := HUC.out; rw [if_pos h1] at h9; exact h9
            have hO2 := HO1.out.alloc (.cells #[.int .i64 32] 3)
            have hnw : ∀ j u, [Value.int .i64 32][j]? = some u → ((w4.alloc (.cells #[.int .i64 32] 3)).alloc (.cells #[.int .i64 32] 3)).cell? ((⟨w4.heap.size + 1, 0, none⟩ : Addr).add j) = some u := by
              have h9 := new_one (w := w4.alloc (.cells #[.int .i64 32] 3)) (t := 3) (z := 32)
              rw [World.size_alloc] at h9
              exact h9
            have HNW := keptH hnw
            clear HUC hnw
            go_wp2_with (at_builtin; refine wpList_append_own _ rfl _ _ 31 rfl w4.heap.size 3 i0 (.int .i64 0) 1 8 Try.underlying31 hi hz0 hz1 hz2 rfl (by decide) _ _ _ rfl hO2 ⟨w4.heap.size + 1, 0, none⟩ 1 1 [.int .i64 32] rfl rfl HNW.out one_cell (by unfold maxLen; simp) (by simp) (by simp; omega) ?_)
            intro v' w5 hown' hgrow _
            have hO5 : OwnInts w5 w4.heap.size v' ([32] ++ [32]) := OwnInts.snoc hown'
            obtain ⟨a5, n5, c5, rfl⟩ := hO5.isSlice'
            obtain ⟨g5, rfl, _, _, _⟩ := hO5.addrH (by simp)
            have HO5 := keptH hO5
            have HB5 : Hid (Below w4.heap.size w4 w5) := (((Below.refl _ _).alloc (Nat.le_refl _) _).alloc (by simp) _).grown hgrow (by simp; omega) (fun q hq => (hO2.lt q hq).1)
            have hs5 := HB5.out.size
            clear hown' hgrow hO5 hO2
            go_wp2_with fail
            refine (i_PlainCells u u.data.toList _ (Txt.of u) rfl HVU.out).mono ?_
            rintro e w6 ⟨v6, rfl, hO6, hb6, a6, n6, c6, rfl⟩
            have HJ6 := keptH hO6.at
            have HO6 := keptH (HO5.out.below hb6)
            have HB6 := keptH (below_next HB5.out hb6)
            clear hO6 hb6
            go_wp2_with fail
            refine (i_PlainCells s s.data.toList w6 (Txt.of s) rfl HVS.out).mono ?_
            rintro e w7 ⟨v7, rfl, hO7, hb7, a7, n7, c7, rfl⟩
            have HJ7 := keptH (HJ6.out.below hb7)
            have HO7 := keptH (HO6.out.below hb7)
            have HK7 := keptH hO7
            have HB7 := keptH (below_next HB6.out hb7)
            clear hO7 hb7 HJ6 HO6 HB6
            go_wp2_with fail
            refine (join_q w7 _ _ _ _ _ _ _ _ _ _ HO7.out HK7.out (by simp) (by have := HPS.out; omega)).mono ?_
            rintro e w8 ⟨v8, rfl, hO8, hb8, a8, n8, c8, rfl⟩
            have HI8 := keptH (HJ7.out.below hb8)
            have HK8 := hO8.at
            have e88 : ([32] ++ [32] : List Int) = [32, 32] := rfl
            rw [e88, ← HUC2.out] at HK8
            have HB8 := keptH (below_next HB7.out hb8)
            clear hO8 hb8
            go_wp2_with fail
            refine (equalInts_h w8 _ _ _ HI8.out HK8).mono ?_
            rintro e w9 ⟨rfl, hb9⟩
            have FIN := keptH (below_next HB4.out (below_next HB8.out hb9))
            clear hb9 HK8
            go_wp2
            go_ret
            exact ⟨rfl, FIN.out⟩
          · have d1 : decide ((1 : Int) < (s.size : Int)) = false := decide_eq_false (by omega)
            have HUC2 : Hid (plainC u.data.toList = [32] ++ plainC s.data.toList) := by have h9 := HUC.out; rw [if_neg h1] at h9; exact h9
            clear HUC
            go_wp2_with fail
            refine (i_PlainCells u u.data.toList _ (Txt.of u) rfl HVU.out).mono ?_
            rintro e w6 ⟨v6, rfl, hO6, hb6, a6, n6, c6, rfl⟩
            have HJ6 := keptH hO6.at
            have HO6 := keptH (HO1.out.below hb6)
            have HB6 := keptH (below_next HBa.out hb6)
            clear hO6 hb6
            go_wp2_with fail
            refine (i_PlainCells s s.data.toList w6 (Txt.of s) rfl HVS.out).mono ?_
            rintro e w7 ⟨v7, rfl, hO7, hb7, a7, n7, c7, rfl⟩
            have HJ7 := keptH (HJ6.out.below hb7)
            have HO7 := keptH (HO6.out.below hb7)
            have HK7 := keptH hO7
            have HB7 := keptH (below_next HB6.out hb7)
            clear hO7 hb7 HJ6 HO6 HB6
            go_wp2_with fail
            refine (join_q w7 _ _ _ _ _ _ _ _ _ _ HO7.out HK7.out (by simp) (by have := HPS.out; omega)).mono ?_
            rintro e w8 ⟨v8, rfl, hO8, hb8, a8, n8, c8, rfl⟩
            have HI8 := keptH (HJ7.out.below hb8)
            have HK8 := hO8.at
            rw [← HUC2.out] at HK8
            have HB8 := keptH (below_next HB7.out hb8)
            clear hO8 hb8
            go_wp2_with fail
            refine (equalInts_h w8 _ _ _ HI8.out HK8).mono ?_
            rintro e w9 ⟨rfl, hb9⟩
            have FIN := keptH (below_next HB4.out (below_next HB8.out hb9))
            clear hb9 HK8
            go_wp2
            go_ret
            exact ⟨rfl, FIN.out⟩
  · have hbig' : 1048576 < len := by omega
    go_enter Try.func14, Try.ntmps14
    go_wp2
    go_ret
    exact ⟨rfl, Below.refl _ _⟩
end Go.Proofs.Ytnahamhjcdkkkaa
