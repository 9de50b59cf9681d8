
/- FnRulesAtLess: its walk. -/
import Derived.Test.YtohgglhjcklbaaaVv
namespace Go.Proofs.Ytohgglhjcklbaaa
open Go.RowKit

set_option maxHeartbeats 4000000 in
theorem rulesAtLess_walk (a : Option Addr) (len cap : Nat) (zs : List Int) (w : World) (h : RowIn .u8 w a len cap zs) :
    Calls Try.prog 9 #[.slice a len cap] w fun e w' => e = .returned (.bool true) ∧ Below w.heap.size w w' := by
  have hlen : len ≤ 9223372036854775807 := by
    obtain ⟨_, h2, h3⟩ := bytesAt_of_row h; unfold maxLen at h3; omega
  by_cases hbig : len ≤ 1048576
  · go_enter Try.func9, Try.ntmps9
    go_wp2_with fail
    refine (drawRulesAt_any w a len cap zs h).mono ?_
    rintro e w1 ⟨S, g, n, c1, Q, s, p, rfl, hTO, HN, hF, hn9, _, hb1, hs, hp0, hp1⟩
    clear h
    have hx1 := hTO.at
    have hnt : (tabOf Q).length = n := by rw [tabOf_len]; exact HN.out
    clear hTO HN
    generalize tabOf Q = T at hx1 hF hnt
    clear Q
    obtain ⟨L, L', c, HS, HI, HI', HC, HL, HL'⟩ := less_lists T s p n hnt hF hn9 hs hp0 hp1
    have hnc : n ≤ c1 ∧ c1 ≤ 9223372036854775807 := by
      obtain ⟨_, _, e, x1, x2, _⟩ := hx1
      injection e with _ e2 e3
      subst e3
      omega
    obtain ⟨b, HB⟩ : ∃ b : Bool, Hid (b = true ↔ ValidTb T) := by
      by_cases hv : ValidTb T
      · exact ⟨true, show _ ↔ _ from ⟨fun _ => hv, fun _ => rfl⟩⟩
      · exact ⟨false, show _ ↔ _ from ⟨fun e => by simp at e, fun e => absurd e hv⟩⟩
    have HF := keptH hF
    have HNT := Lib.hid hnt
    clear hF hnt
    go_wp2_with fail
    refine (HI.out w1 _ hx1).mono ?_
    rintro e w2 ⟨v2, rfl, hO2, hb2, a2, n2, c2, rfl⟩
    have hx2 := hx1.below hb2
    have hB2 := below_next hb1 hb2
    clear hx1 hb1 hb2
    go_wp2_with fail
    refine (HS.out w2 _ hx2).mono ?_
    rintro e w3 ⟨v3, rfl, hO3, hb3, a3, n3, c3, rfl⟩
    have hx3 := hx2.below hb3
    have hB3 := below_next hB2 hb3
    have hI3 := (hO2.below hb3).at
    have hJ3 := hO3.at
    clear hx2 hB2 hb3 hO2 hO3
    go_wp2_with fail
    refine (equalInts_alike w3 _ _ L hI3 hJ3).mono ?_
    rintro e w4 ⟨rfl, hb4⟩
    have hx4 := hx3.below hb4
    have hB4 := below_next hB3 hb4
    have hI4 := hI3.below hb4
    clear hx3 hB3 hb4 hI3 hJ3
    go_wp2_with fail
    refine (i_ValidTable w4 _ T b hx4 HF.out HB).mono ?_
    rintro e w5 ⟨rfl, hb5⟩
    have hx5 := hx4.below hb5
    have hB5 := below_next hB4 hb5
    have hI5 := hI4.below hb5
    clear hx4 hB4 hb5 hI4
    have OUT : Hid (∃ dn : Bool, dn = true) := ⟨true, rfl⟩
    by_cases hgo : b = true ∧ n ≠ 0
    · obtain ⟨rfl, hn0⟩ := hgo
      have HV : Hid (ValidTb T) := HB.out.1 rfl
      clear HB
      have d0 : ((n : Int) == 0) = false := by simp; omega
      have hx5' := hx5.takeN HNT.out (k := n - 1) (by omega)
      have b1 : (0 : Int) ≤ (n : Int) - 1 := by omega
      have b2 : (n : Int) - 1 ≤ (c1 : Int) := by omega
      have u1 : IntKind.i64.wrap ((n : Int) - 1) = (n : Int) - 1 := IntWalk.i64_in _ (by omega)
      have u2 : ((n : Int) - 1).toNat = n - 1 := by omega
      have H5 := keptH hI5
      clear hI5 hx5
      go_wp2_with fail
      refine (HI'.out HV.out w5 _ hx5').mono ?_
      rintro e w6 ⟨v6, rfl, hO6, hb6, a6, n6, c6, rfl⟩
      have hB6 := below_next hB5 hb6
      have hI6 := H5.out.below hb6
      clear hx5' H5 hb6 hB5
      cases c with
      | false =>
        have HL2 : Hid (L' = L) := by have := HL.out (by omega); simp at this; exact this
        go_wp2_with fail
        refine (isIn_told w6 _ L _ false hI6 (HC.out (by omega))).mono ?_
        rintro e w' ⟨rfl, rfl⟩
        have hJ6 := hO6.at
        rw [HL2.out] at hJ6
        clear hO6
        go_wp2_with fail
        refine (equalInts_alike w6 _ _ L hJ6 hI6).mono ?_
        rintro e w7 ⟨rfl, hb7⟩
        have FIN := keptH (below_next hB6 hb7)
        clear hJ6 hI6 hb7 hB6
        go_wp2
        go_ret
        exact ⟨rfl, FIN.out⟩
      | true =>
        have HL2 : Hid (L' ++ [(n : Int) - 1] = L) := by have := HL.out (by omega); simp only [if_true] at this; exact this
        go_wp2_with fail
        refine (isIn_told w6 _ L _ true hI6 (HC.out (by omega))).mono ?_
        rintro e w' ⟨rfl, rfl⟩
        have hE := OwnInts.made w6 w6.heap.size (Nat.le_refl _)
        have hBE : Below w6.heap.size w6 (w6.alloc (.cells #[] 3)) := (Below.refl _ _).alloc (Nat.le_refl _) _
        have hO6' := hO6.alloc (.cells #[] 3)
        have HI6 := keptH hI6
        have HB6 := keptH hB6
        clear hO6 hI6 hB6
        have hl0 : ([] : List Int).length + L'.length ≤ 1000000 := by have := HL'.out; simp; omega
        go_wp2_with (at_builtin; go_loud (refine wpList_append_ints rfl _ _ rfl w6.heap.size _ rfl rfl hE hO6' hl0 (by simp) ?_))
        intro v9 w7 hO9 hgr9
        obtain ⟨a9, n9, c9, rfl⟩ := hO9.isSlice'
        have hO9 : OwnInts w7 w6.heap.size (.slice a9 n9 c9) L' := hO9
        have hB7 : Below w6.heap.size w6 w7 := hBE.grown hgr9 (by simp) (fun k hk => (hE.lt k hk).1)
        have hs7 := hB7.size
        clear hgr9 hE hBE hO6' hl0
        have hl9 : L'.length + 1 ≤ maxLen := by have := HL'.out; unfold maxLen; omega
        have hl10 : (L'.length + 1) * 8 ≤ 140737488355328 := by have := HL'.out; omega
        obtain ⟨i0, hi, hz0, hz1, hz2⟩ := info_parts infoInt
        go_wp2_with (at_builtin; go_loud (refine wpList_append_own _ rfl _ _ 36 rfl w6.heap.size 3 i0 (.int .i64 0) 1 8 Try.underlying36 hi hz0 hz1 hz2 rfl (by decide) _ _ _ rfl (hO9.alloc _) ⟨w7.heap.size, 0, none⟩ 1 1 [.int .i64 ((n : Int) - 1)] rfl rfl new_one one_cell hl9 hl10 (by simp; omega) ?_))
        intro v10 w8 hown10 hgr10 _
        have hO10 := OwnInts.snoc hown10
        rw [HL2.out] at hO10
        have hB8 := below_append hB7 hs7 hO9 hgr10
        clear hown10 hgr10 hO9 hB7
        obtain ⟨a10, n10, c10, rfl⟩ := hO10.isSlice'
        have hJ8 := hO10.at
        have hI8 := HI6.out.below hB8
        have hB9 := below_next HB6.out hB8
        clear hO10 hB8
        go_wp2_with fail
        refine (equalInts_alike w8 _ _ L hJ8 hI8).mono ?_
        rintro e w9 ⟨rfl, hb9⟩
        have FIN := keptH (below_next hB9 hb9)
        clear hJ8 hI8 hb9 hB9
        go_wp2
        go_ret
        exact ⟨rfl, FIN.out⟩
    · cases b with
      | false =>
        go_wp2_with fail
        refine (HS.out w5 _ hx5).mono ?_
        rintro e w6 ⟨v6, rfl, hO6, hb6, a6, n6, c6, rfl⟩
        have hB6 := below_next hB5 hb6
        have hI6 := hI5.below hb6
        have hJ6 := hO6.at
        clear hx5 hB5 hb6 hI5 hO6
        go_wp2_with fail
        refine (equalInts_alike w6 _ _ L hI6 hJ6).mono ?_
        rintro e w7 ⟨rfl, hb7⟩
        have FIN := keptH (below_next hB6 hb7)
        clear hJ6 hI6 hb7 hB6
        go_wp2
        go_ret
        exact ⟨rfl, FIN.out⟩
      | true =>
        have hn0 : n = 0 := by
          rcases Nat.eq_zero_or_pos n with h0 | h0
          · exact h0
          · exact absurd ⟨rfl, by omega⟩ hgo
        subst hn0
        clear hgo
        go_wp2_with fail
        refine (HS.out w5 _ hx5).mono ?_
        rintro e w6 ⟨v6, rfl, hO6, hb6, a6, n6, c6, rfl⟩
        have hB6 := below_next hB5 hb6
        have hI6 := hI5.below hb6
        have hJ6 := hO6.at
        clear hx5 hB5 hb6 hI5 hO6
        go_wp2_with fail
        refine (equalInts_alike w6 _ _ L hI6 hJ6).mono ?_
        rintro e w7 ⟨rfl, hb7⟩
        have FIN := keptH (below_next hB6 hb7)
        clear hJ6 hI6 hb7 hB6
        go_wp2
        go_ret
        exact ⟨rfl, FIN.out⟩
  · have hbig' : 1048576 < len := by omega
    go_enter Try.func9, Try.ntmps9
    go_wp2
    go_ret
    exact ⟨rfl, Below.refl _ _⟩
end Go.Proofs.Ytohgglhjcklbaaa
