
/- Laws of the events of codes. -/
import Derived.Test.YtjedkmhmkipkdaaBq
import Derived.Deep.RegionHeld3
namespace Go.Proofs.Ytjedkmhmkipkdaa
open Go.RowKit

theorem keysL_ne {zs : List Int} (h : keysL zs ≠ []) : CodesOk zs ∧ keysL zs = evL zs := by
  unfold keysL at h ⊢
  by_cases hc : CodesOk zs
  · exact ⟨hc, if_pos hc⟩
  · exact absurd (if_neg hc) h
theorem evL_bt (zs : List Int) : Between (-7) 7 (evL zs) := by
  intro z hz
  unfold evL at hz
  rw [List.mem_flatten] at hz
  obtain ⟨l, hl, hz⟩ := hz
  obtain ⟨y, _, rfl⟩ := List.mem_map.1 hl
  have hk : ∀ z ∈ keysUp y.toNat 7, 1 ≤ z ∧ z ≤ 7 := by
    intro z hz
    obtain ⟨i, hi, rfl⟩ := List.getElem_of_mem hz
    have := keysUp_getD_mem (c := y.toNat) hi
    rwa [List.getD_eq_getElem?_getD, List.getElem?_eq_getElem hi, Option.getD_some] at this
  unfold codeEv at hz
  rcases List.mem_append.1 hz with hz | hz
  · have := hk z hz; omega
  · rw [relUp_map, List.mem_map] at hz
    obtain ⟨x, hx, rfl⟩ := hz
    have := hk x hx; omega
set_option maxHeartbeats 2000000 in
theorem keysOf_walk (a : Option Addr) (len cap : Nat) (zs : List Int) (w : World) (h : RowIn .u8 w a len cap zs) :
    Calls Try.prog 7 #[.slice a len cap] w fun e w' => e = .returned (.bool true) ∧ Below w.heap.size w w' := by
  have hlen : len ≤ 9223372036854775807 := by
    obtain ⟨_, h2, h3⟩ := bytesAt_of_row h; unfold maxLen at h3; omega
  by_cases hbig : len ≤ 1048576
  · go_enter Try.func7, Try.ntmps7
    go_wp2_with fail
    refine (drawKeysOf_any w a len cap zs h).mono ?_
    rintro e w1 ⟨a1, n1, c1, E, rfl, hO, hn, hm, hbt, hB⟩
    clear h
    have HN := keptE hn
    have HF := keptE (hbt.fits (by omega) (by omega))
    have HE1 := keptE hO.sh
    have HB1 := keptE hB
    obtain ⟨L, hr⟩ : ∃ L, keysL E = L := ⟨_, rfl⟩
    have HR := keptE hr
    clear hr hn hbt hO hB
    go_wp2_with fail
    refine (i_KeysOf w1 _ E L HE1.out.1 HF.out HR).mono ?_
    rintro e w2 ⟨a2, n2, c2, rfl, hO2, hb2⟩
    have HN2 := keptE hO2.lenB
    have HO2 := keptE hO2.sh
    have HE2 := keptE (HE1.out.below hb2)
    have HB2 := keptE (below_next HB1.out hb2)
    have hcap2 : n2 ≤ 9223372036854775807 := by
      obtain ⟨_, _, e, e1, e2, _⟩ := hO2.at
      injection e with _ e3 e4
      omega
    clear hO2 hb2 HE1 HB1
    go_wp2_with fail
    refine (s_KeysOf w2 _ E L HE2.out.1 HF.out HR).mono ?_
    rintro e w3 ⟨a3, n3, c3, rfl, hO3, hb3⟩
    have HS3 := keptE hO3.at
    have HO3 := keptE (HO2.out.below hb3)
    have HE3 := keptE (HE2.out.below hb3)
    have HB3 := keptE (below_next HB2.out hb3)
    clear hO3 hb3 HE2 HB2 HO2
    go_wp2_with fail
    refine (equalInts_sameB w3 _ _ L HO3.out.1 HS3.out).mono ?_
    rintro e w4 ⟨rfl, hb4⟩
    have HS4 := keptE (HS3.out.below hb4)
    have HO4 := keptE (HO3.out.below hb4)
    have HE4 := keptE (HE3.out.below hb4)
    have HB4 := keptE (below_next HB3.out hb4)
    clear hb4 HE3 HB3 HO3 HS3
    by_cases h0 : n2 = 0
    · subst h0
      go_wp2_with fail
      refine (s_KeysOf w4 _ E L HE4.out.1 HF.out HR).mono ?_
      rintro e w5 ⟨a5, n5, c5, rfl, hO5, hb5⟩
      have HS5 := keptE hO5.at
      have HO5 := keptE (HO4.out.below hb5)
      have HB5 := keptE (below_next HB4.out hb5)
      clear hO5 hb5
      go_wp2_with fail
      refine (equalInts_sameB w5 _ _ L HO5.out.1 HS5.out).mono ?_
      rintro e w6 ⟨rfl, hb6⟩
      have HB6 := keptE (below_next HB5.out hb6)
      clear hb6
      go_wp2
      go_ret
      exact ⟨rfl, HB6.out⟩
    · have e0 : ((n2 : Int) == 0) = false := by simp; omega
      have hce := keysL_ne (zs := E) (by rw [HR.out]; intro e; rw [e] at HN2; exact h0 HN2.out.symm)
      rw [HR.out] at hce
      obtain ⟨hc, hLe⟩ := hce
      have hok := evL_play hc
      rw [← hLe] at hok
      have HK := keptE hok.1
      have HP := keptE hok.2
      have HFL : Hid (Fits L) := by show Fits L; rw [hLe]; exact (evL_bt E).fits (by omega) (by omega)
      clear hc hLe hok h0
      go_wp2_with fail
      refine (i_ValidKeys w4 _ L true HO4.out.1 HFL.out HK).mono ?_
      rintro e w' ⟨rfl, rfl⟩
      go_wp2_with fail
      refine (i_PlayKeys w4 _ L E HO4.out.1 HFL.out HP).mono ?_
      rintro e w5 ⟨a5, n5, c5, rfl, hO5, hb5⟩
      have HP5 := keptE hO5.at
      have HE5 := keptE (HE4.out.below hb5)
      have HB5 := keptE (below_next HB4.out hb5)
      clear hO5 hb5
      go_wp2_with fail
      refine (equalInts_sameB w5 _ _ E HP5.out HE5.out.1).mono ?_
      rintro e w6 ⟨rfl, hb6⟩
      have HB6 := keptE (below_next HB5.out hb6)
      clear hb6
      go_wp2
      go_ret
      exact ⟨rfl, HB6.out⟩
  · go_enter Try.func7, Try.ntmps7
    go_wp2
    go_ret
    exact ⟨rfl, Below.refl _ _⟩
end Go.Proofs.Ytjedkmhmkipkdaa
