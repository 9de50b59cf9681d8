
/- The draws of events, and laws of played events. -/
import Derived.Test.YtjedkmhmkipkdaaBj
import Derived.Test.YtjedkmhmkipkdaaBg
import Derived.Test.YtjedkmhmkipkdaaEb
import Derived.Test.YtjedkmhmkipkdaaEqInts
namespace Go.Proofs.Ytjedkmhmkipkdaa
open Go.RowKit

/-- a drawn list of numbers -/
def DrawnInts (lo hi : Int) (most : Nat) (w : World) (e : Ending) (w' : World) : Prop :=
  ∃ a n c zs, e = .returned (.slice a n c) ∧ OwnInts w' w.heap.size (.slice a n c) zs ∧ zs.length = n ∧ n ≤ most ∧ Between lo hi zs ∧ Below w.heap.size w w'
theorem drawn_of {lo hi : Int} {most more : Nat} {w w1 w2 : World} {B L : Nat} {e : Ending} (hgr : w.grownBy w1 none) (h : CellsDrawn lo hi most more w1 B w.heap.size L 0 e w2) : DrawnInts lo hi most w e w2 := by
  obtain ⟨v, zs, p', rfl, hO, hb, hl, _, _, hg, a, n, c, rfl⟩ := h
  have hn : zs.length = n := by obtain ⟨_, _, e, _⟩ := hO.at; injection e with _ e2 _; exact e2.symm
  exact ⟨a, n, c, zs, rfl, hO.low hgr.size, hn, by omega, hb, below_of_grown (grown_new hgr hg (Nat.le_refl _))⟩
set_option maxHeartbeats 400000 in
theorem drawValidKeys_any (w : World) (a : Option Addr) (len cap : Nat) (zs : List Int) (h : RowIn .u8 w a len cap zs) :
    Calls Try.prog 14 #[.slice a len cap] w fun e w' => DrawnInts (-8) 8 40 w e w' := by
  obtain ⟨h1, h2, h3⟩ := bytesAt_of_row h
  clear h
  go_enter Try.func14, Try.ntmps14
  go_wp2_with fail
  refine (newReader_any w _ a len cap h1 (Nat.le_refl _) h2 h3).mono ?_
  rintro e w1 ⟨L, rfl, hrd, hgr⟩
  go_wp2_with fail
  refine (someEvents_any w1 _ _ L 0 hrd (by omega)).mono ?_
  rintro e w2 hd
  obtain ⟨a, n, c, zs, rfl, hO, hn, hm, hb, hB⟩ := drawn_of hgr hd
  have HN := keptE hn
  clear hn hd
  go_wp2
  go_ret
  exact ⟨a, n, c, zs, rfl, hO, HN.out, hm, hb, hB⟩
set_option maxHeartbeats 400000 in
theorem drawPlayKeys_any (w : World) (a : Option Addr) (len cap : Nat) (zs : List Int) (h : RowIn .u8 w a len cap zs) :
    Calls Try.prog 19 #[.slice a len cap] w fun e w' => DrawnInts (-8) 8 40 w e w' := by
  obtain ⟨h1, h2, h3⟩ := bytesAt_of_row h
  clear h
  go_enter Try.func19, Try.ntmps19
  go_wp2_with fail
  refine (newReader_any w _ a len cap h1 (Nat.le_refl _) h2 h3).mono ?_
  rintro e w1 ⟨L, rfl, hrd, hgr⟩
  go_wp2_with fail
  refine (someEvents_any w1 _ _ L 0 hrd (by omega)).mono ?_
  rintro e w2 hd
  obtain ⟨a, n, c, zs, rfl, hO, hn, hm, hb, hB⟩ := drawn_of hgr hd
  have HN := keptE hn
  clear hn hd
  go_wp2
  go_ret
  exact ⟨a, n, c, zs, rfl, hO, HN.out, hm, hb, hB⟩
theorem equalInts_sameB (w : World) (u v : Value) (zs : List Int) (hx : IntsAt w u zs) (hy : IntsAt w v zs) :
    Calls Try.prog 21 #[u, v] w fun e w' => e = .returned (.bool true) ∧ Below w.heap.size w w' := by
  have := equalInts_any w u v zs zs hx hy
  rwa [decide_eq_true (rfl : zs = zs)] at this
theorem OwnInts.lenB {w : World} {base n c : Nat} {a : Option Addr} {zs : List Int} (h : OwnInts w base (.slice a n c) zs) : zs.length = n := by
  obtain ⟨_, _, e, _⟩ := h.at
  injection e with _ e2 _
  exact e2.symm
/-- P106's tail: what is played of drawn events twice -/
theorem playL_twice {zs : List Int} (hk : okKs zs = true) (hl : 2 * zs.length ≤ 280) : playL (zs ++ zs) = playL zs ++ playL zs := by
  obtain ⟨h1, x, hx⟩ := (okKs_iff zs).1 hk
  rw [playL_runs h1 hx, playL_runs (by rw [List.length_append]; omega) (hx.append hx)]
theorem okKs_twice {zs : List Int} (hk : okKs zs = true) (hl : 2 * zs.length ≤ 280) : okKs (zs ++ zs) = true := by
  obtain ⟨h1, x, hx⟩ := (okKs_iff zs).1 hk
  exact (okKs_iff _).2 ⟨by rw [List.length_append]; omega, _, hx.append hx⟩
theorem playL_bounds (zs : List Int) : (∀ z ∈ playL zs, 1 ≤ z ∧ z ≤ 127) ∧ 2 * (playL zs).length ≤ zs.length := by
  by_cases h : okKs zs = true
  · obtain ⟨hl, x, hx⟩ := (okKs_iff zs).1 h
    rw [playL_runs hl hx]
    exact hx.bounds
  · rw [playL_bad (by simpa using h)]; exact ⟨by simp, by simp⟩
set_option maxHeartbeats 2000000 in
theorem playKeysTwice_walk (a : Option Addr) (len cap : Nat) (zs : List Int) (w : World) (h : RowIn .u8 w a len cap zs) :
    Calls Try.prog 5 #[.slice a len cap] w fun e w' => e = .returned (.bool true) ∧ Below w.heap.size w w' := by
  have hlen : len ≤ 9223372036854775807 := by
    obtain ⟨_, h2, h3⟩ := bytesAt_of_row h; unfold maxLen at h3; omega
  by_cases hbig : len ≤ 1048576
  · go_enter Try.func5, Try.ntmps5
    go_wp2_with fail
    refine (drawPlayKeys_any w a len cap zs h).mono ?_
    rintro e w1 ⟨a1, n1, c1, E, rfl, hO, hn, hm, hbt, hB⟩
    clear h
    have HN := keptE hn
    have HF := keptE (hbt.fits (by omega) (by omega))
    have HE1 := keptE hO.sh
    have HB1 := keptE hB
    obtain ⟨L, hr⟩ : ∃ L, playL E = L := ⟨_, rfl⟩
    have HR := keptE hr
    have HLL : Hid (L.length ≤ 20) := by show _ ≤ _; have := (playL_bounds E).2; rw [hr, hn] at this; omega
    clear hr hn hbt hO hB
    go_wp2_with fail
    refine (i_PlayKeys w1 _ E L HE1.out.1 HF.out HR).mono ?_
    rintro e w2 ⟨a2, n2, c2, rfl, hO2, hb2⟩
    have HO2 := keptE hO2.sh
    have HE2 := keptE (HE1.out.below hb2)
    have HB2 := keptE (below_next HB1.out hb2)
    clear hO2 hb2 HE1 HB1
    go_wp2_with fail
    refine (s_PlayKeys w2 _ E L HE2.out.1 HF.out HR).mono ?_
    rintro e w3 ⟨a3, n3, c3, rfl, hO3, hb3⟩
    have HS3 := keptE hO3.at
    have HO3 := keptE (HO2.out.below hb3)
    have HE3 := keptE (HE2.out.below hb3)
    have HB3 := keptE (below_next HB2.out hb3)
    clear hO3 hb3 HE2 HB2 HO2
    go_wp2_with fail
    refine (equalInts_sameB w3 _ _ L HO3.out.1 HS3.out).mono ?_
    rintro e w4 ⟨rfl, hb4⟩
    have HS4 := keptE (HS3.out.below hb4)
    have HO4 := keptE (HO3.out.below hb4)
    have HE4 := keptE (HE3.out.below hb4)
    have HB4 := keptE (below_next HB3.out hb4)
    clear hb4 HE3 HB3 HO3 HS3
    obtain ⟨b, hb⟩ : ∃ b, okKs E = b := ⟨_, rfl⟩
    have HK := keptE hb
    clear hb
    go_wp2_with fail
    refine (i_ValidKeys w4 _ E b HE4.out.1 HF.out HK).mono ?_
    rintro e w' ⟨rfl, rfl⟩
    cases b with
    | false =>
      go_wp2_with fail
      refine (s_PlayKeys w4 _ E L HE4.out.1 HF.out HR).mono ?_
      rintro e w5 ⟨a5, n5, c5, rfl, hO5, hb5⟩
      have HS5 := keptE hO5.at
      have HO5 := keptE (HO4.out.below hb5)
      have HB5 := keptE (below_next HB4.out hb5)
      clear hO5 hb5
      go_wp2_with fail
      refine (equalInts_sameB w5 _ _ L HO5.out.1 HS5.out).mono ?_
      rintro e w6 ⟨rfl, hb6⟩
      have HB6 := keptE (below_next HB5.out hb6)
      clear hb6
      go_wp2
      go_ret
      exact ⟨rfl, HB6.out⟩
    | true =>
      have d1 : decide (280 < 2 * (n1 : Int)) = false := decide_eq_false (by omega)
      have u1 : IntKind.i64.wrap (2 * (n1 : Int)) = 2 * (n1 : Int) := IntWalk.i64_in _ (by omega)
      go_wp2_with fail
      refine (join_sh w4 _ _ E E HE4.out HE4.out (by have := HN.out; omega)).mono ?_
      rintro e w5 ⟨a5, n5, c5, rfl, hO5, hb5⟩
      have HJ5 := keptE hO5.at
      have HO5 := keptE (HO4.out.below hb5)
      have HB5 := keptE (below_next HB4.out hb5)
      have HF2 : Hid (Fits (E ++ E)) := fun z hz => HF.out z (by rcases List.mem_append.1 hz with h | h <;> exact h)
      have HR2 : Hid (playL (E ++ E) = L ++ L) := by
        show _ = _
        rw [playL_twice HK.out (by have := HN.out; omega), HR.out]
      clear hO5 hb5 HO4 HB4
      go_wp2_with fail
      refine (i_PlayKeys w5 _ (E ++ E) (L ++ L) HJ5.out HF2.out HR2).mono ?_
      rintro e w6 ⟨a6, n6, c6, rfl, hO6, hb6⟩
      have HP6 := keptE hO6.at
      have HO6 := keptE (HO5.out.below hb6)
      have HB6 := keptE (below_next HB5.out hb6)
      clear hO6 hb6 HO5 HB5
      go_wp2_with fail
      refine (join_sh w6 _ _ L L HO6.out HO6.out (by have := HLL.out; omega)).mono ?_
      rintro e w7 ⟨a7, n7, c7, rfl, hO7, hb7⟩
      have HJ7 := keptE hO7.at
      have HP7 := keptE (HP6.out.below hb7)
      have HB7 := keptE (below_next HB6.out hb7)
      clear hO7 hb7
      go_wp2_with fail
      refine (equalInts_sameB w7 _ _ (L ++ L) HP7.out HJ7.out).mono ?_
      rintro e w8 ⟨rfl, hb8⟩
      have HB8 := keptE (below_next HB7.out hb8)
      clear hb8
      go_wp2
      go_ret
      exact ⟨rfl, HB8.out⟩
  · go_enter Try.func5, Try.ntmps5
    go_wp2
    go_ret
    exact ⟨rfl, Below.refl _ _⟩
end Go.Proofs.Ytjedkmhmkipkdaa
