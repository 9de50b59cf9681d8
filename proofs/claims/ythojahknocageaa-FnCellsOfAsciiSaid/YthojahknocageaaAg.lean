
/- Laws of characters of drawn cells. -/
import Derived.Test.YthojahknocageaaAf
import Derived.Test.YthojahknocageaaEc
import Derived.Deep.RegionHeld3
namespace Go.Proofs.Ythojahknocageaa
open Go.RowKit

set_option maxHeartbeats 400000 in
theorem drawAsciiOf_any (w : World) (a : Option Addr) (len cap : Nat) (zs : List Int) (h : RowIn .u8 w a len cap zs) :
    Calls Try.prog 9 #[.slice a len cap] w fun e w' => DrawnL (-1) 1000 12 w e w' := by
  obtain ⟨h1, h2, h3⟩ := bytesAt_of_row h
  clear h
  go_enter Try.func9, Try.ntmps9
  go_wp2_with fail
  refine (newReader_any w _ a len cap h1 (Nat.le_refl _) h2 h3).mono ?_
  rintro e w1 ⟨L, rfl, hrd, hgr⟩
  go_wp2_with fail
  refine (anyCells_any w1 _ _ L 0 12 hrd (by omega) (by omega)).mono ?_
  rintro e w2 hd
  obtain ⟨a, n, c, zs, rfl, hO, hn, hm, hb, hB⟩ := drawnL_of hgr hd
  have HN := keptE hn
  clear hn hd
  go_wp2
  go_ret
  exact ⟨a, n, c, zs, rfl, hO, HN.out, hm, hb, hB⟩
theorem readA_ra {l : List UInt8} {L : List Int} (h : readA l = some L) : RA l L true := .inl ⟨rfl, h⟩
theorem bs_list (l : List UInt8) : (bs l).data.toList = l := rfl
set_option maxHeartbeats 2000000 in
theorem asciiOf_walk (a : Option Addr) (len cap : Nat) (zs : List Int) (w : World) (h : RowIn .u8 w a len cap zs) :
    Calls Try.prog 3 #[.slice a len cap] w fun e w' => e = .returned (.bool true) ∧ Below w.heap.size w w' := by
  have hlen : len ≤ 9223372036854775807 := by
    obtain ⟨_, h2, h3⟩ := bytesAt_of_row h; unfold maxLen at h3; omega
  by_cases hbig : len ≤ 1048576
  · go_enter Try.func3, Try.ntmps3
    go_wp2_with fail
    refine (drawAsciiOf_any w a len cap zs h).mono ?_
    rintro e w1 ⟨a1, n1, c1, E, rfl, hO, hn, hm, hbt, hB⟩
    clear h
    have HN := keptE hn
    have HE1 := keptE hO.sh
    have HB1 := keptE hB
    obtain ⟨t, ht⟩ : ∃ t, bs (ascL E) = t := ⟨_, rfl⟩
    have HT := keptE ht
    clear ht hn hbt hO hB
    go_wp2_with fail
    refine (i_AsciiOf_t w1 _ E t HE1.out.1 HT).mono ?_
    rintro e w2 ⟨rfl, hb2⟩
    have HE2 := keptE (HE1.out.below hb2)
    have HB2 := keptE (below_next HB1.out hb2)
    clear hb2 HE1 HB1
    go_wp2_with fail
    refine (s_AsciiOf_t w2 _ E t HE2.out.1 HT).mono ?_
    rintro e w3 ⟨rfl, hb3⟩
    have HE3 := keptE (HE2.out.below hb3)
    have HB3 := keptE (below_next HB2.out hb3)
    clear hb3 HE2 HB2
    obtain ⟨b, hb⟩ : ∃ b, decide (ValidL E) = b := ⟨_, rfl⟩
    have HK := keptE hb
    clear hb
    go_wp2_with fail
    refine (i_ValidCells_a w3 _ E b HE3.out.1 HK).mono ?_
    rintro e w' ⟨rfl, rfl⟩
    cases b with
    | false =>
      go_wp2_with fail
      refine (s_AsciiOf_t w3 _ E t HE3.out.1 HT).mono ?_
      rintro e w4 ⟨rfl, hb4⟩
      have HB4 := keptE (below_next HB3.out hb4)
      clear hb4
      go_wp2
      go_ret
      exact ⟨rfl, HB4.out⟩
    | true =>
      have hv : ValidL E := of_decide_eq_true HK.out
      have hta : t = bs (asL E) := by rw [← HT.out, ascL, if_pos hv]
      have hrd : readA t.data.toList = some E := by rw [hta, bs_list]; exact readA_asL hv
      have HRD := keptE (readA_ra hrd)
      have hts : t.size = n1 := by rw [hta, bs_size, asL_length, HN.out]
      have HTS := keptE hts
      have hsz : t.size ≤ 12 := by omega
      clear hv hta hrd hts
      go_wp2_with fail
      refine (i_CellsOfAscii t t.data.toList E true w3 (keptE rfl) (by omega) HRD).mono ?_
      rintro e w4 ⟨a4, n4, c4, rfl, hO4, hb4⟩
      have HO4 := keptE hO4.at
      have HE4 := keptE (HE3.out.below hb4)
      have HB4 := keptE (below_next HB3.out hb4)
      clear hO4 hb4
      go_wp2_with fail
      refine (equalInts_sameE w4 _ _ E HO4.out HE4.out.1).mono ?_
      rintro e w5 ⟨rfl, hb5⟩
      have HB5 := keptE (below_next HB4.out hb5)
      have hnn : ((t.size : Int) == (n1 : Int)) = true := by rw [HTS.out]; simp
      clear hb5
      go_wp2
      go_ret
      exact ⟨rfl, HB5.out⟩
  · go_enter Try.func3, Try.ntmps3
    go_wp2
    go_ret
    exact ⟨rfl, Below.refl _ _⟩
end Go.Proofs.Ythojahknocageaa
