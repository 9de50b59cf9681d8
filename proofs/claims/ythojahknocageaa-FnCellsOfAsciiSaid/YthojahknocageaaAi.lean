
/- The law of CellsOfAscii on drawn characters. -/
import Derived.Test.YthojahknocageaaAg
import Derived.Test.YthojahknocageaaDrQ
namespace Go.Proofs.Ythojahknocageaa
open Go.RowKit

def StrDrawnA (n : Nat) (w : World) (e : Ending) (w' : World) : Prop := ∃ s : ByteArray, e = .returned (.string s) ∧ s.size ≤ n ∧ Below w.heap.size w w'
set_option maxHeartbeats 1000000 in
theorem drawCellsOfAscii_any (w : World) (a : Option Addr) (len cap : Nat) (zs : List Int) (h : RowIn .u8 w a len cap zs) :
    Calls Try.prog 15 #[.slice a len cap] w fun e w' => StrDrawnA 12 w e w' := by
  obtain ⟨h1, h2, h3⟩ := bytesAt_of_row h
  clear h
  go_enter Try.func15, Try.ntmps15
  go_wp2_with fail
  refine (newReader_any w _ a len cap h1 (Nat.le_refl _) h2 h3).mono ?_
  rintro e w1 ⟨L, rfl, hrd, hgr⟩
  have hR := hrd.lt
  go_wp2_with fail
  refine (someCells_any w1 _ _ L 0 10 hrd (by omega) (by omega)).mono ?_
  rintro e w2 ⟨v, zs, p', rfl, hO, hbt, hl, hrd2, hp, hg2, a2, n2, c2, rfl⟩
  have hv : ValidL zs := ⟨by omega, fun z hz => by have := hbt z hz; omega⟩
  have HV := keptA hv
  have HX := keptA hO.at
  have hts : (bs (asL zs)).size ≤ 10 := by rw [bs_size, asL_length]; exact hl
  have hR2 := hrd2.lt
  have hgw : w.grownBy w2 none := grown_new hgr hg2 (Nat.le_refl _)
  obtain ⟨T, hT⟩ : ∃ T, asL zs = T := ⟨_, rfl⟩
  have HA : Hid (∀ wx u, IntsAt wx u zs → Calls Try.prog 27 #[u] wx fun e w' => e = .returned (.string (bs T)) ∧ Below wx.heap.size wx w') := fun wx u hx => by
    have := s_asciiOf wx u zs hx HV
    unfold TextOut at this
    rw [hT] at this
    exact this
  rw [hT] at hts
  obtain ⟨t, ht⟩ : ∃ t, bs T = t := ⟨_, rfl⟩
  rw [ht] at HA hts
  have hp2 : p' ≤ 31 := by omega
  clear hO hbt hl hg2 hgr hrd hv hT ht hp
  go_wp2_with fail
  refine (HA.out w2 _ HX.out).mono ?_
  rintro e w3 ⟨rfl, hb3⟩
  have hrd3 := hrd2.below hb3 hR2
  have hgw3 : w.grownBy w3 none := grown_own hgw ⟨hb3.os, hb3.tape, hb3.output, hb3.size, fun i hi _ => hb3.block i hi⟩ (row' := none) (by simp)
  clear hb3 hrd2 hgw
  go_wp2_with fail
  refine (pick_any w3 _ _ L p' _ hrd3 (by omega) (by omega) (by omega)).mono ?_
  rintro e w4 ⟨k4, rfl, hk4, hrd4, hgr4⟩
  have hgw4 : w.grownBy w4 none := grown_new hgw3 hgr4 (Nat.le_refl _)
  clear hgw3 hgr4 hrd3
  by_cases hk0 : k4 = 0
  · subst hk0
    go_wp2_with fail
    refine (mutate_any w4 _ _ L (p' + 1) t 10 hrd4 (by omega) hts (by omega)).mono ?_
    rintro e w5 ⟨s5, q5, rfl, hs5, hrd5, hq5, hgr5⟩
    have hgw5 : w.grownBy w5 none := grown_new hgw4 hgr5 (Nat.le_refl _)
    go_wp2
    go_ret
    exact ⟨s5, rfl, hs5, below_of_grown hgw5⟩
  · have e1 : ((k4 : Int) == 0) = false := by simp; omega
    go_wp2
    go_ret
    exact ⟨t, rfl, by omega, below_of_grown hgw4⟩
theorem bs_of_list {s : ByteArray} {l : List UInt8} (h : s.data.toList = l) : bs l = s := by rw [← h, bs_of]
set_option maxHeartbeats 1000000 in
theorem cellsOfAscii_walk (a : Option Addr) (len cap : Nat) (zs : List Int) (w : World) (h : RowIn .u8 w a len cap zs) :
    Calls Try.prog 4 #[.slice a len cap] w fun e w' => e = .returned (.bool true) ∧ Below w.heap.size w w' := by
  have hlen : len ≤ 9223372036854775807 := by
    obtain ⟨_, h2, h3⟩ := bytesAt_of_row h; unfold maxLen at h3; omega
  by_cases hbig : len ≤ 1048576
  · go_enter Try.func4, Try.ntmps4
    go_wp2_with fail
    refine (drawCellsOfAscii_any w a len cap zs h).mono ?_
    rintro e w1 ⟨s, rfl, hs, hB⟩
    clear h
    have HB1 := keptE hB
    obtain ⟨l, hl⟩ : ∃ l, s.data.toList = l := ⟨_, rfl⟩
    have HL := keptE hl
    obtain ⟨L, b, hr⟩ := ra_ex l
    have HR := keptE hr
    clear hl hr hB
    go_wp2_with fail
    refine (i_CellsOfAscii s l L b w1 HL (by omega) HR).mono ?_
    rintro e w2 ⟨a2, n2, c2, rfl, hO2, hb2⟩
    have HO2 := keptE hO2.at
    have HB2 := keptE (below_next HB1.out hb2)
    clear hO2 hb2
    go_wp2_with fail
    refine (s_CellsOfAscii s l L b w2 HL (by omega) HR).mono ?_
    rintro e w3 ⟨a3, n3, c3, rfl, hO3, hb3⟩
    have HS3 := keptE hO3.at
    have HO3 := keptE (HO2.out.below hb3)
    have HB3 := keptE (below_next HB2.out hb3)
    clear hO3 hb3
    go_wp2_with fail
    refine (equalInts_sameE w3 _ _ L HO3.out HS3.out).mono ?_
    rintro e w4 ⟨rfl, hb4⟩
    have HS4 := keptE (HS3.out.below hb4)
    have HO4 := keptE (HO3.out.below hb4)
    have HB4 := keptE (below_next HB3.out hb4)
    clear hb4
    cases b with
    | false =>
      go_wp2_with fail
      refine (equalInts_sameE w4 _ _ L HO4.out HS4.out).mono ?_
      rintro e w5 ⟨rfl, hb5⟩
      have HB5 := keptE (below_next HB4.out hb5)
      clear hb5
      go_wp2
      go_ret
      exact ⟨rfl, HB5.out⟩
    | true =>
      have hrs : readA l = some L := by
        rcases HR.out with ⟨_, h⟩ | ⟨h, _⟩
        · exact h
        · simp at h
      obtain ⟨h1, h2⟩ := asL_readA hrs
      have HT : Hid (bs (ascL L) = s) := by show _ = _; rw [ascL, if_pos h2, h1]; exact bs_of_list HL.out
      clear hrs h1 h2
      go_wp2_with fail
      refine (i_AsciiOf_t w4 _ L s HO4.out HT).mono ?_
      rintro e w5 ⟨rfl, hb5⟩
      have HB5 := keptE (below_next HB4.out hb5)
      clear hb5
      go_wp2
      go_ret
      exact ⟨rfl, HB5.out⟩
  · go_enter Try.func4, Try.ntmps4
    go_wp2
    go_ret
    exact ⟨rfl, Below.refl _ _⟩
end Go.Proofs.Ythojahknocageaa
