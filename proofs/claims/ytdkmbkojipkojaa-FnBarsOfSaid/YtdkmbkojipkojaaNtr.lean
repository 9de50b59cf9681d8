
/- The law of BarsOf on drawn notes: bars are full. -/
import Derived.Test.YtdkmbkojipkojaaNtq
namespace Go.Proofs.Ytdkmbkojipkojaa
open Go.RowKit

/-- where the bar behind the first i bars begins -/
def pvL (L : List Int) : Nat → Nat
  | 0 => 0
  | i + 1 => (L.getD i 0).toNat
theorem pvL_snoc {L : List Int} {x : Int} {i : Nat} (h : i ≤ L.length) : pvL (L ++ [x]) i = pvL L i := by
  cases i with
  | zero => rfl
  | succ i => simp only [pvL]; rw [List.getD_eq_getElem?_getD, List.getElem?_append_left (by omega), ← List.getD_eq_getElem?_getD]
theorem pvL_last {L : List Int} {x : Int} : pvL (L ++ [x]) (L.length + 1) = x.toNat := by
  simp only [pvL]; rw [List.getD_eq_getElem?_getD, List.getElem?_append_right (Nat.le_refl _)]; simp
structure BarInfo (P : List PNote) (s : Int) (k : Nat) (m : Int) (L : List Int) : Prop where
  each : ∀ i, i < L.length → ∃ e : Nat, L.getD i 0 = e ∧ pvL L i < e ∧ e ≤ k ∧ lenTo P e - lenTo P (pvL L i) = s
  rest : lenTo P k - lenTo P (pvL L L.length) = m ∧ pvL L L.length ≤ k
  done : m = 0 → pvL L L.length = k
  all : ∀ i, i ≤ L.length → lenTo P (pvL L i) = s * (i : Int)
theorem BarTo.info {P : List PNote} {s : Int} (hs : 1 ≤ s) : ∀ {k m L}, BarTo P s k m L → BarInfo P s k m L := by
  intro k m L h
  induction h with
  | zero =>
    refine ⟨fun i hi => absurd hi (by simp), by simp [pvL, lenTo], fun _ => rfl, fun i hi => ?_⟩
    have hi0 : i = 0 := by simpa using hi
    subst hi0
    simp [pvL, lenTo]
  | @more k m L h1 h2 ih =>
    have hb := h1.bd hs
    have hv := lenV_bd (P.getD k noN).v
    refine ⟨fun i hi => ?_, ⟨?_, ?_⟩, fun hm => by omega, ih.all⟩
    · obtain ⟨e, a, b, c, d⟩ := ih.each i hi; exact ⟨e, a, b, by omega, d⟩
    · have := ih.rest.1; simp only [lenTo]; omega
    · have := ih.rest.2; omega
  | @full k m L h1 h2 ih =>
    have hr := ih.rest
    have hstep : lenTo P (k + 1) - lenTo P (pvL L L.length) = s := by simp only [lenTo]; omega
    have hlen : (L ++ [((k + 1 : Nat) : Int)]).length = L.length + 1 := by simp
    refine ⟨fun i hi => ?_, ⟨?_, ?_⟩, fun _ => ?_, fun i hi => ?_⟩
    · rw [hlen] at hi
      by_cases hil : i < L.length
      · obtain ⟨e, a, b, c, d⟩ := ih.each i hil
        rw [pvL_snoc (by omega)]
        exact ⟨e, by rw [List.getD_eq_getElem?_getD, List.getElem?_append_left hil, ← List.getD_eq_getElem?_getD]; exact a, b, by omega, d⟩
      · obtain rfl : i = L.length := by omega
        rw [pvL_snoc (Nat.le_refl _)]
        exact ⟨k + 1, by rw [List.getD_eq_getElem?_getD, List.getElem?_append_right (Nat.le_refl _)]; simp, by omega, Nat.le_refl _, hstep⟩
    · rw [hlen, pvL_last, Int.toNat_natCast]; omega
    · rw [hlen, pvL_last, Int.toNat_natCast]; omega
    · rw [hlen, pvL_last, Int.toNat_natCast]
    · rw [hlen] at hi
      by_cases hil : i ≤ L.length
      · rw [pvL_snoc hil]; exact ih.all i hil
      · obtain rfl : i = L.length + 1 := by omega
        rw [pvL_last, Int.toNat_natCast]
        have := ih.all L.length (Nat.le_refl _)
        rw [show ((L.length + 1 : Nat) : Int) = (L.length : Int) + 1 from by omega, Int.mul_add, Int.mul_one]
        omega
set_option maxHeartbeats 4000000 in
theorem barsOf_walk (a : Option Addr) (len cap : Nat) (zs : List Int) (w : World) (h : RowIn .u8 w a len cap zs) :
    Calls Try.prog 4 #[.slice a len cap] w fun e w' => e = .returned (.bool true) ∧ Below w.heap.size w w' := by
  have hlen : len ≤ 9223372036854775807 := by
    obtain ⟨_, h2, h3⟩ := bytesAt_of_row h; unfold maxLen at h3; omega
  by_cases hbig : len ≤ 1048576
  · go_enter Try.func4, Try.ntmps4
    go_wp2_with fail
    refine (drawBarsOf_any w a len cap zs h).mono ?_
    rintro e w1 ⟨a1, n1, c1, P, s, rfl, hx, hl, hs, hb1⟩
    clear h
    obtain ⟨L, ok, hr⟩ := barsIs_ex P s
    have HR := keptN hr
    have HX := keptN hx
    clear hx
    go_wp2_with fail
    refine (i_BarsOf w1 _ P s L ok HX.out HR).mono ?_
    rintro e w2 ⟨a2, n2, c2, rfl, hO2, hb2⟩
    have hB2 := below_next hb1 hb2
    have hI2 := hO2.at
    go_wp2_with fail
    refine (s_BarsOf w2 _ P s L ok (HX.out.below hb2) HR).mono ?_
    rintro e w3 ⟨a3, n3, c3, rfl, hO3, hb3⟩
    have hB3 := below_next hB2 hb3
    have hI23 := hI2.below hb3
    have hI3 := hO3.at
    have HX3 := keptN ((HX.out.below hb2).below hb3)
    clear hO2 hO3 hb2 hb3 hI2 hB2 hb1 HX
    go_wp2_with fail
    refine (equalInts_n w3 _ _ L hI23 hI3).mono ?_
    rintro e w4 ⟨rfl, hb4⟩
    have HB4 := keptN (below_next hB3 hb4)
    have HI := keptN (hI23.below hb4)
    have HI3 := keptN (hI3.below hb4)
    have HX4 := keptN (HX3.out.below hb4)
    clear hB3 hb4 hI23 hI3 HX3
    cases ok with
    | true =>
      rcases hr with ⟨_, hok, hsz, hbar⟩ | ⟨k, _⟩
      · have HF := keptN (hbar.info hsz.1)
        have hbd := hbar.bd hsz.1
        have HOK := keptN hok
        have hn1 := HX4.out.len
        have HN1 := Lib.hid hn1
        have hn40 : n1 ≤ 40 := by rw [← hn1]; exact hok.1
        obtain ⟨al, cl, e, l1, l2, _⟩ := HI.out
        injection e with e1 e2 e3
        have HLL : Hid (L.length = n2) := e2.symm
        have hm40 : n2 ≤ 40 := by have := hbd.2.2; have := hok.1; omega
        have hc2 : n2 ≤ c2 := by omega
        have hc1 : n1 ≤ c1 ∧ c1 ≤ 9223372036854775807 := by obtain ⟨_, _, e, e1, e2, _⟩ := HX4.out; injection e with _ e3 e4; omega
        clear hbar hok hn1 e1 e2 e3 l1 l2 hbd
        go_wp2_with fail
        go_loopw [9, 10] (fun f i wr => ∃ j : Nat, j ≤ n2 ∧ i = .int .i64 j ∧ f = .int .i64 ((pvL L j : Nat) : Int) ∧ Below w4.heap.size w4 wr) (fun _ i _ => n2 - (intOf i).toNat)
        case atStart => exact ⟨0, Nat.zero_le _, rfl, rfl, Below.refl _ _⟩
        case round =>
          obtain ⟨j, hj, rfl, rfl, hbr⟩ := hrel
          by_cases hlt : j < n2
          · obtain ⟨e, ee, e1, e2, e3⟩ := HF.out.each j (by rw [HLL.out]; exact hlt)
            have HPV : Hid (pvL L (j + 1) = e) := by show (L.getD j 0).toNat = e; rw [ee]; simp
            obtain ⟨pv, hpv⟩ : ∃ pv, pvL L j = pv := ⟨_, rfl⟩
            rw [hpv] at e1 e3 ⊢
            have HIr := HI.out.below hbr
            obtain ⟨ai, ci, ei, i1, i2, i3⟩ := HIr
            rcases i3 with rfl | ⟨gi, oi, rfl, i3⟩
            · have := HLL.out; simp at this; omega
            injection ei with ei1 ei2 ei3
            subst ei1 ei3
            have ci0 := i3 j (by rw [HLL.out]; exact hlt)
            rw [ee] at ci0
            rw [HN1.out] at e2
            obtain ⟨g, off, c', hv, _, _⟩ := (HX4.out.below hbr).nth (k := 0) (by rw [HN1.out]; omega)
            injection hv with v1 v9 v2
            subst v1 v2
            have hseg := partN_seg (P := P) (f := pv) (t := e) (by omega) (by rw [HN1.out]; exact e2)
            have hln := hseg.1.ln HOK.out
            rw [hseg.2, show pv + (e - pv) = e from by omega, e3] at hln
            have HLN := Lib.hid hln
            have HSG := keptN ((((HX4.out.below hbr).takeN (k := e) (by omega))).dropN (k := pv) (by omega))
            have b1 : (0 : Int) ≤ (j : Int) := by omega
            have b2 : (j : Int) < (n2 : Int) := by omega
            have d1 : decide ((e : Int) ≤ (pv : Int)) = false := decide_eq_false (by omega)
            have d2 : decide ((n1 : Int) < (e : Int)) = false := decide_eq_false (by omega)
            have b3 : (0 : Int) ≤ (pv : Int) := by omega
            have b4 : (pv : Int) ≤ (e : Int) := by omega
            have b5 : (e : Int) ≤ (c1 : Int) := by omega
            have b6 : ¬ c1 = pv := by omega
            have HBR := keptN hbr
            clear hpv i1 i2 i3 ei2 v9 hseg hln ee e3 hbr
            go_wp2_with fail
            refine (i_LengthOf wr _ _ s HSG.out HLN).mono ?_
            rintro e w5 ⟨rfl, hb5⟩
            have ci5 := (hb5.cell (World.block_lt_of_cell? wr _ ci0)).trans ci0
            have HB5 := keptN (HBR.out.trans (hb5.mono HBR.out.size))
            clear ci0 hb5 HSG HBR
            go_wp2
            go_roundw
            case rel => exact ⟨j + 1, by omega, by go_num, by rw [HPV.out], HB5.out⟩
            case measure => simp [intOf]; omega
          · obtain rfl : j = n2 := by omega
            have hdn := HF.out.done rfl
            rw [HLL.out, HN1.out] at hdn
            have hal := HF.out.all j (by rw [HLL.out]; exact Nat.le_refl _)
            rw [hdn] at hal
            rw [hdn]
            obtain ⟨r, hr2⟩ : ∃ r, lnOf P = r := ⟨_, rfl⟩
            have HRL := Lib.hid hr2
            rw [lnOf_yes HOK.out, HN1.out] at hr2
            rw [hr2] at hal
            have hbd := lenTo_bd P n1
            rw [hr2] at hbd
            have um : IntKind.i64.wrap (s * (j : Int)) = r := by rw [← hal]; exact IntWalk.i64_in _ (by omega)
            have HX5 := keptN (HX4.out.below hbr)
            clear hdn hal hr2 hbd
            go_wp2_with fail
            refine (i_LengthOf _ _ P r HX5.out HRL).mono ?_
            rintro e w6 ⟨rfl, hb6⟩
            have hB6 := hbr.trans (hb6.mono hbr.size)
            clear hb6 hbr HX5
            go_wp2
            go_ret
            exact ⟨rfl, below_next HB4.out hB6⟩
      · simp at k
    | false =>
      clear hr
      go_wp2_with fail
      refine (equalInts_n w4 _ _ L HI.out HI3.out).mono ?_
      rintro e w6 ⟨rfl, hb6⟩
      have hB6 := below_next HB4.out hb6
      go_wp2
      go_ret
      exact ⟨rfl, hB6⟩
  · go_enter Try.func4, Try.ntmps4
    go_wp2
    go_ret
    exact ⟨rfl, Below.refl _ _⟩
end Go.Proofs.Ytdkmbkojipkojaa
