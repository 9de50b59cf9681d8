
/- FnPiecesCells: its walk. -/
import Derived.Test.YtohgglhjcklbaaaVo
import Derived.Test.YtohgglhjcklbaaaVv
import Derived.Test.YtohgglhjcklbaaaPi
namespace Go.Proofs.Ytohgglhjcklbaaa
open Go.RowKit

theorem drawPiecesCells_any (w : World) (a : Option Addr) (len cap : Nat) (zs : List Int) (h : RowIn .u8 w a len cap zs) :
    Calls Try.prog 46 #[.slice a len cap] w fun e w' => VpMade w e w' := by
  go_enter Try.func46, Try.ntmps46
  go_wp2_with fail
  refine (drawValidPieces_any w a len cap zs h).mono ?_
  rintro e w1 ⟨g, n, c1, T, s, v, P, rfl, H⟩
  have HK := keptH H
  clear H
  go_wp2
  refine bodyPost_ret (results_three rfl _ _ _) rfl ?_
  exact ⟨g, n, c1, T, s, v, P, rfl, HK.out⟩

set_option maxRecDepth 20000 in
set_option maxHeartbeats 8000000 in
theorem piecesCells_walk (a : Option Addr) (len cap : Nat) (zs : List Int) (w : World) (h : RowIn .u8 w a len cap zs) :
    Calls Try.prog 13 #[.slice a len cap] w fun e w' => e = .returned (.bool true) ∧ Below w.heap.size w w' := by
  have hlen : len ≤ 9223372036854775807 := by
    obtain ⟨_, h2, h3⟩ := bytesAt_of_row h; unfold maxLen at h3; omega
  obtain ⟨i0, hi, hz0, hz1, hz2⟩ := info_parts infoInt
  by_cases hbig : len ≤ 1048576
  · go_enter Try.func13, Try.ntmps13
    go_wp2_with fail
    refine (drawPiecesCells_any w a len cap zs h).mono ?_
    rintro e w1 ⟨g, n, c1, T, s, v, P, rfl, hx1, hF, hs, hy1, hPF, hPl, hb1⟩
    clear h
    obtain ⟨m, hm⟩ : ∃ m, P.length = m := ⟨_, rfl⟩
    obtain ⟨a4, c4, hv4, _⟩ := id hy1
    rw [hm] at hv4 hPl
    have HM := Lib.hid hm
    subst hv4
    clear hm
    have HF := keptH hF
    have HPF := keptH hPF
    obtain ⟨b, HB⟩ : ∃ b : Bool, Hid (b = true ↔ (ValidTb T ∧ WordB 16 s.data.toList) ∧ ValidPv T s P) := by
      by_cases hv : (ValidTb T ∧ WordB 16 s.data.toList) ∧ ValidPv T s P
      · exact ⟨true, show _ ↔ _ from ⟨fun _ => hv, fun _ => rfl⟩⟩
      · exact ⟨false, show _ ↔ _ from ⟨fun e => by simp at e, fun e => absurd e hv⟩⟩
    obtain ⟨L, HSp, HIm, HLv⟩ : ∃ L : List Int, Hid (∀ wx u v, TableAt wx u T → PiecesAt wx v P → Calls Try.prog 43 #[u, .string s, v] wx fun e w' => ListMade L wx e w') ∧ Hid (∀ wx u v, TableAt wx u T → PiecesAt wx v P → Calls Try.prog 44 #[u, .string s, v] wx fun e w' => ListMade L wx e w') ∧ Hid ((ValidTb T ∧ WordB 16 s.data.toList) ∧ ValidPv T s P → L = pcsL T s P) := by
      have hss : s.size ≤ 9223372036854775807 := by omega
      by_cases hv : (ValidTb T ∧ WordB 16 s.data.toList) ∧ ValidPv T s P
      · exact ⟨pcsL T s P, fun wx u v h h' => s_PiecesCells wx u v T s P h hF hss h' hPF (Lib.hid hv), fun wx u v h h' => i_PiecesCells wx u v T s P h hF hss h' hPF (Lib.hid hv), fun _ => rfl⟩
      · exact ⟨[], fun wx u v h h' => s_PiecesCells_no wx u v T s P h hF hss h' hPF (Lib.hid hv), fun wx u v h h' => i_PiecesCells_no wx u v T s P h hF hss h' hPF (Lib.hid hv), fun h => absurd h hv⟩
    clear hF hPF
    go_wp2_with fail
    refine (HIm.out w1 _ _ hx1 hy1).mono ?_
    rintro e w2 ⟨v2, rfl, hO2, hb2, a2, n2, c2, rfl⟩
    have hx2 := hx1.below hb2
    have hy2 := hy1.below hb2
    have hB2 := below_next hb1 hb2
    clear hx1 hy1 hb1 hb2
    go_wp2_with fail
    refine (HSp.out w2 _ _ hx2 hy2).mono ?_
    rintro e w3 ⟨v3, rfl, hO3, hb3, a3, n3, c3, rfl⟩
    have hx3 := hx2.below hb3
    have hy3 := hy2.below hb3
    have hB3 := below_next hB2 hb3
    have hI3 := (hO2.below hb3).at
    have hJ3 := hO3.at
    clear hx2 hy2 hB2 hb3 hO2 hO3
    go_wp2_with fail
    refine (equalInts_alike w3 _ _ L hI3 hJ3).mono ?_
    rintro e w4 ⟨rfl, hb4⟩
    have hx4 := hx3.below hb4
    have hy4 := hy3.below hb4
    have hB4 := below_next hB3 hb4
    have hI4 := hI3.below hb4
    clear hx3 hy3 hB3 hb4 hI3 hJ3
    go_wp2_with fail
    refine (i_ValidPieces w4 _ _ T s P b hx4 HF.out (by omega) hy4 HPF.out HB).mono ?_
    rintro e w5 ⟨rfl, hb5⟩
    have HX5 := keptH (hx4.below hb5)
    have HY5 := keptH (hy4.below hb5)
    have HB5 := keptH (below_next hB4 hb5)
    have HI5 := keptH (hI4.below hb5)
    clear hx4 hy4 hB4 hb5 hI4
    cases b with
    | false =>
      go_wp2_with fail
      refine (HSp.out w5 _ _ HX5.out HY5.out).mono ?_
      rintro e w7 ⟨v7, rfl, hO7, hb7, a7, n7, c7, rfl⟩
      have hB7 := below_next HB5.out hb7
      have hI7 := HI5.out.below hb7
      have hJ7 := hO7.at
      clear hb7 hO7
      go_wp2_with fail
      refine (equalInts_alike w7 _ _ L hI7 hJ7).mono ?_
      rintro e w8 ⟨rfl, hb8⟩
      have FIN := keptH (below_next hB7 hb8)
      clear hJ7 hI7 hb8 hB7
      go_wp2
      go_ret
      exact ⟨rfl, FIN.out⟩
    | true =>
      have HV := keptH (HB.out.1 rfl)
      clear HB HSp HIm
      have HLL0 := Lib.hid (HLv.out HV.out)
      clear HLv
      have hO0 := OwnInts.made w5 w5.heap.size (Nat.le_refl _)
      have HO0 := keptH hO0
      have HBE : Hid (Below w5.heap.size w5 (w5.alloc (.cells #[] 3))) := (Below.refl _ _).alloc (Nat.le_refl _) _
      clear hO0
      have hT : Hid (ValidTb T) := HV.out.1.1
      have hW : Hid (WordB 16 s.data.toList) := HV.out.1.2
      have hp : Hid (PvUp T s P P.length) := HV.out.2.1
      have hsl : s.size ≤ 16 := by have := hW.out.2.1; rw [wd_size] at this; exact this
      have hm16 : m ≤ 16 := by have h1 := endAt_ge hT.out.2.1 P.length hp.out; have h2 := endAt_bd hp.out hT.out.2.1; have h3 := HM.out; omega
      obtain ⟨tn, htn⟩ : ∃ tn, T.length = tn := ⟨_, rfl⟩
      have HTN := Lib.hid htn
      clear htn
      have hnt : Hid (n = tn) := by
        obtain ⟨_, _, e, _⟩ := HX5.out
        injection e with _ e2 _
        show n = tn
        rw [← HTN.out]; exact e2
      go_wp2_with fail
      go_loopw [7, 8] (fun o i wr => ∃ k : Nat, k ≤ m ∧ i = .int .i64 k ∧ OwnInts wr w5.heap.size o (pcsTo T s P k) ∧ Below w5.heap.size w5 wr) (fun _ i _ => m - (intOf i).toNat)
      case atStart => exact ⟨0, Nat.zero_le _, rfl, HO0.out, HBE.out⟩
      case round =>
        obtain ⟨k, hk, rfl, hO, hbr⟩ := hrel
        have hsz := hbr.size
        by_cases hlt : k < m
        · obtain ⟨_, _, e, _, _, hc⟩ := HY5.out
          rcases hc with rfl | ⟨g2, off, hc1, hc⟩
          · exact absurd HM.out (by simp; omega)
          injection e with e1 e2 e3
          clear e2 e3
          rw [hc1] at e1
          subst e1
          obtain ⟨c0, c1x, c2x⟩ := hc k (by rw [HM.out]; exact hlt)
          have hpk := (hp.out k (by rw [HM.out]; exact hlt)).2
          have hle := pcsTo_len hT.out.2.1 k (fun i hi => hp.out i (by have := HM.out; omega))
          obtain ⟨q, hq⟩ : ∃ q, P.getD k noP = q := ⟨_, rfl⟩
          rw [hq] at c0 c1x c2x hpk
          have HQ := Lib.hid hq
          clear hq hc hc1
          obtain ⟨r, f, t⟩ := q
          simp only at c0 c1x c2x
          have c0 := (hbr.cell (World.block_lt_of_cell? w5 _ c0)).trans c0
          have c1x := (hbr.cell (World.block_lt_of_cell? w5 _ c1x)).trans c1x
          obtain ⟨Lk, hLk⟩ : ∃ Lk, pcsTo T s P k = Lk := ⟨_, rfl⟩
          have HLL := Lib.hid hLk
          rw [hLk] at hO hle
          clear hLk c2x
          have hO' := keptH hO
          have HBR := keptH hbr
          obtain ⟨ao, no, co, ho3⟩ := hO.isSlice'
          subst ho3
          clear hO
          have b1 : (0 : Int) ≤ (k : Int) := by omega
          have b2 : (k : Int) < (m : Int) := by omega
          rcases hpk.2.2 with ⟨h3, h4⟩ | ⟨h3, h4, h5, h6⟩
          · simp only at h3
            subst h3
            obtain ⟨ix, rfl⟩ : ∃ ix : Nat, f = ix := ⟨f.toNat, by have := hpk.1; simp only at this; omega⟩
            have hms : ix < s.size := by have := hpk.2.1; simp only at this; omega
            obtain ⟨j, hj, hc, hlet⟩ := small_at hW.out hms
            obtain ⟨z, hz⟩ : ∃ z, letL.getD j 0 = z := ⟨_, rfl⟩
            have HZ := Lib.hid hz
            have HL : Hid (pcsTo T s P (k + 1) = Lk ++ [z]) := by
              show pcsTo T s P k ++ pcC T s (P.getD k noP) = _
              rw [HQ.out, HLL.out, pcC, if_pos rfl]
              simp only
              rw [hlet, hz]
            have b3 : (0 : Int) ≤ (ix : Int) := by omega
            have b4 : (ix : Int) < (s.size : Int) := by omega
            have hu1 : IntKind.u8.wrap (((s[ix]'hms).toNat : Int) - 97) = (j : Int) := by rw [IntWalk.u8_in _ (by omega)]; omega
            have hu2 : IntKind.i64.wrap (j : Int) = j := IntWalk.i64_in _ (by omega)
            have hu3 : (((s[ix]'hms).toNat : Int) - 97) = (j : Int) := by omega
            clear hz hlet h4 hpk hc hbr
            go_wp2_with fail
            refine (i_letterCell_at j z _ hj HZ).mono ?_
            rintro e w' ⟨rfl, rfl⟩
            go_wp2_with (at_builtin; refine wpList_append_own _ rfl _ _ 36 rfl w5.heap.size 3 i0 (.int .i64 0) 1 8 Try.underlying36 hi hz0 hz1 hz2 rfl (by decide) _ _ _ rfl (hO'.out.alloc _) ⟨wr.heap.size, 0, none⟩ 1 1 [.int .i64 z] rfl rfl new_one one_cell (by unfold maxLen; omega) (by omega) (by simp; omega) ?_)
            intro v' w7 hown' hgrow _
            have hO3 := OwnInts.snoc hown'
            have hB3 := keptH (below_append HBR.out hsz hO'.out hgrow)
            rw [← HL.out] at hO3
            have HL3 := Lib.hid hO3
            clear hown' hgrow hO3
            go_wp2
            go_roundw
            case rel => exact ⟨k + 1, by omega, by go_num, HL3.out, hB3.out⟩
            case measure => simp [intOf]; omega
          · simp only at h3 h4 h5 h6
            obtain ⟨j, rfl⟩ : ∃ j : Nat, r = j := ⟨r.toNat, by omega⟩
            have hj : j < T.length := by omega
            have hj' : j < n := by have := HTN.out; have := hnt.out; omega
            have hra2 := (HX5.out.below hbr).nth hj
            obtain ⟨rr, hrr⟩ : ∃ rr, T.getD j noR = rr := ⟨_, rfl⟩
            have hvr := hT.out.2.1 j hj
            rw [hrr] at hvr hra2
            have HRR := Lib.hid hrr
            clear hrr
            obtain ⟨rt, ys, rp⟩ := rr
            obtain ⟨g0x, ⟨uu, g1, hu⟩, g2x⟩ := hra2
            clear g0x g2x
            obtain ⟨gc, offc, cpc, rfl⟩ := hu.someAddr hvr.2.1.1
            simp only at g1 hu
            have hzl := hvr.2.1.2
            simp only at hzl
            have HL : Hid (pcsTo T s P (k + 1) = Lk ++ ys) := by
              show pcsTo T s P k ++ pcC T s (P.getD k noP) = _
              rw [HQ.out, HLL.out, pcC, if_neg (by simp only; omega)]
              simp only
              rw [Int.toNat_natCast, HRR.out]
            have hnews := Lib.hid hu.news
            have d7 : decide ((j : Int) < 0) = false := decide_eq_false (by omega)
            have b3 : (0 : Int) ≤ (j : Int) := by omega
            have b4 : (j : Int) < (n : Int) := by omega
            rw [Nat.zero_add] at g1
            have hlz : Hid ((ints ys).length = ys.length * 1) := by show _ = _; rw [ints_length, Nat.mul_one]
            clear h5 h6 hvr hpk hu hbr
            go_wp2_with (at_builtin; refine wpList_append_own _ rfl _ _ 36 rfl w5.heap.size 3 i0 (.int .i64 0) 1 8 Try.underlying36 hi hz0 hz1 hz2 rfl (by decide) _ _ _ rfl hO'.out ⟨gc, offc, none⟩ ys.length cpc (ints ys) rfl hlz.out hnews.out (ints_oneCell' ys) (by unfold maxLen; omega) (by omega) (by first | omega | (simp; omega)) ?_)
            intro v' w7 hown' hgrow _
            have hO3 := OwnInts.addAll' hown' rfl
            have hB3 : Hid (Below w5.heap.size w5 w7) := HBR.out.grown hgrow hsz (fun q hq => (hO'.out.lt q hq).1)
            rw [← HL.out] at hO3
            have HL3 := Lib.hid hO3
            clear hown' hgrow hO3 g1 hnews
            go_wp2
            go_roundw
            case rel => exact ⟨k + 1, by omega, by go_num, HL3.out, hB3.out⟩
            case measure => simp [intOf]; omega
        · obtain rfl : k = m := by omega
          have hJ := hO.at
          have hLL : pcsTo T s P k = L := by rw [HLL0.out, pcsL, HM.out]
          rw [hLL] at hJ
          have hIr := HI5.out.below hbr
          obtain ⟨ao, no, co, ho3⟩ := hO.isSlice'
          subst ho3
          have HBR := keptH hbr
          clear hO hbr hLL
          go_wp2_with fail
          refine (equalInts_alike wr _ _ L hJ hIr).mono ?_
          rintro e w6 ⟨rfl, hb6⟩
          have FIN := keptH (below_next (below_next HB5.out HBR.out) hb6)
          clear hJ hIr hb6
          go_wp2
          go_ret
          exact ⟨rfl, FIN.out⟩
  · have hbig' : 1048576 < len := by omega
    go_enter Try.func13, Try.ntmps13
    go_wp2
    go_ret
    exact ⟨rfl, Below.refl _ _⟩
end Go.Proofs.Ytohgglhjcklbaaa
