
/- MusicCells of the model. -/
import Derived.Test.YtfofjjfnejigaaaNuc
namespace Go.Proofs.Ytfofjjfnejigaaa
open Go.RowKit

set_option maxHeartbeats 1500000 in
theorem s_musicCells (w : World) (v : Value) (P : List PNote) (hx : NotesAt w v P) (hok : Hid (NtsOk P)) :
    Calls Try.prog 37 #[v] w fun e w' => MusOut (musTo P P.length) w e w' := by
  obtain ⟨i0, hi, hz0, hz1, hz2⟩ := info_parts infoInt
  have HX := keptN hx
  obtain ⟨a, cp, rfl, x1, x2, _⟩ := hx
  obtain ⟨n, hn⟩ : ∃ n, P.length = n := ⟨_, rfl⟩
  rw [hn] at x1 HX ⊢
  have HN := Lib.hid hn
  have hn40 : n ≤ 40 := by rw [← hn]; exact hok.out.1
  have HK := keptN hok.out
  have HB0 := keptN ((Below.refl w.heap.size w).alloc (Nat.le_refl _) (.cells #[] 3))
  have HO0 : Hid (OwnInts (w.alloc (.cells #[] 3)) w.heap.size (.slice (some ⟨w.heap.size, 0, none⟩) 0 0) (musTo P 0)) := OwnInts.made w w.heap.size (Nat.le_refl _)
  clear hn hok
  go_enter Try.func37, Try.ntmps37
  go_wp2
  go_loopw [3, 4, 5] (fun o l i wr => ∃ k : Nat, k ≤ n ∧ i = .int .i64 k ∧ l = .int .i64 (lastP P k) ∧ OwnInts wr w.heap.size o (musTo P k) ∧ Below w.heap.size w wr) (fun _ _ i _ => n - (intOf i).toNat)
  case atStart => exact ⟨0, Nat.zero_le _, rfl, rfl, HO0.out, HB0.out⟩
  case round =>
    clear HO0 HB0
    obtain ⟨k, hk, rfl, rfl, hO, hb1⟩ := hrel
    have hsz := hb1.size
    obtain ⟨ao, no, co, hoo⟩ := hO.isSliceU
    subst hoo
    by_cases hlt : k < n
    · have hxr := HX.out.below hb1
      obtain ⟨g, off, c', hv, c0, c1⟩ := hxr.nth (k := k) (by rw [HN.out]; exact hlt)
      rw [HN.out] at hv
      injection hv with e1 e2 e3
      subst e1 e3
      obtain ⟨q, hq⟩ : ∃ q, P.getD k noN = q := ⟨_, rfl⟩
      have hok := HK.out.2 k (by rw [HN.out]; exact hlt)
      rw [hq] at c0 c1 hok
      have HQ := Lib.hid hq
      have hcb := noteC_bd hok
      have HOK := keptN hok
      have hlb := lastP_bd (P := P) k (fun i hi => HK.out.2 i (by rw [HN.out]; omega))
      have hml := musTo_len P k
      obtain ⟨p, f⟩ := q
      obtain ⟨q1, q2, q3, q4⟩ := hok
      simp only at c0 c1 q1 q2 q3 q4
      have HT : Hid (musTo P (k + 1) = musTo P k ++ musC (lastP P k) ⟨p, f⟩ ∧ lastP P (k + 1) = if p = -1 then lastP P k else p) := by
        show _ ∧ _
        constructor <;> simp only [musTo, lastP, hq]
      obtain ⟨l, hl⟩ : ∃ l, lastP P k = l := ⟨_, rfl⟩
      obtain ⟨C, hC⟩ : ∃ C, musTo P k = C := ⟨_, rfl⟩
      rw [hl] at hlb HT ⊢
      rw [hC] at hO HT hml
      obtain ⟨c, hc⟩ : ∃ c, noteC ⟨p, f⟩ = c := ⟨_, rfl⟩
      rw [hc] at hcb
      have HC := Lib.hid hc
      have b1 : (0 : Int) ≤ (k : Int) := by omega
      have b2 : (k : Int) < (n : Int) := by omega
      have HBX := keptN hb1
      have HOX := keptN hO
      clear hq hxr e2 hl hC hO hb1
      by_cases e1 : p = -1
      · subst e1
        have HT' : Hid (musTo P (k + 1) = C ++ [c] ∧ lastP P (k + 1) = l) := by
          show _ ∧ _
          rw [HT.out.1, HT.out.2, if_pos rfl, musC, if_pos rfl, hc]; exact ⟨rfl, rfl⟩
        clear hc HT
        have hxq := (HX.out.below HBX.out).nth (k := k) (by rw [HN.out]; exact hlt)
        obtain ⟨g', off', c'', hv', c0', c1'⟩ := hxq
        injection hv' with e1 e2 e3
        subst e3
        injection e1 with e1
        injection e1 with e1 e4 _
        subst e1 e4
        rw [HN.out] at e2
        rw [HQ.out] at c0' c1'
        simp only at c0' c1'
        clear e2
        go_wp2_with fail
        refine (s_noteCell _ (-1) f c HOK.out HC).mono ?_
        rintro e w6 ⟨rfl, hb6⟩
        have HB2 := keptN (HBX.out.trans (hb6.mono HBX.out.size))
        have HO2 := keptN (HOX.out.below hb6)
        clear hb6 HBX HOX c0' c1'
        go_wp2_with (at_builtin; refine wpList_append_own _ rfl _ _ 25 rfl w.heap.size 3 i0 (.int .i64 0) 1 8 Try.underlying25 hi hz0 hz1 hz2 rfl (by decide) _ _ _ rfl (HO2.out.below ((Below.refl _ _).alloc (Nat.le_refl _) _)) ⟨_, 0, none⟩ 1 1 [.int .i64 c] rfl rfl new_one one_cell (by unfold maxLen; (try simp only [List.length_append, List.length_cons, List.length_nil]); omega) (by (try simp only [List.length_append, List.length_cons, List.length_nil]); omega) (by have := HB2.out.size; simp; omega) ?_)
        intro v5 w5 hown5 hgrow5 _
        have hO5 := OwnInts.snoc hown5
        have hB5 := below_append HB2.out HB2.out.size HO2.out hgrow5
        clear hown5 hgrow5 HB2 HO2
        rw [← HT'.out.1] at hO5
        have NXT := keptN (And.intro hO5 hB5)
        clear hO5 hB5
        go_wp2
        go_roundw
        case rel => exact ⟨k + 1, by omega, by go_num, by rw [HT'.out.2], NXT.out.1, NXT.out.2⟩
        case measure => simp [intOf]; omega
      · have q1' : 0 ≤ p := by omega
        have d1 : decide (0 ≤ p) = true := decide_eq_true q1'
        obtain ⟨b, hb⟩ := boolOfN (NeedM l p)
        have HBM := keptN hb
        have hm : markC l p = if b = true then [octL.getD (p / 7).toNat 0] else [] := by
          unfold markC
          cases b with
          | true => rw [if_pos (hb.1 rfl), if_pos rfl]
          | false => rw [if_neg (fun h => by have := hb.2 h; simp at this), if_neg (by simp)]
        obtain ⟨o, ho7⟩ : ∃ o, p / 7 = o := ⟨_, rfl⟩
        have t2 : p.tdiv 7 = o := by rw [Int.tdiv_eq_ediv_of_nonneg (by omega), ho7]
        have HT' : Hid (musTo P (k + 1) = (C ++ markC l p) ++ [c] ∧ lastP P (k + 1) = p) := by
          show _ ∧ _
          rw [HT.out.1, HT.out.2, if_neg e1, musC, if_neg (by exact e1), hc, List.append_assoc]; exact ⟨rfl, rfl⟩
        have o0 : 0 ≤ o ∧ o ≤ 6 := by omega
        clear hc HT hb e1
        go_wp2_with fail
        refine (s_needsMark _ l p b hlb.1 hlb.2 q1' q2 HBM).mono ?_
        rintro e w2 ⟨rfl, rfl⟩
        cases b with
        | false =>
          rw [if_neg (by simp)] at hm
          rw [hm, List.append_nil] at HT'
          clear hm ho7
          have hxq := (HX.out.below HBX.out).nth (k := k) (by rw [HN.out]; exact hlt)
          obtain ⟨g', off', c'', hv', c0', c1'⟩ := hxq
          injection hv' with e1 e2 e3
          subst e3
          injection e1 with e1
          injection e1 with e1 e4 _
          subst e1 e4
          rw [HN.out] at e2
          rw [HQ.out] at c0' c1'
          simp only at c0' c1'
          clear e2
          go_wp2_with fail
          refine (s_noteCell _ p f c HOK.out HC).mono ?_
          rintro e w6 ⟨rfl, hb6⟩
          have HB2 := keptN (HBX.out.trans (hb6.mono HBX.out.size))
          have HO2 := keptN (HOX.out.below hb6)
          clear hb6 HBX HOX c0' c1'
          go_wp2_with (at_builtin; refine wpList_append_own _ rfl _ _ 25 rfl w.heap.size 3 i0 (.int .i64 0) 1 8 Try.underlying25 hi hz0 hz1 hz2 rfl (by decide) _ _ _ rfl (HO2.out.below ((Below.refl _ _).alloc (Nat.le_refl _) _)) ⟨_, 0, none⟩ 1 1 [.int .i64 c] rfl rfl new_one one_cell (by unfold maxLen; (try simp only [List.length_append, List.length_cons, List.length_nil]); omega) (by (try simp only [List.length_append, List.length_cons, List.length_nil]); omega) (by have := HB2.out.size; simp; omega) ?_)
          intro v5 w5 hown5 hgrow5 _
          have hO5 := OwnInts.snoc hown5
          have hB5 := below_append HB2.out HB2.out.size HO2.out hgrow5
          clear hown5 hgrow5 HB2 HO2
          rw [← HT'.out.1] at hO5
          have NXT := keptN (And.intro hO5 hB5)
          clear hO5 hB5
          go_wp2
          go_roundw
          case rel => exact ⟨k + 1, by omega, by go_num, by rw [HT'.out.2], NXT.out.1, NXT.out.2⟩
          case measure => simp [intOf]; omega
        | true =>
          have ho : octL.getD o.toNat 0 = octL.getD (p / 7).toNat 0 := by rw [ho7]
          rw [if_pos rfl] at hm
          obtain ⟨oc, hoc⟩ : ∃ oc, octL.getD (p / 7).toNat 0 = oc := ⟨_, rfl⟩
          rw [hoc] at ho hm
          have HOC := Lib.hid ho
          rw [hm] at HT'
          clear hm ho7 ho hoc
          go_wp2_with fail
          refine (s_octaveMark _ o oc o0.1 o0.2 HOC).mono ?_
          rintro e w4 ⟨rfl, hb4⟩
          have HB2 := keptN (HBX.out.trans (hb4.mono HBX.out.size))
          have HO2 := keptN (HOX.out.below hb4)
          clear hb4 HBX HOX
          go_wp2_with (at_builtin; refine wpList_append_own _ rfl _ _ 25 rfl w.heap.size 3 i0 (.int .i64 0) 1 8 Try.underlying25 hi hz0 hz1 hz2 rfl (by decide) _ _ _ rfl (HO2.out.below ((Below.refl _ _).alloc (Nat.le_refl _) _)) ⟨_, 0, none⟩ 1 1 [.int .i64 oc] rfl rfl new_one one_cell (by unfold maxLen; (try simp only [List.length_append, List.length_cons, List.length_nil]); omega) (by (try simp only [List.length_append, List.length_cons, List.length_nil]); omega) (by have := HB2.out.size; simp; omega) ?_)
          intro v5 w5 hown5 hgrow5 _
          have hO5 := OwnInts.snoc hown5
          have hB5 := below_append HB2.out HB2.out.size HO2.out hgrow5
          clear hown5 hgrow5 HB2 HO2
          obtain ⟨ao5, no5, co5, hoo5⟩ := hO5.isSliceU
          subst hoo5
          have HBX := keptN hB5
          have HOX := keptN hO5
          clear hB5 hO5
          have hxq := (HX.out.below HBX.out).nth (k := k) (by rw [HN.out]; exact hlt)
          obtain ⟨g', off', c'', hv', c0', c1'⟩ := hxq
          injection hv' with e1 e2 e3
          subst e3
          injection e1 with e1
          injection e1 with e1 e4 _
          subst e1 e4
          rw [HN.out] at e2
          rw [HQ.out] at c0' c1'
          simp only at c0' c1'
          clear e2
          go_wp2_with fail
          refine (s_noteCell _ p f c HOK.out HC).mono ?_
          rintro e w6 ⟨rfl, hb6⟩
          have HB2 := keptN (HBX.out.trans (hb6.mono HBX.out.size))
          have HO2 := keptN (HOX.out.below hb6)
          clear hb6 HBX HOX c0' c1'
          go_wp2_with (at_builtin; refine wpList_append_own _ rfl _ _ 25 rfl w.heap.size 3 i0 (.int .i64 0) 1 8 Try.underlying25 hi hz0 hz1 hz2 rfl (by decide) _ _ _ rfl (HO2.out.below ((Below.refl _ _).alloc (Nat.le_refl _) _)) ⟨_, 0, none⟩ 1 1 [.int .i64 c] rfl rfl new_one one_cell (by unfold maxLen; (try simp only [List.length_append, List.length_cons, List.length_nil]); omega) (by (try simp only [List.length_append, List.length_cons, List.length_nil]); omega) (by have := HB2.out.size; simp; omega) ?_)
          intro v5 w5 hown5 hgrow5 _
          have hO5 : OwnInts w5 w.heap.size v5 ((C ++ [oc]) ++ [c]) := OwnInts.snoc (by rw [List.length_append]; exact hown5)
          have hB5 := below_append HB2.out HB2.out.size HO2.out hgrow5
          clear hown5 hgrow5 HB2 HO2
          rw [← HT'.out.1] at hO5
          have NXT := keptN (And.intro hO5 hB5)
          clear hO5 hB5
          go_wp2
          go_roundw
          case rel => exact ⟨k + 1, by omega, by go_num, by rw [HT'.out.2], NXT.out.1, NXT.out.2⟩
          case measure => simp [intOf]; omega
    · obtain rfl : k = n := by omega
      have HO := keptN hO
      clear hO
      go_wp2
      go_ret
      exact ⟨_, _, _, rfl, HO.out, hb1⟩
set_option maxHeartbeats 1000000 in
theorem s_MusicCells (w : World) (v : Value) (P : List PNote) (L : List Int) (hx : NotesAt w v P) (hr : Hid (MusIs P L)) :
    Calls Try.prog 12 #[v] w fun e w' => MusOut L w e w' := by
  have HX := keptN hx
  obtain ⟨a, cp, rfl, x1, x2, _⟩ := hx
  obtain ⟨n, hn⟩ : ∃ n, P.length = n := ⟨_, rfl⟩
  rw [hn] at x1 HX ⊢
  clear hn
  by_cases hok : NtsOk P
  · have H3 : Hid (BIs true (NtsOk P)) := bisY hok
    have HK := keptN hok
    have HL : Hid (musTo P P.length = L) := by
      rcases hr.out with ⟨_, h⟩ | ⟨h, _⟩
      · exact h.symm
      · exact absurd hok h
    clear hok
    go_enter Try.func12, Try.ntmps12
    go_wp2_with fail
    refine (s_validNotes_b w _ P true HX.out H3).mono ?_
    rintro e w1 ⟨rfl, hb1⟩
    go_wp2_with fail
    refine (s_musicCells w1 _ P (HX.out.below hb1) HK).mono ?_
    rintro e w2 ⟨a2, n2, c2, rfl, hO2, hb2⟩
    rw [HL.out] at hO2
    have hO3 : OwnInts w2 w.heap.size (.slice a2 n2 c2) L := World.ownsRow.mono hO2 hb1.size
    have NXT := keptN (And.intro hO3 (below_next hb1 hb2))
    clear hO2 hO3 hb1 hb2
    go_wp2
    go_ret
    exact ⟨_, _, _, rfl, NXT.out.1, NXT.out.2⟩
  · have H3 : Hid (BIs false (NtsOk P)) := bisN hok
    have HF : Hid (L = []) := by
      rcases hr.out with ⟨h, _⟩ | ⟨_, h⟩
      · exact absurd h hok
      · exact h
    clear hok
    go_enter Try.func12, Try.ntmps12
    go_wp2_with fail
    refine (s_validNotes_b w _ P false HX.out H3).mono ?_
    rintro e w1 ⟨rfl, hb1⟩
    go_wp2
    go_ret
    exact ⟨none, 0, 0, rfl, by rw [HF.out]; exact OwnInts.nil _ _, hb1⟩
end Go.Proofs.Ytfofjjfnejigaaa
