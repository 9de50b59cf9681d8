
/- playKeys of the model. -/
import Derived.Test.YtjedkmhmkipkdaaBe
import Derived.BigRegion
import Derived.Deep.RegionLaw
import Derived.Deep.RegionHeld3
namespace Go.Proofs.Ytjedkmhmkipkdaa
open Go.RowKit

theorem results_twoB {fn : Func} {t u : Tmp} (h : fn.results = #[.tmp t, .tmp u]) (tmps : Array Value) (P : Program) (w : World) :
    (results fn tmps).run P w = .ok (.tuple #[tmps.getD t undef, tmps.getD u undef]) w := by
  simp [results, h]
theorem keptB {p : Prop} (h : p) : Hid p := h
/-- what the model holds behind k events -/
def PK (zs : List Int) (k : Nat) (t : KS) (L : List Int) : Prop := Up zs k t ∧ KeysOk L ∧ t.d = msk L ∧ L.length ≤ k
theorem PK.zero (zs : List Int) : PK zs 0 ks0 [] := ⟨Up.zero zs, KeysOk.nil, rfl, Nat.le_refl _⟩
theorem PK.press {zs : List Int} {k : Nat} {t : KS} {L : List Int} {e : Int} (h : PK zs k t L) (hk : k < zs.length) (he : zs.getD k 0 = e) (h0 : 1 ≤ e) (h1 : e ≤ 7) (hn : e ∉ L) :
    PK zs (k + 1) ⟨msk (L ++ [e]), (if t.c / kb e % 2 = 0 then t.c + kb e else t.c), t.out⟩ (L ++ [e]) := by
  have hc : CanB e t.d := by rw [h.2.2.1]; exact canB_list.2 (.inl ⟨h0, h1, hn⟩)
  have := h.1.succ hk he hc
  rw [nxt_press h.1.2 h.2.2.1 h0 h1 hn] at this
  exact ⟨this, h.2.1.add h0 h1 hn, rfl, by simp; exact h.2.2.2⟩
theorem PK.release {zs : List Int} {k : Nat} {t : KS} {L : List Int} {e : Int} {i : Nat} (h : PK zs k t L) (hk : k < zs.length) (he : zs.getD k 0 = e) (hi : i < L.length) (hL : L.getD i 0 = -e) :
    PK zs (k + 1) (if L.take i ++ L.drop (i + 1) = [] then ⟨0, 0, t.out ++ [(t.c : Int)]⟩ else ⟨msk (L.take i ++ L.drop (i + 1)), t.c, t.out⟩) (L.take i ++ L.drop (i + 1)) := by
  obtain ⟨hc, hn⟩ := nxt_release h.1.2 h.2.1 h.2.2.1 hi hL
  have := h.1.succ hk he hc
  rw [hn] at this
  refine ⟨this, (h.2.1.del hi hL).1, ?_, by have := h.2.2.2; simp; omega⟩
  split
  · rename_i h0; rw [h0]; rfl
  · rfl
theorem PK.bad {zs : List Int} {k : Nat} {t : KS} {L : List Int} {e : Int} (h : PK zs k t L) (hk : k < zs.length) (he : zs.getD k 0 = e) (hb : ¬ ((1 ≤ e ∧ e ≤ 7 ∧ e ∉ L) ∨ (-7 ≤ e ∧ e ≤ -1 ∧ -e ∈ L))) : runK ks0 zs = none := by
  subst he
  exact runK_bad h.1.1 hk (by rw [h.2.2.1]; exact fun h' => hb (canB_list.1 h'))
/-- the model's answer -/
def PlayOut (zs : List Int) (w : World) (e : Ending) (w' : World) : Prop :=
  (∃ a n c L b, e = .returned (.tuple #[.slice a n c, .bool b]) ∧ OwnInts w' w.heap.size (.slice a n c) L ∧ Below w.heap.size w w' ∧
    ((runK ks0 zs = none ∧ b = false ∧ L = []) ∨ ∃ t, runK ks0 zs = some t ∧ t.out = L ∧ (b = true ↔ t.d = 0)))
set_option maxRecDepth 20000 in
set_option maxHeartbeats 4000000 in
theorem s_playKeys (w : World) (u : Value) (zs : List Int) (hx : IntsAt w u zs) (hf : Fits zs) (hl : zs.length ≤ 280) :
    Calls Try.prog 38 #[u] w fun e w' => PlayOut zs w e w' := by
  obtain ⟨i0, hi, hz0, hz1, hz2⟩ := info_parts infoInt
  obtain ⟨a, c, rfl, x1, x2, x3⟩ := hx
  obtain ⟨n, hn⟩ : ∃ n, zs.length = n := ⟨_, rfl⟩
  rw [hn] at x1 x3 hl ⊢
  have HN := keptB hn
  have HF := keptB hf
  clear hn hf
  have hOa : OwnInts (w.alloc (.cells #[] 3)) w.heap.size (.slice (some ⟨w.heap.size, 0, none⟩) 0 0) [] := OwnInts.made w w.heap.size (Nat.le_refl _)
  have hBa : Below w.heap.size w (w.alloc (.cells #[] 3)) := (Below.refl _ _).alloc (Nat.le_refl _) _
  have hsa : (w.alloc (.cells #[] 3)).heap.size = w.heap.size + 1 := World.size_alloc _ _
  go_enter Try.func38, Try.ntmps38
  go_wp2_with fail
  have hOb : OwnInts ((w.alloc (.cells #[] 3)).alloc (.cells #[] 3)) w.heap.size (.slice (some ⟨w.heap.size + 1, 0, none⟩) 0 0) [] := by
    have := OwnInts.made (w.alloc (.cells #[] 3)) w.heap.size (by omega)
    rw [hsa] at this
    exact this
  have hOc : OwnInts ((w.alloc (.cells #[] 3)).alloc (.cells #[] 3)) w.heap.size (.slice (some ⟨w.heap.size, 0, none⟩) 0 0) [] := hOa.alloc _
  have hBb : Below w.heap.size w ((w.alloc (.cells #[] 3)).alloc (.cells #[] 3)) := hBa.alloc (by omega) _
  generalize ((w.alloc (.cells #[] 3)).alloc (.cells #[] 3)) = wA at hOb hOc hBb ⊢
  clear hOa hBa hsa
  go_loopw [4, 5, 6, 7] (fun o d q i wr => ∃ (k g1 n1 c1 g2 n2 c2 m : Nat) (t : KS) (L O : List Int), k ≤ n ∧ i = .int .i64 k ∧ q = .int .i64 m ∧ d = .slice (some ⟨g1, 0, none⟩) n1 c1 ∧ o = .slice (some ⟨g2, 0, none⟩) n2 c2 ∧ Hid (PK zs k t L) ∧ Hid (t.c = m) ∧ Hid (t.out = O) ∧ Hid (L.length = n1) ∧ Hid (O.length = n2) ∧ Hid (g1 ≠ g2) ∧ Hid (OwnInts wr w.heap.size (.slice (some ⟨g1, 0, none⟩) n1 c1) L) ∧ Hid (OwnInts wr w.heap.size (.slice (some ⟨g2, 0, none⟩) n2 c2) O) ∧ Hid (Below w.heap.size w wr)) (fun _ _ _ i _ => n - (intOf i).toNat)
  case atStart => exact ⟨0, _, 0, 0, _, 0, 0, 0, ks0, [], [], Nat.zero_le _, rfl, rfl, rfl, rfl, PK.zero _, rfl, rfl, rfl, rfl, (show _ ≠ _ by omega), hOb, hOc, hBb⟩
  case round =>
    clear hOb hOc hBb
    obtain ⟨k, g1, n1, c1, g2, n2, c2, m, t, L, O, hk, rfl, rfl, rfl, rfl, hp, hm, hO, hL1, hO2, hg12, hD, hOO, hB⟩ := hrel
    by_cases hlt : k < n
    · rcases x3 with rfl | ⟨g, off, rfl, x3⟩
      · exact absurd HN.out (by simp; omega)
      have cx := (hB.out.cell (World.block_lt_of_cell? w _ (x3 k hlt))).trans (x3 k hlt)
      have hfit := HF.out.at k
      obtain ⟨y, hy⟩ : ∃ y, zs.getD k 0 = y := ⟨_, rfl⟩
      rw [hy] at cx hfit
      have hkl : Hid (k < zs.length) := by show _ < _; rw [HN.out]; exact hlt
      have HY := keptB hy
      have k0 : (0 : Int) ≤ (k : Int) := by omega
      have k1 : (k : Int) < (n : Int) := by omega
      clear hy x3
      by_cases h1 : 1 ≤ y ∧ y ≤ 7
      · obtain ⟨h1, h7⟩ := h1
        have uy : IntKind.i64.wrap (-y) = -y := IntWalk.i64_in _ (by omega)
        go_wp2_with fail
        go_region
        have hDd : OwnInts wr.drew w.heap.size (.slice (some ⟨g1, 0, none⟩) n1 c1) L := hD.out.drew
        have hOd : OwnInts wr.drew w.heap.size (.slice (some ⟨g2, 0, none⟩) n2 c2) O := hOO.out.drew
        have hBd : Below w.heap.size w wr.drew := hB.out.drew
        have cxd : wr.drew.cell? ⟨g, off + k, none⟩ = some (.int .i64 y) := cx
        have hsz := hBd.size
        generalize wr.drew = wd at hDd hOd hBd cxd hsz ⊢
        clear cx hD hOO hB
        go_wp2_with fail
        refine (s_placeInB wd _ L y hDd.at).mono ?_
        rintro e w' ⟨r, rfl, rfl, hr⟩
        have e0 : (y == 0) = false := by simp; omega
        have d0 : decide (0 < y) = true := decide_eq_true (by omega)
        rcases hr with ⟨hnm, rfl⟩ | ⟨i, hil, rfl, hiL⟩
        · go_wp2_with fail
          refine (inRange_yes _ _ _ _ (by omega) h7).mono ?_
          rintro e w' ⟨rfl, rfl⟩
          have hn16 : L.length ≤ 280 := by have := hp.out.2.2.2; omega
          have HPR := keptB (hp.out.press hkl.out HY.out h1 h7 hnm)
          have hm128 : m < 128 := by rw [← hm.out]; exact hp.out.1.2.2.1
          have hkbl := kb_lt h1 h7
          rw [hm.out] at HPR
          obtain ⟨v, hv⟩ : ∃ v, kb y = v := ⟨_, rfl⟩
          rw [hv] at HPR hkbl
          have HV := keptB hv
          obtain ⟨q, hq⟩ : ∃ q, m / v = q := ⟨_, rfl⟩
          obtain ⟨r, hr⟩ : ∃ r, q % 2 = r := ⟨_, rfl⟩
          have hqm : q ≤ m := by rw [← hq]; exact Nat.div_le_self _ _
          have t1 : ((m : Int)).tdiv (v : Int) = (q : Int) := by rw [Int.tdiv_eq_ediv_of_nonneg (by omega), ← hq]; simp
          have t2 : ((q : Int)).tmod 2 = (r : Int) := by rw [Int.tmod_eq_emod_of_nonneg (by omega), ← hr]; simp
          rw [hq, hr] at HPR
          have v0 : ((v : Int) == 0) = false := by simp; omega
          have w1 : IntKind.i64.wrap (q : Int) = q := IntWalk.i64_in _ (by omega)
          have hr2 : r < 2 := by rw [← hr]; exact Nat.mod_lt _ (by omega)
          have w2 : IntKind.i64.wrap (r : Int) = r := IntWalk.i64_in _ (by omega)
          have hg2s : Hid (g2 < wd.heap.size) := (hOd.lt g2 rfl).2
          clear hv hq hr hnm
          go_wp2_with (at_builtin; refine wpList_append_own_at _ rfl _ _ 23 rfl w.heap.size 3 i0 (.int .i64 0) 1 8 Try.underlying23 hi hz0 hz1 hz2 rfl (by decide) _ _ _ rfl (hDd.alloc _) ⟨wd.heap.size, 0, none⟩ 1 1 [.int .i64 y] rfl rfl new_one one_cell (by unfold maxLen; omega) (by omega) (by simp; omega) ?_)
          intro v' w5 hown' hgrow hnil' hblk
          have R1 := OwnInts.snoc hown'
          have R2 : Hid (Below w.heap.size w w5) := below_append hBd hsz hDd hgrow
          have R3 : Hid (OwnInts w5 w.heap.size (.slice (some ⟨g2, 0, none⟩) n2 c2) O) := OwnInts.beside (hOd.alloc _) hgrow (fun e => hg12.out (by simpa [Value.ownBlock] using e))
          obtain ⟨g3, c3, rfl, _, _⟩ := R1.sliceB (fun e => hnil' e)
          have R4 : Hid (g3 ≠ g2) := by
            show _ ≠ _
            have := hg2s.out
            simp only [Value.ownBlock, Option.some.injEq] at hblk
            rcases hblk with h | h
            · rw [h]; exact hg12.out
            · omega
          have hlen3 : Hid ((L ++ [y]).length = n1 + 1) := by show _ = _; rw [List.length_append, hL1.out]; rfl
          have R5 : Hid (OwnInts w5 w.heap.size (.slice (some ⟨g3, 0, none⟩) (n1 + 1) c3) (L ++ [y])) := by have := R1; rw [hlen3.out] at this; exact this
          rw [hlen3.out]
          clear hown' hgrow hnil' hblk R1 hDd hOd hBd cxd
          go_wp2_with fail
          refine (s_bitOf _ v _ h1 h7 HV).mono ?_
          rintro e w' ⟨rfl, rfl⟩
          by_cases hr0 : r = 0
          · subst hr0
            go_wp2_with fail
            refine (s_bitOf _ v _ h1 h7 HV).mono ?_
            rintro e w' ⟨rfl, rfl⟩
            go_wp2
            go_roundw
            case rel => exact ⟨k + 1, g3, n1 + 1, c3, g2, n2, c2, m + v, _, _, _, by omega, by go_num, by go_num, rfl, rfl, HPR, keptB (by simp), hO, hlen3, hO2, R4, R5, R3, R2⟩
            case measure => simp [intOf]; omega
          · have r0 : ((r : Int) == 0) = false := by simp; omega
            have HPR2 := HPR
            rw [if_neg hr0] at HPR2
            clear HPR hr0
            go_wp2
            go_roundw
            case rel => exact ⟨k + 1, g3, n1 + 1, c3, g2, n2, c2, m, _, _, _, by omega, by go_num, rfl, rfl, rfl, HPR2, rfl, hO, hlen3, hO2, R4, R5, R3, R2⟩
            case measure => simp [intOf]; omega
        · have HBAD : Hid (runK ks0 zs = none) := hp.out.bad hkl.out HY.out (by
            have hm : y ∈ L := by rw [← hiL]; exact mem_atB hil
            rintro (h' | h')
            · exact h'.2.2 hm
            · omega)
          clear hiL hil
          go_wp2_with fail
          refine (inRange_yes _ _ _ _ (by omega) h7).mono ?_
          rintro e w' ⟨rfl, rfl⟩
          go_wp2
          refine bodyPost_ret (results_twoB rfl _ _ _) rfl ?_
          exact ⟨_, _, _, _, _, rfl, OwnInts.nil _ _, hBd, .inl ⟨HBAD.out, rfl, rfl⟩⟩
      · by_cases h2 : -7 ≤ y ∧ y ≤ -1
        · obtain ⟨h2, h7⟩ := h2
          obtain ⟨x, rfl⟩ : ∃ x, y = -x := ⟨-y, by omega⟩
          have x1' : 1 ≤ x := by omega
          have x7 : x ≤ 7 := by omega
          have uy : IntKind.i64.wrap x = x := IntWalk.i64_in _ (by omega)
          clear h1
          go_wp2_with fail
          go_region
          have hDd : OwnInts wr.drew w.heap.size (.slice (some ⟨g1, 0, none⟩) n1 c1) L := hD.out.drew
          have hOd : OwnInts wr.drew w.heap.size (.slice (some ⟨g2, 0, none⟩) n2 c2) O := hOO.out.drew
          have hBd : Below w.heap.size w wr.drew := hB.out.drew
          have cxd : wr.drew.cell? ⟨g, off + k, none⟩ = some (.int .i64 (-x)) := cx
          have hsz := hBd.size
          generalize wr.drew = wd at hDd hOd hBd cxd hsz ⊢
          clear cx hD hOO hB
          go_wp2_with fail
          refine (s_placeInB wd _ L x hDd.at).mono ?_
          rintro e w' ⟨r, rfl, rfl, hr⟩
          have e0 : (x == 0) = false := by simp; omega
          have d0 : decide (0 < -x) = false := decide_eq_false (by omega)
          have d0b : decide (x < 0) = false := decide_eq_false (by omega)
          rcases hr with ⟨hnm, rfl⟩ | ⟨i, hil, rfl, hiL⟩
          · have HBAD : Hid (runK ks0 zs = none) := hp.out.bad hkl.out HY.out (by
              rintro (h' | h')
              · omega
              · rw [Int.neg_neg] at h'; exact hnm h'.2.2)
            clear hnm
            go_wp2_with fail
            refine (inRange_yes _ _ _ _ (by omega) (by omega)).mono ?_
            rintro e w' ⟨rfl, rfl⟩
            go_wp2
            refine bodyPost_ret (results_twoB rfl _ _ _) rfl ?_
            exact ⟨_, _, _, _, _, rfl, OwnInts.nil _ _, hBd, .inl ⟨HBAD.out, rfl, rfl⟩⟩
          · go_wp2_with fail
            refine (inRange_yes _ _ _ _ (by omega) (by omega)).mono ?_
            rintro e w' ⟨rfl, rfl⟩
            have hn16 : n1 ≤ 280 := by have := hp.out.2.2.2; have := hL1.out; omega
            have hi1 : i < n1 := by have := hL1.out; omega
            have HPR := keptB (hp.out.release hkl.out HY.out hil (by rw [hiL, Int.neg_neg]))
            rw [hm.out, hO.out] at HPR
            have hcap : n1 ≤ c1 ∧ c1 ≤ 9223372036854775807 := by
              obtain ⟨_, _, e, h3, h4, _⟩ := hDd.at
              injection e with _ e2 e3
              omega
            obtain ⟨hc1, hc2⟩ := hcap
            have HIN : Hid (IntsAt wd.drew (.slice (some ⟨g1, 0, none⟩) i c1) (L.take i)) := (hDd.headB (Nat.le_of_lt hi1) hL1.out).at.drewN 1
            have HTL : Hid ((L.take i).length = i) := by show _ = _; rw [List.length_take]; have := hL1.out; omega
            have hdrop0 := hDd.at.dropB (k := i + 1)
            obtain ⟨ad, had, hdrop⟩ : ∃ ad, (if c1 = i + 1 then some (⟨g1, 0, none⟩ : Addr) else some ⟨g1, i + 1, none⟩) = some ad ∧ ∀ wx, Below wd.heap.size wd wx → ∀ j u, (ints (L.drop (i + 1)))[j]? = some u → wx.cell? (ad.add j) = some u := by
              by_cases hc : c1 = i + 1
              · refine ⟨_, if_pos hc, fun wx hb j u hj => ?_⟩
                have e : L.drop (i + 1) = [] := List.drop_eq_nil_of_le (by have := hL1.out; omega)
                rw [e] at hj
                simp [ints] at hj
              · refine ⟨_, if_neg hc, fun wx hb j u hj => ?_⟩
                have h2 := hdrop0 j u hj
                exact (hb.cell (World.block_lt_of_cell? wd _ h2)).trans h2
            have HDR := keptB hdrop
            have hl2 : Hid ((ints (L.drop (i + 1))).length = (n1 - (i + 1)) * 1) := by
              show _ = _
              rw [ints_length, List.length_drop, hL1.out]; omega
            have hg2s : Hid (g2 < wd.heap.size) := (hOd.lt g2 rfl).2
            have b1 : (0 : Int) ≤ (i : Int) := by omega
            have b2 : (i : Int) ≤ (c1 : Int) := by omega
            have b3 : (0 : Int) ≤ (i : Int) + 1 := by omega
            have b4 : (i : Int) + 1 ≤ (n1 : Int) := by omega
            have b5 : (n1 : Int) ≤ (c1 : Int) := by omega
            have u1 : IntKind.i64.wrap ((i : Int) + 1) = (i : Int) + 1 := IntWalk.i64_in _ (by omega)
            have u2 : ((i : Int) + 1).toNat = i + 1 := by omega
            have ZZ : Hid ((L.take i).length + (n1 - (i + 1)) ≤ maxLen ∧ ((L.take i).length + (n1 - (i + 1))) * 8 ≤ 140737488355328) := ⟨by rw [HTL.out]; unfold maxLen; omega, by rw [HTL.out]; omega⟩
            have HB0 : Hid (Below wd.heap.size wd wd.drew) := (Below.refl _ _).drew
            have HDL : Hid ((L.take i ++ L.drop (i + 1)).length = n1 - 1) := by show _ = _; rw [List.length_append, HTL.out, List.length_drop, hL1.out]; omega
            have HOD := keptB hOd
            have HBD := keptB hBd
            have HTS : Hid ((L.take i).length ≤ 1048576) := by show _ ≤ _; rw [HTL.out]; omega
            have HCP : Hid (Calls Try.prog 52 #[.slice (some ⟨g1, 0, none⟩) i c1] wd.drew fun e w' => ∃ g c, e = .returned (.slice (some ⟨g, 0, none⟩) i c) ∧ OwnInts w' wd.heap.size (.slice (some ⟨g, 0, none⟩) i c) (L.take i) ∧ Below wd.heap.size wd.drew w') := by
              have := s_copyInts_B wd.drew _ (L.take i) HIN.out HTS.out (.inl ⟨_, _, _, _, rfl⟩)
              rw [HTL.out] at this
              exact this
            clear hDd hOd hBd hil hiL hdrop hdrop0
            go_wp2_with fail
            go_region_held3 (fun wy => True) (exact trivial) (first | (go_at_call 52; refine HCP.out.mono ?_; rintro e w5 ⟨g5, c5, rfl, hO5, hb5⟩; have HO5 := keptB hO5; have HB5 : Hid (Below wd.heap.size wd w5) := HB0.out.trans hb5; have HS5 : Hid (wd.heap.size ≤ w5.heap.size) := HB5.out.size; clear hO5 hb5) | ((rw [if_pos (by rfl)]); refine wp_append_own _ (.tmp 70) (.tmp 74) 23 rfl wd.heap.size 3 i0 (.int .i64 0) 1 8 Try.underlying23 hi hz0 hz1 hz2 rfl (by decide) (.slice (some ⟨g5, 0, none⟩) i c5) (L.take i).length (ints (L.take i)) rfl HO5.out ad (n1 - (i + 1)) (c1 - (i + 1)) (ints (L.drop (i + 1))) rfl hl2.out (HDR.out _ HB5.out) (ints_oneB _) ZZ.out.1 ZZ.out.2 HS5.out ?_; intro v6 w6 hown6 hgrow6 hnil6))
            have O6 := OwnInts.addAllB hown6 (by rw [HTL.out]; have := hl2.out; rw [ints_length] at this; omega)
            have hB6 : Below wd.heap.size wd w6 := HB5.out.grown hgrow6 HS5.out (fun q hq => (HO5.out.lt q hq).1)
            have R2 : Hid (Below w.heap.size w w6) := HBD.out.trans (hB6.mono hsz)
            have R3 : OwnInts w6 w.heap.size (.slice (some ⟨g2, 0, none⟩) n2 c2) O := HOD.out.below hB6
            obtain ⟨D, hDD⟩ : ∃ D, L.take i ++ L.drop (i + 1) = D := ⟨_, rfl⟩
            rw [hDD] at O6 HPR HDL
            obtain ⟨g6, c6, hv6, hg6, hg6b⟩ := O6.sliceB (fun e => by have := (hnil6.1 e).1; simp at this)
            subst hv6
            have R4 : Hid (g6 ≠ g2) := by show _ ≠ _; have := hg2s.out; omega
            have R5 : OwnInts w6 w.heap.size (.slice (some ⟨g6, 0, none⟩) D.length c6) D := O6.low hsz
            obtain ⟨d, hd⟩ : ∃ d, n1 - 1 = d := ⟨_, rfl⟩
            rw [hd] at HDL
            rw [HDL.out] at R5 ⊢
            have HR5 := keptB R5
            have hs6 : w.heap.size ≤ w6.heap.size := R2.out.size
            clear hown6 hgrow6 hnil6 hDD hd had R5 O6 hB6 hg6 HCP HIN HDR HO5 HB5 HS5 ZZ HTL HTS hl2 HB0 b1 b2 b3 b4 b5 u1 u2 cxd HOD HBD hL1
            by_cases hd0 : d = 0
            · subst hd0
              have hDn : D = [] := List.length_eq_zero_iff.1 HDL.out
              rw [if_pos hDn] at HPR
              have hOl : O.length ≤ 280 := by
                have := hp.out.1.outs (by have := hkl.out; omega)
                rw [hO.out] at this; omega
              clear hDn
              go_wp2_with (at_builtin; refine wpList_append_own_at _ rfl _ _ 23 rfl w.heap.size 3 i0 (.int .i64 0) 1 8 Try.underlying23 hi hz0 hz1 hz2 rfl (by decide) _ _ _ rfl (R3.alloc _) ⟨w6.heap.size, 0, none⟩ 1 1 [.int .i64 (m : Int)] rfl rfl new_one one_cell (by unfold maxLen; omega) (by omega) (by simp; omega) ?_)
              intro v' w7 hown' hgrow hnil' hblk
              have Q1 := OwnInts.snoc hown'
              have Q2 : Hid (Below w.heap.size w w7) := below_append R2.out hs6 R3 hgrow
              have Q3 : Hid (OwnInts w7 w.heap.size (.slice (some ⟨g6, 0, none⟩) 0 c6) D) := OwnInts.beside (HR5.out.alloc _) hgrow (fun e => R4.out (by have := Option.some.inj e; exact this.symm))
              obtain ⟨g7, c7, rfl, _, _⟩ := Q1.sliceB (fun e => hnil' e)
              have Q4 : Hid (g6 ≠ g7) := by
                show _ ≠ _
                simp only [Value.ownBlock, Option.some.injEq] at hblk
                rcases hblk with h | h
                · rw [h]; exact R4.out
                · omega
              have hlen3 : Hid ((O ++ [(m : Int)]).length = n2 + 1) := by show _ = _; rw [List.length_append, hO2.out]; rfl
              have Q5 : Hid (OwnInts w7 w.heap.size (.slice (some ⟨g7, 0, none⟩) (n2 + 1) c7) (O ++ [(m : Int)])) := by have := Q1; rw [hlen3.out] at this; exact this
              rw [hlen3.out]
              clear hown' hgrow hnil' hblk Q1 R3
              go_wp2
              go_roundw
              case rel => exact ⟨k + 1, g6, 0, c6, g7, n2 + 1, c7, 0, _, _, _, by omega, by go_num, rfl, rfl, rfl, HPR, rfl, rfl, HDL, hlen3, Q4, Q3, Q5, Q2⟩
              case measure => simp [intOf]; omega
            · have dd0 : ((d : Int) == 0) = false := by simp; omega
              have hDn : D ≠ [] := fun e => hd0 (by rw [← HDL.out, e]; rfl)
              rw [if_neg hDn] at HPR
              have HR3 := keptB R3
              clear hDn hd0 R3
              go_wp2
              go_roundw
              case rel => exact ⟨k + 1, g6, d, c6, g2, n2, c2, m, _, _, _, by omega, by go_num, rfl, rfl, rfl, HPR, rfl, rfl, HDL, hO2, R4, HR5, HR3, R2⟩
              case measure => simp [intOf]; omega
        · have HBAD : Hid (runK ks0 zs = none) := hp.out.bad hkl.out HY.out (by omega)
          by_cases y0 : y = 0
          · subst y0
            clear h1 h2
            go_wp2_with fail
            go_region
            have hDd : OwnInts wr.drew w.heap.size (.slice (some ⟨g1, 0, none⟩) n1 c1) L := hD.out.drew
            have hBd : Below w.heap.size w wr.drew := hB.out.drew
            have cxd : wr.drew.cell? ⟨g, off + k, none⟩ = some (.int .i64 0) := cx
            generalize wr.drew = wd at hDd hBd cxd ⊢
            clear cx hD hOO hB
            go_wp2_with fail
            refine (s_placeInB wd _ L _ hDd.at).mono ?_
            rintro e w' ⟨r, rfl, rfl, hr⟩
            clear hr
            go_wp2_with fail
            refine (inRange_yes _ _ _ _ (by omega) (by omega)).mono ?_
            rintro e w' ⟨rfl, rfl⟩
            go_wp2
            refine bodyPost_ret (results_twoB rfl _ _ _) rfl ?_
            exact ⟨_, _, _, _, _, rfl, OwnInts.nil _ _, hBd, .inl ⟨HBAD.out, rfl, rfl⟩⟩
          · by_cases ym : y = -9223372036854775808
            · subst ym
              have uy : wrap64 9223372036854775808 = -9223372036854775808 := by unfold wrap64; omega
              clear h1 h2 y0
              go_wp2_with fail
              go_region
              have hDd : OwnInts wr.drew w.heap.size (.slice (some ⟨g1, 0, none⟩) n1 c1) L := hD.out.drew
              have hBd : Below w.heap.size w wr.drew := hB.out.drew
              have cxd : wr.drew.cell? ⟨g, off + k, none⟩ = some (.int .i64 (-9223372036854775808)) := cx
              generalize wr.drew = wd at hDd hBd cxd ⊢
              clear cx hD hOO hB
              go_wp2_with fail
              refine (s_placeInB wd _ L _ hDd.at).mono ?_
              rintro e w' ⟨r, rfl, rfl, hr⟩
              clear hr
              go_wp2_with fail
              refine (inRange_no _ _ _ _ (by omega)).mono ?_
              rintro e w' ⟨rfl, rfl⟩
              go_wp2
              refine bodyPost_ret (results_twoB rfl _ _ _) rfl ?_
              exact ⟨_, _, _, _, _, rfl, OwnInts.nil _ _, hBd, .inl ⟨HBAD.out, rfl, rfl⟩⟩
            · have uy : IntKind.i64.wrap (-y) = -y := IntWalk.i64_in _ (by omega)
              have hyo : y < -7 ∨ 7 < y := by omega
              clear h1 h2 ym y0
              rcases hyo with hyo | hyo
              all_goals
                go_wp2_with fail
                go_region
                have hDd : OwnInts wr.drew w.heap.size (.slice (some ⟨g1, 0, none⟩) n1 c1) L := hD.out.drew
                have hBd : Below w.heap.size w wr.drew := hB.out.drew
                have cxd : wr.drew.cell? ⟨g, off + k, none⟩ = some (.int .i64 y) := cx
                generalize wr.drew = wd at hDd hBd cxd ⊢
                clear cx hD hOO hB
                go_wp2_with fail
                refine (s_placeInB wd _ L _ hDd.at).mono ?_
                rintro e w' ⟨r, rfl, rfl, hr⟩
                clear hr
                go_wp2_with fail
                refine (inRange_no _ _ _ _ (by omega)).mono ?_
                rintro e w' ⟨rfl, rfl⟩
                go_wp2
                refine bodyPost_ret (results_twoB rfl _ _ _) rfl ?_
                exact ⟨_, _, _, _, _, rfl, OwnInts.nil _ _, hBd, .inl ⟨HBAD.out, rfl, rfl⟩⟩
    · obtain rfl : k = n := by omega
      have hup := hp.out.1.1
      rw [List.take_of_length_le (by rw [HN.out]; exact Nat.le_refl _)] at hup
      have HUP := keptB hup
      have HLD : Hid ((n1 = 0) ↔ t.d = 0) := by
        show _ ↔ _
        constructor
        · intro h0
          have : L = [] := List.length_eq_zero_iff.1 (by rw [hL1.out]; exact h0)
          rw [hp.out.2.2.1, this]; rfl
        · intro h0
          have : L = [] := msk_zero hp.out.2.1 (by rw [← hp.out.2.2.1]; exact h0)
          rw [← hL1.out, this]; rfl
      clear hup
      go_wp2
      refine bodyPost_ret (results_twoB rfl _ _ _) rfl ?_
      exact ⟨_, _, _, O, _, rfl, hOO.out, hB.out, .inr ⟨t, HUP.out, hO.out, by rw [← HLD.out]; simp⟩⟩
end Go.Proofs.Ytjedkmhmkipkdaa
