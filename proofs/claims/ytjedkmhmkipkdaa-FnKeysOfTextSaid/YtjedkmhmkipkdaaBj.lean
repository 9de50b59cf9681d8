
/- The draw of events. -/
import Derived.Test.YtjedkmhmkipkdaaBf
import Derived.Test.YtjedkmhmkipkdaaDrL
namespace Go.Proofs.Ytjedkmhmkipkdaa
open Go.RowKit

theorem grown_below {a b c : World} {row : Option Nat} (h : a.grownBy b row) (k : Below b.heap.size b c) : a.grownBy c row :=
  grown_own (row' := none) h ⟨k.os, k.tape, k.output, k.size, fun i hi _ => k.block i hi⟩ (by simp)
set_option maxRecDepth 20000 in
set_option maxHeartbeats 1000000 in
theorem someEvents_any (w : World) (B R L0 p : Nat) (h : RD w B R L0 p) (hp : p ≤ 1000000000) :
    Calls Try.prog 34 #[.pointer (some ⟨R, 0, none⟩)] w fun e w' => CellsDrawn (-8) 8 40 30 w B R L0 p e w' := by
  obtain ⟨i0, hi, hz0, hz1, hz2⟩ := info_parts infoInt
  have hR := h.lt
  have hOa : OwnInts (w.alloc (.cells #[] 3)) w.heap.size (.slice (some ⟨w.heap.size, 0, none⟩) 0 0) [] := OwnInts.made w w.heap.size (Nat.le_refl _)
  have hsa : (w.alloc (.cells #[] 3)).heap.size = w.heap.size + 1 := World.size_alloc _ _
  have hOb : OwnInts ((w.alloc (.cells #[] 3)).alloc (.cells #[] 3)) w.heap.size (.slice (some ⟨w.heap.size + 1, 0, none⟩) 0 0) [] := by
    have := OwnInts.made (w.alloc (.cells #[] 3)) w.heap.size (by omega)
    rw [hsa] at this
    exact this
  have hOc : OwnInts ((w.alloc (.cells #[] 3)).alloc (.cells #[] 3)) w.heap.size (.slice (some ⟨w.heap.size, 0, none⟩) 0 0) [] := hOa.alloc _
  have hgb : w.grownBy ((w.alloc (.cells #[] 3)).alloc (.cells #[] 3)) (some R) := grown_trans (World.grownBy_alloc w _ _) (World.grownBy_alloc _ _ _)
  have hrb : RD ((w.alloc (.cells #[] 3)).alloc (.cells #[] 3)) B R L0 p := (h.alloc _).alloc _
  go_enter Try.func34, Try.ntmps34
  go_wp2_with fail
  have hsb : Hid (((w.alloc (.cells #[] 3)).alloc (.cells #[] 3)).heap.size = w.heap.size + 1 + 1) := by show _ = _; rw [World.size_alloc, hsa]
  generalize ((w.alloc (.cells #[] 3)).alloc (.cells #[] 3)) = wA at hOb hOc hgb hrb hsb ⊢
  clear hOa hsa h
  have hltA := hrb.lt
  refine (one_any _ B R L0 p (w.heap.size + 1 + 1) 5 5 [8, 14, 20, 4, 0] (hrb.alloc _) (by rw [← hsb.out]; exact heap_alloc_new wA _) (by omega) (Lib.hid rfl) (by omega) (by omega) (by omega)).mono ?_
  rintro e w1 ⟨z1, rfl, hz, hrd1, hgr1⟩
  obtain ⟨N, rfl⟩ : ∃ N : Nat, z1 = N := ⟨z1.toNat, by simp at hz; omega⟩
  have hN : N ≤ 20 := by simp at hz; omega
  have hg1 : w.grownBy w1 (some R) := grown_trans hgb (grown_trans (World.grownBy_alloc wA _ _) hgr1)
  have hD1 : OwnInts w1 w.heap.size (.slice (some ⟨w.heap.size + 1, 0, none⟩) 0 0) [] := OwnInts.overR (hOb.alloc _) hgr1 hR
  have hO1 : OwnInts w1 w.heap.size (.slice (some ⟨w.heap.size, 0, none⟩) 0 0) [] := OwnInts.overR (hOc.alloc _) hgr1 hR
  clear hz hOb hOc hgb hrb hgr1 hltA
  go_wp2_with fail
  go_loopw [3, 4, 5] (fun o d i wr => ∃ (k g1 n1 c1 g2 n2 c2 q : Nat) (L O : List Int), i = .int .i64 k ∧ n1 + k ≤ 20 ∧ n2 + k ≤ 20 ∧ q + k ≤ p + 21 ∧ d = .slice (some ⟨g1, 0, none⟩) n1 c1 ∧ o = .slice (some ⟨g2, 0, none⟩) n2 c2 ∧ Hid (L.length = n1) ∧ Hid (O.length = n2) ∧ Hid (g1 ≠ g2) ∧ Hid (Between 1 7 L) ∧ Hid (Between (-8) 8 O) ∧ Hid (OwnInts wr w.heap.size (.slice (some ⟨g1, 0, none⟩) n1 c1) L) ∧ Hid (OwnInts wr w.heap.size (.slice (some ⟨g2, 0, none⟩) n2 c2) O) ∧ Hid (RD wr B R L0 q) ∧ Hid (w.grownBy wr (some R))) (fun _ _ i _ => (intOf i).toNat)
  case atStart => exact ⟨N, _, 0, 0, _, 0, 0, p + 1, [], [], rfl, by omega, by omega, by omega, rfl, rfl, rfl, rfl, (show _ ≠ _ by omega), Between.nil _ _, Between.nil _ _, hD1, hO1, hrd1, hg1⟩
  case round =>
    clear hD1 hO1 hrd1 hg1
    obtain ⟨k, g1, n1, c1, g2, n2, c2, q, L, O, rfl, hk1, hk2, hq, rfl, rfl, hL1, hO2, hg12, hLb, hOb, hD, hOO, hrd, hg⟩ := hrel
    have hsz := hg.out.size
    by_cases hlt : 0 < k
    · go_wp2_with fail
      refine (pick_any _ B R L0 q _ hrd.out (by omega) (by omega) (by omega)).mono ?_
      rintro e w2 ⟨x0, rfl, hx0, hrd2, hgr2⟩
      have hD2 : OwnInts w2 w.heap.size (.slice (some ⟨g1, 0, none⟩) n1 c1) L := hD.out.overR hgr2 hR
      have hO2' : OwnInts w2 w.heap.size (.slice (some ⟨g2, 0, none⟩) n2 c2) O := hOO.out.overR hgr2 hR
      have hg2 : w.grownBy w2 (some R) := grown_trans hg.out hgr2
      have hs2 := hg2.size
      obtain ⟨x, hxx⟩ : ∃ x : Int, 1 + (x0 : Int) = x := ⟨_, rfl⟩
      have x1 : 1 ≤ x := by omega
      have x7 : x ≤ 7 := by omega
      have uw : IntKind.i64.wrap x = x := IntWalk.i64_in _ (by omega)
      have uwn : IntKind.i64.wrap (-x) = -x := IntWalk.i64_in _ (by omega)
      have uk : IntKind.i64.wrap ((k : Int) - 1) = (k : Int) - 1 := IntWalk.i64_in _ (by omega)
      clear hD hOO hrd hg hgr2
      go_wp2_with fail
      refine (s_placeInB w2 _ L x hD2.at).mono ?_
      rintro e w' ⟨r, rfl, rfl, hr⟩
      rcases hr with ⟨hnm, rfl⟩ | ⟨i, hil, rfl, hiL⟩
      · have hll : L.length ≤ 20 := by rw [hL1.out]; omega
        have hoo : O.length ≤ 20 := by rw [hO2.out]; omega
        have hg2s : Hid (g2 < w2.heap.size) := (hO2'.lt g2 rfl).2
        clear hnm
        go_wp2_with (at_builtin; refine wpList_append_own_at _ rfl _ _ 23 rfl w.heap.size 3 i0 (.int .i64 0) 1 8 Try.underlying23 hi hz0 hz1 hz2 rfl (by decide) _ _ _ rfl (hD2.alloc _) ⟨w2.heap.size, 0, none⟩ 1 1 [.int .i64 x] rfl rfl new_one one_cell (by unfold maxLen; omega) (by omega) (by simp; omega) ?_)
        intro v' w5 hown' hgrow hnil' hblk
        obtain ⟨R1, R2, R3⟩ := snoc_step hR hD2 hrd2 hg2 hown' hgrow
        have R6 : OwnInts w5 w.heap.size (.slice (some ⟨g2, 0, none⟩) n2 c2) O := OwnInts.beside (hO2'.alloc _) hgrow (fun e => hg12.out (by simpa [Value.ownBlock] using e))
        obtain ⟨g3, c3, rfl, _, _⟩ := R1.sliceB (fun e => hnil' e)
        have R4 : Hid (g3 ≠ g2) := by
          show _ ≠ _
          have := hg2s.out
          simp only [Value.ownBlock, Option.some.injEq] at hblk
          rcases hblk with h | h
          · rw [h]; exact hg12.out
          · omega
        have hlen3 : Hid ((L ++ [x]).length = n1 + 1) := by show _ = _; rw [List.length_append, hL1.out]; rfl
        have R5 : Hid (OwnInts w5 w.heap.size (.slice (some ⟨g3, 0, none⟩) (n1 + 1) c3) (L ++ [x])) := by have := R1; rw [hlen3.out] at this; exact this
        have hg3s : Hid (g3 < w5.heap.size) := (R5.out.lt g3 rfl).2
        have hs5 := R3.size
        rw [hlen3.out]
        clear hown' hgrow hnil' hblk R1 hD2 hO2' hrd2 hg2
        go_wp2_with (at_builtin; refine wpList_append_own_at _ rfl _ _ 23 rfl w.heap.size 3 i0 (.int .i64 0) 1 8 Try.underlying23 hi hz0 hz1 hz2 rfl (by decide) _ _ _ rfl (R6.alloc _) ⟨w5.heap.size, 0, none⟩ 1 1 [.int .i64 x] rfl rfl new_one one_cell (by unfold maxLen; omega) (by omega) (by simp; omega) ?_)
        intro v' w6 hown' hgrow hnil' hblk
        obtain ⟨Q1, Q2, Q3⟩ := snoc_step hR R6 R2 R3 hown' hgrow
        have Q6 : Hid (OwnInts w6 w.heap.size (.slice (some ⟨g3, 0, none⟩) (n1 + 1) c3) (L ++ [x])) := OwnInts.beside (R5.out.alloc _) hgrow (fun e => R4.out (by have := Option.some.inj e; exact this.symm))
        obtain ⟨g4, c4, rfl, _, _⟩ := Q1.sliceB (fun e => hnil' e)
        have Q4 : Hid (g3 ≠ g4) := by
          show _ ≠ _
          have := hg3s.out
          simp only [Value.ownBlock, Option.some.injEq] at hblk
          rcases hblk with h | h
          · rw [h]; exact R4.out
          · omega
        have hlen4 : Hid ((O ++ [x]).length = n2 + 1) := by show _ = _; rw [List.length_append, hO2.out]; rfl
        have Q5 : Hid (OwnInts w6 w.heap.size (.slice (some ⟨g4, 0, none⟩) (n2 + 1) c4) (O ++ [x])) := by have := Q1; rw [hlen4.out] at this; exact this
        have HR6 := keptB Q2
        have HG6 := keptB Q3
        rw [hlen4.out]
        have hLb' : Hid (Between 1 7 (L ++ [x])) := hLb.out.snoc x1 x7
        have hOb' : Hid (Between (-8) 8 (O ++ [x])) := hOb.out.snoc (by omega) (by omega)
        clear hown' hgrow hnil' hblk Q1 R6 Q2 Q3 R2 R3
        go_wp2
        go_roundw
        case rel => exact ⟨k - 1, g3, n1 + 1, c3, g4, n2 + 1, c4, q + 1, _, _, by go_num, by omega, by omega, by omega, rfl, rfl, hlen3, hlen4, Q4, hLb', hOb', Q6, Q5, HR6, HG6⟩
        case measure => simp [intOf]; omega
      · have hn16 : n1 ≤ 20 := by omega
        have hi1 : i < n1 := by have := hL1.out; omega
        have hcap : n1 ≤ c1 ∧ c1 ≤ 9223372036854775807 := by
          obtain ⟨_, _, e, h3, h4, _⟩ := hD2.at
          injection e with _ e2 e3
          omega
        obtain ⟨hc1, hc2⟩ := hcap
        have HIN : Hid (IntsAt w2.drew (.slice (some ⟨g1, 0, none⟩) i c1) (L.take i)) := (hD2.headB (Nat.le_of_lt hi1) hL1.out).at.drewN 1
        have HTL : Hid ((L.take i).length = i) := by show _ = _; rw [List.length_take]; have := hL1.out; omega
        have hdrop0 := hD2.at.dropB (k := i + 1)
        obtain ⟨ad, had, hdrop⟩ : ∃ ad, (if c1 = i + 1 then some (⟨g1, 0, none⟩ : Addr) else some ⟨g1, i + 1, none⟩) = some ad ∧ ∀ wx, Below w2.heap.size w2 wx → ∀ j u, (ints (L.drop (i + 1)))[j]? = some u → wx.cell? (ad.add j) = some u := by
          by_cases hc : c1 = i + 1
          · refine ⟨_, if_pos hc, fun wx hb j u hj => ?_⟩
            have e : L.drop (i + 1) = [] := List.drop_eq_nil_of_le (by have := hL1.out; omega)
            rw [e] at hj
            simp [ints] at hj
          · refine ⟨_, if_neg hc, fun wx hb j u hj => ?_⟩
            have h2 := hdrop0 j u hj
            exact (hb.cell (World.block_lt_of_cell? w2 _ h2)).trans h2
        have HDR := keptB hdrop
        have hl2 : Hid ((ints (L.drop (i + 1))).length = (n1 - (i + 1)) * 1) := by
          show _ = _
          rw [ints_length, List.length_drop, hL1.out]; omega
        have hg2s : Hid (g2 < w2.heap.size) := (hO2'.lt g2 rfl).2
        have b1 : (0 : Int) ≤ (i : Int) := by omega
        have b2 : (i : Int) ≤ (c1 : Int) := by omega
        have b3 : (0 : Int) ≤ (i : Int) + 1 := by omega
        have b4 : (i : Int) + 1 ≤ (n1 : Int) := by omega
        have b5 : (n1 : Int) ≤ (c1 : Int) := by omega
        have u1 : IntKind.i64.wrap ((i : Int) + 1) = (i : Int) + 1 := IntWalk.i64_in _ (by omega)
        have u2 : ((i : Int) + 1).toNat = i + 1 := by omega
        have ZZ : Hid ((L.take i).length + (n1 - (i + 1)) ≤ maxLen ∧ ((L.take i).length + (n1 - (i + 1))) * 8 ≤ 140737488355328) := ⟨by rw [HTL.out]; unfold maxLen; omega, by rw [HTL.out]; omega⟩
        have HB0 : Hid (Below w2.heap.size w2 w2.drew) := (Below.refl _ _).drew
        have HDL : Hid ((L.take i ++ L.drop (i + 1)).length = n1 - 1) := by show _ = _; rw [List.length_append, HTL.out, List.length_drop, hL1.out]; omega
        have HOD := keptB hO2'
        have HTS : Hid ((L.take i).length ≤ 1048576) := by show _ ≤ _; rw [HTL.out]; omega
        have hDb : Hid (Between 1 7 (L.take i ++ L.drop (i + 1))) := fun z hz => hLb.out z (by
          rcases List.mem_append.1 hz with hz | hz
          · exact List.mem_of_mem_take hz
          · exact List.mem_of_mem_drop hz)
        have HRD2 := keptB hrd2
        have HG2 := keptB hg2
        have HCP : Hid (Calls Try.prog 52 #[.slice (some ⟨g1, 0, none⟩) i c1] w2.drew fun e w' => ∃ g c, e = .returned (.slice (some ⟨g, 0, none⟩) i c) ∧ OwnInts w' w2.heap.size (.slice (some ⟨g, 0, none⟩) i c) (L.take i) ∧ Below w2.heap.size w2.drew w') := by
          have := s_copyInts_B w2.drew _ (L.take i) HIN.out HTS.out (.inl ⟨_, _, _, _, rfl⟩)
          rw [HTL.out] at this
          exact this
        clear hD2 hO2' hil hiL hdrop hdrop0 hrd2 hg2
        go_wp2_with fail
        go_region_held3 (fun wy => True) (exact trivial) (first | (go_at_call 52; refine HCP.out.mono ?_; rintro e w5 ⟨g5, c5, rfl, hO5, hb5⟩; have HO5 := keptB hO5; have HB5 : Hid (Below w2.heap.size w2 w5) := HB0.out.trans hb5; have HS5 : Hid (w2.heap.size ≤ w5.heap.size) := HB5.out.size; clear hO5 hb5) | ((rw [if_pos (by rfl)]); refine wp_append_own _ (.tmp 37) (.tmp 41) 23 rfl w2.heap.size 3 i0 (.int .i64 0) 1 8 Try.underlying23 hi hz0 hz1 hz2 rfl (by decide) (.slice (some ⟨g5, 0, none⟩) i c5) (L.take i).length (ints (L.take i)) rfl HO5.out ad (n1 - (i + 1)) (c1 - (i + 1)) (ints (L.drop (i + 1))) rfl hl2.out (HDR.out _ HB5.out) (ints_oneB _) ZZ.out.1 ZZ.out.2 HS5.out ?_; intro v6 w6 hown6 hgrow6 hnil6))
        have O6 := OwnInts.addAllB hown6 (by rw [HTL.out]; have := hl2.out; rw [ints_length] at this; omega)
        have hB6 : Below w2.heap.size w2 w6 := HB5.out.grown hgrow6 HS5.out (fun q hq => (HO5.out.lt q hq).1)
        have R2 : Hid (RD w6 B R L0 (q + 1)) := HRD2.out.below hB6 (by omega)
        have R7 : Hid (w.grownBy w6 (some R)) := grown_below HG2.out hB6
        have R3 : OwnInts w6 w.heap.size (.slice (some ⟨g2, 0, none⟩) n2 c2) O := HOD.out.below hB6
        obtain ⟨D, hDD⟩ : ∃ D, L.take i ++ L.drop (i + 1) = D := ⟨_, rfl⟩
        rw [hDD] at O6 HDL hDb
        obtain ⟨g6, c6, hv6, hg6, hg6b⟩ := O6.sliceB (fun e => by have := (hnil6.1 e).1; simp at this)
        subst hv6
        have R4 : Hid (g6 ≠ g2) := by show _ ≠ _; have := hg2s.out; omega
        have R5 : OwnInts w6 w.heap.size (.slice (some ⟨g6, 0, none⟩) D.length c6) D := O6.low hs2
        obtain ⟨d, hd⟩ : ∃ d, n1 - 1 = d := ⟨_, rfl⟩
        have hdn : Hid (d = n1 - 1) := hd.symm
        rw [hd] at HDL
        rw [HDL.out] at R5 ⊢
        have HR5 := keptB R5
        have hs6 : w.heap.size ≤ w6.heap.size := R7.out.size
        have hoo : O.length ≤ 20 := by rw [hO2.out]; omega
        clear hown6 hgrow6 hnil6 hDD hd had R5 O6 hB6 hg6 HCP HIN HDR HO5 HB5 HS5 ZZ HTL HTS hl2 HB0 b1 b2 b3 b4 b5 u1 u2 HOD hL1 HRD2 HG2
        go_wp2_with (at_builtin; refine wpList_append_own_at _ rfl _ _ 23 rfl w.heap.size 3 i0 (.int .i64 0) 1 8 Try.underlying23 hi hz0 hz1 hz2 rfl (by decide) _ _ _ rfl (R3.alloc _) ⟨w6.heap.size, 0, none⟩ 1 1 [.int .i64 (-x)] rfl rfl new_one one_cell (by unfold maxLen; omega) (by omega) (by simp; omega) ?_)
        intro v' w7 hown' hgrow hnil' hblk
        obtain ⟨Q1, Q2, Q3⟩ := snoc_step hR R3 R2.out R7.out hown' hgrow
        have Q6 : Hid (OwnInts w7 w.heap.size (.slice (some ⟨g6, 0, none⟩) d c6) D) := OwnInts.beside (HR5.out.alloc _) hgrow (fun e => R4.out (by have := Option.some.inj e; exact this.symm))
        obtain ⟨g7, c7, rfl, _, _⟩ := Q1.sliceB (fun e => hnil' e)
        have Q4 : Hid (g6 ≠ g7) := by
          show _ ≠ _
          simp only [Value.ownBlock, Option.some.injEq] at hblk
          rcases hblk with h | h
          · rw [h]; exact R4.out
          · omega
        have hlen4 : Hid ((O ++ [-x]).length = n2 + 1) := by show _ = _; rw [List.length_append, hO2.out]; rfl
        have Q5 : Hid (OwnInts w7 w.heap.size (.slice (some ⟨g7, 0, none⟩) (n2 + 1) c7) (O ++ [-x])) := by have := Q1; rw [hlen4.out] at this; exact this
        have HR6 := keptB Q2
        have HG6 := keptB Q3
        rw [hlen4.out]
        have hOb' : Hid (Between (-8) 8 (O ++ [-x])) := hOb.out.snoc (by omega) (by omega)
        clear hown' hgrow hnil' hblk Q1 R3 Q2 Q3
        go_wp2
        go_roundw
        case rel => exact ⟨k - 1, g6, d, c6, g7, n2 + 1, c7, q + 1, _, _, by go_num, by have := hdn.out; omega, by omega, by omega, rfl, rfl, HDL, hlen4, Q4, hDb, hOb', Q6, Q5, HR6, HG6⟩
        case measure => simp [intOf]; omega
    · have hk0 : k ≤ 0 := by omega
      have hOl2 : n2 ≤ 20 := by omega
      have hLl1 : n1 ≤ 20 := by omega
      have hqq : q ≤ p + 21 := by omega
      clear hk1 hk2 hq
      go_wp2_with fail
      obtain ⟨wb, rfl⟩ : ∃ wb, wb = wr := ⟨wr, rfl⟩
      have hg1r := hD.out.lt g1 rfl
      go_loopw [3, 8] (fun o i wr => ∃ (k g2 n2 c2 : Nat) (O : List Int), i = .int .i64 k ∧ k ≤ n1 ∧ n2 ≤ 20 + k ∧ o = .slice (some ⟨g2, 0, none⟩) n2 c2 ∧ Hid (O.length = n2) ∧ Hid (g1 ≠ g2) ∧ Hid (Between (-8) 8 O) ∧ Hid (OwnInts wr w.heap.size (.slice (some ⟨g1, 0, none⟩) n1 c1) L) ∧ Hid (OwnInts wr w.heap.size (.slice (some ⟨g2, 0, none⟩) n2 c2) O) ∧ Hid (RD wr B R L0 q) ∧ Hid (w.grownBy wr (some R))) (fun _ i _ => n1 - (intOf i).toNat)
      case atStart => exact ⟨0, g2, n2, c2, O, rfl, Nat.zero_le _, by omega, rfl, hO2, hg12, hOb, hD, hOO, hrd, hg⟩
      case round =>
        clear hOO hrd hg hOb hO2 hg12 hOl2 hg1r hD hsz hk0 hlt
        obtain ⟨k, g2, n2, c2, O, rfl, hk, hn2, rfl, hO2, hg12, hOb, hD, hOO, hrd, hg⟩ := hrel
        have hsz := hg.out.size
        by_cases hlt : k < n1
        · have hc := hD.out.cell hL1.out hlt
          have hfx := hD.out.free hL1.out k
          obtain ⟨x, hx⟩ : ∃ x, L.getD k 0 = x := ⟨_, rfl⟩
          have hxb := hLb.out x (by rw [← hx]; exact mem_atB (by rw [hL1.out]; exact hlt))
          rw [hx] at hc
          have hoo : O.length ≤ 60 := by rw [hO2.out]; omega
          have uwn : IntKind.i64.wrap (-x) = -x := IntWalk.i64_in _ (by omega)
          have hOO' := hOO.out
          have hg1s : Hid (g1 < wr.heap.size) := (hD.out.lt g1 rfl).2
          clear hx hfx
          go_wp2_with (at_builtin; refine wpList_append_own_at _ rfl _ _ 23 rfl w.heap.size 3 i0 (.int .i64 0) 1 8 Try.underlying23 hi hz0 hz1 hz2 rfl (by decide) _ _ _ rfl (hOO'.alloc _) ⟨wr.heap.size, 0, none⟩ 1 1 [.int .i64 (-x)] rfl rfl new_one one_cell (by unfold maxLen; omega) (by omega) (by simp; omega) ?_)
          intro v' w7 hown' hgrow hnil' hblk
          obtain ⟨Q1, Q2, Q3⟩ := snoc_step hR hOO' hrd.out hg.out hown' hgrow
          have Q6 : Hid (OwnInts w7 w.heap.size (.slice (some ⟨g1, 0, none⟩) n1 c1) L) := OwnInts.beside (hD.out.alloc _) hgrow (fun e => hg12.out (by have := Option.some.inj e; exact this.symm))
          obtain ⟨g7, c7, rfl, _, _⟩ := Q1.sliceB (fun e => hnil' e)
          have Q4 : Hid (g1 ≠ g7) := by
            show _ ≠ _
            have := hg1s.out
            simp only [Value.ownBlock, Option.some.injEq] at hblk
            rcases hblk with h | h
            · rw [h]; exact hg12.out
            · omega
          have hlen4 : Hid ((O ++ [-x]).length = n2 + 1) := by show _ = _; rw [List.length_append, hO2.out]; rfl
          have Q5 : Hid (OwnInts w7 w.heap.size (.slice (some ⟨g7, 0, none⟩) (n2 + 1) c7) (O ++ [-x])) := by have := Q1; rw [hlen4.out] at this; exact this
          have HR6 := keptB Q2
          have HG6 := keptB Q3
          rw [hlen4.out]
          have hOb' : Hid (Between (-8) 8 (O ++ [-x])) := hOb.out.snoc (by omega) (by omega)
          clear hown' hgrow hnil' hblk Q1 Q2 Q3 hOO'
          go_wp2
          go_roundw
          case rel => exact ⟨k + 1, g7, n2 + 1, c7, _, by go_num, by omega, by omega, rfl, hlen4, Q4, hOb', Q6, Q5, HR6, HG6⟩
          case measure => simp [intOf]; omega
        · obtain rfl : k = n1 := by omega
          have hn40 : n2 ≤ 40 := by omega
          clear hD hg12
          by_cases h0 : 0 < n2
          · go_wp2_with fail
            refine (pick_any _ B R L0 q _ hrd.out (by omega) (by omega) (by omega)).mono ?_
            rintro e w2 ⟨k2, rfl, hk2, hrd2, hgr2⟩
            have hown2 := hOO.out.overR hgr2 hR
            have hg2 := grown_trans hg.out hgr2
            clear hOO hg hrd hgr2
            by_cases hk0 : k2 = 0
            · subst hk0
              go_wp2_with fail
              refine (pick_any _ B R L0 (q + 1) _ hrd2 (by omega) (by omega) (by omega)).mono ?_
              rintro e w3 ⟨k3, rfl, hk3, hrd3, hgr3⟩
              go_wp2_with fail
              have hlt3 := hrd3.lt
              refine (one_any _ B R L0 (q + 2) w3.heap.size 5 5 [0, 8, -8, 1, -1] (hrd3.alloc _) (heap_alloc_new w3 _) (by omega) (Lib.hid rfl) (by omega) (by omega) (by omega)).mono ?_
              rintro e w4 ⟨z, rfl, hz, hrd4, hgr4⟩
              have hz' : -8 ≤ z ∧ z ≤ 8 := by simp at hz; omega
              have hgx : w2.grownBy w4 (some R) := grown_trans hgr3 (grown_trans (World.grownBy_alloc w3 _ _) hgr4)
              have hown4 := hown2.overR hgx hR
              have hg4 := grown_trans hg2 hgx
              have hk3' : k3 < n2 := by omega
              have hcell := hown4.cell hO2.out hk3'
              have hfree := hown4.free hO2.out k3
              have hown5 := hown4.store hO2.out k3 z
              have hgg : w.heap.size ≤ g2 := (hown4.lt g2 rfl).1
              have hg5 := grown_own hg4 (grown_store w4 g2 k3 (.int .i64 z)) (by intro q hq; injection hq with hq; omega)
              have hrd5 := hrd4.over (S := w.heap.size) (grown_store w4 g2 k3 (.int .i64 z)) (by intro q hq; injection hq with hq; omega) hR
              clear hz hgr3 hgr4 hrd2 hrd3 hown2 hgx hg2 hown4 hg4 hrd4
              go_wp2
              go_ret
              exact ⟨_, O.set k3 z, q + 3, rfl, hown5, hOb.out.set hz'.1 hz'.2 k3, by have := hO2.out; simp; omega, hrd5, by omega, hg5, _, _, _, rfl⟩
            · have e1 : ((k2 : Int) == 0) = false := by simp; omega
              go_wp2
              go_ret
              exact ⟨_, O, q + 1, rfl, hown2, hOb.out, by rw [hO2.out]; exact hn40, hrd2, by omega, hg2, _, _, _, rfl⟩
          · obtain rfl : n2 = 0 := by omega
            go_wp2
            go_ret
            exact ⟨_, O, q, rfl, hOO.out, hOb.out, by rw [hO2.out]; omega, hrd.out, by omega, hg.out, _, _, _, rfl⟩
end Go.Proofs.Ytjedkmhmkipkdaa
