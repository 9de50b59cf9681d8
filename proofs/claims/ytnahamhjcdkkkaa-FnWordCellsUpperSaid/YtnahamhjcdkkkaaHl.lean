
/- The exact laws of BestPieces and WordCells: their walks. -/
import Derived.Test.YtnahamhjcdkkkaaMI
import Derived.Test.YtnahamhjcdkkkaaMG
namespace Go.Proofs.Ytnahamhjcdkkkaa
open Go.RowKit

theorem lowR_ex (T : List PRule) (A : Nat → Int) (k : Nat) (L : List Int) : ∀ j, ∃ m, LowR T A k L j m := by
  intro j
  induction j with
  | zero => exact ⟨_, LowR.zero T A k L⟩
  | succ j ih =>
    obtain ⟨m, h⟩ := ih
    by_cases e : costR T k A (L.getD j 0) < m
    · exact ⟨_, h.less e⟩
    · exact ⟨_, h.more e⟩
theorem leastUp_ex {T : List PRule} (hv : ValidTb T) (s : ByteArray) : ∀ d i, s.size - i = d → i ≤ s.size → ∃ A, LeastUp T s A i := by
  intro d
  induction d with
  | zero => intro i hd hi; exact ⟨fun _ => 0, rfl, fun k h1 h2 => by omega⟩
  | succ d ih =>
    intro i hd hi
    obtain ⟨A, h0, h⟩ := ih (i + 1) (by omega) (by omega)
    obtain ⟨m, hm⟩ := lowR_ex T A i (rulesL T s i) (rulesL T s i).length
    have hm := hm.all
    have hi' : i < s.size := by omega
    refine ⟨fun x => if x = i then m else A x, ?_, fun k h1 h2 => ?_⟩
    · show (if s.size = i then m else A s.size) = 0
      rw [if_neg (by omega)]; exact h0
    · by_cases e : k = i
      · subst e
        show MinAt T s (fun x => if x = k then m else A x) k (if k = k then m else A k)
        rw [if_pos rfl]
        refine hm.congr hv hi' fun x x1 _ => ?_
        show A x = if x = k then m else A x
        rw [if_neg (by omega)]
      · show MinAt T s (fun x => if x = i then m else A x) k (if k = i then m else A k)
        rw [if_neg e]
        refine (h k (by omega) h2).congr hv h2 fun x x1 _ => ?_
        show A x = if x = i then m else A x
        rw [if_neg (by omega)]
theorem bestP_ex {T : List PRule} (hv : ValidTb T) (s : ByteArray) (A : Nat → Int) : ∀ d k, s.size - k = d → k ≤ s.size → ∃ R, BestP T s A k R := by
  intro d
  induction d using Nat.strongRecOn with
  | _ d ih =>
    intro k hd hk
    by_cases e : k = s.size
    · subst e; exact ⟨[], .done⟩
    · have hb := keepL_bst (T := T) (s := s) (A := A) (k := k)
      have h1 := hb.bd hv (by omega)
      obtain ⟨R, hR⟩ := ih _ (by omega) (pcB T k (lgTo T (keepL T k A (rulesL T s k)) (keepL T k A (rulesL T s k)).length)).t.toNat rfl (by omega)
      exact ⟨_, .step (by omega) hb hR⟩
theorem bestPs_ex {T : List PRule} (hv : ValidTb T) (s : ByteArray) : ∃ P, BestPs T s P := by
  obtain ⟨A, hA⟩ := leastUp_ex hv s _ 0 rfl (Nat.zero_le _)
  obtain ⟨R, hR⟩ := bestP_ex hv s A _ 0 rfl (Nat.zero_le _)
  exact ⟨R, A, hA, hR⟩
theorem bpRes_ex (T : List PRule) (s : ByteArray) : ∃ b P, (b = true ↔ OkW T s) ∧ BpRes T s b P := by
  by_cases h : OkW T s
  · obtain ⟨P, hP⟩ := bestPs_ex h.1 s
    exact ⟨true, P, ⟨fun _ => h, fun _ => rfl⟩, hP⟩
  · exact ⟨false, [], bool_iff_false h, rfl⟩
theorem wcRes_ex (T : List PRule) (s : ByteArray) : ∃ b C, (b = true ↔ OkW T s) ∧ WcRes T s b C := by
  by_cases h : OkW T s
  · obtain ⟨P, hP⟩ := bestPs_ex h.1 s
    exact ⟨true, pcsL T s P, ⟨fun _ => h, fun _ => rfl⟩, P, hP, rfl⟩
  · exact ⟨false, [], bool_iff_false h, rfl⟩
theorem BpRes.len16 {T : List PRule} {s : ByteArray} {b : Bool} {P : List PPiece} (h : BpRes T s b P) (hb : b = true ↔ OkW T s) : P.length ≤ 16 := by
  unfold BpRes at h
  cases b
  · simp at h; rw [h]; simp
  · simp at h; have hk := hb.1 rfl; exact (h.facts hk.1 hk.2).len
theorem WcRes.len16 {T : List PRule} {s : ByteArray} {b : Bool} {C : List Int} (h : WcRes T s b C) (hb : b = true ↔ OkW T s) : C.length ≤ 16 := by
  unfold WcRes at h
  cases b
  · simp at h; rw [h]; simp
  · simp at h
    have hk := hb.1 rfl
    obtain ⟨P, hP, rfl⟩ := h
    have h1 := (hP.facts hk.1 hk.2).few
    have h2 : s.size ≤ 16 := by have := hk.2.2.1; rw [wd_size] at this; exact this
    rw [pcsL_len]; omega
set_option maxHeartbeats 4000000 in
theorem exBestPieces_walk (a : Option Addr) (len cap : Nat) (T : List PRule) (s : ByteArray) (w : World) (hx : TableAt w (.slice a len cap) T) (hn : T.length = len) (hf : TableFits T) (w1 : s.size ≤ maxLen) :
    Calls Try.prog 5 #[.slice a len cap, .string s] w fun e w' => e = .returned (.bool true) ∧ Below w.heap.size w w' := by
  have hss : s.size ≤ 9223372036854775807 := by unfold maxLen at w1; exact w1
  clear w1
  have HN := Lib.hid hn
  have HX := Lib.hid hx
  have HF := Lib.hid hf
  by_cases hbig : 1048576 < s.size
  · go_enter Try.func5, Try.ntmps5
    go_wp2
    go_ret
    exact ⟨rfl, Below.refl _ _⟩
  · obtain ⟨P, hL⟩ : ∃ P : List PPiece, P.length ≤ 16 ∧ (∀ wx g c, TableAt wx (.slice (some ⟨g, 0, none⟩) len c) T → Calls Try.prog 22 #[.slice (some ⟨g, 0, none⟩) len c, .string s] wx fun e w' => PcsMade P wx e w') ∧ (∀ wx u, TableAt wx u T → Calls Try.prog 24 #[u, .string s] wx fun e w' => PcsMade P wx e w') := by
      obtain ⟨b, P, hb, hP⟩ := bpRes_ex T s
      exact ⟨P, hP.len16 hb, fun wx g c h => (s_BestPieces wx g len c T s b h hn hf hss (Lib.hid hb)).mono fun e w' ⟨Q, hQ, hM⟩ => by rw [hP.same hb hQ]; exact hM, fun wx u h => (i_BestPieces wx u T s b h hf hss (Lib.hid hb)).mono fun e w' ⟨Q, hQ, hM⟩ => by rw [hP.same hb hQ]; exact hM⟩
    obtain ⟨hL16, hS, hI⟩ := hL
    have HSp := Lib.hid hS
    have HIm := Lib.hid hI
    have HNL : Hid (P.length ≤ 16) := hL16
    clear hS hI hn hx hf
    go_enter Try.func5, Try.ntmps5
    go_wp2_with fail
    refine (szRuleS_any w _ T HX.out HF.out).mono ?_
    rintro e w1 ⟨l, rfl, hb1, hl⟩
    rcases hl with rfl | ⟨hl0, hl1, hsm⟩
    · go_wp2
      go_ret
      exact ⟨rfl, hb1⟩
    · have HS := Lib.hid hsm
      have d1 : decide (l < 0) = false := decide_eq_false (by omega)
      have hx1 := HX.out.below hb1
      have hlen : len ≤ 1048576 := by have := HS.out.1; have := HN.out; omega
      clear hsm
      go_wp2_with fail
      refine (toRuleS_any w1 _ T len hx1 HS.out HN).mono ?_
      rintro e w2 ⟨rfl, ⟨_, hnew2⟩, _, hb2⟩
      have hB2 := below_next hb1 hb2
      have ht2 : TableAt w2 _ T := TableAt.of_new hnew2 HN.out (by omega)
      clear hnew2 hx1
      go_wp2_with fail
      refine (HSp.out w2 _ _ ht2).mono ?_
      rintro e w3 ⟨v0, rfl, hO0, hb3, a0, n0, c0, rfl⟩
      have hB3 := below_next hB2 hb3
      clear ht2
      go_wp2_with fail
      refine (toRuleS_any w3 _ T len (HX.out.below hB3) HS.out HN).mono ?_
      rintro e w4 ⟨rfl, ⟨bs, hnew4⟩, hroom4, hb4⟩
      have hB4 := below_next hB3 hb4
      have ht4 : TableAt w4 _ T := TableAt.of_new hnew4 HN.out (by omega)
      have hO04 := hO0.below hb4
      have hlt0 : Hid (∀ k, (Value.slice a0 n0 c0).ownBlock = some k → k < w3.heap.size) := fun k hk => (World.ownsRow.lt hO0 k hk).2
      have hbs : Hid (∀ j, j < len → bs j < w4.heap.size) := fun j hj => (hnew4.1 j hj).lt.2
      have hg4 : w3.heap.size < w4.heap.size := hroom4.2.2
      have hw3 : w.heap.size ≤ w3.heap.size := hB3.size
      clear hO0
      go_wp2_with fail
      refine (HIm.out w4 _ ht4).mono ?_
      rintro e w5 ⟨v1, rfl, hO1, hb5, a1, n1, c1, rfl⟩
      have hB5 := below_next hB4 hb5
      have hO05 := hO04.below hb5
      have ht5 := ht4.below hb5
      have hnew5 := hnew4.below hb5
      have hroom5 := hroom4.below hb5
      clear ht4 hO04 hnew4 hroom4
      go_wp2_with fail
      refine (eqPieceS_same w5 _ _ P hO1.at hO05.at).mono ?_
      rintro e w6 ⟨rfl, hb6⟩
      have hB6 := below_next hB5 hb6
      have hO06 := hO05.below hb6
      have hO16 := hO1.below hb6
      have ht6 := ht5.below hb6
      have hnew6 := hnew5.below hb6
      have hroom6 := hroom5.below hb6
      clear hO05 hO1 ht5 hnew5 hroom5
      go_wp2_with fail
      refine (toRuleS_any w6 _ T len (HX.out.below hB6) HS.out HN).mono ?_
      rintro e w7 ⟨rfl, ⟨_, hnewx⟩, _, hb7⟩
      have hB7 := below_next hB6 hb7
      have htx : TableAt w7 _ T := TableAt.of_new hnewx HN.out (by omega)
      have hO07 := hO06.below hb7
      have hO17 := hO16.below hb7
      have ht7 := ht6.below hb7
      have hnew7 := hnew6.below hb7
      have hroom7 := hroom6.below hb7
      clear hO06 hO16 ht6 hnew6 hroom6 hnewx
      go_wp2_with fail
      refine (eqRuleS_same w7 _ _ T ht7 htx).mono ?_
      rintro e w8 ⟨rfl, hb8⟩
      have hB8 := below_next hB7 hb8
      have hO08 := hO07.below hb8
      have hO18 := hO17.below hb8
      have hnew8 := hnew7.below hb8
      have hroom8 := hroom7.below hb8
      clear hO07 hO17 ht7 htx hnew7 hroom7
      go_wp2_with fail
      refine (markRuleS_any w8 w3.heap.size len w4.heap.size bs T hnew8 hroom8 hbs.out hg4 HS.out HN).mono ?_
      rintro e w9 ⟨⟨k, rfl, hk0⟩, hmid⟩
      have hB9 := Mid.below hB8 hmid hw3 (Nat.le_trans hw3 (by have := hroom8.2.2; omega))
      have hO09 := hO08.mid hmid (fun b hb => .inl (hlt0.out b hb))
      have hO19 := hO18.mid hmid (fun b hb => .inr (World.ownsRow.lt hO18 b hb).1)
      have d2 : decide (k < 0) = false := decide_eq_false (by omega)
      have hm9 := hmid.2.2.2.1
      clear hO08 hO18 hnew8 hroom8 hmid
      go_wp2_with fail
      refine (eqPieceS_same w9 _ _ P hO19.at hO09.at).mono ?_
      rintro e w10 ⟨rfl, hb10⟩
      have hB10 := below_next hB9 hb10
      have hO010 := hO09.below hb10
      have hO110 := hO19.below hb10
      clear hO09 hO19
      go_wp2_with fail
      refine (markPieceS_own w10 w4.heap.size a1 n1 c1 P hO110 (by have := hO110.len; have := HNL.out; omega) (by have := hb5.size; have := hb6.size; have := hb7.size; have := hb8.size; have := hm9; have := hb10.size; omega)).mono ?_
      rintro e w11 ⟨rfl, hO111, hb11⟩
      have hB11 : Below w.heap.size w w11 := hB10.trans (hb11.mono (by omega))
      have hO011 := hO010.of_block (fun b hb => hb11.block b (by have := hlt0.out b hb; omega))
      clear hO010 hO110
      go_wp2_with fail
      refine (heldPieceS_own _ w4.heap.size _ _ _ P hO111 (by have := hO111.len; rw [mkL_len] at this; have := HNL.out; omega)).mono ?_
      rintro e w' ⟨rfl, rfl⟩
      go_wp2_with fail
      refine (toRuleS_any w11 _ T len (HX.out.below hB11) HS.out HN).mono ?_
      rintro e w12 ⟨rfl, ⟨_, hnew12⟩, _, hb12⟩
      have hB12 := below_next hB11 hb12
      have ht12 : TableAt w12 _ T := TableAt.of_new hnew12 HN.out (by omega)
      have hO012 := hO011.below hb12
      have hO112 := hO111.below hb12
      clear hO011 hO111 hnew12
      go_wp2_with fail
      refine (HIm.out w12 _ ht12).mono ?_
      rintro e w13 ⟨v2, rfl, hO2, hb13, a2, n2, c2, rfl⟩
      have hB13 := below_next hB12 hb13
      have hO013 := hO012.below hb13
      have hO113 := hO112.below hb13
      clear hO012 hO112 ht12
      go_wp2_with fail
      refine (eqPieceS_same w13 _ _ P hO2.at hO013.at).mono ?_
      rintro e w14 ⟨rfl, hb14⟩
      have hB14 := below_next hB13 hb14
      have hO114 := hO113.below hb14
      clear hO013 hO113 hO2
      go_wp2_with fail
      refine (heldPieceS_own _ w4.heap.size _ _ _ P hO114 (by have := hO114.len; rw [mkL_len] at this; have := HNL.out; omega)).mono ?_
      rintro e w' ⟨rfl, rfl⟩
      go_wp2
      go_ret
      exact ⟨rfl, hB14⟩
set_option maxHeartbeats 4000000 in
theorem exWordCells_walk (a : Option Addr) (len cap : Nat) (T : List PRule) (s : ByteArray) (w : World) (hx : TableAt w (.slice a len cap) T) (hn : T.length = len) (hf : TableFits T) (w1 : s.size ≤ maxLen) :
    Calls Try.prog 10 #[.slice a len cap, .string s] w fun e w' => e = .returned (.bool true) ∧ Below w.heap.size w w' := by
  have hss : s.size ≤ 9223372036854775807 := by unfold maxLen at w1; exact w1
  clear w1
  have HN := Lib.hid hn
  have HX := Lib.hid hx
  have HF := Lib.hid hf
  by_cases hbig : 1048576 < s.size
  · go_enter Try.func10, Try.ntmps10
    go_wp2
    go_ret
    exact ⟨rfl, Below.refl _ _⟩
  · obtain ⟨L, hL⟩ : ∃ L : List Int, L.length ≤ 16 ∧ (∀ wx g c, TableAt wx (.slice (some ⟨g, 0, none⟩) len c) T → Calls Try.prog 37 #[.slice (some ⟨g, 0, none⟩) len c, .string s] wx fun e w' => ListMade L wx e w') ∧ (∀ wx u, TableAt wx u T → Calls Try.prog 33 #[u, .string s] wx fun e w' => ListMade L wx e w') := by
      obtain ⟨b, L, hb, hL⟩ := wcRes_ex T s
      exact ⟨L, hL.len16 hb, fun wx g c h => (s_WordCells wx g len c T s b h hn hf hss (Lib.hid hb)).mono fun e w' ⟨Q, hQ, hM⟩ => by rw [hL.same hb hQ]; exact hM, fun wx u h => (i_WordCells wx u T s b h hf hss (Lib.hid hb)).mono fun e w' ⟨Q, hQ, hM⟩ => by rw [hL.same hb hQ]; exact hM⟩
    obtain ⟨hL16, hS, hI⟩ := hL
    have HSp := Lib.hid hS
    have HIm := Lib.hid hI
    obtain ⟨nl, hnl⟩ : ∃ nl, L.length = nl := ⟨_, rfl⟩
    rw [hnl] at hL16
    have HNL := Lib.hid hnl
    clear hS hI hn hx hf hnl
    go_enter Try.func10, Try.ntmps10
    go_wp2_with fail
    refine (szRuleS_any w _ T HX.out HF.out).mono ?_
    rintro e w1 ⟨l, rfl, hb1, hl⟩
    rcases hl with rfl | ⟨hl0, hl1, hsm⟩
    · go_wp2
      go_ret
      exact ⟨rfl, hb1⟩
    · have HS := Lib.hid hsm
      have d1 : decide (l < 0) = false := decide_eq_false (by omega)
      have hx1 := HX.out.below hb1
      have hlen : len ≤ 1048576 := by have := HS.out.1; have := HN.out; omega
      clear hsm
      go_wp2_with fail
      refine (toRuleS_any w1 _ T len hx1 HS.out HN).mono ?_
      rintro e w2 ⟨rfl, ⟨_, hnew2⟩, _, hb2⟩
      have hB2 := below_next hb1 hb2
      have ht2 : TableAt w2 _ T := TableAt.of_new hnew2 HN.out (by omega)
      clear hnew2 hx1
      go_wp2_with fail
      refine (HSp.out w2 _ _ ht2).mono ?_
      rintro e w3 ⟨v0, rfl, hO0, hb3, a0, n0, c0, rfl⟩
      have hB3 := below_next hB2 hb3
      clear ht2
      go_wp2_with fail
      refine (toRuleS_any w3 _ T len (HX.out.below hB3) HS.out HN).mono ?_
      rintro e w4 ⟨rfl, ⟨bs, hnew4⟩, hroom4, hb4⟩
      have hB4 := below_next hB3 hb4
      have ht4 : TableAt w4 _ T := TableAt.of_new hnew4 HN.out (by omega)
      have hO04 := hO0.below hb4
      have hlt0 : Hid (∀ k, (Value.slice a0 n0 c0).ownBlock = some k → k < w3.heap.size) := fun k hk => (hO0.lt k hk).2
      have hbs : Hid (∀ j, j < len → bs j < w4.heap.size) := fun j hj => (hnew4.1 j hj).lt.2
      have hg4 : w3.heap.size < w4.heap.size := hroom4.2.2
      have hw3 : w.heap.size ≤ w3.heap.size := hB3.size
      clear hO0
      go_wp2_with fail
      refine (HIm.out w4 _ ht4).mono ?_
      rintro e w5 ⟨v1, rfl, hO1, hb5, a1, n1, c1, rfl⟩
      have hB5 := below_next hB4 hb5
      have hO05 := hO04.below hb5
      have ht5 := ht4.below hb5
      have hnew5 := hnew4.below hb5
      have hroom5 := hroom4.below hb5
      clear ht4 hO04 hnew4 hroom4
      go_wp2_with fail
      refine (eqIntS_sameT w5 _ _ L hO1.at hO05.at).mono ?_
      rintro e w6 ⟨rfl, hb6⟩
      have hB6 := below_next hB5 hb6
      have hO06 := hO05.below hb6
      have hO16 := hO1.below hb6
      have ht6 := ht5.below hb6
      have hnew6 := hnew5.below hb6
      have hroom6 := hroom5.below hb6
      clear hO05 hO1 ht5 hnew5 hroom5
      go_wp2_with fail
      refine (toRuleS_any w6 _ T len (HX.out.below hB6) HS.out HN).mono ?_
      rintro e w7 ⟨rfl, ⟨_, hnewx⟩, _, hb7⟩
      have hB7 := below_next hB6 hb7
      have htx : TableAt w7 _ T := TableAt.of_new hnewx HN.out (by omega)
      have hO07 := hO06.below hb7
      have hO17 := hO16.below hb7
      have ht7 := ht6.below hb7
      have hnew7 := hnew6.below hb7
      have hroom7 := hroom6.below hb7
      clear hO06 hO16 ht6 hnew6 hroom6 hnewx
      go_wp2_with fail
      refine (eqRuleS_same w7 _ _ T ht7 htx).mono ?_
      rintro e w8 ⟨rfl, hb8⟩
      have hB8 := below_next hB7 hb8
      have hO08 := hO07.below hb8
      have hO18 := hO17.below hb8
      have hnew8 := hnew7.below hb8
      have hroom8 := hroom7.below hb8
      clear hO07 hO17 ht7 htx hnew7 hroom7
      go_wp2_with fail
      refine (markRuleS_any w8 w3.heap.size len w4.heap.size bs T hnew8 hroom8 hbs.out hg4 HS.out HN).mono ?_
      rintro e w9 ⟨⟨k, rfl, hk0⟩, hmid⟩
      have hB9 := Mid.below hB8 hmid hw3 (Nat.le_trans hw3 (by have := hroom8.2.2; omega))
      have hO09 := hO08.mid hmid (fun b hb => .inl (hlt0.out b hb))
      have hO19 := hO18.mid hmid (fun b hb => .inr (hO18.lt b hb).1)
      have d2 : decide (k < 0) = false := decide_eq_false (by omega)
      clear hO08 hO18 hnew8 hroom8 hmid
      go_wp2_with fail
      refine (eqIntS_sameT w9 _ _ L hO19.at hO09.at).mono ?_
      rintro e w10 ⟨rfl, hb10⟩
      have hB10 := below_next hB9 hb10
      have hO010 := hO09.below hb10
      have hO110 := hO19.below hb10
      clear hO09 hO19
      go_wp2_with fail
      refine (markIntS_own w10 w4.heap.size a1 nl n1 c1 L hO110 HNL (by omega)).mono ?_
      rintro e w11 ⟨rfl, hO111, hb11⟩
      have hB11 : Below w.heap.size w w11 := hB10.trans (hb11.mono (by omega))
      have hO011 := own_of_block hO010 (fun b hb => hb11.block b (by have := hlt0.out b hb; omega))
      clear hO010 hO110
      go_wp2_with fail
      refine (heldIntS_own _ _ _ nl hO111 (by omega)).mono ?_
      rintro e w' ⟨rfl, rfl⟩
      go_wp2_with fail
      refine (toRuleS_any w11 _ T len (HX.out.below hB11) HS.out HN).mono ?_
      rintro e w12 ⟨rfl, ⟨_, hnew12⟩, _, hb12⟩
      have hB12 := below_next hB11 hb12
      have ht12 : TableAt w12 _ T := TableAt.of_new hnew12 HN.out (by omega)
      have hO012 := hO011.below hb12
      have hO112 := hO111.below hb12
      clear hO011 hO111 hnew12
      go_wp2_with fail
      refine (HIm.out w12 _ ht12).mono ?_
      rintro e w13 ⟨v2, rfl, hO2, hb13, a2, n2, c2, rfl⟩
      have hB13 := below_next hB12 hb13
      have hO013 := hO012.below hb13
      have hO113 := hO112.below hb13
      clear hO012 hO112 ht12
      go_wp2_with fail
      refine (eqIntS_sameT w13 _ _ L hO2.at hO013.at).mono ?_
      rintro e w14 ⟨rfl, hb14⟩
      have hB14 := below_next hB13 hb14
      have hO114 := hO113.below hb14
      clear hO013 hO113 hO2
      go_wp2_with fail
      refine (heldIntS_own _ _ _ nl hO114 (by omega)).mono ?_
      rintro e w' ⟨rfl, rfl⟩
      go_wp2
      go_ret
      exact ⟨rfl, hB14⟩
end Go.Proofs.Ytnahamhjcdkkkaa
