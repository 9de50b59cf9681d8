
/- The draw of a code and cells. -/
import Derived.Test.YtimbphkbkhlclaaKa
import Derived.Laws.AppendOwnNone
namespace Go.Proofs.Ytimbphkbkhlclaa
open Go.RowKit

theorem wpList_append_el {ops : Array Oper} {rest : List Oper} {o : Oper} {a : Act} {w : World} {Q : Exit → Act → World → Prop} (hgd : o.guard = none) (s x : Operand)
    (ho : o.op = .call { callee := .builtin .append, args := #[s, x], argTypes := #[30, 30] }) (base eb : Nat) {v u : Value} {xs ys : List Int} (hs : a.eval s = v) (hx : a.eval x = u)
    (h1 : OwnInts w base v xs) (h2 : ElOk w eb u ys) (hl : xs.length + ys.length ≤ 1000000) (hbase : base ≤ w.heap.size)
    (h : ∀ v' w', OwnInts w' base v' (xs ++ ys) → w.grownBy w' v.ownBlock → (v' = .slice none 0 0 → v = .slice none 0 0) → wpList Try.prog ops Q rest (a.put o.dst v') w') : wpList Try.prog ops Q (o :: rest) a w := by
  obtain ⟨i0, hi, hz0, hz1, hz2⟩ := info_parts infoInt
  have hx2 := h2.1
  rcases h2.2.2 with e | ⟨ad, n, c, e⟩
  · have hy : ys = [] := by
      obtain ⟨_, _, e2, _⟩ := hx2
      rw [e] at e2
      injection e2 with _ e3 _
      exact List.length_eq_zero_iff.1 e3.symm
    subst hy
    subst e
    exact wpList_append_own_none hgd s x 30 ho base 3 i0 1 Try.underlying30 hi v _ (ints xs) hs h1 hx (h v w (by rw [List.append_nil]; exact h1) (World.grownBy.refl w _) id)
  · subst e
    have hn : n = ys.length := by
      obtain ⟨_, _, e2, _⟩ := hx2
      injection e2 with _ e3 _
    subst hn
    refine wpList_append_own w hgd s x 30 ho base 3 i0 (.int .i64 0) 1 8 Try.underlying30 hi hz0 hz1 hz2 rfl (by decide) v xs.length (ints xs) hs h1 ad ys.length c (ints ys) hx (by rw [ints_length, Nat.mul_one]) ?_ (ints_oneCellC ys) (by unfold maxLen; omega) (by omega) hbase ?_
    · intro j u' hj
      obtain ⟨a', c', e3, _, _, h5⟩ := hx2
      injection e3 with e4 _ _
      rcases h5 with rfl | ⟨g, off, e5, h6⟩
      · simp [ints] at hj
      · rw [← e4] at e5
        injection e5 with e5
        subst e5
        have hjl : j < ys.length := by
          have := (List.getElem?_eq_some_iff.1 hj).1
          rw [ints_length] at this; exact this
        rw [Addr.add_lit, h6 j hjl]
        simp [ints, hjl] at hj
        rw [← hj]
        simp [List.getD_eq_getElem?_getD, hjl]
    · intro v' w' hown' hgrow hnil
      exact h v' w' (OwnInts.addAllC hown' rfl) hgrow (fun e => (hnil.1 e).1)
theorem results_twoK {fn : Func} {t u : Tmp} (h : fn.results = #[.tmp t, .tmp u]) (tmps : Array Value) (P : Program) (w : World) :
    (results fn tmps).run P w = .ok (.tuple #[tmps.getD t undef, tmps.getD u undef]) w := by
  simp [results, h]
/-- a drawn code and cells -/
def FcMade (w : World) (e : Ending) (w' : World) : Prop :=
  ∃ S a n c P a2 n2 c2 zs, e = .returned (.tuple #[.slice a n c, .slice a2 n2 c2]) ∧ ListsAt w' (.slice a n c) P ∧ IntsAt w' (.slice a2 n2 c2) zs ∧ P.length ≤ 9 ∧ Len3 P ∧ zs.length ≤ 19 ∧ Below w.heap.size w w' ∧ S ≤ w'.heap.size ∧ ∃ g, a2 = some ⟨g, 0, none⟩
set_option maxHeartbeats 4000000 in
theorem drawFactorCount_any (w : World) (a : Option Addr) (len cap : Nat) (zs : List Int) (h : RowIn .u8 w a len cap zs) :
    Calls Try.prog 25 #[.slice a len cap] w fun e w' => FcMade w e w' := by
  obtain ⟨i0, hi, hz0, hz1, hz2⟩ := info_parts infoInt
  obtain ⟨h1, h2, h3⟩ := bytesAt_of_row h
  clear h
  go_enter Try.func25, Try.ntmps25
  go_wp2_with fail
  refine (newReader_any w _ a len cap h1 (Nat.le_refl _) h2 h3).mono ?_
  rintro e w1 ⟨L, rfl, hrd, hgr⟩
  have hl1 := hrd.lt
  go_wp2_with fail
  refine (someCode_any w1 _ _ L 0 hrd (by omega)).mono ?_
  rintro e w2 ⟨v, P, q, rfl, hO, hP, hL3, hrd2, hq, hG, a2, n2, c2, rfl⟩
  have hn2 : n2 = P.length := by
    obtain ⟨_, _, e, _⟩ := hO.at
    injection e with _ e2 _
  have HN2 := keptW hn2
  have hn9 : n2 ≤ 9 := by omega
  have HL3 := keptW hL3
  have hl2 := hrd2.lt
  have hs2 := hG.size
  -- the cells
  have hC2 : OwnInts (w2.alloc (.cells #[] 3)) w2.heap.size (.slice (some ⟨w2.heap.size, 0, none⟩) 0 0) [] := OwnInts.made w2 w2.heap.size (Nat.le_refl _)
  have hrda := hrd2.alloc (.cells #[] 3)
  have hga : w2.grownBy (w2.alloc (.cells #[] 3)) (some w.heap.size) := World.grownBy_alloc w2 _ _
  have HO := keptW hO
  have HRD2 := keptW hrd2
  have HG := keptW hG
  have HGR := keptW hgr
  clear hO hn2 hrd2 hrd hL3 hG hgr
  go_wp2_with fail
  obtain ⟨wa, hwa⟩ : ∃ wa, w2.alloc (.cells #[] 3) = wa := ⟨_, rfl⟩
  rw [hwa] at hC2 hrda hga ⊢
  clear hwa
  refine (pick_any wa _ _ L q _ hrda (by omega) (by omega) (by omega)).mono ?_
  rintro e w3 ⟨K, rfl, hK, hrd3, hgr3⟩
  have hC3 := hC2.overR hgr3 hl2
  have hG3 := grown_trans hga hgr3
  clear hC2 hrda hga hgr3
  go_wp2_with fail
  go_loopw [6, 7] (fun v y wr => ∃ (k : Nat) (zs : List Int) (q2 : Nat), y = .int .i64 k ∧ zs.length + 3 * k ≤ 18 ∧ OwnInts wr w2.heap.size v zs ∧ RD wr w.heap.size w.heap.size L q2 ∧ q2 + k ≤ 120 ∧ w2.grownBy wr (some w.heap.size) ∧ v ≠ .slice none 0 0) (fun _ y _ => (intOf y).toNat)
  case atStart => exact ⟨K, [], q + 1, rfl, by simp; omega, hC3, hrd3, by omega, hG3, by simp⟩
  case round =>
    clear hC3 hrd3 hG3
    obtain ⟨k, zs, q2, rfl, hkz, hC, hrd, hq2, hG, hnn⟩ := hrel
    have HNN := keptW hnn
    clear hnn
    obtain ⟨ao, no, co, hoo⟩ := hC.isSlice
    subst hoo
    have hsz := hG.size
    by_cases hlt : 0 < k ∧ 0 < n2
    · obtain ⟨hk0, hn0⟩ := hlt
      have d1 : decide (0 < (k : Int)) = true := decide_eq_true (by omega)
      have d2 : decide (0 < (n2 : Int)) = true := decide_eq_true (by omega)
      go_wp2_with fail
      refine (pick_any _ _ _ L q2 _ hrd (by omega) (by omega) (by omega)).mono ?_
      rintro e w4 ⟨j, rfl, hj, hrd4, hgr4⟩
      have hC4 := hC.overR hgr4 hl2
      have hG4 := grown_trans hG hgr4
      have hjn : j < n2 := by omega
      have hO4 := HO.out.overR hG4 HRD2.out hl1
      obtain ⟨g4, u4, rfl, c4, hE4, hnx⟩ := hO4.nth hjn
      clear hnx
      have hys : (P.getD j []).length ≤ 3 := HL3.out _ (by
        rw [List.getD_eq_getElem?_getD, List.getElem?_eq_getElem (by have := HN2.out; omega), Option.getD_some]; exact List.getElem_mem _)
      obtain ⟨ys, hyy⟩ : ∃ ys, P.getD j [] = ys := ⟨_, rfl⟩
      rw [hyy] at hE4 hys
      obtain ⟨a5, c5, hu5, _⟩ := id hE4.1
      obtain ⟨l5, hl5⟩ : ∃ l5, ys.length = l5 := ⟨_, rfl⟩
      rw [hl5] at hu5
      subst hu5
      have HE4 := keptW hE4
      have HC4 := keptW hC4
      have HG4 := keptW hG4
      have HRD4 := keptW hrd4
      have b1 : (0 : Int) ≤ (j : Int) := by omega
      have b2 : (j : Int) < (n2 : Int) := by omega
      have HLL : Hid (zs.length + ys.length ≤ 1000000 ∧ w2.heap.size ≤ w4.heap.size) := ⟨by omega, hG4.size⟩
      have hLy : ys.length ≤ 3 := hys
      clear hC hG hrd hgr4 hC4 hG4 hO4 hE4 hyy hl5 hrd4
      go_wp2_with (at_builtin; go_loud (refine wpList_append_el rfl _ _ rfl w2.heap.size 0 rfl rfl HC4.out HE4.out HLL.out.1 HLL.out.2 ?_))
      intro v' w5 hown' hgrow hnl
      have hrow : ∀ x, (Value.slice ao no co).ownBlock = some x → w2.heap.size ≤ x := fun x hx => (HC4.out.lt x hx).1
      have H5 := keptW (And.intro hown' (And.intro (HRD4.out.over hgrow hrow hl2) (And.intro (grown_own HG4.out hgrow hrow) (show v' ≠ .slice none 0 0 from fun e => HNN.out (by obtain ⟨e1, e2, e3⟩ := hnl e; rw [e1, e2, e3])))))
      clear hown' hgrow hrow hnl
      go_wp2
      go_roundw
      case rel => exact ⟨k - 1, zs ++ ys, q2 + 1, by go_num, by rw [List.length_append]; omega, H5.out.1, H5.out.2.1, by omega, H5.out.2.2.1, H5.out.2.2.2⟩
      case measure => simp [intOf]; omega
    · have HC := keptW hC
      have HGx := keptW hG
      clear hC hG
      have fin : ∀ (w9 : World) (a9 : Option Addr) (n9 c9 : Nat) (ys : List Int), OwnInts w9 w2.heap.size (.slice a9 n9 c9) ys → ys.length ≤ 19 → w2.grownBy w9 (some w.heap.size) → Value.slice a9 n9 c9 ≠ .slice none 0 0 → FcMade w (.returned (.tuple #[.slice a2 n2 c2, .slice a9 n9 c9])) w9 := by
        intro w9 a9 n9 c9 ys h1 h2 h3 h4
        refine ⟨w2.heap.size, a2, n2, c2, P, a9, n9, c9, ys, rfl, (HO.out.overR h3 HRD2.out hl1).at, h1.at, by have := HN2.out; omega, HL3.out, h2, below_of_grown (grown_new HGR.out (grown_trans HG.out h3) (Nat.le_refl _)), h3.size, ?_⟩
        rcases h1.2 with ⟨hv, _⟩ | ⟨g, cap, cur, hv, _⟩
        · exact absurd hv h4
        · injection hv with e _ _; exact ⟨g, e⟩
      have HFIN := keptW fin
      clear fin
      have hcond : k = 0 ∨ n2 = 0 := by omega
      have hk18 : zs.length ≤ 18 := by omega
      have key : ∀ (b1 b2 : Bool), True := fun _ _ => trivial
      clear key
      rcases Nat.eq_zero_or_pos k with hk0 | hk0
      · subst hk0
        go_wp2_with fail
        refine (pick_any _ _ _ L q2 _ hrd (by omega) (by omega) (by omega)).mono ?_
        rintro e w4 ⟨c, rfl, hc, hrd4, hgr4⟩
        have hC4 := HC.out.overR hgr4 hl2
        have hG4 := grown_trans HGx.out hgr4
        have HC4 := keptW hC4
        have HG4 := keptW hG4
        have hs4 := hG4.size
        clear hC4 hG4 hgr4 hrd
        by_cases c0 : c = 0
        · subst c0
          have hl4 := hrd4.lt
          go_wp2_with fail
          refine (one_any (w4.alloc (.cells #[.int .i64 1, .int .i64 64, .int .i64 5] 3)) _ _ L (q2 + 1) w4.heap.size 3 3 [1, 64, 5] (hrd4.alloc _) (heap_alloc_new w4 _) (by omega) (Lib.hid rfl) (by omega) (by omega) (by omega)).mono ?_
          rintro e w5 ⟨z, rfl, _, hrd5, hgr5⟩
          have hgx : w4.grownBy w5 (some w.heap.size) := grown_trans (World.grownBy_alloc w4 _ _) hgr5
          have hC5 := HC4.out.overR hgx hl2
          have hG5 := grown_trans HG4.out hgx
          have HC5 := keptW hC5
          have HG5 := keptW hG5
          have hs5 := hG5.size
          clear hG5 hgx hgr5 hrd4
          go_wp2_with (at_builtin; refine wpList_append_own _ rfl _ _ 30 rfl w2.heap.size 3 i0 (.int .i64 0) 1 8 Try.underlying30 hi hz0 hz1 hz2 rfl (by decide) _ _ _ rfl (hC5.alloc _) ⟨w5.heap.size, 0, none⟩ 1 1 [.int .i64 z] rfl rfl new_one one_cell (by unfold maxLen; omega) (by omega) (by simp; omega) ?_)
          intro v' w6 hown' hgrow hnl
          obtain ⟨R1, _, R3⟩ := snoc_step hl2 HC5.out hrd5 HG5.out hown' hgrow
          obtain ⟨a6, n6, c6, h6⟩ := R1.isSlice
          subst h6
          have H6 := keptW (And.intro R1 (And.intro R3 (show Value.slice a6 n6 c6 ≠ .slice none 0 0 from fun e => hnl e)))
          clear hown' hgrow R1 R3 hC5 hrd5 hnl
          go_wp2
          refine bodyPost_ret (results_twoK rfl _ _ _) rfl ?_
          exact HFIN.out _ _ _ _ _ H6.out.1 (by simp; omega) H6.out.2.1 H6.out.2.2
        · have q0 : ((c : Int) == 0) = false := by simp; omega
          go_wp2
          refine bodyPost_ret (results_twoK rfl _ _ _) rfl ?_
          exact HFIN.out _ _ _ _ _ HC4.out (by omega) HG4.out HNN.out
      · have hn0 : n2 = 0 := by omega
        subst hn0
        have d1 : decide (0 < (k : Int)) = true := decide_eq_true (by omega)
        go_wp2_with fail
        refine (pick_any _ _ _ L q2 _ hrd (by omega) (by omega) (by omega)).mono ?_
        rintro e w4 ⟨c, rfl, hc, hrd4, hgr4⟩
        have hC4 := HC.out.overR hgr4 hl2
        have hG4 := grown_trans HGx.out hgr4
        have HC4 := keptW hC4
        have HG4 := keptW hG4
        have hs4 := hG4.size
        clear hC4 hG4 hgr4 hrd
        by_cases c0 : c = 0
        · subst c0
          have hl4 := hrd4.lt
          go_wp2_with fail
          refine (one_any (w4.alloc (.cells #[.int .i64 1, .int .i64 64, .int .i64 5] 3)) _ _ L (q2 + 1) w4.heap.size 3 3 [1, 64, 5] (hrd4.alloc _) (heap_alloc_new w4 _) (by omega) (Lib.hid rfl) (by omega) (by omega) (by omega)).mono ?_
          rintro e w5 ⟨z, rfl, _, hrd5, hgr5⟩
          have hgx : w4.grownBy w5 (some w.heap.size) := grown_trans (World.grownBy_alloc w4 _ _) hgr5
          have hC5 := HC4.out.overR hgx hl2
          have hG5 := grown_trans HG4.out hgx
          have HC5 := keptW hC5
          have HG5 := keptW hG5
          have hs5 := hG5.size
          clear hG5 hgx hgr5 hrd4
          go_wp2_with (at_builtin; refine wpList_append_own _ rfl _ _ 30 rfl w2.heap.size 3 i0 (.int .i64 0) 1 8 Try.underlying30 hi hz0 hz1 hz2 rfl (by decide) _ _ _ rfl (hC5.alloc _) ⟨w5.heap.size, 0, none⟩ 1 1 [.int .i64 z] rfl rfl new_one one_cell (by unfold maxLen; omega) (by omega) (by simp; omega) ?_)
          intro v' w6 hown' hgrow hnl
          obtain ⟨R1, _, R3⟩ := snoc_step hl2 HC5.out hrd5 HG5.out hown' hgrow
          obtain ⟨a6, n6, c6, h6⟩ := R1.isSlice
          subst h6
          have H6 := keptW (And.intro R1 (And.intro R3 (show Value.slice a6 n6 c6 ≠ .slice none 0 0 from fun e => hnl e)))
          clear hown' hgrow R1 R3 hC5 hrd5 hnl
          go_wp2
          refine bodyPost_ret (results_twoK rfl _ _ _) rfl ?_
          exact HFIN.out _ _ _ _ _ H6.out.1 (by simp; omega) H6.out.2.1 H6.out.2.2
        · have q0 : ((c : Int) == 0) = false := by simp; omega
          go_wp2
          refine bodyPost_ret (results_twoK rfl _ _ _) rfl ?_
          exact HFIN.out _ _ _ _ _ HC4.out (by omega) HG4.out HNN.out
end Go.Proofs.Ytimbphkbkhlclaa
