
/- The draw of faults. -/
import Derived.Test.YtekchmbbafjmmaaPel
import Derived.Test.YtekchmbbafjmmaaPej
namespace Go.Proofs.Ytekchmbbafjmmaa
open Go.RowKit

theorem fcells_set1 : ∀ (P : List PF) (i j : Nat) (x : Int) (_ : i < P.length) (_ : j < 3), ∃ P' : List PF, P'.length = P.length ∧ (fcells P).set (i * 3 + j) (.int .i64 x) = fcells P' := by
  intro P
  induction P with
  | nil => intro i j x h; simp at h
  | cons q P ih =>
    intro i j x h hj
    have hl : (fcell q).length = 3 := rfl
    cases i with
    | zero =>
      match j, hj with
      | 0, _ => exact ⟨⟨x, q.i, q.c⟩ :: P, rfl, rfl⟩
      | 1, _ => exact ⟨⟨q.k, x, q.c⟩ :: P, rfl, rfl⟩
      | 2, _ => exact ⟨⟨q.k, q.i, x⟩ :: P, rfl, rfl⟩
    | succ i =>
      obtain ⟨P', h1, h2⟩ := ih i j x (by simpa using h) hj
      refine ⟨q :: P', by simp [h1], ?_⟩
      show (fcell q ++ fcells P).set ((i + 1) * 3 + j) _ = fcell q ++ fcells P'
      rw [List.set_append_right _ _ (by rw [hl]; omega), hl, show (i + 1) * 3 + j - 3 = i * 3 + j from by omega, h2]
theorem OwnFn.set1 {w : World} {S g n c : Nat} {P : List PF} (h : OwnFn w S (.slice (some ⟨g, 0, none⟩) n c) P) {i : Nat} (hi : i < n) (j : Nat) (hj : j < 3) (x : Int) :
    ∃ P' : List PF, P'.length = P.length ∧ OwnFn (w.setCell ⟨g, i * 3 + j, none⟩ (.int .i64 x)) S (.slice (some ⟨g, 0, none⟩) n c) P' := by
  have hl := h.len
  subst hl
  obtain ⟨P', h1, h2⟩ := fcells_set1 P i j x hi hj
  have := (World.ownsRow.stored h (i * 3 + j) (.int .i64 x)).1
  rw [h2] at this
  refine ⟨P', h1, ?_⟩
  unfold OwnFn
  rw [h1]
  exact this
theorem OwnFn.overR {w w' : World} {S R : Nat} {v : Value} {P : List PF} (h : OwnFn w S v P) (hg : w.grownBy w' (some R)) (hRS : R < S) : OwnFn w' S v P :=
  h.of_block fun k hk => hg.block k (World.ownsRow.lt h k hk).2 (fun e => by injection e with e; have := (World.ownsRow.lt h k hk).1; omega)
theorem OwnInts.of_blockF {w w' : World} {base : Nat} {v : Value} {zs : List Int} (h : OwnInts w base v zs) (hk : ∀ k, v.ownBlock = some k → w'.heap[k]? = w.heap[k]?) : OwnInts w' base v zs := by
  rcases h with ⟨h0, ⟨hv, hn⟩ | ⟨g, cap, cur, hv, hb, hg, h1, h2, h3, h4⟩⟩
  · exact ⟨h0, .inl ⟨hv, hn⟩⟩
  · exact ⟨h0, .inr ⟨g, cap, cur, hv, hb, (hk g (by rw [hv]; rfl)).trans hg, h1, h2, h3, h4⟩⟩
/-- cells and faults that were drawn -/
def TwoFaults (w : World) (e : Ending) (w' : World) : Prop :=
  ∃ a n c b m d A P, e = .returned (.tuple #[.slice a n c, .slice b m d]) ∧ IntsAt w' (.slice a n c) A ∧ FaultsAt w' (.slice b m d) P ∧ A.length ≤ 8 ∧ P.length ≤ 61 ∧ FormF a n c ∧ Below w.heap.size w w'
theorem FaultsAt.nil (w : World) : FaultsAt w (.slice none 0 0) [] := ⟨none, 0, rfl, Nat.le_refl _, by omega, .inl rfl⟩
theorem twoFaults_of {w w' : World} {a b : Option Addr} {n c m d : Nat} {A : List Int} {P : List PF} (h1 : IntsAt w' (.slice a n c) A) (h2 : FaultsAt w' (.slice b m d) P) (h3 : A.length ≤ 8) (h4 : P.length ≤ 61) (h5 : FormF a n c) (h6 : Below w.heap.size w w') :
    TwoFaults w (.returned (.tuple #[.slice a n c, .slice b m d])) w' := ⟨a, n, c, b, m, d, A, P, rfl, h1, h2, h3, h4, h5, h6⟩
set_option maxHeartbeats 4000000 in
theorem drawFixFaults_any (w : World) (a : Option Addr) (len cap : Nat) (zs : List Int) (h : RowIn .u8 w a len cap zs) :
    Calls Try.prog 34 #[.slice a len cap] w fun e w' => TwoFaults w e w' := by
  obtain ⟨h1, h2, h3⟩ := bytesAt_of_row h
  clear h
  go_enter Try.func34, Try.ntmps34
  go_wp2_with fail
  refine (newReader_any w w.heap.size a len cap h1 (Nat.le_refl _) h2 h3).mono ?_
  rintro e w1 ⟨L, rfl, hrd, hgr⟩
  have hlt1 := hrd.lt
  have HB := below_of_grown hgr
  have hs1 := HB.size
  go_wp2_with fail
  refine (drawProofCost_f w1 w.heap.size a len cap (h1.of_below (fun k hk => HB.block k hk)) hs1 h2 h3).mono ?_
  rintro e w2 ⟨a1, n, ca, b1, m, cb, A, B, rfl, hA, hB, hAl, hBl, hFA, hbn⟩
  have HFM := kepF hFA
  replace hrd := hrd.below hbn hlt1
  replace HB := below_next HB hbn
  have hs2 : w1.heap.size ≤ w2.heap.size := hbn.size
  have HAlt : Hid (∀ k, (Value.slice a1 n ca).ownBlock = some k → k < w2.heap.size) := fun k hk => (World.ownsRow.lt hA k hk).2
  clear hbn hFA h1
  obtain ⟨ok, hok⟩ : ∃ ok, decide (OkP A ∧ OkP B) = ok := ⟨_, rfl⟩
  have HOK := Lib.hid hok
  go_wp2_with fail
  refine (s_validProof _ _ _ A B ok hA.at hB HOK).mono ?_
  rintro e w' ⟨rfl, rfl⟩
  cases ok with
  | false =>
    go_wp2
    refine bodyPost_ret (results_twoF rfl _ _ _) rfl ?_
    exact twoFaults_of hA.at (FaultsAt.nil _) hAl (by simp) HFM.out HB
  | true =>
    have hOK := of_decide_eq_true hok
    obtain ⟨F, hF⟩ : ∃ F, stepsL A B 0 = F := ⟨_, rfl⟩
    have hFl : F.length ≤ 60 := by rw [← hF]; have := steps_len _ A B 0 (Nat.le_refl _); omega
    have HS : Hid (Calls Try.prog 65 #[.slice a1 n ca, .slice b1 m cb] w2 fun e w' => FaOut F w2 e w') := by rw [← hF]; exact s_proofSteps w2 _ _ A B hA.at hB hOK.1 hOK.2
    clear hok HOK hOK hF hB
    go_wp2_with fail
    refine HS.out.mono ?_
    rintro e w3 ⟨v, rfl, hO, hbn⟩
    obtain ⟨ao, no, co, hoo⟩ := hO.isSlice
    subst hoo
    have hno := hO.len
    have HNO := Lib.hid hno
    replace hA := hA.below hbn
    replace hrd := hrd.below hbn (by omega)
    replace HB := below_next HB hbn
    have hs3 : w2.heap.size ≤ w3.heap.size := hbn.size
    clear hbn HS
    by_cases h0 : no = 0
    · have d0 : decide ((0 : Int) < (no : Int)) = false := decide_eq_false (by omega)
      have d1 : decide (0 < no) = false := decide_eq_false (by omega)
      clear h0
      go_wp2
      refine bodyPost_ret (results_twoF rfl _ _ _) rfl ?_
      exact twoFaults_of hA.at hO.at hAl (by omega) HFM.out HB
    · have d0 : decide ((0 : Int) < (no : Int)) = true := decide_eq_true (by omega)
      have d1 : decide (0 < no) = true := decide_eq_true (by omega)
      have d2 : (0 : Int) < (no : Int) := by omega
      have d3 : 0 < no := by omega
      obtain ⟨g, rfl, hg1, hg2⟩ := hO.addr (by omega)
      clear h0
      go_wp2_with fail
      refine (pick_any _ w.heap.size w.heap.size L 0 _ hrd (by omega) (by omega) (by omega)).mono ?_
      rintro e w4 ⟨k1, rfl, hk1, hrd, hgn⟩
      replace hA := hA.overR hgn hlt1
      replace hO := hO.overR hgn (by omega)
      replace HB := HB.grown hgn HB.size (fun q hq => by injection hq with hq; omega)
      have hs4 : w2.heap.size ≤ w4.heap.size := Nat.le_trans hs3 hgn.size
      clear hgn
      by_cases hk0 : k1 = 0
      · subst hk0
        go_wp2_with fail
        refine (pick_any _ w.heap.size w.heap.size L 1 _ hrd (by omega) (by omega) (by omega)).mono ?_
        rintro e w5 ⟨k2, rfl, hk2, hrd, hgn⟩
        replace hA := hA.overR hgn hlt1
        replace hO := hO.overR hgn (by omega)
        replace HB := HB.grown hgn HB.size (fun q hq => by injection hq with hq; omega)
        have hs5 : w2.heap.size ≤ w5.heap.size := Nat.le_trans hs4 hgn.size
        clear hgn
        go_wp2_with fail
        refine (pick_any _ w.heap.size w.heap.size L 2 _ hrd (by omega) (by omega) (by omega)).mono ?_
        rintro e w6 ⟨k3, rfl, hk3, hrd, hgn⟩
        replace hA := hA.overR hgn hlt1
        replace hO := hO.overR hgn (by omega)
        replace HB := HB.grown hgn HB.size (fun q hq => by injection hq with hq; omega)
        have hs6 : w2.heap.size ≤ w6.heap.size := Nat.le_trans hs5 hgn.size
        clear hgn
        have hk2' : k2 < no := by omega
        have x1 : (0 : Int) ≤ (k2 : Int) := by omega
        have x2 : (k2 : Int) < (no : Int) := by omega
        have hcase : k3 = 0 ∨ k3 = 1 ∨ k3 = 2 ∨ k3 = 3 := by omega
        clear hk1 hk2 hk3
        rcases hcase with rfl | rfl | rfl | rfl
        · skip
          go_wp2_with fail
          have hlt6 := hrd.lt
          refine (one_any _ w.heap.size w.heap.size L 3 w6.heap.size 4 4 [-1, 8, 0, 30] (hrd.alloc _) (heap_alloc_new w6 _) (by omega) (Lib.hid rfl) (by omega) (by omega) (by omega)).mono ?_
          rintro e w7 ⟨z, rfl, hz, hrd7, hgr7⟩
          have hgx := grown_trans (World.grownBy_alloc w6 (.cells #[.int .i64 (-1), .int .i64 8, .int .i64 0, .int .i64 30] 3) _) hgr7
          replace hA := hA.overR hgx hlt1
          replace hO := hO.overR hgx (by omega)
          replace HB := HB.grown hgx HB.size (fun q hq => by injection hq with hq; omega)
          clear hz hgr7 hgx hrd hrd7
          obtain ⟨e0, e1, e2, hfr⟩ := hO.cell3 hk2'
          have f0 := hfr (k2 * 3 + 1)
          obtain ⟨P', hl', hO'⟩ := hO.set1 hk2' 1 (by omega) z
          have hgs := grown_store w7 g (k2 * 3 + 1) (.int .i64 z)
          have hO' : OwnFn (w7.setCell ⟨g, k2 * 3 + 1, none⟩ (.int .i64 z)) w2.heap.size (.slice (some ⟨g, 0, none⟩) no co) P' := hO'
          have hA' := hA.of_blockF (fun b hb => hgs.block b (World.ownsRow.lt hA b hb).2 (fun e => by injection e with e; have := HAlt.out b hb; omega))
          have HB' := HB.grown hgs HB.size (fun q hq => by injection hq with hq; omega)
          have FIN := kepF (And.intro hA' (And.intro hO' HB'))
          clear hA hO HB hgs hA' hO' HB' hfr
          go_wp2
          refine bodyPost_ret (results_twoF rfl _ _ _) rfl ?_
          exact twoFaults_of FIN.out.1.at FIN.out.2.1.at hAl (by omega) HFM.out FIN.out.2.2
        · skip
          go_wp2_with fail
          have hlt6 := hrd.lt
          refine (one_any _ w.heap.size w.heap.size L 3 w6.heap.size 3 3 [64, -1, 1] (hrd.alloc _) (heap_alloc_new w6 _) (by omega) (Lib.hid rfl) (by omega) (by omega) (by omega)).mono ?_
          rintro e w7 ⟨z, rfl, hz, hrd7, hgr7⟩
          have hgx := grown_trans (World.grownBy_alloc w6 (.cells #[.int .i64 64, .int .i64 (-1), .int .i64 1] 3) _) hgr7
          replace hA := hA.overR hgx hlt1
          replace hO := hO.overR hgx (by omega)
          replace HB := HB.grown hgx HB.size (fun q hq => by injection hq with hq; omega)
          clear hz hgr7 hgx hrd hrd7
          obtain ⟨e0, e1, e2, hfr⟩ := hO.cell3 hk2'
          have f0 := hfr (k2 * 3 + 2)
          obtain ⟨P', hl', hO'⟩ := hO.set1 hk2' 2 (by omega) z
          have hgs := grown_store w7 g (k2 * 3 + 2) (.int .i64 z)
          have hO' : OwnFn (w7.setCell ⟨g, k2 * 3 + 2, none⟩ (.int .i64 z)) w2.heap.size (.slice (some ⟨g, 0, none⟩) no co) P' := hO'
          have hA' := hA.of_blockF (fun b hb => hgs.block b (World.ownsRow.lt hA b hb).2 (fun e => by injection e with e; have := HAlt.out b hb; omega))
          have HB' := HB.grown hgs HB.size (fun q hq => by injection hq with hq; omega)
          have FIN := kepF (And.intro hA' (And.intro hO' HB'))
          clear hA hO HB hgs hA' hO' HB' hfr
          go_wp2
          refine bodyPost_ret (results_twoF rfl _ _ _) rfl ?_
          exact twoFaults_of FIN.out.1.at FIN.out.2.1.at hAl (by omega) HFM.out FIN.out.2.2
        · skip
          go_wp2_with fail
          have hlt6 := hrd.lt
          refine (one_any _ w.heap.size w.heap.size L 3 w6.heap.size 5 5 [3, -1, 0, 1, 2] (hrd.alloc _) (heap_alloc_new w6 _) (by omega) (Lib.hid rfl) (by omega) (by omega) (by omega)).mono ?_
          rintro e w7 ⟨z, rfl, hz, hrd7, hgr7⟩
          have hgx := grown_trans (World.grownBy_alloc w6 (.cells #[.int .i64 3, .int .i64 (-1), .int .i64 0, .int .i64 1, .int .i64 2] 3) _) hgr7
          replace hA := hA.overR hgx hlt1
          replace hO := hO.overR hgx (by omega)
          replace HB := HB.grown hgx HB.size (fun q hq => by injection hq with hq; omega)
          clear hz hgr7 hgx hrd hrd7
          obtain ⟨e0, e1, e2, hfr⟩ := hO.cell3 hk2'
          have f0 := hfr (k2 * 3)
          obtain ⟨P', hl', hO'⟩ := hO.set1 hk2' 0 (by omega) z
          have hgs := grown_store w7 g (k2 * 3) (.int .i64 z)
          have hO' : OwnFn (w7.setCell ⟨g, k2 * 3, none⟩ (.int .i64 z)) w2.heap.size (.slice (some ⟨g, 0, none⟩) no co) P' := hO'
          have hA' := hA.of_blockF (fun b hb => hgs.block b (World.ownsRow.lt hA b hb).2 (fun e => by injection e with e; have := HAlt.out b hb; omega))
          have HB' := HB.grown hgs HB.size (fun q hq => by injection hq with hq; omega)
          have FIN := kepF (And.intro hA' (And.intro hO' HB'))
          clear hA hO HB hgs hA' hO' HB' hfr
          go_wp2
          refine bodyPost_ret (results_twoF rfl _ _ _) rfl ?_
          exact twoFaults_of FIN.out.1.at FIN.out.2.1.at hAl (by omega) HFM.out FIN.out.2.2
        · skip
          obtain ⟨e0, e1, e2, hfr⟩ := hO.cell3 hk2'
          obtain ⟨p, hp⟩ : ∃ p, F.getD k2 noF = p := ⟨_, rfl⟩
          rw [hp] at e0 e1 e2
          clear hp hfr
          obtain ⟨r, f, t⟩ := p
          simp only at e0 e1 e2
          have hO3 := kepF (hO.below (Below.alloc (Below.refl _ _) (Nat.le_refl _) (.cells #[.int .i64 r, .int .i64 f, .int .i64 t] 42)))
          have hA3 := kepF (faultAt_alloc w6 ⟨r, f, t⟩)
          have hl3 : F.length ≤ 100000 := by omega
          have hl4 : w2.heap.size ≤ (w6.alloc (.cells #[.int .i64 r, .int .i64 f, .int .i64 t] 42)).heap.size := by rw [World.size_alloc]; omega
          have HL9 := kepF (And.intro hl3 hl4)
          have HO := kepF hO
          have HBk := kepF HB
          have HAk := kepF hA
          clear hl3 hl4 hO HB hA hrd
          go_wp2_with (at_builtin; go_loud (refine wpList_append_fn rfl _ _ rfl w2.heap.size w6.heap.size ⟨r, f, t⟩ rfl rfl hO3.out hA3.out HL9.out.1 HL9.out.2 ?_))
          intro v5 w7 hO9 hg9
          obtain ⟨a9, n9, c9, h9⟩ := hO9.isSlice
          subst h9
          have hB9 : Below w.heap.size w w7 := (HBk.out.alloc HBk.out.size _).grown hg9 (by have := HBk.out.size; have := (World.grownBy_alloc w6 (.cells #[.int .i64 r, .int .i64 f, .int .i64 t] 42) none).size; omega) (fun k hk => by have := (World.ownsRow.lt HO.out k hk).1; omega)
          have hA9 : OwnInts w7 w1.heap.size (.slice a1 n ca) A := by
            have h8 : OwnInts (w6.alloc (.cells #[.int .i64 r, .int .i64 f, .int .i64 t] 42)) w1.heap.size (.slice a1 n ca) A := HAk.out.alloc _
            exact h8.of_blockF (fun b hb => hg9.block b (World.ownsRow.lt h8 b hb).2 (fun e => by have := HAlt.out b hb; have := (World.ownsRow.lt HO.out b e.symm).1; omega))
          have FIN := kepF (And.intro hA9 (And.intro hO9 hB9))
          clear hO9 hg9 hB9 hA9 hO3 hA3
          go_wp2
          refine bodyPost_ret (results_twoF rfl _ _ _) rfl ?_
          exact twoFaults_of FIN.out.1.at FIN.out.2.1.at hAl (by rw [List.length_append, List.length_singleton]; omega) HFM.out FIN.out.2.2
      · have e0 : ((k1 : Int) == 0) = false := by simp; omega
        go_wp2
        refine bodyPost_ret (results_twoF rfl _ _ _) rfl ?_
        exact twoFaults_of hA.at hO.at hAl (by omega) HFM.out HB
end Go.Proofs.Ytekchmbbafjmmaa
