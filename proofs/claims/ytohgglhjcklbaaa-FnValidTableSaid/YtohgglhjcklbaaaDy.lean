
/- The draw of a table. -/
import Derived.Test.YtohgglhjcklbaaaDw
namespace Go.Proofs.Ytohgglhjcklbaaa
open Go.RowKit

def badC : List (List Int) := [[], [0], [50], [60], [64], [1, 1, 1], [48]]
def badO (b : Nat) : List Obj :=
  [.cells #[] 3,
   .cells #[.int .i64 0] 3,
   .cells #[.int .i64 50] 3,
   .cells #[.int .i64 60] 3,
   .cells #[.int .i64 64] 3,
   .cells #[.int .i64 1, .int .i64 1, .int .i64 1] 3,
   .cells #[.int .i64 48] 3,
   .cells #[.slice (some ⟨b, 0, none⟩) 0 0, .slice (some ⟨b + 1, 0, none⟩) 1 1, .slice (some ⟨b + 1 + 1, 0, none⟩) 1 1, .slice (some ⟨b + 1 + 1 + 1, 0, none⟩) 1 1, .slice (some ⟨b + 1 + 1 + 1 + 1, 0, none⟩) 1 1, .slice (some ⟨b + 1 + 1 + 1 + 1 + 1, 0, none⟩) 3 3, .slice (some ⟨b + 1 + 1 + 1 + 1 + 1 + 1, 0, none⟩) 1 1] 36]
theorem bad_list (b k : Nat) (hk : k < 7) : (badO b)[k]? = some (.cells (ints (badC.getD k [])).toArray 3) := by
  rcases (show k = 0 ∨ k = 1 ∨ k = 2 ∨ k = 3 ∨ k = 4 ∨ k = 5 ∨ k = 6 from by omega) with rfl | rfl | rfl | rfl | rfl | rfl | rfl <;> rfl
theorem bad_outer (b k : Nat) (hk : k < 7) : ∃ cs, (badO b)[7]? = some (.cells cs 36) ∧ cs[k]? = some (.slice (some ⟨b + k, 0, none⟩) (badC.getD k []).length (badC.getD k []).length) := by
  refine ⟨_, rfl, ?_⟩
  rcases (show k = 0 ∨ k = 1 ∨ k = 2 ∨ k = 3 ∨ k = 4 ∨ k = 5 ∨ k = 6 from by omega) with rfl | rfl | rfl | rfl | rfl | rfl | rfl <;> rfl
theorem bad_facts : ∀ k, k < 7 → (badC.getD k []).length ≤ 3 ∧ ∀ z ∈ badC.getD k [], 0 ≤ z ∧ z ≤ 64 := by decide
def BadPicked (w : World) (B R L p : Nat) (e : Ending) (w2 : World) : Prop :=
  ∃ (k g l : Nat) (c : List Int), e = .returned (.int .i64 k) ∧ k < 7 ∧ Hid (w2.cell? ⟨w.heap.size + 1 + 1 + 1 + 1 + 1 + 1 + 1, k, none⟩ = some (.slice (some ⟨g, 0, none⟩) l l)) ∧ Hid (OwnInts w2 w.heap.size (.slice (some ⟨g, 0, none⟩) l l) c) ∧ Hid (Fits c) ∧ RD w2 B R L (p + 1) ∧ w.grownBy w2 (some R)
set_option maxHeartbeats 1000000 in
theorem bad_pick (w : World) (B R L p : Nat) (h : RD w B R L p) (hp : p ≤ 100000000000) :
    Calls Try.prog 80 #[.pointer (some ⟨R, 0, none⟩), .int .i64 7] ((badO w.heap.size).foldl World.alloc w) fun e w' => BadPicked w B R L p e w' := by
  have hR := h.lt
  have hBR : B ≤ R := by obtain ⟨_, _, _, h3, _⟩ := h; exact h3
  have hrd : RD ((badO w.heap.size).foldl World.alloc w) B R L p := h.of_same (fun k hk => heap_foldl _ w k (by omega)) (heap_foldl _ w R hR)
  have hsz : ((badO w.heap.size).foldl World.alloc w).heap.size = w.heap.size + 8 := size_foldl _ w
  have hgw : ∀ i, i < w.heap.size → ((badO w.heap.size).foldl World.alloc w).heap[i]? = w.heap[i]? := fun i hi => heap_foldl _ w i hi
  have hos := os_foldl (badO w.heap.size) w
  refine (pick_any _ B R L p 7 hrd (by omega) (by omega) (by omega)).mono ?_
  have hal : ∀ i o, (badO w.heap.size)[i]? = some o → ((badO w.heap.size).foldl World.alloc w).heap[w.heap.size + i]? = some o := fun i o ho => heap_allocs _ w i o ho
  generalize (badO w.heap.size).foldl World.alloc w = W1 at hrd hsz hgw hos hal ⊢
  rintro e w2 ⟨k, rfl, hk, hrd2, hgr2⟩
  have hk7 : k < 7 := by omega
  obtain ⟨f1, f2⟩ := bad_facts k hk7
  have hsz2 := hgr2.size
  rw [hsz] at hsz2
  have blk : ∀ i o, (badO w.heap.size)[i]? = some o → i < 8 → w2.heap[w.heap.size + i]? = some o := fun i o h1 h2 => (hgr2.block (w.heap.size + i) (by omega) (by simp; omega)).trans (hal i o h1)
  obtain ⟨cs, g1, g2⟩ := bad_outer w.heap.size k hk7
  have kL := blk 7 _ g1 (by omega)
  have kI := blk k _ (bad_list w.heap.size k hk7) (by omega)
  have cL : w2.cell? ⟨w.heap.size + 1 + 1 + 1 + 1 + 1 + 1 + 1, k, none⟩ = some (.slice (some ⟨w.heap.size + k, 0, none⟩) (badC.getD k []).length (badC.getD k []).length) := by rw [cell_of_row w2 (w.heap.size + 7) k _ _ _ kL]; exact g2
  exact ⟨k, _, _, _, rfl, hk7, cL, OwnInts.lit kI (by omega) (by omega), fun z hz => by have := f2 z hz; omega, hrd2, ⟨hgr2.os.trans hos.1, hgr2.tape.trans hos.2.1, hgr2.output.trans hos.2.2, by omega, fun i hi hne => (hgr2.block i (by omega) hne).trans (hgw i hi)⟩⟩

/-- a drawn table -/
def AnyDrawn (w : World) (B R L p : Nat) (e : Ending) (w' : World) : Prop :=
  ∃ v Q q, e = .returned v ∧ TabOwn w' w.heap.size v Q ∧ TableFits (tabOf Q) ∧ Q.length ≤ 9 ∧ RD w' B R L q ∧ q ≤ p + 50 ∧ w.grownBy w' (some R)
def txtA : List ByteArray := [⟨#[]⟩, ⟨#[84, 104, 101]⟩, ⟨#[97, 98, 99, 100, 101, 102, 103]⟩, ⟨#[97, 98, 99, 100, 101, 102]⟩]
set_option maxHeartbeats 8000000 in
theorem anyTable_any (w : World) (B R L p : Nat) (h : RD w B R L p) (hp : p ≤ 100000000) :
    Calls Try.prog 61 #[.pointer (some ⟨R, 0, none⟩)] w fun e w' => AnyDrawn w B R L p e w' := by
  obtain ⟨i0, hi, hz0, hz1, hz2⟩ := info_parts infoRule
  have hR := h.lt
  go_enter Try.func61, Try.ntmps61
  go_wp2_with fail
  refine (goodTable_any w B R L p h (by omega)).mono ?_
  rintro e w1 ⟨v, Q, q, rfl, hT, hF, hV, hlen, hrd, hq, hG⟩
  clear hV
  have HF := keptH hF
  clear hF
  obtain ⟨g, cap, hv⟩ := hT.2.2
  obtain ⟨n, hn⟩ : ∃ n, Q.length = n := ⟨_, rfl⟩
  rw [hn] at hv hlen
  have HN := keptH hn
  clear hn
  subst hv
  have hrow := hT.row
  by_cases hn0 : n = 0
  · subst hn0
    go_wp2
    go_ret
    exact ⟨_, Q, q, rfl, hT, HF.out, by rw [HN.out]; omega, hrd, by omega, hG⟩
  · have d0 : ((n : Int) == 0) = false := by simp; omega
    go_wp2_with fail
    refine (pick_any w1 B R L q _ hrd (by omega) (by omega) (by omega)).mono ?_
    rintro e w2 ⟨k, rfl, hk, hrd2, hgr2⟩
    have hT2 := hT.overR hgr2 hR
    have hG2 := grown_trans hG hgr2
    clear hT hG hgr2 hrd
    go_wp2_with fail
    refine (pick_any w2 B R L (q + 1) _ hrd2 (by omega) (by omega) (by omega)).mono ?_
    rintro e w3 ⟨c, rfl, hc, hrd3, hgr3⟩
    have hT3 := hT2.overR hgr3 hR
    have hG3 := grown_trans hG2 hgr3
    have hs3 := hG3.size
    clear hT2 hG2 hgr3 hrd2
    have hkn : k < n := by omega
    have hin : k < Q.length := by rw [HN.out]; exact hkn
    have hrk := keptH (tabOf_mem HF.out hin)
    have b1 : (0 : Int) ≤ (k : Int) := by omega
    have b2 : (k : Int) < (n : Int) := by omega
    by_cases c0 : c = 0
    · subst c0
      go_wp2_with fail
      refine (of_any (w3.alloc (.cells (strs txtA) 9)) B R L (q + 1 + 1) w3.heap.size 4 4 txtA (hrd3.alloc _) (heap_alloc_new w3 _) (by omega) (Lib.hid rfl) (by omega) (by omega) (by omega)).mono ?_
      rintro e w4 ⟨t, rfl, ht, hrd4, hgr4⟩
      have ht2 : t.size ≤ 10 := small_strs (by decide) ht
      have hT4 := (hT3.below (Below.alloc (Below.refl _ _) (Nat.le_refl _) _)).overR hgr4 hR
      have hG4 := grown_trans hG3 (grown_trans (World.grownBy_alloc w3 _ _) hgr4)
      obtain ⟨x6, e6⟩ := hT4.cellAt HN.out (j := k * 3) (by omega)
      have f6 := hT4.free HN.out (k * 3)
      have hT5 := hT4.setText HN.out hin t
      have hF5 := tabOf_set (u := Q[k].2) HF.out k (r := ⟨t, Q[k].1.c, Q[k].1.p⟩) ⟨by simp only; omega, hrk.out.2⟩
      have hG5 := grown_own hG4 (grown_store w4 g (k * 3) (.string t)) (fun x hx => by injection hx with hx; omega)
      have hrd5 := hrd4.over (S := w.heap.size) (grown_store w4 g (k * 3) (.string t)) (fun x hx => by injection hx with hx; omega) hR
      have H5 := keptH (And.intro hT5 (And.intro hF5 (And.intro hG5 hrd5)))
      clear hT3 hG3 hrd3 ht hgr4 hT4 hG4 hrd4 hT5 hF5 hG5 hrd5
      go_wp2
      go_ret
      exact ⟨_, _, _, rfl, H5.out.1, H5.out.2.1, by rw [List.length_set, HN.out]; omega, H5.out.2.2.2, by omega, H5.out.2.2.1⟩
    · have e0 : ((c : Int) == 0) = false := by simp; omega
      by_cases c1 : c = 1
      · subst c1
        have HB := bad_pick w3 B R L (q + 1 + 1) hrd3 (by omega)
        simp only [badO, List.foldl_cons, List.foldl_nil] at HB
        have HBK := keptH HB
        clear HB
        go_wp2_with fail
        refine HBK.out.mono ?_
        clear HBK
        rintro e w4 ⟨k7, g7, l7, c7, rfl, hk7, HC, HO, HFc, hrd4, hgr4⟩
        have hT4 := hT3.overR hgr4 hR
        have hG4 := grown_trans hG3 hgr4
        have b3 : (0 : Int) ≤ (k7 : Int) := by omega
        have b4 : (k7 : Int) < 7 := by omega
        have e7 := HC.out
        obtain ⟨x6, e6⟩ := hT4.cellAt HN.out (j := k * 3 + 1) (by omega)
        have f6 := hT4.free HN.out (k * 3 + 1)
        have hT5 := hT4.setCells HN.out hin (World.ownsRow.mono HO.out hs3)
        have hF5 := tabOf_set (u := .slice (some ⟨g7, 0, none⟩) l7 l7) HF.out k (r := ⟨Q[k].1.t, c7, Q[k].1.p⟩) ⟨hrk.out.1, HFc.out, hrk.out.2.2⟩
        have hG5 := grown_own hG4 (grown_store w4 g (k * 3 + 1) (.slice (some ⟨g7, 0, none⟩) l7 l7)) (fun x hx => by injection hx with hx; omega)
        have hrd5 := hrd4.over (S := w.heap.size) (grown_store w4 g (k * 3 + 1) (.slice (some ⟨g7, 0, none⟩) l7 l7)) (fun x hx => by injection hx with hx; omega) hR
        have H5 := keptH (And.intro hT5 (And.intro hF5 (And.intro hG5 hrd5)))
        clear hT3 hG3 hrd3 hgr4 hT4 hG4 hrd4 hT5 hF5 hG5 hrd5
        go_wp2
        go_ret
        exact ⟨_, _, _, rfl, H5.out.1, H5.out.2.1, by rw [List.length_set, HN.out]; omega, H5.out.2.2.2, by omega, H5.out.2.2.1⟩
      · have e1 : ((c : Int) == 1) = false := by simp; omega
        by_cases c2 : c = 2
        · subst c2
          go_wp2_with fail
          refine (one_any (w3.alloc (.cells #[.int .i64 5, .int .i64 (-1), .int .i64 0] 3)) B R L (q + 1 + 1) w3.heap.size 3 3 [5, -1, 0] (hrd3.alloc _) (heap_alloc_new w3 _) (by omega) (Lib.hid rfl) (by omega) (by omega) (by omega)).mono ?_
          rintro e w4 ⟨z, rfl, hz, hrd4, hgr4⟩
          have hz' : -1 ≤ z ∧ z ≤ 5 := by simp at hz; omega
          have hT4 := (hT3.below (Below.alloc (Below.refl _ _) (Nat.le_refl _) _)).overR hgr4 hR
          have hG4 := grown_trans hG3 (grown_trans (World.grownBy_alloc w3 _ _) hgr4)
          obtain ⟨x6, e6⟩ := hT4.cellAt HN.out (j := k * 3 + 2) (by omega)
          have f6 := hT4.free HN.out (k * 3 + 2)
          have hT5 := hT4.setPlace HN.out hin z
          have hF5 := tabOf_set_fits HF.out hin (p := z) (by omega) (by omega)
          have hG5 := grown_own hG4 (grown_store w4 g (k * 3 + 2) (.int .i64 z)) (fun x hx => by injection hx with hx; omega)
          have hrd5 := hrd4.over (S := w.heap.size) (grown_store w4 g (k * 3 + 2) (.int .i64 z)) (fun x hx => by injection hx with hx; omega) hR
          have H5 := keptH (And.intro hT5 (And.intro hF5 (And.intro hG5 hrd5)))
          clear hT3 hG3 hrd3 hz hgr4 hT4 hG4 hrd4 hT5 hF5 hG5 hrd5
          go_wp2
          go_ret
          exact ⟨_, _, _, rfl, H5.out.1, H5.out.2.1, by rw [List.length_set, HN.out]; omega, H5.out.2.2.2, by omega, H5.out.2.2.1⟩
        · have e2 : ((c : Int) == 2) = false := by simp; omega
          by_cases c3 : c = 3
          · subst c3
            obtain ⟨r, hr⟩ : ∃ r, Q[k].1 = r := ⟨_, rfl⟩
            obtain ⟨u, hu⟩ : ∃ u, Q[k].2 = u := ⟨_, rfl⟩
            have hqk := hT3.2.1 Q[k] (List.getElem_mem hin)
            rw [hr, hu] at hqk
            rw [hr] at hrk
            obtain ⟨hOu, au, nu, cu, hue⟩ := hqk
            subst hue
            have hcell := hT3.1
            obtain ⟨x0, x1, x2⟩ := rcells_at Q k hin
            rw [HN.out] at hcell
            have e6 := (hcell.cellAt (k * 3) (by omega)).trans x0
            have e7 := (hcell.cellAt (k * 3 + 1) (by omega)).trans x1
            have e8 := (hcell.cellAt (k * 3 + 2) (by omega)).trans x2
            rw [hr] at e6 e8
            rw [hu] at e7
            have hnews2 := keptH (ruleRow_cells w3 r (.slice au nu cu))
            have hone2 := rcells_one [(r, .slice au nu cu)] (fun q hq => by simp at hq; rw [hq]; exact ⟨_, _, _, rfl⟩)
            have hone3 : Hid (∀ x ∈ qcell (r, .slice au nu cu), x.oneCell' = true) := by
              have : rcells [(r, .slice au nu cu)] = qcell (r, .slice au nu cu) := by simp [rcells]
              rw [this] at hone2
              exact hone2
            have HT3 := keptH hT3
            have hown13 := hcell
            clear hone2 x0 x1 x2 hr hu hT3 hcell
            go_wp2_with (at_builtin; go_loud (refine wpList_append_own _ rfl _ _ 30 rfl w.heap.size 46 i0 (.agg #[.string ⟨#[]⟩, .slice none 0 0, .int .i64 0]) 3 48 Try.underlying30 hi hz0 hz1 hz2 rfl (by decide) _ _ _ rfl (hown13.alloc _) ⟨w3.heap.size, 0, none⟩ 1 1 (qcell (r, .slice au nu cu)) rfl rfl hnews2.out hone3.out (by unfold maxLen; omega) (by omega) (by simp; omega) ?_))
            intro v2 w4 hown2 hgrow2 hnil2
            have hG4 : w.grownBy w4 (some R) := grown_own (grown_own hG3 (World.grownBy_alloc w3 _ none) (by simp)) hgrow2 (fun q hq => by simp [Value.ownBlock] at hq; omega)
            have hrd4 : RD w4 B R L (q + 1 + 1) := (hrd3.alloc _).over (S := w.heap.size) hgrow2 (fun k hk => by simp [Value.ownBlock] at hk; omega) hR
            have hT4 : TabOwn w4 w.heap.size v2 (Q ++ [(r, .slice au nu cu)]) := by
              have hl : (Q ++ [(r, Value.slice au nu cu)]).length = n + 1 := by rw [List.length_append, HN.out]; rfl
              have hal : ∀ x : PRule × Value, OwnInts w3 w.heap.size x.2 x.1.c → OwnInts w4 w.heap.size x.2 x.1.c := fun x hx => (World.ownsRow.alloc hx (.cells #[.string r.t, .slice au nu cu, .int .i64 r.p] 46)).kept hgrow2 (ne_row (World.ownsRow.alloc hx (.cells #[.string r.t, .slice au nu cu, .int .i64 r.p] 46)) (hown13.alloc (.cells #[.string r.t, .slice au nu cu, .int .i64 r.p] 46)))
              refine ⟨?_, fun x hx => ?_, ?_⟩
              · rw [hl, ← rcells_snoc]
                exact hown2
              · rcases List.mem_append.1 hx with hx | hx
                · exact ⟨hal x (HT3.out.2.1 x hx).1, (HT3.out.2.1 x hx).2⟩
                · simp at hx
                  rw [hx]
                  exact ⟨hal (r, .slice au nu cu) hOu, _, _, _, rfl⟩
              · rcases hown2.2 with ⟨_, h⟩ | ⟨g2, c', cur, h, _⟩
                · omega
                · exact ⟨g2, c', by rw [hl]; exact h⟩
            have H5 := keptH (And.intro hT4 (And.intro (TabOwn.fits_snoc (u := .slice au nu cu) HF.out hrk.out) (And.intro hG4 hrd4)))
            clear hown2 hgrow2 hnil2 hown13 hG4 hrd4 hT4 hG3 hrd3 hnews2 hone3 hOu
            go_wp2
            go_ret
            exact ⟨_, _, _, rfl, H5.out.1, H5.out.2.1, by rw [List.length_append, HN.out]; simp; omega, H5.out.2.2.2, by omega, H5.out.2.2.1⟩
          · have e3 : ((c : Int) == 3) = false := by simp; omega
            go_wp2
            go_ret
            exact ⟨_, Q, _, rfl, hT3, HF.out, by rw [HN.out]; omega, hrd3, by omega, hG3⟩
end Go.Proofs.Ytohgglhjcklbaaa
