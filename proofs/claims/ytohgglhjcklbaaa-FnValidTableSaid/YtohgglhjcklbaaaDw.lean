
/- The draw of a valid table. -/
import Derived.Test.YtohgglhjcklbaaaDv
namespace Go.Proofs.Ytohgglhjcklbaaa
open Go.RowKit

/-- a drawn table that is valid -/
def GoodDrawn (w : World) (B R L p : Nat) (e : Ending) (w' : World) : Prop :=
  ∃ v Q q, e = .returned v ∧ TabOwn w' w.heap.size v Q ∧ TableFits (tabOf Q) ∧ ValidTb (tabOf Q) ∧ Q.length ≤ 8 ∧ RD w' B R L q ∧ q ≤ p + 40 ∧ w.grownBy w' (some R)
set_option maxHeartbeats 8000000 in
theorem goodTable_any (w : World) (B R L p : Nat) (h : RD w B R L p) (hp : p ≤ 1000000000) :
    Calls Try.prog 87 #[.pointer (some ⟨R, 0, none⟩)] w fun e w' => GoodDrawn w B R L p e w' := by
  obtain ⟨i0, hi, hz0, hz1, hz2⟩ := info_parts infoRule
  have hR := h.lt
  have hT0 : TabOwn (w.alloc (.cells #[] 46)) w.heap.size (.slice (some ⟨w.heap.size, 0, none⟩) 0 0) [] := ⟨World.ownsRow_made w #[] 0 (Nat.le_refl _) (by unfold maxLen; omega) rfl, fun q hq => absurd hq (by simp), _, 0, rfl⟩
  have hrd0 := h.alloc (.cells #[] 46)
  have hl0 : ((w.alloc (.cells #[] 46)).alloc (.cells #[.int .i64 6, .int .i64 8, .int .i64 4, .int .i64 3, .int .i64 1, .int .i64 0] 3)).heap[w.heap.size + 1]? = some (.cells (([6, 8, 4, 3, 1, 0] : List Int).map (Value.int .i64)).toArray 3 (0, 0)) := by
    have := heap_alloc_new (w.alloc (.cells #[] 46)) (.cells #[.int .i64 6, .int .i64 8, .int .i64 4, .int .i64 3, .int .i64 1, .int .i64 0] 3)
    rw [World.size_alloc] at this
    exact this
  have H1 := keptH (one_any ((w.alloc (.cells #[] 46)).alloc (.cells #[.int .i64 6, .int .i64 8, .int .i64 4, .int .i64 3, .int .i64 1, .int .i64 0] 3)) B R L p (w.heap.size + 1) 6 6 [6, 8, 4, 3, 1, 0] (hrd0.alloc _) hl0 (by omega) (Lib.hid rfl) (by omega) (by omega) (by omega))
  clear hl0
  go_enter Try.func87, Try.ntmps87
  go_wp2_with fail
  refine H1.out.mono ?_
  rintro e w1 ⟨k0, rfl, hk0, hrd1, hgr1⟩
  have hG1 : w.grownBy w1 (some R) := grown_trans (grown_trans (World.grownBy_alloc w _ _) (World.grownBy_alloc _ _ _)) hgr1
  have hT1 : TabOwn w1 w.heap.size (.slice (some ⟨w.heap.size, 0, none⟩) 0 0) [] := (hT0.below (Below.alloc (Below.refl _ _) (Nat.le_refl _) _)).overR hgr1 hR
  obtain ⟨K, rfl, hK⟩ : ∃ K : Nat, k0 = (K : Int) ∧ K ≤ 8 := by simp at hk0; exact ⟨k0.toNat, by omega, by omega⟩
  clear hk0 hgr1 hT0 hrd0 h H1
  go_wp2
  go_loopw [3, 4] (fun o c wr => ∃ (k q : Nat) (Q : List (PRule × Value)), c = .int .i64 k ∧ k ≤ 8 ∧ TabOwn wr w.heap.size o Q ∧ TableFits (tabOf Q) ∧ ValidTb (tabOf Q) ∧ Q.length + k ≤ 8 ∧ RD wr B R L q ∧ q + 4 * k ≤ p + 40 ∧ w.grownBy wr (some R)) (fun _ c _ => (intOf c).toNat)
  case atStart => exact ⟨K, p + 1, [], rfl, hK, hT1, fun r hr => absurd hr (by simp [tabOf]), validTb_nil, by simp; omega, hrd1, by omega, hG1⟩
  case round =>
    clear hT1 hrd1 hG1 hK
    obtain ⟨k, q, Q, rfl, hk8, hT, hF, hV, hlen, hrd, hq, hG⟩ := hrel
    have hsz := hG.size
    have HF := keptH hF
    have HV := keptH hV
    clear hF hV
    by_cases hk : 0 < k
    · obtain ⟨g, cap, hv⟩ := hT.2.2
      obtain ⟨n, hn⟩ : ∃ n, Q.length = n := ⟨_, rfl⟩
      rw [hn] at hv hlen
      have HN := keptH hn
      clear hn
      subst hv
      have d1 : decide ((0 : Int) < (k : Int)) = true := decide_eq_true (by omega)
      have hrow := hT.1
      rw [HN.out] at hrow
      have hownv : (wr.alloc (.cells #[] 46)).ownsRow wr.heap.size 46 3 (.slice (some ⟨wr.heap.size, 0, none⟩) 0 0) 0 [] := World.ownsRow_made wr #[] 0 (Nat.le_refl _) (by unfold maxLen; omega) rfl
      have hnews := keptH ((hrow.alloc (.cells #[] 46)).cells (g := g) rfl)
      have hlz : Hid ((rcells Q).length = n * 3) := by show _ = _; rw [rcells_len, HN.out]
      have hone := rcells_one Q (fun q hq => (hT.2.1 q hq).2)
      have HT := keptH hT
      clear hT hrow
      go_wp2_with (at_builtin; go_loud (refine wpList_append_own _ rfl _ _ 30 rfl wr.heap.size 46 i0 (.agg #[.string ⟨#[]⟩, .slice none 0 0, .int .i64 0]) 3 48 Try.underlying30 hi hz0 hz1 hz2 rfl (by decide) _ _ _ rfl hownv ⟨g, 0, none⟩ n cap (rcells Q) rfl hlz.out hnews.out hone (by unfold maxLen; omega) (by omega) (by simp) ?_))
      intro v1 w2 hown1 hgrow1 hnil1
      obtain ⟨g1, c1, rfl⟩ : ∃ g1 c1, v1 = .slice (some ⟨g1, 0, none⟩) n c1 := by
        rcases hown1.2 with ⟨h, _⟩ | ⟨g1, c1, cur, h, _⟩
        · exact absurd h hnil1
        · exact ⟨g1, c1, h⟩
      have hg1 := (hown1.lt g1 rfl)
      have G2 : wr.grownBy w2 (some R) := grown_own (World.grownBy_alloc wr _ (some R)) hgrow1 (fun q hq => by simp [Value.ownBlock] at hq; omega)
      have hrd2 : RD w2 B R L q := (hrd.alloc _).over (S := wr.heap.size) hgrow1 (fun k hk => by simp [Value.ownBlock] at hk; omega) hrd.lt
      have hRr := hrd.lt
      clear hnews hone hgrow1 hnil1 hownv hrd
      go_wp2_with fail
      refine (poolRule_any w2 B R L q hrd2 (by omega)).mono ?_
      rintro e w3 ⟨r, n2, c2, rfl, hOu, hrf, hrd3, hgr3⟩
      have G3 : wr.grownBy w3 (some R) := grown_trans G2 hgr3
      have hown13 : w3.ownsRow wr.heap.size 46 3 (.slice (some ⟨g1, 0, none⟩) n c1) n (rcells Q) := hown1.kept hgr3 (.inr (by simp [Value.ownBlock]; omega))
      have hnews2 := keptH (ruleRow_cells w3 r (.slice (some ⟨n2, 0, none⟩) r.c.length c2))
      have hone2 := rcells_one [(r, .slice (some ⟨n2, 0, none⟩) r.c.length c2)] (fun q hq => by simp at hq; rw [hq]; exact ⟨_, _, _, rfl⟩)
      have hone3 : Hid (∀ x ∈ qcell (r, .slice (some ⟨n2, 0, none⟩) r.c.length c2), x.oneCell' = true) := by
        have : rcells [(r, .slice (some ⟨n2, 0, none⟩) r.c.length c2)] = qcell (r, .slice (some ⟨n2, 0, none⟩) r.c.length c2) := by simp [rcells]
        rw [this] at hone2
        exact hone2
      have HRF := keptH hrf
      have hs3 := G3.size
      clear hgr3 hrd2 G2 hone2 hrf
      go_wp2_with (at_builtin; go_loud (refine wpList_append_own _ rfl _ _ 30 rfl wr.heap.size 46 i0 (.agg #[.string ⟨#[]⟩, .slice none 0 0, .int .i64 0]) 3 48 Try.underlying30 hi hz0 hz1 hz2 rfl (by decide) _ _ _ rfl (hown13.alloc _) ⟨w3.heap.size, 0, none⟩ 1 1 (qcell (r, .slice (some ⟨n2, 0, none⟩) r.c.length c2)) rfl rfl hnews2.out hone3.out (by unfold maxLen; omega) (by omega) (by simp; omega) ?_))
      intro v2 w4 hown2 hgrow2 hnil2
      have G4 : wr.grownBy w4 (some R) := grown_own (grown_own G3 (World.grownBy_alloc w3 _ none) (by simp)) hgrow2 (fun q hq => by simp [Value.ownBlock] at hq; omega)
      have hrd4 : RD w4 B R L (q + 1) := (hrd3.alloc _).over (S := wr.heap.size) hgrow2 (fun k hk => by simp [Value.ownBlock] at hk; omega) hRr
      have hT4 : TabOwn w4 w.heap.size v2 (Q ++ [(r, .slice (some ⟨n2, 0, none⟩) r.c.length c2)]) := by
        have hl : (Q ++ [(r, Value.slice (some ⟨n2, 0, none⟩) r.c.length c2)]).length = n + 1 := by rw [List.length_append, HN.out]; rfl
        refine ⟨?_, fun x hx => ?_, ?_⟩
        · rw [hl, ← rcells_snoc]
          exact World.ownsRow.mono hown2 hsz
        · rcases List.mem_append.1 hx with hx | hx
          · exact ⟨(HT.out.2.1 x hx).1.overR G4 hR, (HT.out.2.1 x hx).2⟩
          · simp at hx
            rw [hx]
            have hlt := hOu.lt n2 rfl
            have h1 : OwnInts w4 w2.heap.size (.slice (some ⟨n2, 0, none⟩) r.c.length c2) r.c := (World.ownsRow.alloc hOu _).kept hgrow2 (.inr (by simp [Value.ownBlock]; omega))
            exact ⟨World.ownsRow.mono h1 (by omega), _, _, _, rfl⟩
        · rcases hown2.2 with ⟨_, h⟩ | ⟨g2, c', cur, h, _⟩
          · omega
          · exact ⟨g2, c', by rw [hl]; exact h⟩
      have hF4 := keptH (TabOwn.fits_snoc (u := .slice (some ⟨n2, 0, none⟩) r.c.length c2) HF.out HRF.out)
      have hl4 : (Q ++ [(r, Value.slice (some ⟨n2, 0, none⟩) r.c.length c2)]).length = n + 1 := by rw [List.length_append, HN.out]; rfl
      obtain ⟨Q2, hQ2⟩ : ∃ Q2, Q ++ [(r, Value.slice (some ⟨n2, 0, none⟩) r.c.length c2)] = Q2 := ⟨_, rfl⟩
      rw [hQ2] at hT4 hF4 hl4
      have HL4 := keptH hl4
      have hG4 : w.grownBy w4 (some R) := grown_trans hG G4
      clear hQ2 hl4 hgrow2 hnil2 hown13 hown1 hnews2 hone3 hrd3 G3 hOu HRF hlz hg1
      obtain ⟨g2, c3, hv2⟩ := hT4.2.2
      rw [HL4.out] at hv2
      subst hv2
      have hg2 := (hown2.lt g2 rfl).1
      clear hown2
      go_wp2_with fail
      refine (pick_any w4 B R L (q + 1) _ hrd4 (by omega) (by omega) (by omega)).mono ?_
      rintro e w5 ⟨k5, rfl, hk5, hrd5, hgr5⟩
      have hT5 := hT4.overR hgr5 hR
      have G5 := grown_trans G4 hgr5
      clear hT4 hG4 hgr5 hrd4 G4
      by_cases hk50 : k5 = 0
      · subst hk50
        go_wp2_with fail
        refine (pick_any w5 B R L (q + 1 + 1) _ hrd5 (by omega) (by omega) (by omega)).mono ?_
        rintro e w6 ⟨k6, rfl, hk6, hrd6, hgr6⟩
        have hT6 := hT5.overR hgr6 hR
        have G6 := grown_trans G5 hgr6
        clear hT5 hgr6 hrd5 G5
        obtain ⟨x6, e6⟩ := hT6.cellAt HL4.out (j := n * 3 + 2) (by omega)
        have f6 := hT6.free HL4.out (n * 3 + 2)
        have hin : n < Q2.length := by rw [HL4.out]; omega
        have hT7 := hT6.setPlace HL4.out hin (k6 : Int)
        have HF7 := keptH (tabOf_set_fits hF4.out hin (p := (k6 : Int)) (by omega) (by omega))
        have HL7 : Hid ((Q2.set n (⟨Q2[n].1.t, Q2[n].1.c, (k6 : Int)⟩, Q2[n].2)).length = n + 1) := by show _ = _; rw [List.length_set]; exact HL4.out
        have G7 := grown_own G6 (grown_store w6 g2 (n * 3 + 2) (.int .i64 (k6 : Int))) (fun x hx => by injection hx with hx; omega)
        have hrd7 := hrd6.over (S := wr.heap.size) (grown_store w6 g2 (n * 3 + 2) (.int .i64 (k6 : Int))) (fun x hx => by injection hx with hx; omega) hRr
        obtain ⟨Q3, hQ3⟩ : ∃ Q3, Q2.set n (⟨Q2[n].1.t, Q2[n].1.c, (k6 : Int)⟩, Q2[n].2) = Q3 := ⟨_, rfl⟩
        rw [hQ3] at hT7 HF7 HL7
        have b1 : (0 : Int) ≤ (n : Int) := by omega
        have b2 : (n : Int) < (n : Int) + 1 := by omega
        clear hQ3 hT6 hrd6 G6
        go_wp2_with fail
        generalize w6.setCell ⟨g2, n * 3 + 2, none⟩ (.int .i64 (k6 : Int)) = w7 at hT7 G7 hrd7 ⊢
        clear e6 f6
        obtain ⟨b, hb⟩ : ∃ b : Bool, b = true ↔ ValidTb (tabOf Q3) := by
          by_cases h : ValidTb (tabOf Q3)
          · exact ⟨true, by simp [h]⟩
          · exact ⟨false, bool_iff_false h⟩
        have HB := keptH hb
        clear hb
        go_wp2_with fail
        refine (s_validTable w7 _ (tabOf Q3) b hT7.at HF7.out HB).mono ?_
        rintro e w9 ⟨rfl, hb9⟩
        have hT9 := keptH (hT7.below hb9)
        have hG9 := keptH (grown_trans hG (grown_trans G7 (grown_none (grownB hb9) (some R))))
        have hO9 := keptH ((HT.out.overR G7 hR).below hb9)
        have hrd9 := hrd7.below hb9 (show R < w7.heap.size by have := G7.size; omega)
        clear hT7 hrd7 G7
        cases b with
        | true =>
          go_wp2
          go_roundw
          case rel => exact ⟨k - 1, q + 1 + 1 + 1, Q3, by go_num, by omega, hT9.out, HF7.out, HB.out.1 trivial, by rw [HL7.out]; omega, hrd9, by omega, hG9.out⟩
          case measure => simp [intOf]; omega
        | false =>
          go_wp2
          go_roundw
          case rel => exact ⟨k - 1, q + 1 + 1 + 1, Q, by go_num, by omega, hO9.out, HF.out, HV.out, by rw [HN.out]; omega, hrd9, by omega, hG9.out⟩
          case measure => simp [intOf]; omega
      · have d5 : ((k5 : Int) == 0) = false := by simp; omega
        obtain ⟨b, hb⟩ : ∃ b : Bool, b = true ↔ ValidTb (tabOf Q2) := by
          by_cases h : ValidTb (tabOf Q2)
          · exact ⟨true, by simp [h]⟩
          · exact ⟨false, bool_iff_false h⟩
        have HB := keptH hb
        clear hb
        go_wp2_with fail
        refine (s_validTable w5 _ (tabOf Q2) b hT5.at hF4.out HB).mono ?_
        rintro e w9 ⟨rfl, hb9⟩
        have hT9 := keptH (hT5.below hb9)
        have hG9 := keptH (grown_trans hG (grown_trans G5 (grown_none (grownB hb9) (some R))))
        have hO9 := keptH ((HT.out.overR G5 hR).below hb9)
        have hrd9 := hrd5.below hb9 (show R < w5.heap.size by have := G5.size; omega)
        clear hT5 hrd5 G5
        cases b with
        | true =>
          go_wp2
          go_roundw
          case rel => exact ⟨k - 1, q + 1 + 1, Q2, by go_num, by omega, hT9.out, hF4.out, HB.out.1 trivial, by rw [HL4.out]; omega, hrd9, by omega, hG9.out⟩
          case measure => simp [intOf]; omega
        | false =>
          go_wp2
          go_roundw
          case rel => exact ⟨k - 1, q + 1 + 1, Q, by go_num, by omega, hO9.out, HF.out, HV.out, by rw [HN.out]; omega, hrd9, by omega, hG9.out⟩
          case measure => simp [intOf]; omega
    · go_wp2
      go_ret
      exact ⟨_, Q, q, rfl, hT, HF.out, HV.out, by omega, hrd, by omega, hG⟩
end Go.Proofs.Ytohgglhjcklbaaa
