
/- MusicCells of the program. -/
import Derived.Test.YtfofjjfnejigaaaNub
namespace Go.Proofs.Ytfofjjfnejigaaa
open Go.RowKit

theorem OwnInts.isSliceU {w : World} {base : Nat} {v : Value} {zs : List Int} (h : OwnInts w base v zs) : ∃ a n c, v = .slice a n c := by
  obtain ⟨a, c, h, _⟩ := h.at
  exact ⟨a, _, c, h⟩
theorem noteC_bd {x : PNote} (h : NtOk x) : 0 ≤ noteC x ∧ noteC x ≤ 63 := by
  obtain ⟨p, v⟩ := x
  obtain ⟨h1, h2, h3, h4⟩ := h
  simp only at h1 h2 h3 h4
  have hk : p % 7 = 0 ∨ p % 7 = 1 ∨ p % 7 = 2 ∨ p % 7 = 3 ∨ p % 7 = 4 ∨ p % 7 = 5 ∨ p % 7 = 6 := by omega
  have hv : v = 0 ∨ v = 1 ∨ v = 2 ∨ v = 3 := by omega
  unfold noteC
  simp only
  split
  · rcases hv with rfl | rfl | rfl | rfl <;> decide
  · rcases hk with hk | hk | hk | hk | hk | hk | hk <;> rw [hk] <;> rcases hv with rfl | rfl | rfl | rfl <;> decide
/-- a call's answer: the cells, which it owns -/
def MusOut (L : List Int) (w : World) (e : Ending) (w' : World) : Prop :=
  ∃ a n c, e = .returned (.slice a n c) ∧ OwnInts w' w.heap.size (.slice a n c) L ∧ Below w.heap.size w w'
/-- what MusicCells answers -/
def MusIs (P : List PNote) (L : List Int) : Prop := (NtsOk P ∧ L = musTo P P.length) ∨ (¬ NtsOk P ∧ L = [])
theorem musIs_ex (P : List PNote) : ∃ L, MusIs P L := by
  by_cases h : NtsOk P
  · exact ⟨_, .inl ⟨h, rfl⟩⟩
  · exact ⟨_, .inr ⟨h, rfl⟩⟩
theorem MusIs.len {P : List PNote} {L : List Int} (h : MusIs P L) : L.length ≤ 80 := by
  rcases h with ⟨h, rfl⟩ | ⟨_, rfl⟩
  · have := (musTo_len P P.length).2; have := h.1; omega
  · simp
set_option maxHeartbeats 4000000 in
theorem i_MusicCells (w : World) (v : Value) (P : List PNote) (L : List Int) (hx : NotesAt w v P) (hr : Hid (MusIs P L)) :
    Calls Try.prog 10 #[v] w fun e w' => MusOut L w e w' := by
  obtain ⟨i0, hi, hz0, hz1, hz2⟩ := info_parts infoInt
  have HX := keptN hx
  obtain ⟨a, cp, rfl, x1, x2, _⟩ := hx
  obtain ⟨n, hn⟩ : ∃ n, P.length = n := ⟨_, rfl⟩
  rw [hn] at x1 HX ⊢
  have HN := Lib.hid hn
  clear hn
  by_cases hok : NtsOk P
  · have H3 : Hid (BIs true (NtsOk P)) := bisY hok
    have HK := keptN hok
    have hn40 : n ≤ 40 := by rw [← HN.out]; exact hok.1
    have HL : Hid (L = musTo P n) := by
      rcases hr.out with ⟨_, h⟩ | ⟨h, _⟩
      · rw [← HN.out]; exact h
      · exact absurd hok h
    clear hok
    go_enter Try.func10, Try.ntmps10
    go_wp2_with fail
    refine (i_areNotes_b w _ P true HX.out H3).mono ?_
    rintro e w1 ⟨rfl, hb1⟩
    have HB0 := keptN hb1
    have HO0 : Hid (OwnInts w1 w.heap.size (.slice none 0 0) (musTo P 0)) := OwnInts.nil w1 w.heap.size
    clear hb1
    go_wp2
    go_loopw [3, 4, 12] (fun o l i wr => ∃ k : Nat, k ≤ n ∧ i = .int .i64 k ∧ l = .int .i64 (lastP P k) ∧ OwnInts wr w.heap.size o (musTo P k) ∧ Below w.heap.size w wr) (fun _ _ i _ => n - (intOf i).toNat)
    case atStart => exact ⟨0, Nat.zero_le _, rfl, rfl, HO0.out, HB0.out⟩
    case round =>
      clear HO0 HB0
      obtain ⟨k, hk, rfl, rfl, hO, hb1⟩ := hrel
      have hsz := hb1.size
      obtain ⟨ao, no, co, hoo⟩ := hO.isSliceU
      subst hoo
      by_cases hlt : k < n
      · have hxr := HX.out.below hb1
        obtain ⟨g, off, c', hv, c0, c1⟩ := hxr.nth (k := k) (by rw [HN.out]; exact hlt)
        rw [HN.out] at hv
        injection hv with e1 e2 e3
        subst e1 e3
        obtain ⟨q, hq⟩ : ∃ q, P.getD k noN = q := ⟨_, rfl⟩
        have hok := HK.out.2 k (by rw [HN.out]; exact hlt)
        rw [hq] at c0 c1 hok
        have hcb := noteC_bd hok
        have hlb := lastP_bd (P := P) k (fun i hi => HK.out.2 i (by rw [HN.out]; omega))
        have hml := musTo_len P k
        obtain ⟨p, f⟩ := q
        obtain ⟨q1, q2, q3, q4⟩ := hok
        simp only at c0 c1 q1 q2 q3 q4
        have HT : Hid (musTo P (k + 1) = musTo P k ++ musC (lastP P k) ⟨p, f⟩ ∧ lastP P (k + 1) = if p = -1 then lastP P k else p) := by
          show _ ∧ _
          constructor <;> simp only [musTo, lastP, hq]
        obtain ⟨l, hl⟩ : ∃ l, lastP P k = l := ⟨_, rfl⟩
        obtain ⟨C, hC⟩ : ∃ C, musTo P k = C := ⟨_, rfl⟩
        rw [hl] at hlb HT ⊢
        rw [hC] at hO HT hml
        obtain ⟨c, hc⟩ : ∃ c, noteC ⟨p, f⟩ = c := ⟨_, rfl⟩
        rw [hc] at hcb
        have b1 : (0 : Int) ≤ (k : Int) := by omega
        have b2 : (k : Int) < (n : Int) := by omega
        have hBW := hb1.alloc hsz (.cells #[.int .i64 p, .int .i64 f] 35)
        have hO2 := hO.below ((Below.refl _ _).alloc (Nat.le_refl _) (.cells #[.int .i64 p, .int .i64 f] 35))
        have hnb := heap_alloc_new wr (.cells #[.int .i64 p, .int .i64 f] 35)
        have hob : Hid (∀ b, (Value.slice ao no co).ownBlock = some b → b < wr.heap.size) := fun b hb => (World.ownsRow.lt hO b hb).2
        clear hq hxr e2 hl hC
        by_cases e1 : p = -1
        · subst e1
          have HR1 : Hid (restL.getD f.toNat 0 = c) := by show _ = _; rw [← hc]; rfl
          have HT' : Hid (musTo P (k + 1) = C ++ [c] ∧ lastP P (k + 1) = l) := by
            show _ ∧ _
            rw [HT.out.1, HT.out.2, if_pos rfl, musC, if_pos rfl, hc]; exact ⟨rfl, rfl⟩
          clear hc HT hnb
          go_wp2_with fail
          refine (i_restCell _ f c q3 q4 HR1).mono ?_
          rintro e w2 ⟨rfl, rfl⟩
          generalize wr.alloc (.cells #[.int .i64 (-1), .int .i64 f] 35) = wa at hBW hO2 ⊢
          have HB2 := keptN hBW
          have HO2 := keptN hO2
          clear hBW hO2 hO hb1
          go_wp2_with (at_builtin; refine wpList_append_own _ rfl _ _ 25 rfl w.heap.size 3 i0 (.int .i64 0) 1 8 Try.underlying25 hi hz0 hz1 hz2 rfl (by decide) _ _ _ rfl (HO2.out.below ((Below.refl _ _).alloc (Nat.le_refl _) _)) ⟨_, 0, none⟩ 1 1 [.int .i64 c] rfl rfl new_one one_cell (by unfold maxLen; omega) (by omega) (by have := HB2.out.size; simp; omega) ?_)
          intro v' w3 hown' hgrow _
          have hO3 := OwnInts.snoc hown'
          have hB3 := below_append HB2.out HB2.out.size HO2.out hgrow
          rw [← HT'.out.1] at hO3
          have NXT := keptN (And.intro hO3 hB3)
          clear hown' hgrow hO3 hB3
          go_wp2
          go_roundw
          case rel => exact ⟨k + 1, by omega, by go_num, by rw [HT'.out.2], NXT.out.1, NXT.out.2⟩
          case measure => simp [intOf]; omega
        · have d1 : (p == -1) = false := by simpa using e1
          have q1' : 0 ≤ p := by omega
          obtain ⟨b, hb⟩ := boolOfN (NeedM l p)
          have HBM := keptN hb
          have hm : markC l p = if b = true then [octL.getD (p / 7).toNat 0] else [] := by
            unfold markC
            cases b with
            | true => rw [if_pos (hb.1 rfl), if_pos rfl]
            | false => rw [if_neg (fun h => by have := hb.2 h; simp at this), if_neg (by simp)]
          obtain ⟨m, hm7⟩ : ∃ m, p % 7 = m := ⟨_, rfl⟩
          obtain ⟨o, ho7⟩ : ∃ o, p / 7 = o := ⟨_, rfl⟩
          have t1 : p.tmod 7 = m := by rw [Int.tmod_eq_emod_of_nonneg (by omega), hm7]
          have t2 : p.tdiv 7 = o := by rw [Int.tdiv_eq_ediv_of_nonneg (by omega), ho7]
          obtain ⟨x, hx⟩ : ∃ x, stepL.getD m.toNat 0 = x := ⟨_, rfl⟩
          obtain ⟨y, hy⟩ : ∃ y, valL.getD f.toNat 0 = y := ⟨_, rfl⟩
          have hxy : x + y = c := by rw [← hc, noteC, if_neg e1]; simp only; rw [hm7, hx, hy]
          have HXX := Lib.hid hx
          have HYY := Lib.hid hy
          have HT' : Hid (musTo P (k + 1) = (C ++ markC l p) ++ [c] ∧ lastP P (k + 1) = p) := by
            show _ ∧ _
            rw [HT.out.1, HT.out.2, if_neg e1, musC, if_neg (by exact e1), hc, List.append_assoc]; exact ⟨rfl, rfl⟩
          have m0 : 0 ≤ m ∧ m ≤ 6 := by omega
          have o0 : 0 ≤ o ∧ o ≤ 6 := by omega
          have us : IntKind.i64.wrap (x + y) = c := by rw [hxy]; exact IntWalk.i64_in _ (by omega)
          clear hc HT hx hy hxy hm7 hb e1
          go_wp2_with fail
          refine (i_needsMark _ l p b hlb.1 hlb.2 q1' q2 HBM).mono ?_
          rintro e w2 ⟨rfl, rfl⟩
          generalize wr.alloc (.cells #[.int .i64 p, .int .i64 f] 35) = wa at hBW hO2 hnb ⊢
          cases b with
          | false =>
            rw [if_neg (by simp)] at hm
            rw [hm, List.append_nil] at HT'
            clear hm ho7
            have HB2 := keptN hBW
            have HO2 := keptN hO2
            have hne : Hid (∀ b, (Value.slice ao no co).ownBlock = some b → b ≠ wr.heap.size) := fun b hb e => by have := hob.out b hb; omega
            clear hBW hO2 hO hb1
            have HK : Hid (∀ wy : World, wy.heap[wr.heap.size]? = wa.heap[wr.heap.size]? → wy.cell? ⟨wr.heap.size, 0, none⟩ = some (.int .i64 p) ∧ wy.cell? ⟨wr.heap.size, 1, none⟩ = some (.int .i64 f)) := fun wy h => by
              rw [hnb] at h
              exact ⟨by rw [cell_of_row wy _ 0 _ _ _ h]; rfl, by rw [cell_of_row wy _ 1 _ _ _ h]; rfl⟩
            have hlt9 : wr.heap.size < wa.heap.size := (Array.getElem?_eq_some_iff.1 hnb).1
            have HA9 : Hid ((wa.alloc (.cells #[.int .i64 c] 3)).heap[wr.heap.size]? = wa.heap[wr.heap.size]?) := Below.heap_alloc wa _ _ hlt9
            obtain ⟨c0', c1'⟩ := HK.out wa rfl
            have HNL : Hid ((C).length + 1 ≤ maxLen ∧ ((C).length + 1) * 8 ≤ 140737488355328) := ⟨by unfold maxLen; (try simp only [List.length_append, List.length_cons, List.length_nil]); omega, by (try simp only [List.length_append, List.length_cons, List.length_nil]); omega⟩
            have HO9 : Hid ((wa.alloc (.cells #[.int .i64 c] 3)).drew.ownsRow w.heap.size 3 1 (.slice ao no co) (C).length (ints (C))) := HO2.out.below ((Below.refl _ _).alloc (Nat.le_refl _) _).drew
            have hs9 : w.heap.size ≤ (wa.alloc (.cells #[.int .i64 c] 3)).drew.heap.size := by have := HB2.out.size; show _ ≤ (wa.alloc _).heap.size; rw [World.size_alloc]; omega
            have HS9 := keptN hs9
            clear hs9
            go_wp2_with fail
            go_region_held3 (fun wy => wy.cell? ⟨wr.heap.size, 0, none⟩ = some (.int .i64 p) ∧ wy.cell? ⟨wr.heap.size, 1, none⟩ = some (.int .i64 f)) (first | assumption | exact ⟨c0', c1'⟩ | exact HK.out _ HA9.out | exact HK9) (first | (go_at_call 34; refine (i_stepCell _ m x m0.1 m0.2 HXX).mono ?_; rintro e w2 ⟨rfl, rfl⟩) | (go_at_call 35; refine (i_valueCell _ f y q3 q4 HYY).mono ?_; rintro e w2 ⟨rfl, rfl⟩) | ((rw [if_pos (by rfl)]); (refine wp_append_own _ (.tmp 36) (.tmp 45) 25 rfl w.heap.size 3 i0 (.int .i64 0) 1 8 Try.underlying25 hi hz0 hz1 hz2 rfl (by decide) (.slice ao no co) (C).length (ints (C)) rfl HO9.out ⟨wa.heap.size, 0, none⟩ 1 1 [.int .i64 c] rfl rfl new_one one_cell HNL.out.1 HNL.out.2 HS9.out ?_); intro v7 w7 hown7 hgrow7 hnil7; have HK9 := HK.out w7 ((hgrow7.block wr.heap.size (by show _ < (wa.alloc _).heap.size; rw [World.size_alloc]; omega) (fun e => hne.out _ e.symm rfl)).trans HA9.out)))
            all_goals
              have hgrow8 : (wa.alloc (.cells #[.int .i64 c] 3)).grownBy w7 (Value.slice ao no co).ownBlock := ⟨hgrow7.os, hgrow7.tape, hgrow7.output, hgrow7.size, hgrow7.block⟩
              have hO3 := OwnInts.snoc hown7
              have hB3 := below_append HB2.out HB2.out.size HO2.out hgrow8
              rw [← HT'.out.1] at hO3
              have NXT := keptN (And.intro hO3 hB3)
              clear hown7 hgrow7 hgrow8 hO3 hB3 hnil7 HO9 HS9
              obtain ⟨c0'', c1''⟩ := HK9
              go_wp2
              go_roundw
              case rel => exact ⟨k + 1, by omega, by go_num, by rw [HT'.out.2], NXT.out.1, NXT.out.2⟩
              case measure => simp [intOf]; omega
          | true =>
            have ho : octL.getD o.toNat 0 = octL.getD (p / 7).toNat 0 := by rw [ho7]
            rw [if_pos rfl] at hm
            obtain ⟨oc, hoc⟩ : ∃ oc, octL.getD (p / 7).toNat 0 = oc := ⟨_, rfl⟩
            rw [hoc] at ho hm
            have HOC := Lib.hid ho
            rw [hm] at HT'
            have HB2 := keptN hBW
            have HO2 := keptN hO2
            have hnbl : wr.heap.size < wa.heap.size := (Array.getElem?_eq_some_iff.1 hnb).1
            have HNB := keptN hnb
            have c0' : wa.cell? ⟨wr.heap.size, 0, none⟩ = some (.int .i64 p) := by rw [cell_of_row wa _ 0 _ _ _ hnb]; rfl
            clear hm ho7 ho hoc hBW hO2 hO hb1 hnb
            go_wp2_with fail
            refine (i_octaveCell _ o oc o0.1 o0.2 HOC).mono ?_
            rintro e w2 ⟨rfl, rfl⟩
            go_wp2_with (at_builtin; refine wpList_append_own _ rfl _ _ 25 rfl w.heap.size 3 i0 (.int .i64 0) 1 8 Try.underlying25 hi hz0 hz1 hz2 rfl (by decide) _ _ _ rfl (HO2.out.below ((Below.refl _ _).alloc (Nat.le_refl _) _)) ⟨_, 0, none⟩ 1 1 [.int .i64 oc] rfl rfl new_one one_cell (by unfold maxLen; omega) (by omega) (by have := HB2.out.size; simp; omega) ?_)
            intro v5 w5 hown5 hgrow5 _
            have hO5 := OwnInts.snoc hown5
            have hB5 := below_append HB2.out HB2.out.size HO2.out hgrow5
            have hnb : w5.heap[wr.heap.size]? = some (.cells #[.int .i64 p, .int .i64 f] 35 (0, 0)) := ((hgrow5.block wr.heap.size (by rw [World.size_alloc]; omega) (fun e => by have := hob.out _ e.symm; omega)).trans (Below.heap_alloc wa _ _ hnbl)).trans HNB.out
            have hne : Hid (∀ b, v5.ownBlock = some b → b ≠ wr.heap.size) := fun b hb e => by
              subst e
              rcases hown5.2 with ⟨h, _⟩ | ⟨g', cap', cur', h, _, hg', _⟩
              · rw [h] at hb; simp [Value.ownBlock] at hb
              · rw [h] at hb
                have hb' : some g' = some wr.heap.size := hb
                injection hb' with hb'
                subst hb'
                rw [hnb] at hg'
                injection hg' with hg'
                injection hg' with _ ht _
                exact absurd ht (by decide)
            clear HB2 HO2 hown5 hgrow5 c0'
            obtain ⟨ao5, no5, co5, hoo5⟩ := hO5.isSliceU
            subst hoo5
            have HB2 := keptN hB5
            have HO2 := keptN hO5
            clear hB5 hO5
            have HK : Hid (∀ wy : World, wy.heap[wr.heap.size]? = w5.heap[wr.heap.size]? → wy.cell? ⟨wr.heap.size, 0, none⟩ = some (.int .i64 p) ∧ wy.cell? ⟨wr.heap.size, 1, none⟩ = some (.int .i64 f)) := fun wy h => by
              rw [hnb] at h
              exact ⟨by rw [cell_of_row wy _ 0 _ _ _ h]; rfl, by rw [cell_of_row wy _ 1 _ _ _ h]; rfl⟩
            have hlt9 : wr.heap.size < w5.heap.size := (Array.getElem?_eq_some_iff.1 hnb).1
            have HA9 : Hid ((w5.alloc (.cells #[.int .i64 c] 3)).heap[wr.heap.size]? = w5.heap[wr.heap.size]?) := Below.heap_alloc w5 _ _ hlt9
            obtain ⟨c0', c1'⟩ := HK.out w5 rfl
            have HNL : Hid ((C ++ [oc]).length + 1 ≤ maxLen ∧ ((C ++ [oc]).length + 1) * 8 ≤ 140737488355328) := ⟨by unfold maxLen; (try simp only [List.length_append, List.length_cons, List.length_nil]); omega, by (try simp only [List.length_append, List.length_cons, List.length_nil]); omega⟩
            have HO9 : Hid ((w5.alloc (.cells #[.int .i64 c] 3)).drew.ownsRow w.heap.size 3 1 (.slice ao5 no5 co5) (C ++ [oc]).length (ints (C ++ [oc]))) := HO2.out.below ((Below.refl _ _).alloc (Nat.le_refl _) _).drew
            have hs9 : w.heap.size ≤ (w5.alloc (.cells #[.int .i64 c] 3)).drew.heap.size := by have := HB2.out.size; show _ ≤ (w5.alloc _).heap.size; rw [World.size_alloc]; omega
            have HS9 := keptN hs9
            clear hs9
            go_wp2_with fail
            go_region_held3 (fun wy => wy.cell? ⟨wr.heap.size, 0, none⟩ = some (.int .i64 p) ∧ wy.cell? ⟨wr.heap.size, 1, none⟩ = some (.int .i64 f)) (first | assumption | exact ⟨c0', c1'⟩ | exact HK.out _ HA9.out | exact HK9) (first | (go_at_call 34; refine (i_stepCell _ m x m0.1 m0.2 HXX).mono ?_; rintro e w2 ⟨rfl, rfl⟩) | (go_at_call 35; refine (i_valueCell _ f y q3 q4 HYY).mono ?_; rintro e w2 ⟨rfl, rfl⟩) | ((rw [if_pos (by rfl)]); (refine wp_append_own _ (.tmp 36) (.tmp 45) 25 rfl w.heap.size 3 i0 (.int .i64 0) 1 8 Try.underlying25 hi hz0 hz1 hz2 rfl (by decide) (.slice ao5 no5 co5) (C ++ [oc]).length (ints (C ++ [oc])) rfl HO9.out ⟨w5.heap.size, 0, none⟩ 1 1 [.int .i64 c] rfl rfl new_one one_cell HNL.out.1 HNL.out.2 HS9.out ?_); intro v7 w7 hown7 hgrow7 hnil7; have HK9 := HK.out w7 ((hgrow7.block wr.heap.size (by show _ < (w5.alloc _).heap.size; rw [World.size_alloc]; omega) (fun e => hne.out _ e.symm rfl)).trans HA9.out)))
            all_goals
              have hgrow8 : (w5.alloc (.cells #[.int .i64 c] 3)).grownBy w7 (Value.slice ao5 no5 co5).ownBlock := ⟨hgrow7.os, hgrow7.tape, hgrow7.output, hgrow7.size, hgrow7.block⟩
              have hO3 := OwnInts.snoc hown7
              have hB3 := below_append HB2.out HB2.out.size HO2.out hgrow8
              rw [← HT'.out.1] at hO3
              have NXT := keptN (And.intro hO3 hB3)
              clear hown7 hgrow7 hgrow8 hO3 hB3 hnil7 HO9 HS9
              obtain ⟨c0'', c1''⟩ := HK9
              go_wp2
              go_roundw
              case rel => exact ⟨k + 1, by omega, by go_num, by rw [HT'.out.2], NXT.out.1, NXT.out.2⟩
              case measure => simp [intOf]; omega
      · obtain rfl : k = n := by omega
        have HO := keptN hO
        rw [← HL.out] at hO
        have HO := keptN hO
        clear hO
        go_wp2
        go_ret
        exact ⟨_, _, _, rfl, HO.out, hb1⟩
  · have H3 : Hid (BIs false (NtsOk P)) := bisN hok
    have HF : Hid (L = []) := by
      rcases hr.out with ⟨h, _⟩ | ⟨_, h⟩
      · exact absurd h hok
      · exact h
    clear hok
    go_enter Try.func10, Try.ntmps10
    go_wp2_with fail
    refine (i_areNotes_b w _ P false HX.out H3).mono ?_
    rintro e w1 ⟨rfl, hb1⟩
    go_wp2
    go_ret
    exact ⟨none, 0, 0, rfl, by rw [HF.out]; exact OwnInts.nil _ _, hb1⟩
end Go.Proofs.Ytfofjjfnejigaaa
