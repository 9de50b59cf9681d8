
/- What may be left over behind a rest: spec.followers. -/
import Derived.Test.YtdjgodemeaneeaaCr
namespace Go.Proofs.Ytdjgodemeaneeaa
open Go.RowKit

theorem lnone_iff {L : List (List Int)} {x : List Int} {n : Nat} (hn : L.length = n) : ¬ LNone L x n ↔ x ∈ L := by
  constructor
  · intro h
    exact Classical.byContradiction fun k => h fun i hi e => k (lmem_of_getD hn hi e)
  · exact fun h k => k.all hn h
def FolMade (L : List (List Int)) (x : List Int) (b : Bool) (w : World) (e : Ending) (w' : World) : Prop :=
  ∃ a n c, e = .returned (.tuple #[.slice a n c, .bool b]) ∧ OwnLs w' w.heap.size 0 (.slice a n c) (folN L x L.length) ∧ Below w.heap.size w w'
set_option maxHeartbeats 8000000 in
theorem s_followers (w : World) (v u : Value) (L : List (List Int)) (x : List Int) (b : Bool) (hx : ListsAt w v L) (hu : IntsAt w u x) (hv : Hid (ValidCd L)) (hl : x.length ≤ 100) (hb : Hid (b = true ↔ x ∈ L)) :
    Calls Try.prog 96 #[v, u] w fun e w' => FolMade L x b w e w' := by
  have HX := Lib.hid hx
  have HU := Lib.hid hu
  obtain ⟨a, c, rfl, x1, x2, _⟩ := hx
  obtain ⟨au, cu, rfl, y1, y2, _⟩ := hu
  obtain ⟨n, hn⟩ : ∃ n, L.length = n := ⟨_, rfl⟩
  obtain ⟨m, hm⟩ : ∃ m, x.length = m := ⟨_, rfl⟩
  rw [hn] at x1 HX
  rw [hm] at y1 HU hl ⊢
  have HN := Lib.hid hn
  have HM := Lib.hid hm
  have hn8 : n ≤ 8 := by have := hv.out.1; omega
  rw [hn]
  clear hn hm
  have hO0 := OwnLs.made w w.heap.size 0 (Nat.zero_le _) (Nat.le_refl _)
  have hB0 : Below w.heap.size w (w.alloc (.cells #[] 31)) := (Below.refl _ _).alloc (Nat.le_refl _) _
  go_enter Try.func96, Try.ntmps96
  go_wp2_with fail
  generalize (w.alloc (.cells #[] 31)) = wA at hO0 hB0 ⊢
  go_loopw [6, 7, 8] (fun o ev y wr => ∃ k : Nat, k ≤ n ∧ y = .int .i64 k ∧ (∃ e : Bool, ev = .bool e ∧ Hid (e = true ↔ ¬ LNone L x k)) ∧ OwnLs wr w.heap.size 0 o (folN L x k) ∧ Below w.heap.size w wr) (fun _ _ y _ => n - (intOf y).toNat)
  case atStart => exact ⟨0, Nat.zero_le _, rfl, ⟨false, rfl, show _ ↔ _ from ⟨fun h => by simp at h, fun h => absurd (LNone.zero L x) h⟩⟩, hO0, hB0⟩
  case round =>
    clear hO0 hB0
    obtain ⟨k, hk, rfl, ⟨ev, rfl, hev⟩, hO, hB⟩ := hrel
    obtain ⟨ao, no, co, hoo⟩ := hO.isSlice
    subst hoo
    have HO := keptC hO
    have HB := keptC hB
    have hs := hB.size
    by_cases hlt : k < n
    · obtain ⟨g, off, ay, ly, cy, rfl, c1, hE, hw⟩ := code_word HX.out hv.out HN.out hlt
      obtain ⟨ys, hys⟩ : ∃ ys, L.getD k [] = ys := ⟨_, rfl⟩
      rw [hys] at hE hw
      have HYS := Lib.hid hys
      have HEY : Hid (IntsAt w (.slice ay ly cy) ys) := hE.1
      have HWY : Hid (ys.length ≤ 4) := hw.1.2
      have C1 := Lib.hid c1
      have c1 := (hB.cell (World.block_lt_of_cell? w _ c1)).trans c1
      have hfl := folN_len L x k
      have HFL : Hid ((folN L x k).length ≤ 16) := by show _ ≤ _; omega
      have HF1 : Hid (folN L x (k + 1) = folN L x k ++ candi ys x ++ candi x ys) := by
        show folN L x k ++ candi (L.getD k []) x ++ candi x (L.getD k []) = _
        rw [HYS.out]
      obtain ⟨Fk, hFk⟩ : ∃ Fk, folN L x k = Fk := ⟨_, rfl⟩
      rw [hFk] at HO HFL HF1
      have b1 : (0 : Int) ≤ (k : Int) := by omega
      have b2 : (k : Int) < (n : Int) := by omega
      clear hys hE hw hO hB hfl hFk
      have HUr := keptC (HU.out.below HB.out)
      have HYr := keptC (HEY.out.below HB.out)
      cases ev with
      | true =>
        by_cases hpa : Pre ys x
        · have HPA := keptC hpa
          have HCA : Hid (candi ys x = [ys.drop x.length]) := if_pos HPA.out
          clear hpa
          by_cases hpb : Pre x ys
          · have HPB := keptC hpb
            have HCB : Hid (candi x ys = [x.drop ys.length]) := if_pos HPB.out
            clear hpb
            have HEV : Hid (¬ LNone L x (k + 1)) := fun h => (hev.out.1 rfl) (fun i hi => h i (by omega))
            go_wp2_with fail
            refine (s_rests_yes wr _ _ ys x HYr.out HUr.out (by have := HWY.out; omega) HPA).mono ?_
            rintro e w2 ⟨a5, z5, c5, rfl, hO2, hb2⟩
            have c1 := (hb2.cell (World.block_lt_of_cell? wr _ c1)).trans c1
            have HI2 := keptC hO2
            have HO2 := keptC (HO.out.below hb2)
            have HU2 := keptC (HUr.out.below hb2)
            have HY2 := keptC (HYr.out.below hb2)
            have HB2 := keptC (below_next HB.out hb2)
            have hs2 := HB2.out.size
            clear hb2 hO2
            have hal5 : Below w2.heap.size w2 (w2.alloc (.cells #[.slice a5 z5 c5] 31)) := (Below.refl _ _).alloc (Nat.le_refl _) _
            have HO85 := keptC (HO2.out.below hal5)
            have HE85 : Hid (ElOk (w2.alloc (.cells #[.slice a5 z5 c5] 31)) 0 (.slice a5 z5 c5) (ys.drop x.length)) := ElOk.of_own (HI2.out.below hal5)
            have HC85 : Hid ((w2.alloc (.cells #[.slice a5 z5 c5] 31)).cell? ⟨w2.heap.size, 0, none⟩ = some (.slice a5 z5 c5)) := by
              show _ = _
              rw [cell_of_row _ w2.heap.size 0 _ _ _ (heap_alloc_new w2 _)]; rfl
            have HS85 : Hid (Fk.length ≤ 100000 ∧ w.heap.size ≤ (w2.alloc (.cells #[.slice a5 z5 c5] 31)).heap.size) := ⟨by have := HFL.out; omega, Nat.le_trans hs2 hal5.size⟩
            clear hal5
            go_wp2_with (at_builtin; go_loud (refine wpList_append_ls rfl _ _ rfl w.heap.size 0 w2.heap.size (ys.drop x.length) rfl rfl HO85.out HC85.out HE85.out rfl HS85.out.1 HS85.out.2 ?_))
            intro v3 w3 hown3 hgrow3
            obtain ⟨a3, n3, c3, h3⟩ := hown3.isSlice
            subst h3
            have HB3 := keptC (grown_ls HB2.out hs2 HO2.out hgrow3)
            have c1 := (HB3.out.cell (World.block_lt_of_cell? w _ C1.out)).trans C1.out
            have HO3 := keptC hown3
            have HU3 := keptC (HU.out.below HB3.out)
            have HY3 := keptC (HEY.out.below HB3.out)
            have hs3 := HB3.out.size
            clear hown3 hgrow3
            go_wp2_with fail
            refine (s_rests_yes w3 _ _ x ys HU3.out HY3.out (by rw [HM.out]; omega) HPB).mono ?_
            rintro e w4 ⟨a6, z6, c6, rfl, hO4, hb4⟩
            have HI4 := keptC hO4
            have HO4 := keptC (HO3.out.below hb4)
            have HB4 := keptC (below_next HB3.out hb4)
            have hs4 := HB4.out.size
            clear hb4 hO4
            have hal6 : Below w4.heap.size w4 (w4.alloc (.cells #[.slice a6 z6 c6] 31)) := (Below.refl _ _).alloc (Nat.le_refl _) _
            have HO86 := keptC (HO4.out.below hal6)
            have HE86 : Hid (ElOk (w4.alloc (.cells #[.slice a6 z6 c6] 31)) 0 (.slice a6 z6 c6) (x.drop ys.length)) := ElOk.of_own (HI4.out.below hal6)
            have HC86 : Hid ((w4.alloc (.cells #[.slice a6 z6 c6] 31)).cell? ⟨w4.heap.size, 0, none⟩ = some (.slice a6 z6 c6)) := by
              show _ = _
              rw [cell_of_row _ w4.heap.size 0 _ _ _ (heap_alloc_new w4 _)]; rfl
            have HS86 : Hid ((Fk ++ [ys.drop x.length]).length ≤ 100000 ∧ w.heap.size ≤ (w4.alloc (.cells #[.slice a6 z6 c6] 31)).heap.size) := ⟨by have := HFL.out; first | omega | (simp; omega), Nat.le_trans hs4 hal6.size⟩
            clear hal6
            go_wp2_with (at_builtin; go_loud (refine wpList_append_ls rfl _ _ rfl w.heap.size 0 w4.heap.size (x.drop ys.length) rfl rfl HO86.out HC86.out HE86.out rfl HS86.out.1 HS86.out.2 ?_))
            intro v5 w5 hown5 hgrow5
            have HB5 := keptC (grown_ls HB4.out hs4 HO4.out hgrow5)
            have HO5 := keptC hown5
            clear hown5 hgrow5
            go_wp2
            go_roundw
            case rel => exact ⟨k + 1, by omega, by go_num, ⟨_, rfl, show _ ↔ _ from ⟨fun _ => HEV.out, fun _ => rfl⟩⟩, by rw [HF1.out, HCA.out, HCB.out]; first | exact HO5.out | (rw [List.append_nil]; exact HO5.out) | (have h := HO5.out; simp at h ⊢; exact h), HB5.out⟩
            case measure => simp [intOf]; omega
          · have HPB := keptC hpb
            have HCB : Hid (candi x ys = []) := if_neg HPB.out
            clear hpb
            have HEV : Hid (¬ LNone L x (k + 1)) := fun h => (hev.out.1 rfl) (fun i hi => h i (by omega))
            go_wp2_with fail
            refine (s_rests_yes wr _ _ ys x HYr.out HUr.out (by have := HWY.out; omega) HPA).mono ?_
            rintro e w2 ⟨a5, z5, c5, rfl, hO2, hb2⟩
            have c1 := (hb2.cell (World.block_lt_of_cell? wr _ c1)).trans c1
            have HI2 := keptC hO2
            have HO2 := keptC (HO.out.below hb2)
            have HU2 := keptC (HUr.out.below hb2)
            have HY2 := keptC (HYr.out.below hb2)
            have HB2 := keptC (below_next HB.out hb2)
            have hs2 := HB2.out.size
            clear hb2 hO2
            have hal5 : Below w2.heap.size w2 (w2.alloc (.cells #[.slice a5 z5 c5] 31)) := (Below.refl _ _).alloc (Nat.le_refl _) _
            have HO85 := keptC (HO2.out.below hal5)
            have HE85 : Hid (ElOk (w2.alloc (.cells #[.slice a5 z5 c5] 31)) 0 (.slice a5 z5 c5) (ys.drop x.length)) := ElOk.of_own (HI2.out.below hal5)
            have HC85 : Hid ((w2.alloc (.cells #[.slice a5 z5 c5] 31)).cell? ⟨w2.heap.size, 0, none⟩ = some (.slice a5 z5 c5)) := by
              show _ = _
              rw [cell_of_row _ w2.heap.size 0 _ _ _ (heap_alloc_new w2 _)]; rfl
            have HS85 : Hid (Fk.length ≤ 100000 ∧ w.heap.size ≤ (w2.alloc (.cells #[.slice a5 z5 c5] 31)).heap.size) := ⟨by have := HFL.out; omega, Nat.le_trans hs2 hal5.size⟩
            clear hal5
            go_wp2_with (at_builtin; go_loud (refine wpList_append_ls rfl _ _ rfl w.heap.size 0 w2.heap.size (ys.drop x.length) rfl rfl HO85.out HC85.out HE85.out rfl HS85.out.1 HS85.out.2 ?_))
            intro v3 w3 hown3 hgrow3
            obtain ⟨a3, n3, c3, h3⟩ := hown3.isSlice
            subst h3
            have HB3 := keptC (grown_ls HB2.out hs2 HO2.out hgrow3)
            have c1 := (HB3.out.cell (World.block_lt_of_cell? w _ C1.out)).trans C1.out
            have HO3 := keptC hown3
            have HU3 := keptC (HU.out.below HB3.out)
            have HY3 := keptC (HEY.out.below HB3.out)
            have hs3 := HB3.out.size
            clear hown3 hgrow3
            go_wp2_with fail
            refine (s_rests_no w3 _ _ x ys HU3.out HY3.out HPB).mono ?_
            rintro e w4 ⟨rfl, hb4⟩
            have HO4 := keptC (HO3.out.below hb4)
            have HB4 := keptC (below_next HB3.out hb4)
            clear hb4
            go_wp2
            go_roundw
            case rel => exact ⟨k + 1, by omega, by go_num, ⟨_, rfl, show _ ↔ _ from ⟨fun _ => HEV.out, fun _ => rfl⟩⟩, by rw [HF1.out, HCA.out, HCB.out]; first | exact HO4.out | (rw [List.append_nil]; exact HO4.out) | (rw [List.append_nil, List.append_nil]; exact HO4.out), HB4.out⟩
            case measure => simp [intOf]; omega
        · have HPA := keptC hpa
          have HCA : Hid (candi ys x = []) := if_neg HPA.out
          clear hpa
          by_cases hpb : Pre x ys
          · have HPB := keptC hpb
            have HCB : Hid (candi x ys = [x.drop ys.length]) := if_pos HPB.out
            clear hpb
            have HEV : Hid (¬ LNone L x (k + 1)) := fun h => (hev.out.1 rfl) (fun i hi => h i (by omega))
            go_wp2_with fail
            refine (s_rests_no wr _ _ ys x HYr.out HUr.out HPA).mono ?_
            rintro e w3 ⟨rfl, hb2⟩
            have c1 := (hb2.cell (World.block_lt_of_cell? wr _ c1)).trans c1
            have HO3 := keptC (HO.out.below hb2)
            have HU3 := keptC (HUr.out.below hb2)
            have HY3 := keptC (HYr.out.below hb2)
            have HB3 := keptC (below_next HB.out hb2)
            have hs3 := HB3.out.size
            clear hb2
            go_wp2_with fail
            refine (s_rests_yes w3 _ _ x ys HU3.out HY3.out (by rw [HM.out]; omega) HPB).mono ?_
            rintro e w4 ⟨a6, z6, c6, rfl, hO4, hb4⟩
            have HI4 := keptC hO4
            have HO4 := keptC (HO3.out.below hb4)
            have HB4 := keptC (below_next HB3.out hb4)
            have hs4 := HB4.out.size
            clear hb4 hO4
            have hal6 : Below w4.heap.size w4 (w4.alloc (.cells #[.slice a6 z6 c6] 31)) := (Below.refl _ _).alloc (Nat.le_refl _) _
            have HO86 := keptC (HO4.out.below hal6)
            have HE86 : Hid (ElOk (w4.alloc (.cells #[.slice a6 z6 c6] 31)) 0 (.slice a6 z6 c6) (x.drop ys.length)) := ElOk.of_own (HI4.out.below hal6)
            have HC86 : Hid ((w4.alloc (.cells #[.slice a6 z6 c6] 31)).cell? ⟨w4.heap.size, 0, none⟩ = some (.slice a6 z6 c6)) := by
              show _ = _
              rw [cell_of_row _ w4.heap.size 0 _ _ _ (heap_alloc_new w4 _)]; rfl
            have HS86 : Hid (Fk.length ≤ 100000 ∧ w.heap.size ≤ (w4.alloc (.cells #[.slice a6 z6 c6] 31)).heap.size) := ⟨by have := HFL.out; first | omega | (simp; omega), Nat.le_trans hs4 hal6.size⟩
            clear hal6
            go_wp2_with (at_builtin; go_loud (refine wpList_append_ls rfl _ _ rfl w.heap.size 0 w4.heap.size (x.drop ys.length) rfl rfl HO86.out HC86.out HE86.out rfl HS86.out.1 HS86.out.2 ?_))
            intro v5 w5 hown5 hgrow5
            have HB5 := keptC (grown_ls HB4.out hs4 HO4.out hgrow5)
            have HO5 := keptC hown5
            clear hown5 hgrow5
            go_wp2
            go_roundw
            case rel => exact ⟨k + 1, by omega, by go_num, ⟨_, rfl, show _ ↔ _ from ⟨fun _ => HEV.out, fun _ => rfl⟩⟩, by rw [HF1.out, HCA.out, HCB.out]; first | exact HO5.out | (rw [List.append_nil]; exact HO5.out) | (have h := HO5.out; simp at h ⊢; exact h), HB5.out⟩
            case measure => simp [intOf]; omega
          · have HPB := keptC hpb
            have HCB : Hid (candi x ys = []) := if_neg HPB.out
            clear hpb
            have HEV : Hid (¬ LNone L x (k + 1)) := fun h => (hev.out.1 rfl) (fun i hi => h i (by omega))
            go_wp2_with fail
            refine (s_rests_no wr _ _ ys x HYr.out HUr.out HPA).mono ?_
            rintro e w3 ⟨rfl, hb2⟩
            have c1 := (hb2.cell (World.block_lt_of_cell? wr _ c1)).trans c1
            have HO3 := keptC (HO.out.below hb2)
            have HU3 := keptC (HUr.out.below hb2)
            have HY3 := keptC (HYr.out.below hb2)
            have HB3 := keptC (below_next HB.out hb2)
            have hs3 := HB3.out.size
            clear hb2
            go_wp2_with fail
            refine (s_rests_no w3 _ _ x ys HU3.out HY3.out HPB).mono ?_
            rintro e w4 ⟨rfl, hb4⟩
            have HO4 := keptC (HO3.out.below hb4)
            have HB4 := keptC (below_next HB3.out hb4)
            clear hb4
            go_wp2
            go_roundw
            case rel => exact ⟨k + 1, by omega, by go_num, ⟨_, rfl, show _ ↔ _ from ⟨fun _ => HEV.out, fun _ => rfl⟩⟩, by rw [HF1.out, HCA.out, HCB.out]; first | exact HO4.out | (rw [List.append_nil]; exact HO4.out) | (rw [List.append_nil, List.append_nil]; exact HO4.out), HB4.out⟩
            case measure => simp [intOf]; omega
      | false =>
        obtain ⟨b0, hb0⟩ : ∃ b0, decide (ys = x) = b0 := ⟨_, rfl⟩
        have HB0 := Lib.hid hb0
        clear hb0
        by_cases hpa : Pre ys x
        · have HPA := keptC hpa
          have HCA : Hid (candi ys x = [ys.drop x.length]) := if_pos HPA.out
          clear hpa
          by_cases hpb : Pre x ys
          · have HPB := keptC hpb
            have HCB : Hid (candi x ys = [x.drop ys.length]) := if_pos HPB.out
            clear hpb
            have HEV : Hid (b0 = true ↔ ¬ LNone L x (k + 1)) := show _ ↔ _ from ⟨fun h k' => k' k (by omega) (by rw [HYS.out]; rw [h] at HB0; exact of_decide_eq_true HB0.out), fun h => by
              have h1 : LNone L x k := Classical.byContradiction fun h2 => by have := hev.out.2 h2; simp at this
              rw [← HB0.out]
              refine decide_eq_true (Classical.byContradiction fun h3 => h (h1.succ (by rw [HYS.out]; exact h3)))⟩
            go_wp2_with fail
            refine (s_sameInts_b wr _ _ ys x b0 HYr.out HUr.out HB0).mono ?_
            rintro e w1 ⟨rfl, hb1⟩
            have c1 := (hb1.cell (World.block_lt_of_cell? wr _ c1)).trans c1
            have HO1 := keptC (HO.out.below hb1)
            have HU1 := keptC (HUr.out.below hb1)
            have HY1 := keptC (HYr.out.below hb1)
            have HB1 := keptC (below_next HB.out hb1)
            clear hb1
            go_wp2_with fail
            refine (s_rests_yes w1 _ _ ys x HY1.out HU1.out (by have := HWY.out; omega) HPA).mono ?_
            rintro e w2 ⟨a5, z5, c5, rfl, hO2, hb2⟩
            have c1 := (hb2.cell (World.block_lt_of_cell? w1 _ c1)).trans c1
            have HI2 := keptC hO2
            have HO2 := keptC (HO1.out.below hb2)
            have HU2 := keptC (HU1.out.below hb2)
            have HY2 := keptC (HY1.out.below hb2)
            have HB2 := keptC (below_next HB1.out hb2)
            have hs2 := HB2.out.size
            clear hb2 hO2
            have hal5 : Below w2.heap.size w2 (w2.alloc (.cells #[.slice a5 z5 c5] 31)) := (Below.refl _ _).alloc (Nat.le_refl _) _
            have HO85 := keptC (HO2.out.below hal5)
            have HE85 : Hid (ElOk (w2.alloc (.cells #[.slice a5 z5 c5] 31)) 0 (.slice a5 z5 c5) (ys.drop x.length)) := ElOk.of_own (HI2.out.below hal5)
            have HC85 : Hid ((w2.alloc (.cells #[.slice a5 z5 c5] 31)).cell? ⟨w2.heap.size, 0, none⟩ = some (.slice a5 z5 c5)) := by
              show _ = _
              rw [cell_of_row _ w2.heap.size 0 _ _ _ (heap_alloc_new w2 _)]; rfl
            have HS85 : Hid (Fk.length ≤ 100000 ∧ w.heap.size ≤ (w2.alloc (.cells #[.slice a5 z5 c5] 31)).heap.size) := ⟨by have := HFL.out; omega, Nat.le_trans hs2 hal5.size⟩
            clear hal5
            go_wp2_with (at_builtin; go_loud (refine wpList_append_ls rfl _ _ rfl w.heap.size 0 w2.heap.size (ys.drop x.length) rfl rfl HO85.out HC85.out HE85.out rfl HS85.out.1 HS85.out.2 ?_))
            intro v3 w3 hown3 hgrow3
            obtain ⟨a3, n3, c3, h3⟩ := hown3.isSlice
            subst h3
            have HB3 := keptC (grown_ls HB2.out hs2 HO2.out hgrow3)
            have c1 := (HB3.out.cell (World.block_lt_of_cell? w _ C1.out)).trans C1.out
            have HO3 := keptC hown3
            have HU3 := keptC (HU.out.below HB3.out)
            have HY3 := keptC (HEY.out.below HB3.out)
            have hs3 := HB3.out.size
            clear hown3 hgrow3
            go_wp2_with fail
            refine (s_rests_yes w3 _ _ x ys HU3.out HY3.out (by rw [HM.out]; omega) HPB).mono ?_
            rintro e w4 ⟨a6, z6, c6, rfl, hO4, hb4⟩
            have HI4 := keptC hO4
            have HO4 := keptC (HO3.out.below hb4)
            have HB4 := keptC (below_next HB3.out hb4)
            have hs4 := HB4.out.size
            clear hb4 hO4
            have hal6 : Below w4.heap.size w4 (w4.alloc (.cells #[.slice a6 z6 c6] 31)) := (Below.refl _ _).alloc (Nat.le_refl _) _
            have HO86 := keptC (HO4.out.below hal6)
            have HE86 : Hid (ElOk (w4.alloc (.cells #[.slice a6 z6 c6] 31)) 0 (.slice a6 z6 c6) (x.drop ys.length)) := ElOk.of_own (HI4.out.below hal6)
            have HC86 : Hid ((w4.alloc (.cells #[.slice a6 z6 c6] 31)).cell? ⟨w4.heap.size, 0, none⟩ = some (.slice a6 z6 c6)) := by
              show _ = _
              rw [cell_of_row _ w4.heap.size 0 _ _ _ (heap_alloc_new w4 _)]; rfl
            have HS86 : Hid ((Fk ++ [ys.drop x.length]).length ≤ 100000 ∧ w.heap.size ≤ (w4.alloc (.cells #[.slice a6 z6 c6] 31)).heap.size) := ⟨by have := HFL.out; first | omega | (simp; omega), Nat.le_trans hs4 hal6.size⟩
            clear hal6
            go_wp2_with (at_builtin; go_loud (refine wpList_append_ls rfl _ _ rfl w.heap.size 0 w4.heap.size (x.drop ys.length) rfl rfl HO86.out HC86.out HE86.out rfl HS86.out.1 HS86.out.2 ?_))
            intro v5 w5 hown5 hgrow5
            have HB5 := keptC (grown_ls HB4.out hs4 HO4.out hgrow5)
            have HO5 := keptC hown5
            clear hown5 hgrow5
            go_wp2
            go_roundw
            case rel => exact ⟨k + 1, by omega, by go_num, ⟨_, rfl, HEV⟩, by rw [HF1.out, HCA.out, HCB.out]; first | exact HO5.out | (rw [List.append_nil]; exact HO5.out) | (have h := HO5.out; simp at h ⊢; exact h), HB5.out⟩
            case measure => simp [intOf]; omega
          · have HPB := keptC hpb
            have HCB : Hid (candi x ys = []) := if_neg HPB.out
            clear hpb
            have HEV : Hid (b0 = true ↔ ¬ LNone L x (k + 1)) := show _ ↔ _ from ⟨fun h k' => k' k (by omega) (by rw [HYS.out]; rw [h] at HB0; exact of_decide_eq_true HB0.out), fun h => by
              have h1 : LNone L x k := Classical.byContradiction fun h2 => by have := hev.out.2 h2; simp at this
              rw [← HB0.out]
              refine decide_eq_true (Classical.byContradiction fun h3 => h (h1.succ (by rw [HYS.out]; exact h3)))⟩
            go_wp2_with fail
            refine (s_sameInts_b wr _ _ ys x b0 HYr.out HUr.out HB0).mono ?_
            rintro e w1 ⟨rfl, hb1⟩
            have c1 := (hb1.cell (World.block_lt_of_cell? wr _ c1)).trans c1
            have HO1 := keptC (HO.out.below hb1)
            have HU1 := keptC (HUr.out.below hb1)
            have HY1 := keptC (HYr.out.below hb1)
            have HB1 := keptC (below_next HB.out hb1)
            clear hb1
            go_wp2_with fail
            refine (s_rests_yes w1 _ _ ys x HY1.out HU1.out (by have := HWY.out; omega) HPA).mono ?_
            rintro e w2 ⟨a5, z5, c5, rfl, hO2, hb2⟩
            have c1 := (hb2.cell (World.block_lt_of_cell? w1 _ c1)).trans c1
            have HI2 := keptC hO2
            have HO2 := keptC (HO1.out.below hb2)
            have HU2 := keptC (HU1.out.below hb2)
            have HY2 := keptC (HY1.out.below hb2)
            have HB2 := keptC (below_next HB1.out hb2)
            have hs2 := HB2.out.size
            clear hb2 hO2
            have hal5 : Below w2.heap.size w2 (w2.alloc (.cells #[.slice a5 z5 c5] 31)) := (Below.refl _ _).alloc (Nat.le_refl _) _
            have HO85 := keptC (HO2.out.below hal5)
            have HE85 : Hid (ElOk (w2.alloc (.cells #[.slice a5 z5 c5] 31)) 0 (.slice a5 z5 c5) (ys.drop x.length)) := ElOk.of_own (HI2.out.below hal5)
            have HC85 : Hid ((w2.alloc (.cells #[.slice a5 z5 c5] 31)).cell? ⟨w2.heap.size, 0, none⟩ = some (.slice a5 z5 c5)) := by
              show _ = _
              rw [cell_of_row _ w2.heap.size 0 _ _ _ (heap_alloc_new w2 _)]; rfl
            have HS85 : Hid (Fk.length ≤ 100000 ∧ w.heap.size ≤ (w2.alloc (.cells #[.slice a5 z5 c5] 31)).heap.size) := ⟨by have := HFL.out; omega, Nat.le_trans hs2 hal5.size⟩
            clear hal5
            go_wp2_with (at_builtin; go_loud (refine wpList_append_ls rfl _ _ rfl w.heap.size 0 w2.heap.size (ys.drop x.length) rfl rfl HO85.out HC85.out HE85.out rfl HS85.out.1 HS85.out.2 ?_))
            intro v3 w3 hown3 hgrow3
            obtain ⟨a3, n3, c3, h3⟩ := hown3.isSlice
            subst h3
            have HB3 := keptC (grown_ls HB2.out hs2 HO2.out hgrow3)
            have c1 := (HB3.out.cell (World.block_lt_of_cell? w _ C1.out)).trans C1.out
            have HO3 := keptC hown3
            have HU3 := keptC (HU.out.below HB3.out)
            have HY3 := keptC (HEY.out.below HB3.out)
            have hs3 := HB3.out.size
            clear hown3 hgrow3
            go_wp2_with fail
            refine (s_rests_no w3 _ _ x ys HU3.out HY3.out HPB).mono ?_
            rintro e w4 ⟨rfl, hb4⟩
            have HO4 := keptC (HO3.out.below hb4)
            have HB4 := keptC (below_next HB3.out hb4)
            clear hb4
            go_wp2
            go_roundw
            case rel => exact ⟨k + 1, by omega, by go_num, ⟨_, rfl, HEV⟩, by rw [HF1.out, HCA.out, HCB.out]; first | exact HO4.out | (rw [List.append_nil]; exact HO4.out) | (rw [List.append_nil, List.append_nil]; exact HO4.out), HB4.out⟩
            case measure => simp [intOf]; omega
        · have HPA := keptC hpa
          have HCA : Hid (candi ys x = []) := if_neg HPA.out
          clear hpa
          by_cases hpb : Pre x ys
          · have HPB := keptC hpb
            have HCB : Hid (candi x ys = [x.drop ys.length]) := if_pos HPB.out
            clear hpb
            have HEV : Hid (b0 = true ↔ ¬ LNone L x (k + 1)) := show _ ↔ _ from ⟨fun h k' => k' k (by omega) (by rw [HYS.out]; rw [h] at HB0; exact of_decide_eq_true HB0.out), fun h => by
              have h1 : LNone L x k := Classical.byContradiction fun h2 => by have := hev.out.2 h2; simp at this
              rw [← HB0.out]
              refine decide_eq_true (Classical.byContradiction fun h3 => h (h1.succ (by rw [HYS.out]; exact h3)))⟩
            go_wp2_with fail
            refine (s_sameInts_b wr _ _ ys x b0 HYr.out HUr.out HB0).mono ?_
            rintro e w1 ⟨rfl, hb1⟩
            have c1 := (hb1.cell (World.block_lt_of_cell? wr _ c1)).trans c1
            have HO1 := keptC (HO.out.below hb1)
            have HU1 := keptC (HUr.out.below hb1)
            have HY1 := keptC (HYr.out.below hb1)
            have HB1 := keptC (below_next HB.out hb1)
            clear hb1
            go_wp2_with fail
            refine (s_rests_no w1 _ _ ys x HY1.out HU1.out HPA).mono ?_
            rintro e w3 ⟨rfl, hb2⟩
            have c1 := (hb2.cell (World.block_lt_of_cell? w1 _ c1)).trans c1
            have HO3 := keptC (HO1.out.below hb2)
            have HU3 := keptC (HU1.out.below hb2)
            have HY3 := keptC (HY1.out.below hb2)
            have HB3 := keptC (below_next HB1.out hb2)
            have hs3 := HB3.out.size
            clear hb2
            go_wp2_with fail
            refine (s_rests_yes w3 _ _ x ys HU3.out HY3.out (by rw [HM.out]; omega) HPB).mono ?_
            rintro e w4 ⟨a6, z6, c6, rfl, hO4, hb4⟩
            have HI4 := keptC hO4
            have HO4 := keptC (HO3.out.below hb4)
            have HB4 := keptC (below_next HB3.out hb4)
            have hs4 := HB4.out.size
            clear hb4 hO4
            have hal6 : Below w4.heap.size w4 (w4.alloc (.cells #[.slice a6 z6 c6] 31)) := (Below.refl _ _).alloc (Nat.le_refl _) _
            have HO86 := keptC (HO4.out.below hal6)
            have HE86 : Hid (ElOk (w4.alloc (.cells #[.slice a6 z6 c6] 31)) 0 (.slice a6 z6 c6) (x.drop ys.length)) := ElOk.of_own (HI4.out.below hal6)
            have HC86 : Hid ((w4.alloc (.cells #[.slice a6 z6 c6] 31)).cell? ⟨w4.heap.size, 0, none⟩ = some (.slice a6 z6 c6)) := by
              show _ = _
              rw [cell_of_row _ w4.heap.size 0 _ _ _ (heap_alloc_new w4 _)]; rfl
            have HS86 : Hid (Fk.length ≤ 100000 ∧ w.heap.size ≤ (w4.alloc (.cells #[.slice a6 z6 c6] 31)).heap.size) := ⟨by have := HFL.out; first | omega | (simp; omega), Nat.le_trans hs4 hal6.size⟩
            clear hal6
            go_wp2_with (at_builtin; go_loud (refine wpList_append_ls rfl _ _ rfl w.heap.size 0 w4.heap.size (x.drop ys.length) rfl rfl HO86.out HC86.out HE86.out rfl HS86.out.1 HS86.out.2 ?_))
            intro v5 w5 hown5 hgrow5
            have HB5 := keptC (grown_ls HB4.out hs4 HO4.out hgrow5)
            have HO5 := keptC hown5
            clear hown5 hgrow5
            go_wp2
            go_roundw
            case rel => exact ⟨k + 1, by omega, by go_num, ⟨_, rfl, HEV⟩, by rw [HF1.out, HCA.out, HCB.out]; first | exact HO5.out | (rw [List.append_nil]; exact HO5.out) | (have h := HO5.out; simp at h ⊢; exact h), HB5.out⟩
            case measure => simp [intOf]; omega
          · have HPB := keptC hpb
            have HCB : Hid (candi x ys = []) := if_neg HPB.out
            clear hpb
            have HEV : Hid (b0 = true ↔ ¬ LNone L x (k + 1)) := show _ ↔ _ from ⟨fun h k' => k' k (by omega) (by rw [HYS.out]; rw [h] at HB0; exact of_decide_eq_true HB0.out), fun h => by
              have h1 : LNone L x k := Classical.byContradiction fun h2 => by have := hev.out.2 h2; simp at this
              rw [← HB0.out]
              refine decide_eq_true (Classical.byContradiction fun h3 => h (h1.succ (by rw [HYS.out]; exact h3)))⟩
            go_wp2_with fail
            refine (s_sameInts_b wr _ _ ys x b0 HYr.out HUr.out HB0).mono ?_
            rintro e w1 ⟨rfl, hb1⟩
            have c1 := (hb1.cell (World.block_lt_of_cell? wr _ c1)).trans c1
            have HO1 := keptC (HO.out.below hb1)
            have HU1 := keptC (HUr.out.below hb1)
            have HY1 := keptC (HYr.out.below hb1)
            have HB1 := keptC (below_next HB.out hb1)
            clear hb1
            go_wp2_with fail
            refine (s_rests_no w1 _ _ ys x HY1.out HU1.out HPA).mono ?_
            rintro e w3 ⟨rfl, hb2⟩
            have c1 := (hb2.cell (World.block_lt_of_cell? w1 _ c1)).trans c1
            have HO3 := keptC (HO1.out.below hb2)
            have HU3 := keptC (HU1.out.below hb2)
            have HY3 := keptC (HY1.out.below hb2)
            have HB3 := keptC (below_next HB1.out hb2)
            have hs3 := HB3.out.size
            clear hb2
            go_wp2_with fail
            refine (s_rests_no w3 _ _ x ys HU3.out HY3.out HPB).mono ?_
            rintro e w4 ⟨rfl, hb4⟩
            have HO4 := keptC (HO3.out.below hb4)
            have HB4 := keptC (below_next HB3.out hb4)
            clear hb4
            go_wp2
            go_roundw
            case rel => exact ⟨k + 1, by omega, by go_num, ⟨_, rfl, HEV⟩, by rw [HF1.out, HCA.out, HCB.out]; first | exact HO4.out | (rw [List.append_nil]; exact HO4.out) | (rw [List.append_nil, List.append_nil]; exact HO4.out), HB4.out⟩
            case measure => simp [intOf]; omega
    · obtain rfl : n = k := by omega
      have HE : Hid (ev = b) := by
        show ev = b
        have h1 := hev.out.trans (lnone_iff HN.out)
        have h2 := hb.out
        by_cases h : x ∈ L
        · rw [h1.2 h, h2.2 h]
        · cases ev
          · cases b
            · rfl
            · exact absurd (h2.1 rfl) h
          · exact absurd (h1.1 rfl) h
      clear hO hB
      go_wp2
      refine bodyPost_ret (results_twoC rfl _ _ _) rfl ?_
      exact ⟨_, _, _, by rw [HE.out]; rfl, by rw [HN.out]; exact HO.out, HB.out⟩
end Go.Proofs.Ytdjgodemeaneeaa
