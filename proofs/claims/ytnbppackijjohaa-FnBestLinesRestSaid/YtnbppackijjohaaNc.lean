
/- Where the best lines end: bestEnds. -/
import Derived.Test.YtnbppackijjohaaNb
import Derived.Test.YtnbppackijjohaaLo
namespace Go.Proofs.Ytnbppackijjohaa
open Go.RowKit

def EndsUp (W : Int) (L : List (List Int)) (A : Nat → Int) (es : List Int) (k : Nat) : Prop := ∀ j, k ≤ j → j < L.length → ∃ c : Nat, es.getD j 0 = ((j + c : Nat) : Int) ∧ PickAt W (L.drop j) A c
theorem EndsUp.none (W : Int) (L : List (List Int)) (A : Nat → Int) (es : List Int) : EndsUp W L A es L.length := fun k h1 h2 => absurd h2 (by omega)
/-- the call made the ends of the best lines -/
def EndsMade (L : List (List Int)) (W : Int) (w : World) (e : Ending) (w' : World) : Prop :=
  ∃ (es : List Int) (A : Nat → Int), e = .returned (.agg (ints es).toArray) ∧ es.length = 30 ∧ CostsUp W L A 0 ∧ EndsUp W L A es 0 ∧ Below w.heap.size w w'
def noughts (q : Nat) : List Int := List.replicate q 0
def three (w : World) : World := ((w.alloc (.cells (ints (noughts 30)).toArray 45)).alloc (.cells (ints (noughts 30)).toArray 45)).alloc (.cells (ints (noughts 31)).toArray 57)
theorem three_is (w : World) : ArrAt (three w) w.heap.size 45 (noughts 30) ∧ ArrAt (three w) (w.heap.size + 1) 45 (noughts 30) ∧ ArrAt (three w) (w.heap.size + 1 + 1) 57 (noughts 31) ∧ Below w.heap.size w (three w) := by
  obtain ⟨w1, h1⟩ : ∃ w1, w.alloc (.cells (ints (noughts 30)).toArray 45) = w1 := ⟨_, rfl⟩
  obtain ⟨w2, h2⟩ : ∃ w2, w1.alloc (.cells (ints (noughts 30)).toArray 45) = w2 := ⟨_, rfl⟩
  have s1 : w1.heap.size = w.heap.size + 1 := by rw [← h1]; exact World.size_alloc _ _
  have s2 : w2.heap.size = w.heap.size + 1 + 1 := by rw [← h2, World.size_alloc, s1]
  have a1 : ArrAt w1 w.heap.size 45 (noughts 30) := by rw [← h1]; exact heap_alloc_new w _
  have a2 : ArrAt w2 w1.heap.size 45 (noughts 30) := by rw [← h2]; exact heap_alloc_new w1 _
  have b1 : Below w.heap.size w w1 := by rw [← h1]; exact (Below.refl _ _).alloc (Nat.le_refl _) _
  have b2 : Below w1.heap.size w1 w2 := by rw [← h2]; exact (Below.refl _ _).alloc (Nat.le_refl _) _
  have b3 : Below w2.heap.size w2 (w2.alloc (.cells (ints (noughts 31)).toArray 57)) := (Below.refl _ _).alloc (Nat.le_refl _) _
  have a3 : ArrAt (w2.alloc (.cells (ints (noughts 31)).toArray 57)) w2.heap.size 57 (noughts 31) := heap_alloc_new w2 _
  unfold three
  rw [h1, h2, ← s2, ← s1]
  exact ⟨(a1.below b2 (by omega)).below b3 (by omega), a2.below b3 (by omega), a3, below_next (below_next b1 b2) b3⟩
theorem below_setRow {B g : Nat} {w a : World} (h : Below B w a) (hg : B ≤ g) (cs : Array Value) : Below B w (a.setRow g cs) :=
  ⟨h.os, h.tape, h.output, by have := h.size; unfold World.setRow; simp; exact this, fun k hk => (setRow_other a g k cs (by omega)).trans (h.block k hk)⟩
theorem size56 : (Try.prog.info? 57).map (·.size) = some 31 := by kernel_rfl
theorem size44 : (Try.prog.info? 45).map (·.size) = some 30 := by kernel_rfl
theorem PickAt.congrA {W : Int} {S : List (List Int)} {zs : List Int} {n i c : Nat} {x : Int} (h : PickAt W S (arrA zs n) c) (hl : S.length < n - i) : PickAt W S (arrA (zs.set i x) n) c :=
  h.congr fun m hm => (arrA_set (by omega)).symm
theorem EndsUp.set {W : Int} {L : List (List Int)} {zs es : List Int} {i : Nat} {x y : Int} (h : EndsUp W L (arrA zs L.length) es (i + 1)) : EndsUp W L (arrA (zs.set i x) L.length) (es.set i y) (i + 1) := fun j h1 h2 => by
  obtain ⟨c, h3, h4⟩ := h j h1 h2
  refine ⟨c, ?_, h4.congrA (by rw [List.length_drop]; omega)⟩
  rw [List.getD_eq_getElem?_getD, List.getElem?_set_ne (by omega), ← List.getD_eq_getElem?_getD]; exact h3
theorem EndsUp.down {W : Int} {L : List (List Int)} {A : Nat → Int} {es : List Int} {i c : Nat} (h : EndsUp W L A es (i + 1)) (he : es.getD i 0 = ((i + c : Nat) : Int)) (hp : PickAt W (L.drop i) A c) : EndsUp W L A es i := fun j h1 h2 => by
  by_cases e : j = i
  · subst e; exact ⟨c, he, hp⟩
  · exact h j (by omega) h2
/-- the round of a place is done -/
theorem round_done {W : Int} {L : List (List Int)} {zs es : List Int} {i f d : Nat} {m : Int} (hi : i < L.length) (hz : L.length < zs.length) (he : i < es.length) (hC : CostsUp W L (arrA zs L.length) (i + 1)) (hE : EndsUp W L (arrA zs L.length) es (i + 1)) (hF : Full W (L.drop i) f)
    (hP : PartMin W (L.drop i) (arrA zs L.length) f 0 m d) : CostsUp W L (arrA (zs.set i m) L.length) i ∧ EndsUp W L (arrA (zs.set i m) L.length) (es.set i ((i + d : Nat) : Int)) i := by
  have hl : (L.drop i).length = L.length - i := by rw [List.length_drop]
  have hat : arrA (zs.set i m) L.length (L.length - i) = m := arrA_at (by omega) (by omega)
  have hP' : PartMin W (L.drop i) (arrA (zs.set i m) L.length) f 0 m d := hP.congr hF.2.1 fun x hx => (arrA_set (by omega)).symm
  refine ⟨(hC.congr fun x hx => (arrA_set (by omega)).symm).down hF (by rw [hat]; exact hP'.min), hE.set.down (c := d) ?_ ?_⟩
  · rw [List.getD_eq_getElem?_getD, List.getElem?_set_self he]; rfl
  · have h2 : (arrA (zs.set i m) L.length) (L.drop i).length = m := by rw [hl]; exact hat
    exact PartMin.pick hF h2 hP'
set_option maxRecDepth 20000 in
set_option maxHeartbeats 1500000 in
theorem i_bestEnds (w : World) (v : Value) (L : List (List Int)) (W : Int) (hx : ListsAt w v L) (hok : Hid (FillOk L W)) :
    Calls Try.prog 48 #[v, .int .i64 W] w fun e w' => EndsMade L W w e w' := by
  have HX := keptL hx
  obtain ⟨a, cp, rfl, x1, x2, x4⟩ := hx
  obtain ⟨n, hn⟩ : ∃ n, L.length = n := ⟨_, rfl⟩
  rw [hn] at x1 HX ⊢
  have HN := Lib.hid hn
  have hn30 : n ≤ 30 := by have := hok.out.1; omega
  have hW40 := hok.out.2.1.2
  obtain ⟨h4, h5, h6, hB0⟩ := three_is w
  have HC0 : Hid (CostsUp W L (arrA (noughts 31) n) n) := by rw [← hn]; exact CostsUp.none _ _ _
  have HE0 : Hid (EndsUp W L (arrA (noughts 31) n) (noughts 30) n) := by rw [← hn]; exact EndsUp.none _ _ _ _
  clear hn x4
  go_enter Try.func48, Try.ntmps48
  go_wp2
  obtain ⟨w0, hw0⟩ : ∃ w0, three w = w0 := ⟨_, rfl⟩
  change Code.wp _ _ _ _ (three w)
  rw [hw0] at h4 h5 h6 hB0 ⊢
  clear hw0
  go_loopw [7] (fun y wr => ∃ (k : Nat) (q : Int) (es zs : List Int), k ≤ n ∧ y = .int .i64 q ∧ q = (k : Int) - 1 ∧ Hid (ArrAt wr w.heap.size 45 (noughts 30)) ∧ Hid (ArrAt wr (w.heap.size + 1) 45 es) ∧ Hid (ArrAt wr (w.heap.size + 1 + 1) 57 zs) ∧ Hid (Below w.heap.size w wr) ∧ es.length = 30 ∧ zs.length = 31 ∧ Hid (SmallA zs n) ∧ Hid (CostsUp W L (arrA zs n) k) ∧ Hid (EndsUp W L (arrA zs n) es k)) (fun y _ => (intOf y + 1).toNat)
  case atStart => exact ⟨n, _, noughts 30, noughts 31, Nat.le_refl _, by go_num, rfl, h4, h5, h6, hB0, rfl, rfl, SmallA.zero _ _, HC0, HE0⟩
  case round =>
    clear h4 h5 h6 hB0 HC0 HE0
    obtain ⟨wo, rfl⟩ : ∃ wo, wo = wr := ⟨wr, rfl⟩
    obtain ⟨k, q, es, zs, hk, rfl, hq, H4, H5, H6, HB, hes, hzs, HSM, HC, HE⟩ := hrel
    by_cases hlt : 0 < k
    · obtain ⟨i, rfl⟩ : ∃ i, k = i + 1 := ⟨k - 1, by omega⟩
      obtain rfl : q = (i : Int) := by omega
      clear hq
      have d0 : decide ((0 : Int) ≤ (i : Int)) = true := decide_eq_true (by omega)
      have hin : i < n := by omega
      have HXo : Hid (ListsAt wo (.slice a n cp) L) := HX.out.below HB.out
      have hl5 := H5.out.lt
      have hl6 := H6.out.lt
      go_wp2_with fail
      refine (i_fullEnd wo _ L i W HXo.out (by rw [HN.out]; exact hin) (by rw [HN.out]; exact hn30) hok.out.len).mono ?_
      rintro e w2 ⟨f, rfl, rfl, hF⟩
      have HF := keptL hF
      have hf1 := hF.1
      have hf2 : i + f ≤ n := by have := hF.2.1; rw [List.length_drop, HN.out] at this; omega
      clear hF
      have c5 := H5.out.cell (k := i) (by omega)
      have f5 := H5.out.free i
      have H5a := keptL (H5.out.set (k := i) ((i + f : Nat) : Int))
      have H4a := keptL (H4.out.other (k := i) (.int .i64 ((i + f : Nat) : Int)) (show w.heap.size ≠ w.heap.size + 1 by omega))
      have H6a := keptL (H6.out.other (k := i) (.int .i64 ((i + f : Nat) : Int)) (show w.heap.size + 1 + 1 ≠ w.heap.size + 1 by omega))
      have HBa := keptL (HB.out.setCell (p := ⟨w.heap.size + 1, i, none⟩) (by show w.heap.size ≤ w.heap.size + 1; omega) (.int .i64 ((i + f : Nat) : Int)))
      obtain ⟨wa, hwa⟩ : ∃ wa, wo.setCell ⟨w.heap.size + 1, i, none⟩ (.int .i64 ((i : Int) + (f : Int))) = wa := ⟨_, rfl⟩
      have hwa' : wo.setCell ⟨w.heap.size + 1, i, none⟩ (.int .i64 ((i + f : Nat) : Int)) = wa := hwa
      rw [hwa'] at H5a H4a H6a HBa
      clear hwa' H4 H5 H6 HB
      have b1 : (0 : Int) ≤ (i : Int) := by omega
      have b2 : (i : Int) < 30 := by omega
      have b3 : (i : Int) < 31 := by omega
      go_wp2_with (refine wpList_load_row rfl 57 _ rfl (w.heap.size + 1 + 1) rfl 57 (ints zs).toArray (0, 0) _ H6a.out Try.underlying57 rfl (by rw [size56]; simp [ints, hzs]) ?_)
      have HFT : Hid (((pack ((L.drop i).take f)).length : Int) ≤ W) := fit_len HF.out.2.2.1 (fun x hx => (hok.out.2.2.all x (List.mem_of_mem_drop hx)).2.1) hf1 (Nat.le_refl _) HF.out.2.1
      obtain ⟨r, hr⟩ : ∃ r, stepC W (L.drop i) (arrA zs n) f = r := ⟨_, rfl⟩
      have hrb := stepC_small (S := L.drop i) HSM.out hW40 (by rw [List.length_drop, HN.out]; omega) hf1 HF.out.2.1 HFT.out
      rw [hr, List.length_drop, HN.out] at hrb
      have HR := Lib.hid hr
      have HSM' : Hid (SmallA zs L.length) := by show SmallA _ _; rw [HN.out]; exact HSM.out
      have HR' : Hid (stepC W (L.drop i) (arrA zs L.length) f = r) := by show _ = _; rw [HN.out]; exact hr
      have hXa : ListsAt wa (.slice a n cp) L := HX.out.below HBa.out
      have HP1 : Hid (PartMin W (L.drop i) (arrA zs n) f (f - 1) r f) := by rw [← hr]; exact PartMin.first hf1
      clear hr
      refine (i_costTo wa _ L i f W zs r _ (by omega) hXa (by rw [HN.out]; exact hin) hf1 (by rw [HN.out]; exact hf2) (by rw [HN.out]; exact hn30) hok.out.len hW40 hzs HSM' HFT HR').mono ?_
      rintro e w3 ⟨rfl, hb3⟩
      have hl6a := H6a.out.lt
      have hl5a := H5a.out.lt
      have hl4a := H4a.out.lt
      have H4b := keptL (H4a.out.below hb3 hl4a)
      have H5b := keptL (H5a.out.below hb3 hl5a)
      have H6b := keptL (H6a.out.below hb3 hl6a)
      have HBb := keptL (below_nextL HBa.out HBa.out.size hb3)
      clear hb3 hXa H4a H5a H6a HBa hwa c5 f5
      have c6 := H6b.out.cell (k := i) (by omega)
      have f6 := H6b.out.free i
      have H6c := keptL (H6b.out.set (k := i) r)
      have H4c := keptL (H4b.out.other (k := i) (.int .i64 r) (show w.heap.size ≠ w.heap.size + 1 + 1 by omega))
      have H5c := keptL (H5b.out.other (k := i) (.int .i64 r) (show w.heap.size + 1 ≠ w.heap.size + 1 + 1 by omega))
      have HBc := keptL (HBb.out.setCell (p := ⟨w.heap.size + 1 + 1, i, none⟩) (by show w.heap.size ≤ w.heap.size + 1 + 1; omega) (.int .i64 r))
      obtain ⟨wc, hwc⟩ : ∃ wc, w3.setCell ⟨w.heap.size + 1 + 1, i, none⟩ (.int .i64 r) = wc := ⟨_, rfl⟩
      rw [hwc] at H4c H5c H6c HBc
      clear H4b H5b H6b HBb HSM' HR' HR HFT
      go_wp2
      go_loopw [9] (fun y wr => ∃ (c d : Nat) (t m : Int), c < f ∧ y = .int .i64 t ∧ t = (i : Int) + c ∧ Hid (PartMin W (L.drop i) (arrA zs n) f c m d) ∧ (0 ≤ m ∧ m ≤ 1600 * (n - i : Nat)) ∧ Hid (ArrAt wr w.heap.size 45 (noughts 30)) ∧ Hid (ArrAt wr (w.heap.size + 1) 45 (es.set i ((i + d : Nat) : Int))) ∧ Hid (ArrAt wr (w.heap.size + 1 + 1) 57 (zs.set i m)) ∧ Hid (Below w.heap.size w wr)) (fun y _ => (intOf y).toNat)
      case atStart => exact ⟨f - 1, f, _, r, by omega, by go_num, by omega, HP1, hrb, H4c, H5c, H6c, HBc⟩
      case round =>
        clear HP1 hrb H4c H5c H6c HBc hwc c6 f6
        obtain ⟨wi, rfl⟩ : ∃ wi, wi = wr := ⟨wr, rfl⟩
        obtain ⟨c, d, t, m, hcf, rfl, ht, HP, hm, H4, H5, H6, HB⟩ := hrel
        have HT := keptL ht
        have ht0 : (i : Int) ≤ t := by omega
        have ht1 : t ≤ 60 := by omega
        by_cases hc0 : 0 < c
        · have d1 : decide ((i : Int) < t) = true := decide_eq_true (by omega)
          have HFT : Hid (((pack ((L.drop i).take c)).length : Int) ≤ W) := fit_len HF.out.2.2.1 (fun x hx => (hok.out.2.2.all x (List.mem_of_mem_drop hx)).2.1) hc0 (by omega) (by have := HF.out.2.1; omega)
          have hSM1 : SmallA (zs.set i m) n := HSM.out.set hm.1 hm.2
          obtain ⟨r, hr⟩ : ∃ r, stepC W (L.drop i) (arrA zs n) c = r := ⟨_, rfl⟩
          have hrb := stepC_small (S := L.drop i) HSM.out hW40 (by rw [List.length_drop, HN.out]; omega) hc0 (by have := HF.out.2.1; omega) HFT.out
          rw [hr, List.length_drop, HN.out] at hrb
          have HSM' : Hid (SmallA (zs.set i m) L.length) := by show SmallA _ _; rw [HN.out]; exact hSM1
          have HR' : Hid (stepC W (L.drop i) (arrA (zs.set i m) L.length) c = r) := by
            show _ = _
            rw [HN.out, ← hr]
            exact stepC_congr (fun x hx => arrA_set (by rw [List.length_drop, HN.out] at hx; exact hx)) hc0 (by have := HF.out.2.1; omega)
          have HPP := HP.out
          obtain ⟨c', rfl⟩ : ∃ c', c = c' + 1 := ⟨c - 1, by omega⟩
          have ht2 : (i : Int) < t := by omega
          clear ht
          have HX1 : Hid (ListsAt wi (.slice a n cp) L) := HX.out.below HB.out
          have hz1 : (zs.set i m).length = 31 := by rw [List.length_set]; exact hzs
          clear hSM1
          go_wp2_with (refine wpList_load_row rfl 57 _ rfl (w.heap.size + 1 + 1) rfl 57 (ints (zs.set i m)).toArray (0, 0) _ H6.out Try.underlying57 rfl (by rw [size56]; simp [ints, hzs]) ?_)
          refine (i_costTo wi _ L i (c' + 1) W (zs.set i m) r t (by have := HT.out; omega) HX1.out (by rw [HN.out]; exact hin) hc0 (by rw [HN.out]; omega) (by rw [HN.out]; exact hn30) hok.out.len hW40 hz1 HSM' HFT HR').mono ?_
          rintro e w3 ⟨rfl, hb3⟩
          have hl4 := H4.out.lt
          have hl5 := H5.out.lt
          have hl6 := H6.out.lt
          have H4b := keptL (H4.out.below hb3 hl4)
          have H5b := keptL (H5.out.below hb3 hl5)
          have H6b := keptL (H6.out.below hb3 hl6)
          have HBb := keptL (below_nextL HB.out HB.out.size hb3)
          have c6 := H6b.out.cell (k := i) (by omega)
          rw [show (zs.set i m).getD i 0 = m from by rw [List.getD_eq_getElem?_getD, List.getElem?_set_self (by omega)]; rfl] at c6
          clear hb3 H4 H5 H6 HB HSM' HR' HX1
          by_cases hrm : r < m
          · have d2 : decide (r < m) = true := decide_eq_true hrm
            have HP' : Hid (PartMin W (L.drop i) (arrA zs n) f c' r (c' + 1)) := by
              have := HPP.less (by rw [hr]; exact hrm)
              rw [hr] at this; exact this
            have c5 := H5b.out.cell (k := i) (by rw [List.length_set]; omega)
            have f5 := H5b.out.free i
            have H5c := keptL (H5b.out.set (k := i) t)
            have H4c := keptL (H4b.out.other (k := i) (.int .i64 t) (show w.heap.size ≠ w.heap.size + 1 by omega))
            have H6c := keptL (H6b.out.other (k := i) (.int .i64 t) (show w.heap.size + 1 + 1 ≠ w.heap.size + 1 by omega))
            have HBc := keptL (HBb.out.setCell (p := ⟨w.heap.size + 1, i, none⟩) (by show w.heap.size ≤ w.heap.size + 1; omega) (.int .i64 t))
            obtain ⟨wc, hwc⟩ : ∃ wc, w3.setCell ⟨w.heap.size + 1, i, none⟩ (.int .i64 t) = wc := ⟨_, rfl⟩
            rw [hwc] at H4c H5c H6c HBc
            have g6 := H6c.out.cell (k := i) (by omega)
            have f6 := H6c.out.free i
            have H6d := keptL (H6c.out.set (k := i) r)
            have H4d := keptL (H4c.out.other (k := i) (.int .i64 r) (show w.heap.size ≠ w.heap.size + 1 + 1 by omega))
            have H5d := keptL (H5c.out.other (k := i) (.int .i64 r) (show w.heap.size + 1 ≠ w.heap.size + 1 + 1 by omega))
            have HBd := keptL (HBc.out.setCell (p := ⟨w.heap.size + 1 + 1, i, none⟩) (by show w.heap.size ≤ w.heap.size + 1 + 1; omega) (.int .i64 r))
            obtain ⟨wd, hwd⟩ : ∃ wd, wc.setCell ⟨w.heap.size + 1 + 1, i, none⟩ (.int .i64 r) = wd := ⟨_, rfl⟩
            rw [hwd] at H4d H5d H6d HBd
            have H5e : Hid (ArrAt wd (w.heap.size + 1) 45 (es.set i ((i + (c' + 1) : Nat) : Int))) := by
              have := H5d.out
              rw [List.set_set, show t = ((i + (c' + 1) : Nat) : Int) from by have := HT.out; omega] at this
              exact this
            have H6e : Hid (ArrAt wd (w.heap.size + 1 + 1) 57 (zs.set i r)) := by
              have := H6d.out
              rw [List.set_set] at this
              exact this
            clear hr H4b H5b H6b HBb H4c H5c H6c HBc H5d H6d HPP HP HFT
            go_wp2
            go_roundw
            case rel => exact ⟨c', c' + 1, t - 1, r, by omega, by go_num, by have := HT.out; omega, HP', hrb, H4d, H5e, H6e, HBd⟩
            case measure => simp [intOf] <;> omega
          · have d2 : decide (r < m) = false := decide_eq_false hrm
            have HP' : Hid (PartMin W (L.drop i) (arrA zs n) f c' m d) := HPP.more (by rw [hr]; exact hrm)
            clear hr HPP HP HFT
            go_wp2
            go_roundw
            case rel => exact ⟨c', d, t - 1, m, by omega, by go_num, by have := HT.out; omega, HP', hm, H4b, H5b, H6b, HBb⟩
            case measure => simp [intOf] <;> omega
        · obtain rfl : c = 0 := by omega
          obtain rfl : t = (i : Int) := by omega
          have d1 : decide ((i : Int) < (i : Int)) = false := decide_eq_false (by omega)
          have hdone := round_done (zs := zs) (es := es) (i := i) (f := f) (d := d) (m := m) (by rw [HN.out]; exact hin) (by rw [HN.out]; omega) (by omega) (by rw [HN.out]; exact HC.out) (by rw [HN.out]; exact HE.out) HF.out (by rw [HN.out]; exact HP.out)
          rw [HN.out] at hdone
          have HD1 := keptL hdone.1
          have HD2 := keptL hdone.2
          have HSM2 := keptL (HSM.out.set hm.1 hm.2)
          have hes2 : (es.set i ((i + d : Nat) : Int)).length = 30 := by rw [List.length_set]; exact hes
          have hzs2 : (zs.set i m).length = 31 := by rw [List.length_set]; exact hzs
          clear hdone ht HC HE HSM HP
          go_wp2
          go_roundw
          case rel => exact ⟨i, (i : Int) - 1, es.set i ((i + d : Nat) : Int), zs.set i m, by omega, by go_num, rfl, H4, H5, H6, HB, hes2, hzs2, HSM2, HD1, HD2⟩
          case measure => simp [intOf] <;> omega
    · obtain rfl : k = 0 := by omega
      obtain rfl : q = -1 := by omega
      clear hq
      have hl4 := H4.out.lt
      have HBZ := keptL (below_setRow HB.out (Nat.le_refl _) (ints es).toArray)
      have HAZ : Hid (ArrAt (wo.setRow w.heap.size (ints es).toArray) w.heap.size 45 es) := setRow_heap wo w.heap.size _ _ _ _ H4.out
      have hca : (ints es).toArray.all (·.oneCell') = true := by
        rw [Array.all_eq_true_iff_forall_mem]
        intro x hx
        exact ints_oneCellC es x (by simpa using hx)
      go_wp2_with (first | (refine wpList_load_row rfl 45 _ rfl (w.heap.size + 1) rfl 45 (ints es).toArray (0, 0) _ H5.out Try.underlying45 rfl (by rw [size44]; simp [ints, hes]) ?_) | (refine wpList_store_row rfl 45 _ _ rfl w.heap.size (ints es).toArray rfl rfl 45 (ints (noughts 30)).toArray H4.out (by rw [size44]; simp [ints, hes]) (by simp [ints, hes, noughts]) hca ?_))
      refine bodyPost_ret (results_cell_row rfl _ _ w.heap.size 45 (ints es).toArray (0, 0) _ rfl HAZ.out Try.underlying45 rfl (by rw [size44]; simp [ints, hes])) rfl ?_
      exact ⟨es, _, rfl, hes, HC.out, HE.out, HBZ.out⟩
end Go.Proofs.Ytnbppackijjohaa
