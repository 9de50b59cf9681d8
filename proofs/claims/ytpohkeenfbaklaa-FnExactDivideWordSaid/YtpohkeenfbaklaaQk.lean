
/- The levels of a word, in the model. -/
import Derived.Test.YtpohkeenfbaklaaQj
import Derived.Test.YtpohkeenfbaklaaOwnS
import Derived.BigRegion
namespace Go.Proofs.Ytpohkeenfbaklaa
open Go.RowKit

/-- the patterns before J, the places before A of J, the levels before I at A -/
def D3 (J A I : Nat) (j a i : Nat) : Prop := j < J ∨ (j = J ∧ (a < A ∨ (a = A ∧ i < I)))
def MaxAll (T : List PPat) (s : ByteArray) (J A I : Nat) (arr : List Int) : Prop := ∀ q, q ≤ s.size → MaxOf (CandQ T s (D3 J A I) q) (arr.getD q 0)
theorem MaxAll.start (T : List PPat) (s : ByteArray) (n : Nat) : MaxAll T s 0 0 0 (List.replicate n 0) := fun q _ => by
  have e : (List.replicate n (0 : Int)).getD q 0 = 0 := by
    rw [List.getD_eq_getElem?_getD]
    by_cases h : q < n
    · rw [List.getElem?_replicate, if_pos h]; rfl
    · rw [List.getElem?_eq_none (by simp; omega)]; rfl
  rw [e]
  exact CandQ.none fun j a i h => by unfold D3 at h; omega
/-- the pattern does not fit there -/
theorem MaxAll.skip {T : List PPat} {s : ByteArray} {J A : Nat} {arr : List Int} (h : MaxAll T s J A 0 arr) (hf : ¬ FitQ (T.getD J noQ) s (A : Int)) : MaxAll T s J (A + 1) 0 arr := fun q hq =>
  (h q hq).congr (CandQ.congr fun j a i _ _ h4 _ => by
    unfold D3
    constructor
    · rintro (h5 | ⟨h5, h6 | h6⟩)
      · exact .inl h5
      · exact .inr ⟨h5, .inl (by omega)⟩
      · omega
    · rintro (h5 | ⟨h5, h6 | h6⟩)
      · exact .inl h5
      · by_cases ea : a = A
        · subst h5 ea; exact absurd h4 hf
        · exact .inr ⟨h5, .inl (by omega)⟩
      · omega)
/-- all levels of the pattern at a place are in -/
theorem MaxAll.next {T : List PPat} {s : ByteArray} {J A : Nat} {arr : List Int} (h : MaxAll T s J A (T.getD J noQ).c.length arr) : MaxAll T s J (A + 1) 0 arr := fun q hq =>
  (h q hq).congr (CandQ.congr fun j a i _ h3 _ _ => by
    unfold D3
    constructor
    · rintro (h5 | ⟨h5, h6 | h6⟩)
      · exact .inl h5
      · exact .inr ⟨h5, .inl (by omega)⟩
      · exact .inr ⟨h5, .inl (by omega)⟩
    · rintro (h5 | ⟨h5, h6 | h6⟩)
      · exact .inl h5
      · by_cases ea : a = A
        · subst h5; exact .inr ⟨rfl, .inr ⟨ea, h3⟩⟩
        · exact .inr ⟨h5, .inl (by omega)⟩
      · omega)
/-- all places of a pattern are done -/
theorem MaxAll.down {T : List PPat} {s : ByteArray} {J A : Nat} {arr : List Int} (h : MaxAll T s J A 0 arr) (hA : s.size < A + (T.getD J noQ).t.size) : MaxAll T s (J + 1) 0 0 arr := fun q hq =>
  (h q hq).congr (CandQ.congr fun j a i _ _ h4 _ => by
    unfold D3
    constructor
    · rintro (h5 | ⟨h5, _⟩)
      · exact .inl (by omega)
      · exact .inl (by omega)
    · rintro (h5 | ⟨h5, h6⟩)
      · by_cases e : j = J
        · subst e
          have := h4.2.1
          exact .inr ⟨rfl, .inl (by omega)⟩
        · exact .inl (by omega)
      · omega)
/-- one more level -/
theorem MaxAll.more {T : List PPat} {s : ByteArray} {J A I : Nat} {arr : List Int} (h : MaxAll T s J A I arr) (hJ : J < T.length) (hI : I < (T.getD J noQ).c.length) (hf : FitQ (T.getD J noQ) s (A : Int)) (hl : A + I < arr.length) :
    MaxAll T s J A (I + 1) (arr.set (A + I) (if arr.getD (A + I) 0 < (T.getD J noQ).c.getD I 0 then (T.getD J noQ).c.getD I 0 else arr.getD (A + I) 0)) := fun q hq => by
  by_cases e : A + I = q
  · subst e
    rw [show (arr.set (A + I) (if arr.getD (A + I) 0 < (T.getD J noQ).c.getD I 0 then (T.getD J noQ).c.getD I 0 else arr.getD (A + I) 0)).getD (A + I) 0 = (if arr.getD (A + I) 0 < (T.getD J noQ).c.getD I 0 then (T.getD J noQ).c.getD I 0 else arr.getD (A + I) 0) from by rw [List.getD_eq_getElem?_getD, List.getElem?_set_self hl]; rfl]
    refine (h (A + I) hq).add (CandQ.more hJ hI hf rfl fun j a i _ _ _ h5 => ?_)
    unfold D3
    constructor
    · rintro (h6 | ⟨h6, h7 | ⟨h7, h8⟩⟩)
      · exact .inl (.inl h6)
      · exact .inl (.inr ⟨h6, .inl h7⟩)
      · by_cases ei : i = I
        · exact .inr ⟨h6, h7, ei⟩
        · exact .inl (.inr ⟨h6, .inr ⟨h7, by omega⟩⟩)
    · rintro ((h6 | ⟨h6, h7 | ⟨h7, h8⟩⟩) | ⟨h6, h7, h8⟩)
      · exact .inl h6
      · exact .inr ⟨h6, .inl h7⟩
      · exact .inr ⟨h6, .inr ⟨h7, by omega⟩⟩
      · exact .inr ⟨h6, .inr ⟨h7, by omega⟩⟩
  · rw [show (arr.set (A + I) (if arr.getD (A + I) 0 < (T.getD J noQ).c.getD I 0 then (T.getD J noQ).c.getD I 0 else arr.getD (A + I) 0)).getD q 0 = arr.getD q 0 from by rw [List.getD_eq_getElem?_getD, List.getElem?_set_ne e, ← List.getD_eq_getElem?_getD]]
    refine (h q hq).congr (CandQ.congr fun j a i _ _ _ h5 => ?_)
    unfold D3
    constructor
    · rintro (h6 | ⟨h6, h7 | ⟨h7, h8⟩⟩)
      · exact .inl h6
      · exact .inr ⟨h6, .inl h7⟩
      · exact .inr ⟨h6, .inr ⟨h7, by omega⟩⟩
    · rintro (h6 | ⟨h6, h7 | ⟨h7, h8⟩⟩)
      · exact .inl h6
      · exact .inr ⟨h6, .inl h7⟩
      · by_cases ei : i = I
        · omega
        · exact .inr ⟨h6, .inr ⟨h7, by omega⟩⟩
theorem MaxAll.all {T : List PPat} {s : ByteArray} {arr : List Int} (h : MaxAll T s T.length 0 0 arr) (hl : arr.length = s.size + 1) : arr = levL T s (s.size + 1) :=
  levL_of hl fun q hq => (h q (by omega)).congr (CandQ.congr fun j a i _ _ _ _ => by unfold D3; constructor <;> intro h6 <;> first | (rcases h6 with h6 | ⟨h6, h7⟩ <;> omega) | exact .inl h6)
def Blk (w : World) (g : Nat) (t : ByteArray) (p1 p2 : Bool) (u : Value) : Prop := w.heap[g]? = some (.cells #[.string t, .bool p1, .bool p2, u] 28 (0, 0))
theorem Blk.cells {w : World} {g : Nat} {t : ByteArray} {p1 p2 : Bool} {u : Value} (h : Blk w g t p1 p2 u) : w.cell? ⟨g, 0, none⟩ = some (.string t) ∧ w.cell? ⟨g, 1, none⟩ = some (.bool p1) ∧ w.cell? ⟨g, 2, none⟩ = some (.bool p2) ∧ w.cell? ⟨g, 3, none⟩ = some u := by
  unfold Blk at h
  exact ⟨by rw [cell_of_row w g 0 _ _ _ h]; rfl, by rw [cell_of_row w g 1 _ _ _ h]; rfl, by rw [cell_of_row w g 2 _ _ _ h]; rfl, by rw [cell_of_row w g 3 _ _ _ h]; rfl⟩
theorem Blk.set {w : World} {g g' k : Nat} {t : ByteArray} {p1 p2 : Bool} {u : Value} (h : Blk w g t p1 p2 u) (v : Value) (hne : g ≠ g') : Blk (w.setCell ⟨g', k, none⟩ v) g t p1 p2 u := by
  unfold Blk at h ⊢
  rw [heap_setCell_other w ⟨g', k, none⟩ g v (by simp; exact hne)]
  exact h
theorem grown_storeQ (w : World) (g k : Nat) (u : Value) : w.grownBy (w.setCell ⟨g, k, none⟩ u) (some g) :=
  ⟨rfl, rfl, rfl, by simp [World.setCell], fun i _ hne => heap_setCell_other w ⟨g, k, none⟩ i u (by simp at hne ⊢; exact hne)⟩
set_option maxRecDepth 20000 in
set_option maxHeartbeats 8000000 in
theorem s_levels (w : World) (v : Value) (T : List PPat) (s : ByteArray) (hx : PatsAt w v T) (hv : Hid (OkH T s)) :
    Calls Try.prog 48 #[v, .string s] w fun e w' => LM (levL T s (s.size + 1)) w e w' := by
  obtain ⟨i0, hi, hz0, hz1, hz2⟩ := info_parts infoInt
  have hsl : s.size ≤ 16 := by have h2 := hv.out.2.2.1; rw [wd_size] at h2; exact h2
  have HX := keptQ hx
  obtain ⟨a, cp, rfl, _⟩ := hx
  obtain ⟨n, hn⟩ : ∃ n, T.length = n := ⟨_, rfl⟩
  rw [hn] at HX ⊢
  have HN := Lib.hid hn
  have hn12 : n ≤ 12 := by rw [← hn]; exact hv.out.1.1
  obtain ⟨n1, hn1⟩ : ∃ n1, s.size + 1 = n1 := ⟨_, rfl⟩
  have u0 : IntKind.i64.wrap ((s.size : Int) + 1) = (n1 : Int) := by rw [← hn1]; exact IntWalk.i64_in _ (by omega)
  have HN1 := Lib.hid hn1
  have hn17 : n1 ≤ 17 := by omega
  rw [hn1]
  clear hn hn1
  go_enter Try.func48, Try.ntmps48
  go_wp2_with (at_make; refine wpList_make_full _ rfl _ _ 26 rfl w.heap.size 3 i0 (.int .i64 0) 1 Try.underlying26 hi hz0 hz1 .i64 .i64 n1 n1 n1 rfl rfl rfl rfl (by rw [hz2]; omega) (by unfold maxLen; omega) (Nat.le_refl _) ?_)
  intro w1 hown hgr
  have hB1 : Below w.heap.size w w1 := ⟨hgr.os, hgr.tape, hgr.output, hgr.size, fun k hk => hgr.block k hk (by simp)⟩
  have hO1 : OwnInts w1 w.heap.size (.slice (some ⟨w.heap.size, 0, none⟩) n1 n1) (List.replicate n1 0) := by
    unfold OwnInts
    rw [List.length_replicate, ← made_ints]
    exact hown
  have HO1 := keptQ hO1
  have HB1 := keptQ hB1
  have HM1 := keptQ (MaxAll.start T s n1)
  clear hown hgr hB1 hO1 hi hz0 hz1 hz2 u0
  go_wp2
  go_loopw [6] (fun y wr => ∃ (J : Nat) (arr : List Int), J ≤ n ∧ y = .int .i64 J ∧ Hid (MaxAll T s J 0 0 arr) ∧ Hid (arr.length = n1) ∧ Hid (OwnInts wr w.heap.size (.slice (some ⟨w.heap.size, 0, none⟩) n1 n1) arr) ∧ Hid (Below w.heap.size w wr)) (fun y _ => n - (intOf y).toNat)
  case atStart => exact ⟨0, List.replicate n1 0, Nat.zero_le _, rfl, HM1, List.length_replicate, HO1, HB1⟩
  case round =>
    clear HM1 HO1 HB1
    obtain ⟨wo, rfl⟩ : ∃ wo, wo = wr := ⟨wr, rfl⟩
    obtain ⟨J, arr0, hJ, rfl, HM, HL, HO, HB⟩ := hrel
    have hszo := HB.out.size
    have hlt0 := (HO.out.lt w.heap.size rfl).2
    by_cases hJn : J < n
    · obtain ⟨g, off, rfl⟩ := HX.out.someAddrQ (by rw [HN.out]; omega)
      have hJT : J < T.length := by rw [HN.out]; exact hJn
      have hra := (HX.out.below HB.out).nth hJT
      have hraw := HX.out.nth hJT
      have hvr := hv.out.1.2 J hJT
      obtain ⟨r, hr⟩ : ∃ r, T.getD J noQ = r := ⟨_, rfl⟩
      rw [hr] at hra hraw hvr
      have HR := Lib.hid hr
      clear hr
      obtain ⟨t, p1, p2, zs⟩ := r
      obtain ⟨c0, c1, c2, ⟨u, c3, hu⟩⟩ := hra
      obtain ⟨_, _, _, ⟨u', c3', hu'⟩⟩ := hraw
      have euu : u' = u := by
        have h9 := (HB.out.cell (World.block_lt_of_cell? w _ c3')).trans c3'
        rw [c3] at h9
        injection h9 with h9
        exact h9.symm
      subst euu
      obtain ⟨a2, cp2, rfl, _⟩ := hu
      have HUW := keptQ hu'
      simp only at c0 c1 c2 c3
      obtain ⟨nl, hnl⟩ : ∃ nl, zs.length = nl := ⟨_, rfl⟩
      have ht6 : 1 ≤ t.size ∧ t.size ≤ 6 := by have h1 := hvr.1.1; have h2 := hvr.1.2.1; rw [wd_size] at h1 h2; exact ⟨h1, h2⟩
      have hnlt : nl = t.size + 1 := by have h1 := hvr.2.1; simp only at h1; omega
      rw [hnl] at c3 HUW
      have HNL := Lib.hid hnl
      have HNT := Lib.hid hnlt
      have q1 : (0 : Int) ≤ (J : Int) := by omega
      have q2 : (J : Int) < (n : Int) := by omega
      have kA := heap_alloc_new wo (.cells #[.string t, .bool p1, .bool p2, .slice a2 nl cp2] 28)
      have hBa : Below wo.heap.size wo (wo.alloc (.cells #[.string t, .bool p1, .bool p2, .slice a2 nl cp2] 28)) := (Below.refl _ _).alloc (Nat.le_refl _) _
      obtain ⟨wa, hwa⟩ : ∃ wa, wo.alloc (.cells #[.string t, .bool p1, .bool p2, .slice a2 nl cp2] 28) = wa := ⟨_, rfl⟩
      have HWA := Lib.hid hwa
      rw [hwa] at kA hBa
      have HBK : Hid (Blk wa wo.heap.size t p1 p2 (.slice a2 nl cp2)) := kA
      have HOa := keptQ (HO.out.below hBa)
      have HBa := keptQ (HB.out.trans (hBa.mono hszo))
      clear hnl hnlt hvr hwa kA hBa HB HO hu'
      go_wp2_with fail
      rw [HWA.out]
      clear c0 c1 c2 c3 c3'
      go_wp2_with fail
      go_loopw [8] (fun y wr => ∃ (A : Nat) (arr : List Int), A ≤ s.size + 1 ∧ y = .int .i64 A ∧ Hid (MaxAll T s J A 0 arr) ∧ Hid (arr.length = n1) ∧ Hid (OwnInts wr w.heap.size (.slice (some ⟨w.heap.size, 0, none⟩) n1 n1) arr) ∧ Hid (Below w.heap.size w wr) ∧ Hid (Blk wr wo.heap.size t p1 p2 (.slice a2 nl cp2))) (fun y _ => s.size + 2 - (intOf y).toNat)
      case atStart => exact ⟨0, arr0, Nat.zero_le _, rfl, HM, HL, HOa, HBa, HBK⟩
      case round =>
        clear HM HL HOa HBa HBK
        obtain ⟨wm, rfl⟩ : ∃ wm, wm = wr := ⟨wr, rfl⟩
        obtain ⟨A, arr, hA, rfl, HM, HL, HO, HB, HBK⟩ := hrel
        obtain ⟨e0, e1, e2, e3⟩ := HBK.out.cells
        have uA : IntKind.i64.wrap ((A : Int) + (t.size : Int)) = (A : Int) + (t.size : Int) := IntWalk.i64_in _ (by omega)
        by_cases hAs : A + t.size ≤ s.size
        · have d1 : decide ((A : Int) + (t.size : Int) ≤ (s.size : Int)) = true := decide_eq_true (by omega)
          have b1 : (0 : Int) ≤ (A : Int) := by omega
          have b2 : (A : Int) + (t.size : Int) ≤ (s.size : Int) := by omega
          have b3 : (A : Int) ≤ (A : Int) + (t.size : Int) := by omega
          have n1' : ((A : Int) + (t.size : Int)).toNat = A + t.size := by omega
          have n2' : ((A : Int)).toNat = A := by omega
          have HFQ : Hid (FitQ (T.getD J noQ) s (A : Int) ↔ s.extract A (A + t.size) = t ∧ (p1 = true → A = 0) ∧ (p2 = true → A + t.size = s.size)) := by
            show _ ↔ _
            rw [HR.out]
            unfold FitQ
            simp only [n2']
            constructor
            · rintro ⟨_, _, h3, h4, h5⟩; exact ⟨h3, fun h => by have := h4 h; omega, fun h => by have := h5 h; omega⟩
            · rintro ⟨h3, h4, h5⟩; exact ⟨by omega, by omega, h3, fun h => by have := h4 h; omega, fun h => by have := h5 h; omega⟩
          by_cases e : s.extract A (A + t.size) = t
          · have x3 : (s.extract A (A + t.size)).toList = t.toList := by rw [e]
            have HEX := Lib.hid e
            have hcase : (¬ FitQ (T.getD J noQ) s (A : Int) ∧ ((p1 = true ∧ ((A : Int) == 0) = false) ∨ (p1 = false ∧ p2 = true ∧ ((A : Int) + (t.size : Int) == (s.size : Int)) = false) ∨ (p1 = true ∧ ((A : Int) == 0) = true ∧ p2 = true ∧ ((A : Int) + (t.size : Int) == (s.size : Int)) = false))) ∨
                (FitQ (T.getD J noQ) s (A : Int) ∧ ((p1 = false ∧ p2 = false) ∨ (p1 = false ∧ p2 = true ∧ ((A : Int) + (t.size : Int) == (s.size : Int)) = true) ∨ (p1 = true ∧ ((A : Int) == 0) = true ∧ p2 = false) ∨ (p1 = true ∧ ((A : Int) == 0) = true ∧ p2 = true ∧ ((A : Int) + (t.size : Int) == (s.size : Int)) = true))) := by
              have hq := HFQ.out
              by_cases hA0 : A = 0
              · have f0 : ((A : Int) == 0) = true := by simp; omega
                by_cases hAe : A + t.size = s.size
                · have f1 : ((A : Int) + (t.size : Int) == (s.size : Int)) = true := by simp; omega
                  right
                  refine ⟨hq.2 ⟨e, fun _ => hA0, fun _ => hAe⟩, ?_⟩
                  rw [f0, f1]
                  cases p1 <;> cases p2 <;> simp
                · have f1 : ((A : Int) + (t.size : Int) == (s.size : Int)) = false := by simp; omega
                  cases p2 with
                  | true =>
                    left
                    refine ⟨fun h => hAe ((hq.1 h).2.2 rfl), ?_⟩
                    rw [f0, f1]
                    cases p1 <;> simp
                  | false =>
                    right
                    refine ⟨hq.2 ⟨e, fun _ => hA0, fun h => (by cases h)⟩, ?_⟩
                    rw [f0]
                    cases p1 <;> simp
              · have f0 : ((A : Int) == 0) = false := by simp; omega
                cases p1 with
                | true =>
                  left
                  exact ⟨fun h => hA0 ((hq.1 h).2.1 rfl), .inl ⟨rfl, f0⟩⟩
                | false =>
                  by_cases hAe : A + t.size = s.size
                  · have f1 : ((A : Int) + (t.size : Int) == (s.size : Int)) = true := by simp; omega
                    right
                    refine ⟨hq.2 ⟨e, fun h => (by cases h), fun _ => hAe⟩, ?_⟩
                    rw [f1]
                    cases p2 <;> simp
                  · have f1 : ((A : Int) + (t.size : Int) == (s.size : Int)) = false := by simp; omega
                    cases p2 with
                    | true =>
                      left
                      exact ⟨fun h => hAe ((hq.1 h).2.2 rfl), .inr (.inl ⟨rfl, rfl, f1⟩)⟩
                    | false =>
                      right
                      exact ⟨hq.2 ⟨e, fun h => (by cases h), fun h => (by cases h)⟩, .inl ⟨rfl, rfl⟩⟩
            clear e HFQ
            rcases hcase with ⟨hnf, hcase⟩ | ⟨hf, hcase⟩
            · have HM' : Hid (MaxAll T s J (A + 1) 0 arr) := HM.out.skip hnf
              clear hnf HM
              rcases hcase with ⟨rfl, f0⟩ | ⟨rfl, rfl, f1⟩ | ⟨rfl, f0, rfl, f1⟩
              all_goals
                go_wp2_with fail
                go_quiet (fail)
                go_wp2
                go_roundw
                case rel => exact ⟨A + 1, arr, by omega, by go_num, HM', HL, HO.out, below_drewN HB.out _, HBK.out⟩
                case measure => simp [intOf]; omega
            · have HFF := keptQ hf
              clear hf
              rcases hcase with ⟨rfl, rfl⟩ | ⟨rfl, rfl, f1⟩ | ⟨rfl, f0, rfl⟩ | ⟨rfl, f0, rfl, f1⟩
              all_goals
                go_wp2_with fail
                go_quiet (fail)
                go_wp2
                go_loopw [9] (fun y wr => ∃ (I : Nat) (arr1 : List Int), I ≤ nl ∧ y = .int .i64 I ∧ Hid (MaxAll T s J A I arr1) ∧ Hid (arr1.length = n1) ∧ Hid (OwnInts wr w.heap.size (.slice (some ⟨w.heap.size, 0, none⟩) n1 n1) arr1) ∧ Hid (Below w.heap.size w wr) ∧ Hid (Blk wr wo.heap.size t _ _ (.slice a2 nl cp2))) (fun y _ => nl - (intOf y).toNat)
                case atStart => exact ⟨0, arr, Nat.zero_le _, rfl, HM, HL, HO.out, below_drewN HB.out _, HBK.out⟩
                case round =>
                  clear HM HL HO HB HBK e0 e1 e2 e3
                  obtain ⟨wi, rfl⟩ : ∃ wi, wi = wr := ⟨wr, rfl⟩
                  obtain ⟨I, arr1, hI, rfl, HM1, HL1, HO1, HB1, HBK1⟩ := hrel
                  obtain ⟨_, _, _, k3⟩ := HBK1.out.cells
                  have hnt := HNT.out
                  have h1n := HN1.out
                  by_cases hIl : I < nl
                  · have cq := HO1.out.cell HL1.out (k := A + I) (by omega)
                    have fq := HO1.out.free HL1.out (A + I)
                    obtain ⟨g3, off3, rfl, cz⟩ := (HUW.out.below HB1.out).cellQ (k := I) (by rw [HNL.out]; exact hIl)
                    obtain ⟨z, hz⟩ : ∃ z, zs.getD I 0 = z := ⟨_, rfl⟩
                    obtain ⟨mm, hmm⟩ : ∃ mm, arr1.getD (A + I) 0 = mm := ⟨_, rfl⟩
                    rw [hz] at cz
                    rw [hmm] at cq
                    have HM2 : Hid (MaxAll T s J A (I + 1) (arr1.set (A + I) (if mm < z then z else mm))) := by
                      have h9 := HM1.out.more hJT (by rw [HR.out]; simp only; rw [HNL.out]; exact hIl) HFF.out (by rw [HL1.out]; omega)
                      rw [HR.out] at h9
                      simp only at h9
                      rw [hz, hmm] at h9
                      exact h9
                    have uI : IntKind.i64.wrap ((A : Int) + (I : Int)) = (A : Int) + (I : Int) := IntWalk.i64_in _ (by omega)
                    have r1 : (0 : Int) ≤ (A : Int) + (I : Int) := by omega
                    have r2 : (A : Int) + (I : Int) < (n1 : Int) := by omega
                    have r3 : ((A : Int) + (I : Int)).toNat = A + I := by omega
                    have r4 : (0 : Int) ≤ (I : Int) := by omega
                    have r5 : (I : Int) < (nl : Int) := by omega
                    clear hz hmm hnt h1n HM1
                    go_wp2_with fail
                    go_region
                    all_goals
                      obtain ⟨m2, hm2⟩ : ∃ m2, (if mm < z then z else mm) = m2 := ⟨_, rfl⟩
                      rw [hm2]
                      rw [hm2] at HM2
                      have HO2 : Hid (OwnInts (wi.drew.setCell ⟨w.heap.size, A + I, none⟩ (.int .i64 m2)) w.heap.size (.slice (some ⟨w.heap.size, 0, none⟩) n1 n1) (arr1.set (A + I) m2)) := (show OwnInts wi.drew w.heap.size (.slice (some ⟨w.heap.size, 0, none⟩) n1 n1) arr1 from HO1.out).store HL1.out (A + I) m2
                      have HB2 : Hid (Below w.heap.size w (wi.drew.setCell ⟨w.heap.size, A + I, none⟩ (.int .i64 m2))) := (show Below w.heap.size w wi.drew from HB1.out.drew).setCell (p := ⟨w.heap.size, A + I, none⟩) (Nat.le_refl _) (.int .i64 m2)
                      have HBK2 : Hid (Blk (wi.drew.setCell ⟨w.heap.size, A + I, none⟩ (.int .i64 m2)) wo.heap.size t _ _ (.slice (some ⟨g3, off3, none⟩) nl cp2)) := (show Blk wi.drew wo.heap.size t _ _ (.slice (some ⟨g3, off3, none⟩) nl cp2) from HBK1.out).set _ (by omega)
                      have HL2 : Hid ((arr1.set (A + I) m2).length = n1) := by show _ = _; rw [List.length_set]; exact HL1.out
                      clear hm2 cq fq cz HO1 HB1 HBK1 HL1
                      go_wp2
                      go_roundw
                      case rel => exact ⟨I + 1, arr1.set (A + I) m2, by omega, by go_num, HM2, HL2, HO2, HB2, HBK2⟩
                      case measure => simp [intOf]; omega
                  · obtain rfl : I = nl := by omega
                    have HM' : Hid (MaxAll T s J (A + 1) 0 arr1) := MaxAll.next (by rw [HR.out]; simp only; rw [HNL.out]; exact HM1.out)
                    clear HM1 hnt h1n
                    go_wp2
                    go_roundw
                    case rel => exact ⟨A + 1, arr1, by omega, by go_num, HM', HL1, HO1, HB1, HBK1⟩
                    case measure => simp [intOf]; omega
          · have e3' := toList_neQ e
            have e5 : ((s.extract A (A + t.size)).toList == t.toList) = false := by simpa using e3'
            have HM' : Hid (MaxAll T s J (A + 1) 0 arr) := HM.out.skip fun h => e (HFQ.out.1 h).1
            clear e HFQ HM
            go_wp2_with fail
            go_quiet (fail)
            go_wp2
            go_roundw
            case rel => exact ⟨A + 1, arr, by omega, by go_num, HM', HL, HO.out, below_drewN HB.out _, HBK.out⟩
            case measure => simp [intOf]; omega
        · have d1 : decide ((A : Int) + (t.size : Int) ≤ (s.size : Int)) = false := decide_eq_false (by omega)
          have HM' : Hid (MaxAll T s (J + 1) 0 0 arr) := HM.out.down (by rw [HR.out]; simp only; omega)
          clear HM
          go_wp2
          go_roundw
          case rel => exact ⟨J + 1, arr, by omega, by go_num, HM', HL, HO, HB⟩
          case measure => simp [intOf]; omega
    · obtain rfl : J = n := by omega
      have HF : Hid (OwnInts wo w.heap.size (.slice (some ⟨w.heap.size, 0, none⟩) n1 n1) (levL T s n1)) := by
        have h9 := MaxAll.all (T := T) (s := s) (arr := arr0) (by rw [HN.out]; exact HM.out) (by rw [HN1.out]; exact HL.out)
        rw [HN1.out] at h9
        rw [← h9]
        exact HO.out
      clear HM HO
      go_wp2
      go_ret
      exact ⟨_, rfl, HF.out, HB.out, _, _, _, rfl⟩
end Go.Proofs.Ytpohkeenfbaklaa
