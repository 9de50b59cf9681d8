
/- Drawn pictures that may be invalid: anyPicture. -/
import Derived.Test.YthpbpdnlnmldeaaJe
import Derived.Deep.RegionHeld3
namespace Go.Proofs.Ythpbpdnlnmldeaa
open Go.RowKit

/-- the first row of rows of one's own, and what putting another in its place leaves -/
theorem OwnLL.first {w : World} {base top n c : Nat} {a : Option Addr} {P : List (List Int)} (h : OwnLL w base top (.slice a n c) P) (hn : 0 < n) :
    ∃ g b d, a = some ⟨g, 0, none⟩ ∧ P.length = n ∧ w.cell? ⟨g, 0, none⟩ = some (.slice (some ⟨b, 0, none⟩) (P.getD 0 []).length d) ∧ OwnInts w base (.slice (some ⟨b, 0, none⟩) (P.getD 0 []).length d) (P.getD 0 []) ∧ base ≤ b ∧ base ≤ g ∧ g < w.heap.size ∧ b < w.heap.size ∧ w.frozen? ⟨g, 0, none⟩ = false ∧ g ≠ b ∧
      ∀ (wX : World) (u : Value) (zs : List Int), wX.cell? ⟨g, 0, none⟩ = some u → IntsAt wX u zs → (∀ i, i ≠ 0 → wX.cell? ⟨g, i, none⟩ = w.cell? ⟨g, i, none⟩) → (∀ k, base ≤ k → k < w.heap.size → k ≠ b → k ≠ g → wX.heap[k]? = w.heap[k]?) → ListsAt wX (.slice a n c) (P.set 0 zs) := by
  obtain ⟨k0, kv, us, B, C, k1, k2, k3⟩ := h
  have hc := k1
  rcases k1.2 with ⟨hv, hn0⟩ | ⟨g, cap, cur, hv, hgb, hgg, hx1, hx2, hx3, hx4⟩
  · injection hv with _ e _; omega
  · injection hv with e1 e2 e3
    subst e1 e2 e3
    have hcell : ∀ i, i < P.length → w.cell? ⟨g, i, none⟩ = some (.slice (some ⟨B i, 0, none⟩) (P.getD i []).length (C i)) := fun i hi => by
      have := hc.cells (g := g) (by simp [Value.ownBlock]) i _ (k2 i hi).1
      rw [show (⟨g, 0, none⟩ : Addr).add i = ⟨g, 0 + i, none⟩ from by unfold Addr.add; split <;> simp_all, Nat.zero_add] at this
      exact this
    have hglt := (hc.lt g rfl).2
    have hne : ∀ i, i < P.length → g ≠ B i := fun i hi e => by
      obtain ⟨_, cur', h5⟩ := (k2 i hi).2.1.typ
      rw [← e, hgg] at h5
      injection h5 with h5
      injection h5 with _ h5 _
      exact absurd h5 (by decide)
    obtain ⟨p4, p5, p6⟩ := k2 0 hn
    refine ⟨g, B 0, C 0, rfl, rfl, hcell 0 hn, p5, p5.typ.1, hgb, hglt, (p5.lt (B 0) rfl).2, hc.frozenAt 0, hne 0 hn, fun wX u zs hu0 hu hci hw => ?_⟩
    refine ⟨_, c, by rw [List.length_set], by rw [List.length_set]; exact hx1, by unfold maxLen at hx2; exact hx2, .inr ⟨g, 0, rfl, fun i hi => ?_⟩⟩
    rw [List.length_set] at hi
    rw [Nat.zero_add]
    by_cases e : i = 0
    · subst e
      have e2 : (P.set 0 zs).getD 0 [] = zs := by rw [List.getD_eq_getElem?_getD, List.getElem?_set_self hn]; rfl
      rw [e2]
      exact ⟨u, hu0, hu⟩
    · have e2 : (P.set 0 zs).getD i [] = P.getD i [] := by rw [List.getD_eq_getElem?_getD, List.getElem?_set_ne (by omega), ← List.getD_eq_getElem?_getD]
      rw [e2]
      obtain ⟨q4, q5, q6⟩ := k2 i hi
      refine ⟨_, (hci i e).trans (hcell i hi), ?_⟩
      have hbi := (q5.lt (B i) rfl).2
      have hb1 : wX.heap[B i]? = w.heap[B i]? := hw (B i) q5.typ.1 hbi (k3 0 i (by omega) hi).symm (fun e => hne i hi e.symm)
      obtain ⟨a5, c5, h51, h52, h53, h54⟩ := q5.at
      refine ⟨a5, c5, h51, h52, h53, ?_⟩
      rcases h54 with h54 | ⟨g5, off5, h54, h55⟩
      · exact .inl h54
      · refine .inr ⟨g5, off5, h54, fun j hj => ?_⟩
        injection h51 with h51 _ _
        rw [h54] at h51
        injection h51 with h51
        injection h51 with h51 h51' _
        subst h51
        rw [World.cell?_of_block (a := ⟨B i, off5 + j, none⟩) hb1]
        exact h55 j hj
/-- not more than 12 rows of at most 13 numbers -/
def PicBd (L : List (List Int)) : Prop := L.length ≤ 12 ∧ ∀ zs ∈ L, zs.length ≤ 13
theorem PicBd.small {L : List (List Int)} (h : PicBd L) : ListsSmall L := by
  refine ⟨by have := h.1; omega, fun i hi => ?_⟩
  have := h.2 (L.getD i []) (by rw [List.getD_eq_getElem?_getD, List.getElem?_eq_getElem hi, Option.getD_some]; exact List.getElem_mem hi)
  omega
theorem PicBd.of_bits {P : List (List Int)} {m : Nat} (h : Bits P m) (h1 : P.length ≤ 12) (h2 : m ≤ 12) : PicBd P := ⟨h1, fun zs hz => by have := (h zs hz).1; omega⟩
theorem PicBd.set {P : List (List Int)} {zs : List Int} (h : PicBd P) (hz : zs.length ≤ 13) : PicBd (P.set 0 zs) := ⟨by rw [List.length_set]; exact h.1, fun ys hy => by
  rcases List.mem_or_eq_of_mem_set hy with hy | rfl
  · exact h.2 ys hy
  · exact hz⟩
def PicAny (w : World) (B R L p : Nat) (e : Ending) (w' : World) : Prop :=
  ∃ a n c P q, e = .returned (.slice a n c) ∧ (∀ w2, w'.grownBy w2 (some R) → ListsAt w2 (.slice a n c) P) ∧ PicBd P ∧ RD w' B R L q ∧ q ≤ p + 500 ∧ w.grownBy w' (some R)
theorem grown_setI {w w1 : World} {R b g : Nat} (h : w.grownBy w1 (some R)) (hb : w.heap.size ≤ g) (u : Value) : w.grownBy (w1.setCell ⟨g, b, none⟩ u) (some R) :=
  grown_own h (grown_store w1 g b u) (fun x hx => by injection hx with hx; omega)
theorem RD.setI {w : World} {B R L p g b S : Nat} (h : RD w B R L p) (hR : R < S) (hg : S ≤ g) (u : Value) : RD (w.setCell ⟨g, b, none⟩ u) B R L p :=
  h.over (grown_store w g b u) (fun x hx => by injection hx with hx; omega) hR
set_option maxHeartbeats 2000000 in
theorem anyPicture_any (w : World) (B R L p : Nat) (h : RD w B R L p) (hp : p ≤ 1000000000) :
    Calls Try.prog 37 #[.pointer (some ⟨R, 0, none⟩)] w fun e w' => PicAny w B R L p e w' := by
  obtain ⟨i0, hi, hz0, hz1, hz2⟩ := info_parts infoInt
  have hR := h.lt
  go_enter Try.func37, Try.ntmps37
  go_wp2_with fail
  refine (somePicture_any w B R L p h (by omega)).mono ?_
  rintro e w1 ⟨a, n, c, P, m, q, rfl, hO, hPn, hn1, hn2, hm1, hm2, hbits, hrd, hq, hG⟩
  have HPn := Lib.hid hPn
  have HBits := keptI hbits
  have HO := keptI hO
  have HG := keptI hG
  clear h hbits hO hG hPn
  go_wp2_with fail
  refine (pick_any w1 B R L q _ hrd (by omega) (by omega) (by omega)).mono ?_
  rintro e w2 ⟨k, rfl, hk, hrd2, hgr2⟩
  have hO2 := HO.out.overRI hgr2 hR
  have HG2 := keptI (grown_trans HG.out hgr2)
  have HRD2 := keptI hrd2
  have hs2 := HG2.out.size
  have hR2 := hrd2.lt
  have HBD : Hid (PicBd P) := PicBd.of_bits HBits.out (by rw [HPn.out]; omega) hm2
  obtain ⟨g, b, d, rfl, hpl, c0, hI, hb1, hg1, hglt, hblt, hfz, hgb, hput⟩ := hO2.first (by omega)
  have hlen : (P.getD 0 []).length = m := (HBits.out _ (by rw [List.getD_eq_getElem?_getD, List.getElem?_eq_getElem (by rw [HPn.out]; omega), Option.getD_some]; exact List.getElem_mem _)).1
  obtain ⟨zs, hzs⟩ : ∃ zs, P.getD 0 [] = zs := ⟨_, rfl⟩
  rw [hzs] at hlen c0 hI
  rw [hlen] at c0 hI
  have HLEN := Lib.hid hlen
  have HI := keptI hI
  have HPUT := keptI hput
  have HO2 := keptI hO2
  have q0 : (0 : Int) < (n : Int) := by omega
  have q00 : 0 < n := by omega
  have q1 : (0 : Int) < (m : Int) := by omega
  have q11 : 0 < m := by omega
  clear hgr2 hrd hrd2 hlen hzs hI hput hO2 HO HG hpl
  by_cases k0 : k = 0
  · subst k0
    have hal : Below w2.heap.size w2 (w2.alloc (.cells #[.int .i64 1] 3)) := (Below.refl _ _).alloc (Nat.le_refl _) _
    have HOA : Hid ((w2.alloc (.cells #[.int .i64 1] 3)).ownsRow w.heap.size 3 1 (.slice (some ⟨b, 0, none⟩) m d) zs.length (ints zs)) := HI.out.below hal
    have hzl : zs.length ≤ 100 := by have := HLEN.out; omega
    clear hal
    go_wp2_with (at_builtin; refine wpList_append_own _ rfl _ _ 30 rfl w.heap.size 3 i0 (.int .i64 0) 1 8 Try.underlying30 hi hz0 hz1 hz2 rfl (by decide) _ _ _ rfl HOA.out ⟨w2.heap.size, 0, none⟩ 1 1 [.int .i64 1] rfl rfl new_one one_cell (by unfold maxLen; omega) (by omega) (by simp; omega) ?_)
    intro v' w5 hown' hgrow _
    have R1 := OwnInts.snoc hown'
    have hgrow2 : w2.grownBy w5 (some b) := ⟨hgrow.os, hgrow.tape, hgrow.output, by have := hgrow.size; rw [World.size_alloc] at this; omega, fun i hi2 hne => (hgrow.block i (by rw [World.size_alloc]; omega) hne).trans (Below.heap_alloc w2 _ i hi2)⟩
    have hw5 : ∀ k, k < w2.heap.size → k ≠ b → w5.heap[k]? = w2.heap[k]? := fun k hk hne => hgrow2.block k hk (fun e => by injection e with e; exact hne e)
    have c5 : w5.cell? ⟨g, 0, none⟩ = some (.slice (some ⟨b, 0, none⟩) m d) := by rw [World.cell?_of_block (a := ⟨g, 0, none⟩) (hw5 g hglt hgb)]; exact c0
    have f5 : w5.frozen? ⟨g, 0, none⟩ = false := by
      unfold World.frozen? at hfz ⊢
      rw [show w5.heap[(⟨g, 0, none⟩ : Addr).block]? = w2.heap[(⟨g, 0, none⟩ : Addr).block]? from hw5 g hglt hgb]; exact hfz
    obtain ⟨a5, n5, c5', hv5⟩ := R1.isSlice
    subst hv5
    have hnb : ∀ x, (Value.slice a5 n5 c5').ownBlock = some x → x ≠ g := fun x hx e => by
      subst e
      obtain ⟨cur, hcur⟩ := HO2.out.ls.row x rfl |>.2
      rcases R1.2 with ⟨hv, _⟩ | ⟨g', cap', cur', hv, _, hg', _⟩
      · rw [hv] at hx; simp [Value.ownBlock] at hx
      · rw [hv] at hx
        simp [Value.ownBlock] at hx
        subst hx
        rw [hw5 g' hglt hgb, hcur] at hg'
        injection hg' with hg'
        injection hg' with _ hg' _
        exact absurd hg' (by decide)
    have R1s : OwnInts (w5.setCell ⟨g, 0, none⟩ (.slice a5 n5 c5')) w.heap.size (.slice a5 n5 c5') (zs ++ [1]) := by
      have hk := grown_store w5 g 0 (.slice a5 n5 c5')
      exact World.ownsRow.kept R1 hk (.inr fun e => hnb g e rfl)
    have c6x : (w5.setCell ⟨g, 0, none⟩ (.slice a5 n5 c5')).cell? ⟨g, 0, none⟩ = some (.slice a5 n5 c5') := World.cell?_setCell_same w5 _ _ c5
    have HL5 : Hid (∀ w2', (w5.setCell ⟨g, 0, none⟩ (.slice a5 n5 c5')).grownBy w2' (some R) → ListsAt w2' (.slice (some ⟨g, 0, none⟩) n c) (P.set 0 (zs ++ [1]))) := fun w2' hg' => by
      have hbl : ∀ k, w.heap.size ≤ k → k < w5.heap.size → w2'.heap[k]? = (w5.setCell ⟨g, 0, none⟩ (.slice a5 n5 c5')).heap[k]? := fun k h1 h2 => hg'.block k (by simp [World.setCell]; exact h2) (by simp; omega)
      have hg5 : g < w5.heap.size := by have := hgrow2.size; omega
      have hgb2 := hbl g hg1 hg5
      refine HPUT.out w2' (.slice a5 n5 c5') (zs ++ [1]) (by rw [World.cell?_of_block (a := ⟨g, 0, none⟩) hgb2]; exact c6x) (OwnInts.overR R1s hg' (by omega)).at (fun i hi => ?_) (fun k h1 h2 h3 h4 => ?_)
      · rw [World.cell?_of_block (a := ⟨g, i, none⟩) hgb2, World.cell?_setCell_other w5 ⟨g, 0, none⟩ ⟨g, i, none⟩ _ (fun e3 => by injection e3; omega), World.cell?_of_block (a := ⟨g, i, none⟩) (hw5 g hglt hgb)]
      · rw [hbl k h1 (by have := hgrow2.size; omega), heap_setCell_other w5 ⟨g, 0, none⟩ k _ (by simp; omega), hw5 k h2 h3]
    have HBD5 : Hid (PicBd (P.set 0 (zs ++ [1]))) := HBD.out.set (by have := HLEN.out; simp; omega)
    have HG5 := keptI (grown_setI (grown_own HG2.out hgrow2 (fun x hx => by injection hx with hx; omega)) hg1 (.slice a5 n5 c5') (b := 0))
    have HR5 := keptI ((HRD2.out.over hgrow2 (fun x hx => by injection hx with hx; omega) hR).setI hR hg1 (.slice a5 n5 c5') (b := 0))
    have c6 : (w5.setCell ⟨g, 0, none⟩ (.slice a5 n5 c5')).cell? ⟨g, 0, none⟩ = some (.slice a5 n5 c5') := World.cell?_setCell_same w5 _ _ c5
    have f6 : (w5.setCell ⟨g, 0, none⟩ (.slice a5 n5 c5')).frozen? ⟨g, 0, none⟩ = false := by rw [World.frozen?_setCell]; exact f5
    have hs5 : w2.heap.size ≤ (w5.setCell ⟨g, 0, none⟩ (.slice a5 n5 c5')).heap.size := by have := hgrow2.size; simp [World.setCell]; exact this
    have HHP : Hid (n = 1 → ∀ w2', ((((w5.setCell ⟨g, 0, none⟩ (.slice a5 n5 c5')).alloc (.cells #[] 3)).setCell ⟨g, 0, none⟩ (.slice (some ⟨w5.heap.size, 0, none⟩) 0 0)).grownBy w2' (some R)) → ListsAt w2' (.slice (some ⟨g, 0, none⟩) n c) [[]]) := fun hn w2' hg' => by
      have c7 : ((w5.setCell ⟨g, 0, none⟩ (.slice a5 n5 c5')).alloc (.cells #[] 3)).cell? ⟨g, 0, none⟩ = some (.slice a5 n5 c5') := by
        rw [World.cell?_of_block (Below.heap_alloc _ _ _ (World.block_lt_of_cell? _ _ c6))]; exact c6
      have c8 := World.cell?_setCell_same _ _ (.slice (some ⟨w5.heap.size, 0, none⟩) 0 0) c7
      obtain ⟨_, _, e, y1, y2, _⟩ := HL5.out _ (World.grownBy.refl _ _)
      injection e with e1 e2 e3
      subst e3
      rw [List.length_set] at y1
      have hL := HPn.out
      subst hn
      refine ⟨_, c, rfl, by simp; omega, y2, .inr ⟨g, 0, rfl, fun i hi => ?_⟩⟩
      obtain rfl : i = 0 := by simp at hi; omega
      refine ⟨_, (World.cell?_of_block (a := ⟨g, 0, none⟩) (hg'.block g (World.block_lt_of_cell? _ _ c8) (by simp; omega))).trans c8, _, 0, rfl, Nat.le_refl _, by omega, .inl rfl⟩
    clear hgrow hown' hgrow2 hw5 R1 R1s hnb
    by_cases hn1' : n = 1
    · have HP1 := keptI (HHP.out hn1')
      have d1 : ((n : Int) == 1) = true := by simp [hn1']
      have HGx := keptI (grown_setI (grown_trans HG5.out (World.grownBy_alloc _ (.cells #[] 3) (some R))) hg1 (.slice (some ⟨w5.heap.size, 0, none⟩) 0 0) (b := 0))
      have HRx := keptI ((HR5.out.alloc (.cells #[] 3)).setI hR hg1 (.slice (some ⟨w5.heap.size, 0, none⟩) 0 0) (b := 0))
      have HBDx : Hid (PicBd [[]]) := ⟨by simp, fun ys hy => by simp at hy; subst hy; simp⟩
      have c7 : ((w5.setCell ⟨g, 0, none⟩ (.slice a5 n5 c5')).alloc (.cells #[] 3)).cell? ⟨g, 0, none⟩ = some (.slice a5 n5 c5') := by
        rw [World.cell?_of_block (Below.heap_alloc _ _ _ (World.block_lt_of_cell? _ _ c6))]; exact c6
      have f7 : ((w5.setCell ⟨g, 0, none⟩ (.slice a5 n5 c5')).alloc (.cells #[] 3)).frozen? ⟨g, 0, none⟩ = false := by
        unfold World.frozen? at f6 ⊢
        rw [Below.heap_alloc _ _ _ (World.block_lt_of_cell? _ _ c6)]; exact f6
      obtain ⟨n', hn'⟩ : ∃ n', n' = n := ⟨n, rfl⟩
      clear hn1' HHP
      go_wp2
      go_ret
      exact ⟨_, _, _, _, q + 1, rfl, HP1.out, HBDx.out, HRx.out, by omega, HGx.out⟩
    · have d1 : ((n : Int) == 1) = false := by simp; omega
      clear hn1' HHP
      go_wp2
      go_ret
      exact ⟨_, _, _, _, q + 1, rfl, HL5.out, HBD5.out, HR5.out, by omega, HG5.out⟩
  · have e0 : ((k : Int) == 0) = false := by simp; omega
    by_cases k1 : k = 1
    · subst k1
      clear e0
      have HC4 : Hid (∀ wy : World, wy.heap[g]? = w2.heap[g]? → wy.cell? ⟨g, 0, none⟩ = some (.slice (some ⟨b, 0, none⟩) m d)) := fun wy h => by rw [World.cell?_of_block (a := ⟨g, 0, none⟩) h]; exact c0
      have HRg : Hid (R < g ∧ R < b) := ⟨by omega, by omega⟩
      have hal : Below w2.heap.size w2 (w2.alloc (.cells #[.int .i64 2, .int .i64 (-1)] 3)) := (Below.refl _ _).alloc (Nat.le_refl _) _
      have HIA := keptI (HI.out.below hal)
      have HOA := keptI (HO2.out.below hal (Nat.le_trans HO2.out.1 (Nat.le_refl _)))
      have HRDA : Hid (RD (w2.alloc (.cells #[.int .i64 2, .int .i64 (-1)] 3)).drew B R L (q + 1)) := HRD2.out.alloc _
      have HNEW : Hid ((w2.alloc (.cells #[.int .i64 2, .int .i64 (-1)] 3)).drew.heap[w2.heap.size]? = some (.cells ([2, -1].map (Value.int .i64)).toArray 3 (0, 0))) := heap_alloc_new w2 _
      have HGA : Hid (w.grownBy (w2.alloc (.cells #[.int .i64 2, .int .i64 (-1)] 3)).drew (some R)) := by
        have h := grown_trans HG2.out (World.grownBy_alloc w2 (.cells #[.int .i64 2, .int .i64 (-1)] 3) (some R))
        exact ⟨h.os, h.tape, h.output, h.size, h.block⟩
      have hgA : (w2.alloc (.cells #[.int .i64 2, .int .i64 (-1)] 3)).drew.heap[g]? = w2.heap[g]? := Below.heap_alloc w2 _ g hglt
      have HC5 := keptI (HC4.out _ hgA)
      have HgA := keptI hgA
      have hlt9 : g < (w2.alloc (.cells #[.int .i64 2, .int .i64 (-1)] 3)).drew.heap.size := by show g < (w2.alloc _).heap.size; rw [World.size_alloc]; omega
      have HLT9 := keptI hlt9
      clear hal hgA hlt9
      go_wp2_with fail
      set_option maxRecDepth 20000 in
      go_region_held3 (fun wy => wy.cell? ⟨g, 0, none⟩ = some (.slice (some ⟨b, 0, none⟩) m d)) (first | assumption | exact HC4.out _ rfl | exact HC5.out | exact HK9 | exact (World.cell?_setCell_other w4 ⟨b, 0, none⟩ ⟨g, 0, none⟩ _ (fun e => hgb (by injection e with e; exact e.symm))).trans HK9) (first | (go_at_call 38; (refine (one_any _ B R L (q + 1) w2.heap.size 2 2 [2, -1] HRDA.out HNEW.out (by omega) (Lib.hid rfl) (by omega) (by omega) (by omega)).mono ?_); rintro e w4 ⟨z, rfl, hz, hrd4, hgr4⟩; have HK9 := HC4.out w4 ((hgr4.block g HLT9.out (by simp; omega)).trans HgA.out); have hI4 := OwnInts.overR (w' := w4) HIA.out ⟨hgr4.os, hgr4.tape, hgr4.output, hgr4.size, hgr4.block⟩ hR; have c0z := hI4.cell HLEN.out q11; have f0z := hI4.free HLEN.out 0; have HI4 := keptI hI4; have HO4 := keptI (OwnLL.overRI (w' := w4) HOA.out ⟨hgr4.os, hgr4.tape, hgr4.output, hgr4.size, hgr4.block⟩ hR); have HG4 := keptI (grown_trans HGA.out hgr4); have HRD4 := keptI hrd4; have HZ4 := keptI hz; (obtain ⟨z0, hz0⟩ : ∃ z0, zs.getD 0 0 = z0 := ⟨_, rfl⟩); rw [hz0] at c0z; clear hz0 hI4 hgr4 hrd4 hz))
      all_goals
        have hK : (w4.setCell ⟨b, 0, none⟩ (.int .i64 z)).cell? ⟨g, 0, none⟩ = some (.slice (some ⟨b, 0, none⟩) m d) := by assumption
        rw [World.cell?_setCell_other w4 ⟨b, 0, none⟩ ⟨g, 0, none⟩ _ (fun e => hgb (by injection e with e; exact e.symm))] at hK
        obtain ⟨g5, b5, d5, e5, hp5, c5, hI5, hb5, hb5', hset5⟩ := HO4.out.nth (i := 0) q00
        injection e5 with e5
        injection e5 with e5 _
        subst e5
        rw [hK] at c5
        injection c5 with c5
        injection c5 with c51 c52 c53
        injection c51 with c51
        injection c51 with c51 _
        subst c51 c53
        have hlz : (P.getD 0 []).length = m := c52.symm
        rw [hlz] at hset5
        have hl2 : (zs.set 0 z).length = m := by rw [List.length_set]; exact HLEN.out
        have hO9 := hset5 (w4.setCell ⟨b, 0, none⟩ (.int .i64 z)) (zs.set 0 z) hl2 (HI4.out.store HLEN.out 0 z) (HI4.out.stored' HLEN.out 0 (.int .i64 z))
        have HL9 := keptI (fun w2' (hg' : World.grownBy _ w2' (some R)) => (hO9.overRI hg' hR).ls.at)
        have HBD9 : Hid (PicBd (P.set 0 (zs.set 0 z))) := HBD.out.set (by omega)
        have HG9 := keptI (grown_setI HG4.out hb1 (.int .i64 z) (b := 0))
        have HR9 := keptI (HRD4.out.setI hR hb1 (.int .i64 z) (b := 0))
        clear hK hI5 hset5 hlz hl2 hO9 hp5 c52
        go_wp2
        go_ret
        exact ⟨_, _, _, _, q + 1 + 1, rfl, HL9.out, HBD9.out, HR9.out, by omega, HG9.out⟩
    · have e1 : ((k : Int) == 1) = false := by simp; omega
      by_cases k2 : k = 2
      · subst k2
        have HLN : Hid (∀ w2', w2.grownBy w2' (some R) → ListsAt w2' (.slice none 0 0) []) := fun _ _ => ListsAt.nil _
        have HBN : Hid (PicBd []) := ⟨by simp, fun ys hy => absurd hy (by simp)⟩
        clear e0 e1
        go_wp2
        go_ret
        exact ⟨_, _, _, _, q + 1, rfl, HLN.out, HBN.out, HRD2.out, by omega, HG2.out⟩
      · have e2 : ((k : Int) == 2) = false := by simp; omega
        have HLL := keptI (fun w2' (hg' : World.grownBy w2 w2' (some R)) => (HO2.out.overRI hg' hR).ls.at)
        go_wp2
        go_ret
        exact ⟨_, _, _, _, q + 1, rfl, HLL.out, HBD.out, HRD2.out, by omega, HG2.out⟩
end Go.Proofs.Ythpbpdnlnmldeaa
