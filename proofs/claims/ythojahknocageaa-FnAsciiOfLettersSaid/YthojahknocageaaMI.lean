/- Merged: Hg Hh Hi Hj Hk. -/
import Derived.Test.YthojahknocageaaMH
import Derived.Deep.MidRow
import Derived.Deep.RegionLaw
import Derived.Test.YthojahknocageaaMG
import Derived.Test.YthojahknocageaaME

/- The fewest cells from each place on, in the program. -/
namespace Go.Proofs.Ythojahknocageaa
open Go.RowKit

def noughtsH (q : Nat) : List Int := List.replicate q 0
/-- among one letter and the first j of the rules, m is the least cost -/
def LowR (T : List PRule) (A : Nat → Int) (k : Nat) (L : List Int) (j : Nat) (m : Int) : Prop :=
  m ≤ 1 + A (k + 1) ∧ (∀ x, x < j → m ≤ costR T k A (L.getD x 0)) ∧ (m = 1 + A (k + 1) ∨ ∃ x, x < j ∧ m = costR T k A (L.getD x 0))
theorem LowR.zero (T : List PRule) (A : Nat → Int) (k : Nat) (L : List Int) : LowR T A k L 0 (1 + A (k + 1)) := ⟨Int.le_refl _, fun x h => absurd h (by omega), .inl rfl⟩
theorem LowR.less {T : List PRule} {A : Nat → Int} {k : Nat} {L : List Int} {j : Nat} {m : Int} (h : LowR T A k L j m) (e : costR T k A (L.getD j 0) < m) : LowR T A k L (j + 1) (costR T k A (L.getD j 0)) := by
  obtain ⟨h1, h2, h3⟩ := h
  refine ⟨by omega, fun x hx => ?_, .inr ⟨j, by omega, rfl⟩⟩
  by_cases ex : x = j
  · subst ex; exact Int.le_refl _
  · have := h2 x (by omega); omega
theorem LowR.more {T : List PRule} {A : Nat → Int} {k : Nat} {L : List Int} {j : Nat} {m : Int} (h : LowR T A k L j m) (e : ¬ costR T k A (L.getD j 0) < m) : LowR T A k L (j + 1) m := by
  obtain ⟨h1, h2, h3⟩ := h
  refine ⟨h1, fun x hx => ?_, ?_⟩
  · by_cases ex : x = j
    · subst ex; omega
    · exact h2 x (by omega)
  · rcases h3 with h3 | ⟨x, hx, h3⟩
    · exact .inl h3
    · exact .inr ⟨x, by omega, h3⟩
theorem LowR.all {T : List PRule} {s : ByteArray} {A : Nat → Int} {k : Nat} {m : Int} (h : LowR T A k (rulesL T s k) (rulesL T s k).length m) : MinAt T s A k m := by
  obtain ⟨h1, h2, h3⟩ := h
  refine ⟨h1, fun j hj => ?_, ?_⟩
  · obtain ⟨y, hy, ey⟩ := List.getElem_of_mem ((mem_rulesL).2 ⟨j, rfl, hj⟩)
    have e3 : (rulesL T s k).getD y 0 = (j : Int) := by rw [List.getD_eq_getElem?_getD, List.getElem?_eq_getElem hy]; exact ey
    have := h2 y hy
    rw [e3] at this
    exact this
  · rcases h3 with h3 | ⟨x, hx, h3⟩
    · exact .inl h3
    · obtain ⟨j, e, hj⟩ := (mem_rulesL).1 (getD_mem hx : (rulesL T s k).getD x 0 ∈ rulesL T s k)
      exact .inr ⟨j, hj, by rw [h3, e]⟩
theorem row_doneR {T : List PRule} {s : ByteArray} {zs : List Int} {k : Nat} {m : Int} (hv : ValidTb T) (hk : k < s.size) (hz : s.size < zs.length) (hL : LeastUp T s (arrF zs) (k + 1)) (hS : SmF zs s.size) (h : LowR T (arrF zs) k (rulesL T s k) (rulesL T s k).length m) (h3 : 0 ≤ m) :
    LeastUp T s (arrF (zs.set k m)) k ∧ SmF (zs.set k m) s.size := by
  have hm := h.all
  have hb := hm.1
  have hs1 : arrF zs (k + 1) ≤ (s.size - (k + 1) : Nat) := (hS (k + 1)).2
  refine ⟨⟨?_, fun x h1 h2 => ?_⟩, fun j => ?_⟩
  · show (zs.set k m).getD s.size 0 = 0
    rw [setD_ne (by omega)]; exact hL.1
  · by_cases e : x = k
    · subst e
      have e2 : arrF (zs.set x m) x = m := setD_eq (by omega)
      rw [e2]
      exact hm.congr hv hk fun y h5 h6 => (setD_ne (by omega)).symm
    · have h5 := hL.2 x (by omega) h2
      have e2 : arrF (zs.set k m) x = arrF zs x := setD_ne (by omega)
      rw [e2]
      exact h5.congr hv h2 fun y h6 h7 => (setD_ne (by omega)).symm
  · by_cases e : k = j
    · subst e
      rw [setD_eq (by omega)]
      omega
    · rw [setD_ne e]; exact hS j
def twoH (w : World) : World := (w.alloc (.cells (ints (noughtsH 17)).toArray 69)).alloc (.cells (ints (noughtsH 17)).toArray 69)
theorem twoH_is (w : World) : ArrH (twoH w) w.heap.size 69 (noughtsH 17) ∧ ArrH (twoH w) (w.heap.size + 1) 69 (noughtsH 17) ∧ Below w.heap.size w (twoH w) := by
  obtain ⟨w1, h1⟩ : ∃ w1, w.alloc (.cells (ints (noughtsH 17)).toArray 69) = w1 := ⟨_, rfl⟩
  have s1 : w1.heap.size = w.heap.size + 1 := by rw [← h1]; exact World.size_alloc _ _
  have a1 : ArrH w1 w.heap.size 69 (noughtsH 17) := by rw [← h1]; exact heap_alloc_new w _
  have b1 : Below w.heap.size w w1 := by rw [← h1]; exact (Below.refl _ _).alloc (Nat.le_refl _) _
  have b2 : Below w1.heap.size w1 (w1.alloc (.cells (ints (noughtsH 17)).toArray 69)) := (Below.refl _ _).alloc (Nat.le_refl _) _
  have a2 : ArrH (w1.alloc (.cells (ints (noughtsH 17)).toArray 69)) w1.heap.size 69 (noughtsH 17) := heap_alloc_new w1 _
  unfold twoH
  rw [h1, ← s1]
  exact ⟨a1.below b2 (by omega), a2, below_next b1 b2⟩
theorem OwnInts.addrH {w : World} {S n c : Nat} {a : Option Addr} {zs : List Int} (h : OwnInts w S (.slice a n c) zs) (hn : 0 < zs.length) : ∃ g, a = some ⟨g, 0, none⟩ ∧ S ≤ g ∧ g < w.heap.size ∧ zs.length = n := by
  rcases h.2 with ⟨e, h0⟩ | ⟨g, cap, cur, e, h1, h2, _⟩
  · omega
  · have e' := e
    injection e with e1 e2 _
    subst e1
    exact ⟨g, rfl, (h.lt g rfl).1, (h.lt g rfl).2, e2.symm⟩
theorem list17 {zs : List Int} (h : zs.length = 17) : ∃ y0 y1 y2 y3 y4 y5 y6 y7 y8 y9 y10 y11 y12 y13 y14 y15 y16, zs = [y0, y1, y2, y3, y4, y5, y6, y7, y8, y9, y10, y11, y12, y13, y14, y15, y16] := by
  match zs, h with
  | [y0, y1, y2, y3, y4, y5, y6, y7, y8, y9, y10, y11, y12, y13, y14, y15, y16], _ => exact ⟨_, _, _, _, _, _, _, _, _, _, _, _, _, _, _, _, _, rfl⟩
def LeastMade (T : List PRule) (s : ByteArray) (w : World) (e : Ending) (w' : World) : Prop :=
  ∃ zs : List Int, e = .returned (.agg (ints zs).toArray) ∧ zs.length = 17 ∧ SmF zs s.size ∧ LeastUp T s (arrF zs) 0 ∧ Below w.heap.size w w'
set_option maxRecDepth 20000 in
set_option maxHeartbeats 4000000 in
theorem i_leastCells (w : World) (v : Value) (T : List PRule) (s : ByteArray) (hx : TableAt w v T) (hv : Hid (ValidTb T)) (hw : Hid (WordB 16 s.data.toList)) :
    Calls Try.prog 63 #[v, .string s] w fun e w' => LeastMade T s w e w' := by
  have hsl : 1 ≤ s.size ∧ s.size ≤ 16 := by have h1 := hw.out.1; have h2 := hw.out.2.1; rw [wd_size] at h1 h2; exact ⟨h1, h2⟩
  have HX := keptH hx
  obtain ⟨ta, tc, rfl, _⟩ := hx
  have HSZ := Lib.hid (sz_small hv.out)
  have hT16 : T.length ≤ 16 := hv.out.1
  obtain ⟨tn, htn⟩ : ∃ tn, T.length = tn := ⟨_, rfl⟩
  rw [htn] at HX hT16 ⊢
  have HTN := Lib.hid htn
  obtain ⟨h4, h5, hB0⟩ := twoH_is w
  have HL0 : Hid (LeastUp T s (arrF (noughtsH 17)) s.size) := LeastUp.zero _ _ _
  have HS0 : Hid (SmF (noughtsH 17) s.size) := SmF.zero _ _
  have u1 : IntKind.i64.wrap ((s.size : Int) - 1) = (s.size : Int) - 1 := IntWalk.i64_in _ (by omega)
  clear htn
  go_enter Try.func63, Try.ntmps63
  go_wp2
  obtain ⟨w0, hw0⟩ : ∃ w0, twoH w = w0 := ⟨_, rfl⟩
  change Code.wp _ _ _ _ (twoH w)
  rw [hw0] at h4 h5 hB0 ⊢
  clear hw0
  go_loopw [6] (fun y wr => ∃ (k : Nat) (q : Int) (zs : List Int), k ≤ s.size ∧ y = .int .i64 q ∧ q = (k : Int) - 1 ∧ Hid (ArrH wr w.heap.size 69 (noughtsH 17)) ∧ Hid (ArrH wr (w.heap.size + 1) 69 zs) ∧ Hid (Below w.heap.size w wr) ∧ zs.length = 17 ∧ Hid (SmF zs s.size) ∧ Hid (LeastUp T s (arrF zs) k)) (fun y _ => (intOf y + 1).toNat)
  case atStart => exact ⟨s.size, _, noughtsH 17, Nat.le_refl _, by go_num, rfl, h4, h5, hB0, rfl, HS0, HL0⟩
  case round =>
    clear h4 h5 hB0 HL0 HS0 u1
    obtain ⟨wo, rfl⟩ : ∃ wo, wo = wr := ⟨wr, rfl⟩
    obtain ⟨k, q, zs, hk, rfl, hq, H4, H5, HB, hzs, HSM, HLU⟩ := hrel
    by_cases hlt : 0 < k
    · obtain ⟨i, rfl⟩ : ∃ i, k = i + 1 := ⟨k - 1, by omega⟩
      obtain rfl : q = (i : Int) := by omega
      clear hq
      have d0 : decide ((0 : Int) ≤ (i : Int)) = true := decide_eq_true (by omega)
      have hin : i < s.size := by omega
      have HZS := Lib.hid hzs
      have c1 := H5.out.cell (k := i + 1) (by omega)
      obtain ⟨z1, hz1⟩ : ∃ z1, zs.getD (i + 1) 0 = z1 := ⟨_, rfl⟩
      have hz1b := HSM.out (i + 1)
      rw [hz1] at c1 hz1b
      have HZ1 := Lib.hid hz1
      have ci := H5.out.cell (k := i) (by omega)
      have fi := H5.out.free i
      have H5a := keptH (H5.out.set (k := i) (1 + z1))
      have H4a := keptH (H4.out.other (k := i) (.int .i64 (1 + z1)) (show w.heap.size ≠ w.heap.size + 1 by omega))
      have HBa := keptH (HB.out.setCell (p := ⟨w.heap.size + 1, i, none⟩) (by show w.heap.size ≤ w.heap.size + 1; omega) (.int .i64 (1 + z1)))
      have HL1 : Hid (LowR T (arrF zs) i (rulesL T s i) 0 (1 + z1)) := by
        have := LowR.zero T (arrF zs) i (rulesL T s i)
        rw [show arrF zs (i + 1) = z1 from hz1] at this
        exact this
      have u2 : IntKind.i64.wrap ((i : Int) + 1) = (i : Int) + 1 := IntWalk.i64_in _ (by omega)
      have u3 : IntKind.i64.wrap (1 + z1) = 1 + z1 := IntWalk.i64_in _ (by omega)
      have b1 : (0 : Int) ≤ (i : Int) := by omega
      have b2 : (i : Int) + 1 < 17 := by omega
      have b3 : (i : Int) < 17 := by omega
      have b4 : (0 : Int) ≤ (i : Int) + 1 := by omega
      have b5 : ((i : Int) + 1).toNat = i + 1 := by omega
      clear hz1 H4 H5 HB hzs
      go_wp2_with fail
      obtain ⟨wa, hwa⟩ : ∃ wa, wo.setCell ⟨w.heap.size + 1, i, none⟩ (.int .i64 (1 + z1)) = wa := ⟨_, rfl⟩
      rw [hwa] at H4a H5a HBa ⊢
      clear hwa c1 ci fi
      have hsa := HBa.out.size
      have hla := H5a.out.lt
      refine (i_rulesAt wa _ T s i (HX.out.below HBa.out) hv hsl.1 hsl.2 (by omega) (by omega)).mono ?_
      rintro e w2 ⟨v2, rfl, hO2, hb2, a2, n2, c2, rfl⟩
      have hn2 : (rulesL T s i).length = n2 := by
        obtain ⟨_, _, e, _⟩ := hO2.at
        injection e with _ e2 _
        exact e2.symm
      have hn16 : n2 ≤ 16 := by rw [← hn2]; have := rulesTo_le T s i T.length; unfold rulesL; rw [HTN.out] at this ⊢; omega
      have HN2 := Lib.hid hn2
      have HO2 := keptH hO2
      have hl4 := H4a.out.lt
      have H4b := keptH (H4a.out.below hb2 hl4)
      have H5b := keptH (H5a.out.below hb2 hla)
      have HBb := keptH (below_next HBa.out hb2)
      clear hO2 hb2 hn2 H4a H5a HBa
      go_wp2
      go_loopw [28] (fun y wr => ∃ (j : Nat) (m : Int), j ≤ n2 ∧ y = .int .i64 j ∧ Hid (LowR T (arrF zs) i (rulesL T s i) j m) ∧ (0 ≤ m ∧ m ≤ 40) ∧ Hid (ArrH wr w.heap.size 69 (noughtsH 17)) ∧ Hid (ArrH wr (w.heap.size + 1) 69 (zs.set i m)) ∧ Hid (Below w.heap.size w wr) ∧ Hid (OwnInts wr wa.heap.size (.slice a2 n2 c2) (rulesL T s i))) (fun y _ => n2 - (intOf y).toNat)
      case atStart => exact ⟨0, 1 + z1, Nat.zero_le _, rfl, HL1, by omega, H4b, H5b, HBb, HO2⟩
      case round =>
        clear HL1 H4b H5b HBb HO2
        obtain ⟨wi, rfl⟩ : ∃ wi, wi = wr := ⟨wr, rfl⟩
        obtain ⟨j, m, hj, rfl, HLR, hm, H4, H5, HB, HO⟩ := hrel
        have hszi := HB.out.size
        by_cases hjn : j < n2
        · have hjl : j < (rulesL T s i).length := by rw [HN2.out]; exact hjn
          obtain ⟨g2, rfl, hg2, hg2', _⟩ := HO.out.addrH (by omega)
          have cj := HO.out.cell HN2.out hjn
          obtain ⟨jj, ejj, hap⟩ := (mem_rulesL).1 (getD_mem hjl : (rulesL T s i).getD j 0 ∈ rulesL T s i)
          rw [ejj] at cj
          have hjt : jj < tn := by have := hap.1; have := HTN.out; omega
          have hsz := hap.size hv.out
          rw [szR_nat] at hsz
          obtain ⟨gt, offt, rfl⟩ := HX.out.someAddr (by rw [HTN.out]; omega)
          have hra := (HX.out.below HB.out).nth (k := jj) (by rw [HTN.out]; exact hjt)
          have hvr := hv.out.2.1 jj (by rw [HTN.out]; exact hjt)
          have hcost : costR T i (arrF zs) (jj : Int) = ((T.getD jj noR).c.length : Int) + zs.getD (i + (T.getD jj noR).t.size) 0 := by
            unfold costR czR arrF
            rw [if_neg (by omega), szR_nat, Int.toNat_natCast]
          obtain ⟨rr, hrr⟩ : ∃ rr, T.getD jj noR = rr := ⟨_, rfl⟩
          rw [hrr] at hra hvr hsz hcost
          obtain ⟨t, ys, pq⟩ := rr
          obtain ⟨c0, ⟨u, c1, hu⟩, c2'⟩ := hra
          obtain ⟨au, cu, rfl, _⟩ := hu
          have hyl := hvr.2.1
          simp only at c0 c1 c2' hsz hyl hcost
          obtain ⟨n3, hn3⟩ : ∃ n3, ys.length = n3 := ⟨_, rfl⟩
          rw [hn3] at c1 hyl hcost
          have hyb := HSM.out (i + t.size)
          obtain ⟨x, hx⟩ : ∃ x, (n3 : Int) + zs.getD (i + t.size) 0 = x := ⟨_, rfl⟩
          have hxb : 0 ≤ x ∧ x ≤ 40 := by omega
          have hset : (zs.set i m).getD (i + t.size) 0 = zs.getD (i + t.size) 0 := setD_ne (by omega)
          have HXV : Hid ((n3 : Int) + (zs.set i m).getD (i + t.size) 0 = x) := by show _ = _; rw [hset, hx]
          have hset2 : 0 ≤ (zs.set i m).getD (i + t.size) 0 ∧ (zs.set i m).getD (i + t.size) 0 ≤ 100 := by rw [hset]; omega
          have HCX : Hid (costR T i (arrF zs) ((rulesL T s i).getD j 0) = x) := by show _ = _; rw [ejj, hcost, hx]
          have HS2 := keptH hset2
          have hzl : (zs.set i m).length = 17 := by rw [List.length_set]; exact HZS.out
          have HZL := Lib.hid hzl
          have ci := H5.out.cell (k := i) (by rw [hzl]; omega)
          rw [setD_eq (by rw [HZS.out]; omega)] at ci
          have hg5 := H5.out.lt
          obtain ⟨y0, y1, y2, y3, y4, y5, y6, y7, y8, y9, y10, y11, y12, y13, y14, y15, y16, hcs⟩ := list17 hzl
          have HK : Hid (∀ wx, Below wi.heap.size wi wx → wx.cell? ⟨gt, offt + jj * 3, none⟩ = some (.string t) ∧ wx.cell? ⟨gt, offt + jj * 3 + 1, none⟩ = some (.slice au n3 cu) ∧ wx.cell? ⟨gt, offt + jj * 3 + 2, none⟩ = some (.int .i64 pq) ∧ wx.cell? ⟨w.heap.size + 1, i, none⟩ = some (.int .i64 m) ∧ wx.frozen? ⟨w.heap.size + 1, i, none⟩ = false) := fun wx h =>
            ⟨(h.cell (World.block_lt_of_cell? wi _ c0)).trans c0, (h.cell (World.block_lt_of_cell? wi _ c1)).trans c1, (h.cell (World.block_lt_of_cell? wi _ c2')).trans c2', (h.cell (World.block_lt_of_cell? wi _ ci)).trans ci, (H5.out.below h hg5).free i⟩
          have HR : Hid (ArrH wi.drew (w.heap.size + 1) 69 [y0, y1, y2, y3, y4, y5, y6, y7, y8, y9, y10, y11, y12, y13, y14, y15, y16]) := by rw [← hcs]; exact H5.out.below ((Below.refl _ _).drew) hg5
          have q1 : (0 : Int) ≤ (jj : Int) := by omega
          have q2 : (jj : Int) < (tn : Int) := by omega
          have q3 : (0 : Int) ≤ (j : Int) := by omega
          have q4 : (j : Int) < (n2 : Int) := by omega
          have q5 : i + t.size ≤ 16 := by omega
          have q6 : n3 ≤ 2 := by omega
          have HCC : Hid (Calls Try.prog 79 #[.agg #[.string t, .slice au n3 cu, .int .i64 pq], .int .i64 i, .agg #[.int .i64 y0, .int .i64 y1, .int .i64 y2, .int .i64 y3, .int .i64 y4, .int .i64 y5, .int .i64 y6, .int .i64 y7, .int .i64 y8, .int .i64 y9, .int .i64 y10, .int .i64 y11, .int .i64 y12, .int .i64 y13, .int .i64 y14, .int .i64 y15, .int .i64 y16]] wi.drew fun e w' => e = .returned (.int .i64 x) ∧ Below wi.drew.heap.size wi.drew w') := by
            have h9 := i_cellsWith wi.drew t au n3 cu pq i (zs.set i m) x HZL.out q5 q6 HS2.out HXV
            rw [hcs] at h9
            exact h9
          clear hx hset hset2 hcost hrr hn3 ejj hyb hvr hzl hap c0 c1 c2' ci hcs
          go_wp2_with fail
          obtain ⟨e0, e1, e2, e3, e4⟩ := HK.out wi.drew (Below.refl _ _).drew
          have gc0 := HR.out.cell (k := 0) (by simp)
          have gc1 := HR.out.cell (k := 1) (by simp)
          have gc2 := HR.out.cell (k := 2) (by simp)
          have gc3 := HR.out.cell (k := 3) (by simp)
          have gc4 := HR.out.cell (k := 4) (by simp)
          have gc5 := HR.out.cell (k := 5) (by simp)
          have gc6 := HR.out.cell (k := 6) (by simp)
          have gc7 := HR.out.cell (k := 7) (by simp)
          have gc8 := HR.out.cell (k := 8) (by simp)
          have gc9 := HR.out.cell (k := 9) (by simp)
          have gc10 := HR.out.cell (k := 10) (by simp)
          have gc11 := HR.out.cell (k := 11) (by simp)
          have gc12 := HR.out.cell (k := 12) (by simp)
          have gc13 := HR.out.cell (k := 13) (by simp)
          have gc14 := HR.out.cell (k := 14) (by simp)
          have gc15 := HR.out.cell (k := 15) (by simp)
          have gc16 := HR.out.cell (k := 16) (by simp)
          simp only [List.getD_cons_zero, List.getD_cons_succ] at gc0 gc1 gc2 gc3 gc4 gc5 gc6 gc7 gc8 gc9 gc10 gc11 gc12 gc13 gc14 gc15 gc16
          go_region_law (go_simp; go_at_call 79; (with_reducible refine HCC.out.mono ?_); rintro e w5 ⟨rfl, hb5⟩; obtain ⟨f0, f1, f2, f3, f4⟩ := HK.out w5 ((Below.refl _ _).drew.trans hb5))
          all_goals
            obtain ⟨mm, hmm⟩ : ∃ mm, (if x < m then x else m) = mm := ⟨_, rfl⟩
            rw [hmm]
            have HL' : Hid (LowR T (arrF zs) i (rulesL T s i) (j + 1) mm) := by
              show LowR _ _ _ _ _ _
              rw [← hmm]
              by_cases hc : x < m
              · rw [if_pos hc]
                have h9 := HLR.out.less (by rw [HCX.out]; exact hc)
                rw [HCX.out] at h9
                exact h9
              · rw [if_neg hc]
                exact HLR.out.more (by rw [HCX.out]; exact hc)
            have hmb : 0 ≤ mm ∧ mm ≤ 40 := by
              rw [← hmm]
              split <;> omega
            have hB5 : Below wi.heap.size wi w5 := (Below.refl _ _).drew.trans hb5
            have H5' : Hid (ArrH (w5.setCell ⟨w.heap.size + 1, i, none⟩ (.int .i64 mm)) (w.heap.size + 1) 69 (zs.set i mm)) := by
              have h9 := (H5.out.below hB5 hg5).set (k := i) mm
              rw [List.set_set] at h9
              exact h9
            have H4' := keptH ((H4.out.below hB5 (by omega)).other (k := i) (.int .i64 mm) (show w.heap.size ≠ w.heap.size + 1 by omega))
            have HB' := keptH ((HB.out.trans (hB5.mono hszi)).setCell (p := ⟨w.heap.size + 1, i, none⟩) (by show w.heap.size ≤ w.heap.size + 1; omega) (.int .i64 mm))
            have HO' : Hid (OwnInts (w5.setCell ⟨w.heap.size + 1, i, none⟩ (.int .i64 mm)) wa.heap.size (.slice (some ⟨g2, 0, none⟩) n2 c2) (rulesL T s i)) := (HO.out.below hB5).kept (grown_store w5 (w.heap.size + 1) i (.int .i64 mm)) (.inr fun e => by simp [Value.ownBlock] at e; omega)
            clear hmm hB5 hb5 HLR HCX H5 H4 HB HO HK HR HCC f0 f1 f2 f3 f4 e0 e1 e2 e3 e4 gc0 gc1 gc2 gc3 gc4 gc5 gc6 gc7 gc8 gc9 gc10 gc11 gc12 gc13 gc14 gc15 gc16
            go_wp2
            go_roundw
            case rel => exact ⟨j + 1, mm, by omega, by go_num, HL', hmb, H4', H5', HB', HO'⟩
            case measure => simp [intOf] <;> omega
        · obtain rfl : j = n2 := by omega
          have hdone := row_doneR (T := T) (s := s) (zs := zs) (k := i) (m := m) hv.out hin (by rw [HZS.out]; omega) HLU.out HSM.out (by rw [HN2.out]; exact HLR.out) hm.1
          have HD1 := keptH hdone.1
          have HD2 := keptH hdone.2
          have hz2 : (zs.set i m).length = 17 := by rw [List.length_set]; exact HZS.out
          clear hdone HLR HLU HSM
          go_wp2
          go_roundw
          case rel => exact ⟨i, (i : Int) - 1, zs.set i m, by omega, by go_num, rfl, H4, H5, HB, hz2, HD2, HD1⟩
          case measure => simp [intOf] <;> omega
    · obtain rfl : k = 0 := by omega
      obtain rfl : q = -1 := by omega
      clear hq
      have hl4 := H4.out.lt
      have HBZ := keptH (below_setRowH HB.out (Nat.le_refl _) (ints zs).toArray)
      have HAZ : Hid (ArrH (wo.setRow w.heap.size (ints zs).toArray) w.heap.size 69 zs) := setRow_heap wo w.heap.size _ _ _ _ H4.out
      have hca : (ints zs).toArray.all (·.oneCell') = true := by
        rw [Array.all_eq_true_iff_forall_mem]
        intro x hx
        exact ints_oneCell' zs x (by simpa using hx)
      go_wp2_with (first | (refine wpList_load_row rfl 69 _ rfl (w.heap.size + 1) rfl 69 (ints zs).toArray (0, 0) _ H5.out Try.underlying69 rfl (by rw [size17]; simp [ints, hzs]) ?_) | (refine wpList_store_row rfl 69 _ _ rfl w.heap.size (ints zs).toArray rfl rfl 69 (ints (noughtsH 17)).toArray H4.out (by rw [size17]; simp [ints, hzs]) (by simp [ints, hzs, noughtsH]) hca ?_))
      refine bodyPost_ret (results_cell_row rfl _ _ w.heap.size 69 (ints zs).toArray (0, 0) _ rfl HAZ.out Try.underlying69 rfl (by rw [size17]; simp [ints, hzs])) rfl ?_
      exact ⟨zs, rfl, hzs, HSM.out, HLU.out, HBZ.out⟩
end Go.Proofs.Ythojahknocageaa


/- The rules that keep to the fewest cells, and the best pieces, in the program. -/
namespace Go.Proofs.Ythojahknocageaa
open Go.RowKit

/-- of the first j rules those that keep to the least number -/
def keepTo (T : List PRule) (k : Nat) (A : Nat → Int) (L : List Int) (j : Nat) : List Int := (L.take j).filter fun r => decide (costR T k A r = A k)
theorem keepTo_yes {T : List PRule} {k : Nat} {A : Nat → Int} {L : List Int} {j : Nat} (hj : j < L.length) (h : costR T k A (L.getD j 0) = A k) : keepTo T k A L (j + 1) = keepTo T k A L j ++ [L.getD j 0] := by
  unfold keepTo
  have e : L.getD j 0 = L[j] := by rw [List.getD_eq_getElem?_getD, List.getElem?_eq_getElem hj]; rfl
  rw [e] at h ⊢
  rw [List.take_add_one, List.getElem?_eq_getElem hj, List.filter_append]
  simp [h]
theorem keepTo_no {T : List PRule} {k : Nat} {A : Nat → Int} {L : List Int} {j : Nat} (hj : j < L.length) (h : costR T k A (L.getD j 0) ≠ A k) : keepTo T k A L (j + 1) = keepTo T k A L j := by
  unfold keepTo
  have e : L.getD j 0 = L[j] := by rw [List.getD_eq_getElem?_getD, List.getElem?_eq_getElem hj]; rfl
  rw [e] at h
  rw [List.take_add_one, List.getElem?_eq_getElem hj, List.filter_append]
  simp [h]
theorem keepTo_le {T : List PRule} {k : Nat} {A : Nat → Int} {L : List Int} {j : Nat} : (keepTo T k A L j).length ≤ j := by
  unfold keepTo
  have := List.length_filter_le (fun r => decide (costR T k A r = A k)) (L.take j)
  rw [List.length_take] at this
  omega
theorem keepTo_all {T : List PRule} {k : Nat} {A : Nat → Int} {L : List Int} : keepTo T k A L L.length = keepL T k A L := by
  unfold keepTo keepL
  rw [List.take_length]
set_option maxHeartbeats 4000000 in
theorem i_bestRules (w : World) (v : Value) (T : List PRule) (s : ByteArray) (k : Nat) (zs : List Int) (hx : TableAt w v T) (hv : Hid (ValidTb T)) (h1 : 1 ≤ s.size) (h16 : s.size ≤ 16) (hk : k < s.size) (hz : Hid (zs.length = 17)) (hSM : Hid (SmF zs s.size)) :
    Calls Try.prog 66 #[v, .string s, .int .i64 k, .agg (ints zs).toArray] w fun e w' => ListMade (keepL T k (arrF zs) (rulesL T s k)) w e w' := by
  obtain ⟨i0, hi, hz0, hz1, hz2⟩ := info_parts infoInt
  have HX := keptH hx
  obtain ⟨ta, tc, rfl, _⟩ := hx
  have hT16 : T.length ≤ 16 := hv.out.1
  obtain ⟨tn, htn⟩ : ∃ tn, T.length = tn := ⟨_, rfl⟩
  rw [htn] at HX hT16 ⊢
  have HTN := Lib.hid htn
  obtain ⟨wb, hwb⟩ : ∃ wb, w.alloc (.cells (ints zs).toArray 69) = wb := ⟨_, rfl⟩
  have hB1 : Below w.heap.size w wb := by rw [← hwb]; exact (Below.refl _ _).alloc (Nat.le_refl _) _
  have HA : Hid (ArrH wb w.heap.size 69 zs) := by rw [← hwb]; exact heap_alloc_new w _
  have HWB := Lib.hid hwb
  have HB1 := keptH hB1
  have hsb := hB1.size
  clear htn hwb hB1
  go_enter Try.func66, Try.ntmps66
  go_wp2_with fail
  rw [HWB.out]
  refine (i_rulesAt wb _ T s k (HX.out.below HB1.out) hv h1 h16 (by omega) (by omega)).mono ?_
  rintro e w2 ⟨v2, rfl, hO2, hb2, a2, n2, c2, rfl⟩
  have hn2 : (rulesL T s k).length = n2 := by
    obtain ⟨_, _, e, _⟩ := hO2.at
    injection e with _ e2 _
    exact e2.symm
  have hn16 : n2 ≤ 16 := by rw [← hn2]; have := rulesTo_le T s k T.length; unfold rulesL; rw [HTN.out] at this ⊢; omega
  have HN2 := Lib.hid hn2
  have HO2 := keptH hO2
  have hlA := HA.out.lt
  have HA2 := keptH (HA.out.below hb2 hlA)
  have HB2 := keptH (below_next HB1.out hb2)
  have hs2 := HB2.out.size
  have hlA2 := HA2.out.lt
  have HK0 : Hid (OwnInts w2 w2.heap.size (.slice none 0 0) (keepTo T k (arrF zs) (rulesL T s k) 0)) := OwnInts.nil _ _
  clear hO2 hb2 hn2 HA HB1
  go_wp2
  go_loopw [9, 17] (fun o y wr => ∃ j : Nat, j ≤ n2 ∧ y = .int .i64 j ∧ Hid (OwnInts wr w2.heap.size o (keepTo T k (arrF zs) (rulesL T s k) j)) ∧ Hid (Below w2.heap.size w2 wr)) (fun _ y _ => n2 - (intOf y).toNat)
  case atStart => exact ⟨0, Nat.zero_le _, rfl, HK0, Below.refl _ _⟩
  case round =>
    clear HK0
    obtain ⟨wi, rfl⟩ : ∃ wi, wi = wr := ⟨wr, rfl⟩
    obtain ⟨j, hj, rfl, HO, HB⟩ := hrel
    obtain ⟨a3, n3, c3, ho3⟩ := HO.out.isSlice'
    subst ho3
    have hszi := HB.out.size
    by_cases hjn : j < n2
    · have hjl : j < (rulesL T s k).length := by rw [HN2.out]; exact hjn
      obtain ⟨g2, rfl, _, hg2', _⟩ := HO2.out.addrH (by omega)
      have cj := (HO2.out.below HB.out).cell HN2.out hjn
      obtain ⟨jj, ejj, hap⟩ := (mem_rulesL).1 (getD_mem hjl : (rulesL T s k).getD j 0 ∈ rulesL T s k)
      rw [ejj] at cj
      have HEJ := Lib.hid ejj
      have hjt : jj < tn := by have := hap.1; have := HTN.out; omega
      have hsz := hap.size hv.out
      rw [szR_nat] at hsz
      have HBw : Hid (Below w.heap.size w wi) := HB2.out.trans (HB.out.mono hs2)
      obtain ⟨gt, offt, rfl⟩ := HX.out.someAddr (by rw [HTN.out]; omega)
      have hra := (HX.out.below HBw.out).nth (k := jj) (by rw [HTN.out]; exact hjt)
      have hvr := hv.out.2.1 jj (by rw [HTN.out]; exact hjt)
      have hcost : costR T k (arrF zs) (jj : Int) = ((T.getD jj noR).c.length : Int) + zs.getD (k + (T.getD jj noR).t.size) 0 := by
        unfold costR czR arrF
        rw [if_neg (by omega), szR_nat, Int.toNat_natCast]
      obtain ⟨rr, hrr⟩ : ∃ rr, T.getD jj noR = rr := ⟨_, rfl⟩
      rw [hrr] at hra hvr hsz hcost
      obtain ⟨t, ys, pq⟩ := rr
      obtain ⟨c0, ⟨u, c1, hu⟩, c2'⟩ := hra
      obtain ⟨au, cu, rfl, _⟩ := hu
      have hyl := hvr.2.1
      simp only at c0 c1 c2' hsz hyl hcost
      obtain ⟨m3, hm3⟩ : ∃ m3, ys.length = m3 := ⟨_, rfl⟩
      rw [hm3] at c1 hyl hcost
      have hyb := hSM.out (k + t.size)
      obtain ⟨x, hx⟩ : ∃ x, (m3 : Int) + zs.getD (k + t.size) 0 = x := ⟨_, rfl⟩
      have hxb : 0 ≤ x ∧ x ≤ 40 := by omega
      have HXV := Lib.hid hx
      have hset2 : 0 ≤ zs.getD (k + t.size) 0 ∧ zs.getD (k + t.size) 0 ≤ 100 := by omega
      have HS2 := keptH hset2
      have HCX : Hid (costR T k (arrF zs) ((rulesL T s k).getD j 0) = x) := by show _ = _; rw [ejj, hcost, hx]
      have hAi := HA2.out.below HB.out hlA2
      have ci := hAi.cell (k := k) (by rw [hz.out]; omega)
      obtain ⟨z, hzz⟩ : ∃ z, zs.getD k 0 = z := ⟨_, rfl⟩
      rw [hzz] at ci
      have HZ := Lib.hid hzz
      obtain ⟨cs, hcs⟩ : ∃ cs, ints zs = cs := ⟨_, rfl⟩
      have hcl : cs.length = 17 := by rw [← hcs, ints_length, hz.out]
      have HK : Hid (∀ wx, Below wi.heap.size wi wx → wx.cell? ⟨gt, offt + jj * 3, none⟩ = some (.string t) ∧ wx.cell? ⟨gt, offt + jj * 3 + 1, none⟩ = some (.slice au m3 cu) ∧ wx.cell? ⟨gt, offt + jj * 3 + 2, none⟩ = some (.int .i64 pq) ∧ wx.cell? ⟨w.heap.size, k, none⟩ = some (.int .i64 z) ∧ wx.rangeAt w.heap.size 0 cs) := fun wx h => by
        have h5 := hAi.below h (by omega)
        refine ⟨(h.cell (World.block_lt_of_cell? wi _ c0)).trans c0, (h.cell (World.block_lt_of_cell? wi _ c1)).trans c1, (h.cell (World.block_lt_of_cell? wi _ c2')).trans c2', (h.cell (World.block_lt_of_cell? wi _ ci)).trans ci, fun p v hv => ?_⟩
        rw [Nat.zero_add, cell_of_row _ _ p _ _ _ h5, hcs]
        simpa using hv
      have q1 : (0 : Int) ≤ (jj : Int) := by omega
      have q2 : (jj : Int) < (tn : Int) := by omega
      have q3 : (0 : Int) ≤ (j : Int) := by omega
      have q4 : (j : Int) < (n2 : Int) := by omega
      have q5 : k + t.size ≤ 16 := by omega
      have q6 : m3 ≤ 2 := by omega
      have q7 : (0 : Int) ≤ (k : Int) := by omega
      have q8 : (k : Int) < 17 := by omega
      have qu := Try.underlying69
      have qi : (Try.prog.info? 69).map (·.size) = some cs.length := by rw [hcl]; exact size17
      have HCC : Hid (Calls Try.prog 79 #[.agg #[.string t, .slice au m3 cu, .int .i64 pq], .int .i64 k, .agg cs.toArray] wi.drew fun e w' => e = .returned (.int .i64 x) ∧ Below wi.drew.heap.size wi.drew w') := by
        rw [← hcs]; exact i_cellsWith wi.drew t au m3 cu pq k zs x hz.out q5 q6 HS2.out HXV
      have hle := keepTo_le (T := T) (k := k) (A := arrF zs) (L := rulesL T s k) (j := j)
      have HLE : Hid ((keepTo T k (arrF zs) (rulesL T s k) j).length ≤ 16) := by show _ ≤ _; omega
      clear hx hset2 hcost hrr hm3 ejj hyb hvr hap c0 c1 c2' ci hcs hcl hAi hzz hle
      by_cases hc : x = z
      · have d7 : (x == z) = true := by simp [hc]
        have HKE : Hid (keepTo T k (arrF zs) (rulesL T s k) (j + 1) = keepTo T k (arrF zs) (rulesL T s k) j ++ [(jj : Int)]) := by
          show _ = _
          rw [keepTo_yes hjl (by rw [HCX.out, hc]; exact HZ.out.symm), HEJ.out]
        clear hc
        go_wp2_with fail
        go_region_held3 (fun wy => wy.cell? ⟨gt, offt + jj * 3, none⟩ = some (.string t) ∧ wy.cell? ⟨gt, offt + jj * 3 + 1, none⟩ = some (.slice au m3 cu) ∧ wy.cell? ⟨gt, offt + jj * 3 + 2, none⟩ = some (.int .i64 pq) ∧ wy.cell? ⟨w.heap.size, k, none⟩ = some (.int .i64 z) ∧ wy.rangeAt w.heap.size 0 cs) (first | assumption | exact HK.out _ (Below.refl _ _).drew | exact HK.out _ ((Below.refl _ _).drew.trans hb5)) (first | (go_at_call 79; (with_reducible refine HCC.out.mono ?_); rintro e w5 ⟨rfl, hb5⟩))
        all_goals
          have hB5 : Below wi.heap.size wi w5 := (Below.refl _ _).drew.trans hb5
          have hs5 := hB5.size
          have hO5 := HO.out.below hB5
          have hB55 := HB.out.trans (hB5.mono hszi)
          have HB55 := keptH hB55
          clear hb5 hB5 qu qi HCC HK HO
          go_wp2_with (at_builtin; refine wpList_append_own _ rfl _ _ 23 rfl w2.heap.size 3 i0 (.int .i64 0) 1 8 Try.underlying23 hi hz0 hz1 hz2 rfl (by decide) _ _ _ rfl (hO5.alloc _) ⟨w5.heap.size, 0, none⟩ 1 1 [.int .i64 (jj : Int)] rfl rfl new_one one_cell (by unfold maxLen; have := HLE.out; omega) (by have := HLE.out; omega) (by simp; omega) ?_)
          intro v' w6 hown' hgrow _
          have hO6 := OwnInts.snoc hown'
          have HB6 := keptH (below_append hB55 (by omega) hO5 hgrow)
          rw [← HKE.out] at hO6
          have HO6 := keptH hO6
          clear hown' hgrow hO5 hO6 hB55
          go_wp2
          go_roundw
          case rel => exact ⟨j + 1, by omega, by go_num, HO6, HB6⟩
          case measure => simp [intOf] <;> omega
      · have d7 : (x == z) = false := by simp [hc]
        have HKE : Hid (keepTo T k (arrF zs) (rulesL T s k) (j + 1) = keepTo T k (arrF zs) (rulesL T s k) j) := by
          show _ = _
          exact keepTo_no hjl (by rw [HCX.out]; exact fun e => hc (e.trans HZ.out))
        clear hc
        go_wp2_with fail
        go_region_held3 (fun wy => wy.cell? ⟨gt, offt + jj * 3, none⟩ = some (.string t) ∧ wy.cell? ⟨gt, offt + jj * 3 + 1, none⟩ = some (.slice au m3 cu) ∧ wy.cell? ⟨gt, offt + jj * 3 + 2, none⟩ = some (.int .i64 pq) ∧ wy.cell? ⟨w.heap.size, k, none⟩ = some (.int .i64 z) ∧ wy.rangeAt w.heap.size 0 cs) (first | assumption | exact HK.out _ (Below.refl _ _).drew | exact HK.out _ ((Below.refl _ _).drew.trans hb5)) (first | (go_at_call 79; (with_reducible refine HCC.out.mono ?_); rintro e w5 ⟨rfl, hb5⟩))
        all_goals
          have hB5 : Below wi.heap.size wi w5 := (Below.refl _ _).drew.trans hb5
          have HO5 : Hid (OwnInts w5 w2.heap.size (.slice a3 n3 c3) (keepTo T k (arrF zs) (rulesL T s k) (j + 1))) := by rw [HKE.out]; exact HO.out.below hB5
          have HB5 := keptH (HB.out.trans (hB5.mono hszi))
          clear hb5 hB5 qu qi HCC HK HO
          go_wp2
          go_roundw
          case rel => exact ⟨j + 1, by omega, by go_num, HO5, HB5⟩
          case measure => simp [intOf] <;> omega
    · obtain rfl : j = n2 := by omega
      have HF : Hid (OwnInts wi w.heap.size (.slice a3 n3 c3) (keepL T k (arrF zs) (rulesL T s k))) := by
        have h9 := World.ownsRow.mono HO.out hs2
        rw [← HN2.out, keepTo_all] at h9
        exact h9
      have HBF := keptH (HB2.out.trans (HB.out.mono hs2))
      clear HO
      go_wp2
      go_ret
      exact ⟨_, rfl, HF.out, HBF.out, _, _, _, rfl⟩
end Go.Proofs.Ythojahknocageaa


/- The best pieces, in the program. -/
namespace Go.Proofs.Ythojahknocageaa
open Go.RowKit

set_option maxRecDepth 20000 in
set_option maxHeartbeats 4000000 in
theorem i_bestPieces (w : World) (v : Value) (T : List PRule) (s : ByteArray) (hx : TableAt w v T) (hv : Hid (ValidTb T)) (hw : Hid (WordB 16 s.data.toList)) :
    Calls Try.prog 51 #[v, .string s] w fun e w' => BestMade T s w e w' := by
  have hsl : 1 ≤ s.size ∧ s.size ≤ 16 := by have h1 := hw.out.1; have h2 := hw.out.2.1; rw [wd_size] at h1 h2; exact ⟨h1, h2⟩
  have HX := keptH hx
  obtain ⟨ta, tc, hv0, _⟩ := hx
  subst hv0
  have HSZ := Lib.hid (sz_small hv.out)
  have hT16 : T.length ≤ 16 := hv.out.1
  obtain ⟨tn, htn⟩ : ∃ tn, T.length = tn := ⟨_, rfl⟩
  rw [htn] at HX hT16 ⊢
  have HTN := Lib.hid htn
  clear htn
  go_enter Try.func51, Try.ntmps51
  go_wp2_with fail
  refine (i_leastCells w _ T s HX.out hv hw).mono ?_
  rintro e w1 ⟨zs, rfl, hzl, hSM, hLU, hb1⟩
  have HZL := Lib.hid hzl
  have HSM := keptH hSM
  have HLU := keptH hLU
  have HB1 := keptH hb1
  have hs1 := hb1.size
  have HA2 : Hid (ArrH (w1.alloc (.cells (ints (noughtsH 17)).toArray 69)) w1.heap.size 69 (noughtsH 17)) := heap_alloc_new w1 _
  have HB2 : Hid (Below w1.heap.size w1 (w1.alloc (.cells (ints (noughtsH 17)).toArray 69))) := (Below.refl _ _).alloc (Nat.le_refl _) _
  have hca : (ints zs).toArray.all (·.oneCell') = true := by
    rw [Array.all_eq_true_iff_forall_mem]
    intro x hx
    exact ints_oneCell' zs x (by simpa using hx)
  clear hzl hSM hLU hb1
  go_wp2_with (refine wpList_store_row rfl 69 _ _ rfl w1.heap.size (ints zs).toArray rfl rfl 69 (ints (noughtsH 17)).toArray HA2.out (by rw [size17]; simp [ints, HZL.out]) (by simp [ints, HZL.out, noughtsH]) hca ?_)
  have HA3 : Hid (ArrH ((w1.alloc (.cells (ints (noughtsH 17)).toArray 69)).setRow w1.heap.size (ints zs).toArray) w1.heap.size 69 zs) := setRow_heap _ w1.heap.size _ _ _ _ HA2.out
  have HB3 := keptH (below_setRowH HB2.out (Nat.le_refl _) (ints zs).toArray)
  obtain ⟨w3, hw3⟩ : ∃ w3, (w1.alloc (.cells (ints (noughtsH 17)).toArray 69)).setRow w1.heap.size (ints zs).toArray = w3 := ⟨_, rfl⟩
  rw [hw3] at HA3 HB3
  have hs3 := HB3.out.size
  have hl3 := HA3.out.lt
  have HBW3 := keptH (HB1.out.trans (HB3.out.mono hs1))
  have hsw3 := HBW3.out.size
  have HW3 := Lib.hid hw3
  have HU0 := keptH (PsUp.zero T s (arrF zs))
  have HO0 : Hid (OwnPn w3 w3.heap.size (.slice none 0 0) []) := OwnPn.nil _ _
  clear hca HA2 HB2 hw3
  go_wp2_with fail
  change Code.wp _ _ _ _ ((w1.alloc (.cells (ints (noughtsH 17)).toArray 69)).setRow w1.heap.size (ints zs).toArray)
  rw [HW3.out]
  go_loopw [6, 7] (fun o i wr => ∃ (k : Nat) (P : List PPiece), k ≤ s.size ∧ i = .int .i64 k ∧ Hid (OwnPn wr w3.heap.size o P) ∧ Hid (PsUp T s (arrF zs) P k) ∧ P.length ≤ k ∧ Hid (Below w3.heap.size w3 wr)) (fun _ i _ => s.size - (intOf i).toNat)
  case atStart => exact ⟨0, [], Nat.zero_le _, rfl, HO0, HU0, Nat.le_refl _, Below.refl _ _⟩
  case round =>
    clear HO0 HU0
    obtain ⟨wo, rfl⟩ : ∃ wo, wo = wr := ⟨wr, rfl⟩
    obtain ⟨k, P, hk, rfl, HO, HU, hPk, HB⟩ := hrel
    obtain ⟨ao, no, co, hoo⟩ := HO.out.isSlice
    subst hoo
    have hszo := HB.out.size
    have HBWo : Hid (Below w.heap.size w wo) := HBW3.out.trans (HB.out.mono hsw3)
    by_cases hks : k < s.size
    · have HAo := keptH (HA3.out.below HB.out hl3)
      have hbst := keepL_bst (T := T) (s := s) (A := arrF zs) (k := k)
      have hlen : (keepL T k (arrF zs) (rulesL T s k)).length ≤ 100 := by
        rw [← keepTo_all]
        have h1 := keepTo_le (T := T) (k := k) (A := arrF zs) (L := rulesL T s k) (j := (rulesL T s k).length)
        have h2 := rulesTo_le T s k T.length
        unfold rulesL at h1 ⊢
        rw [HTN.out] at h1 h2 ⊢
        omega
      have hnn : ∀ z ∈ keepL T k (arrF zs) (rulesL T s k), 0 ≤ z ∧ z < T.length := fun z hz => rulesTo_nn T.length (List.mem_filter.1 (show _ ∈ List.filter _ _ from hz)).1
      obtain ⟨r0, hr0⟩ : ∃ r0, lgTo T (keepL T k (arrF zs) (rulesL T s k)) (keepL T k (arrF zs) (rulesL T s k)).length = r0 := ⟨_, rfl⟩
      rw [hr0] at hbst
      obtain ⟨p1, p2, p3, p4, p5⟩ := hbst.bd hv.out hks
      have HR0 := Lib.hid hr0
      have HBS := keptH hbst
      have HNN := Lib.hid hnn
      have HP1 := Lib.hid p1
      clear hr0 hbst hnn p1
      go_wp2_with (refine wpList_load_row rfl 69 _ rfl w1.heap.size rfl 69 (ints zs).toArray (0, 0) _ HAo.out Try.underlying69 rfl (by rw [size17]; simp [ints, HZL.out]) ?_)
      refine (i_bestRules wo _ T s k zs (HX.out.below HBWo.out) hv hsl.1 hsl.2 hks HZL HSM).mono ?_
      rintro e w4 ⟨v4, rfl, hO4, hb4, a4, n4, c4, rfl⟩
      have hI4 := hO4.at
      have hB4 := HB.out.trans (hb4.mono hszo)
      have hOP4 := HO.out.below hb4
      have hs4 := hB4.size
      clear hO4 hb4
      go_wp2_with fail
      refine (i_longestRule w4 _ _ T (keepL T k (arrF zs) (rulesL T s k)) (HX.out.below (HBW3.out.trans (hB4.mono hsw3))) HSZ hI4 HNN).mono ?_
      rintro e w5 ⟨rfl, hb5⟩
      rw [HR0.out]
      have hB5 := hB4.trans (hb5.mono hs4)
      have hOP5 := hOP4.below hb5
      have hs5 := hB5.size
      clear hI4 hB4 hOP4 hb5
      go_wp2_with fail
      refine (i_pieceAt w5 _ T r0 k (HX.out.below (HBW3.out.trans (hB5.mono hsw3))) HSZ HP1.out (by omega) (by rw [HTN.out]; omega)).mono ?_
      rintro e w6 ⟨rfl, hb6⟩
      have hB6 := hB5.trans (hb6.mono hs5)
      have hOP6 := hOP5.below hb6
      have hs6 := hB6.size
      clear hB5 hOP5 hb6
      have HUN := keptH (HU.out.more hks HBS.out)
      generalize pcB T k r0 = x at p2 p3 p4 p5 HUN ⊢
      obtain ⟨r, f, t⟩ := x
      simp only at p2 p3 p4 p5 HUN ⊢
      subst p2
      clear p5
      obtain ⟨t', rfl⟩ : ∃ t' : Nat, t = t' := ⟨t.toNat, by omega⟩
      have hal1 : Below w6.heap.size w6 (w6.alloc (.cells #[.int .i64 r, .int .i64 (k : Int), .int .i64 (t' : Int)] 67)) := (Below.refl _ _).alloc (Nat.le_refl _) _
      have hal2 : Below (w6.alloc (.cells #[.int .i64 r, .int .i64 (k : Int), .int .i64 (t' : Int)] 67)).heap.size (w6.alloc (.cells #[.int .i64 r, .int .i64 (k : Int), .int .i64 (t' : Int)] 67)) ((w6.alloc (.cells #[.int .i64 r, .int .i64 (k : Int), .int .i64 (t' : Int)] 67)).alloc (.cells #[.int .i64 r, .int .i64 (k : Int), .int .i64 (t' : Int)] 67)) := (Below.refl _ _).alloc (Nat.le_refl _) _
      have HO8 := keptH ((hOP6.below hal1).below hal2)
      have hA8 := pieceAt_alloc (w6.alloc (.cells #[.int .i64 r, .int .i64 (k : Int), .int .i64 (t' : Int)] 67)) ⟨r, (k : Int), (t' : Int)⟩
      rw [World.size_alloc] at hA8
      have hblk : Hid (((w6.alloc (.cells #[.int .i64 r, .int .i64 (k : Int), .int .i64 (t' : Int)] 67)).alloc (.cells #[.int .i64 r, .int .i64 (k : Int), .int .i64 (t' : Int)] 67)).heap[w6.heap.size]? = some (.cells #[.int .i64 r, .int .i64 (k : Int), .int .i64 (t' : Int)] 67 (0, 0))) := by
        show _ = _
        rw [Below.heap_alloc _ _ _ (by rw [World.size_alloc]; omega)]
        exact heap_alloc_new w6 _
      have HA8 := keptH hA8
      have HOP6 := keptH hOP6
      have HB6 := keptH hB6
      clear hA8 hOP6 hB6 hal1 hal2
      have hl9 : P.length ≤ 100000 := by omega
      have hl10 : w3.heap.size ≤ ((w6.alloc (.cells #[.int .i64 r, .int .i64 (k : Int), .int .i64 (t' : Int)] 67)).alloc (.cells #[.int .i64 r, .int .i64 (k : Int), .int .i64 (t' : Int)] 67)).heap.size := by rw [World.size_alloc, World.size_alloc]; omega
      have HL9 := keptH (And.intro hl9 hl10)
      clear hl9 hl10
      go_wp2_with (at_builtin; go_loud (refine wpList_append_pn rfl _ _ rfl w3.heap.size (w6.heap.size + 1) ⟨r, (k : Int), (t' : Int)⟩ rfl rfl HO8.out HA8.out HL9.out.1 HL9.out.2 ?_))
      intro v7 w7 hO9 hg9
      have e9 : w7.cell? ⟨w6.heap.size, 2, none⟩ = some (.int .i64 (t' : Int)) := by
        rw [cell_of_row w7 w6.heap.size 2 _ _ _ ((hg9.block w6.heap.size (by simp; omega) (fun e => by have := (World.ownsRow.lt HOP6.out _ e.symm).2; omega)).trans hblk.out)]
        rfl
      have hB9 : Below w3.heap.size w3 w7 := ((HB6.out.alloc hs6 _).alloc (by rw [World.size_alloc]; omega) _).grown hg9 (by simp; omega) (fun q hq => (World.ownsRow.lt HO8.out q hq).1)
      have HO9 := keptH hO9
      have HB9 := keptH hB9
      have HUN2 : Hid (PsUp T s (arrF zs) (P ++ [⟨r, (k : Int), (t' : Int)⟩]) t') := by have h9 := HUN.out; rw [Int.toNat_natCast] at h9; exact h9
      clear hO9 hg9 hB9 hblk HA8 HO8 HUN
      go_wp2
      go_roundw
      case rel => exact ⟨t', P ++ [⟨r, (k : Int), (t' : Int)⟩], by omega, rfl, HO9, HUN2, by simp; omega, HB9⟩
      case measure => simp [intOf] <;> omega
    · obtain rfl : k = s.size := by omega
      have HF : Hid (BestP T s (arrF zs) 0 P) := HU.out.all
      have HOF := keptH (World.ownsRow.mono HO.out hsw3)
      clear HU HO HB
      go_wp2
      go_ret
      exact ⟨_, P, rfl, HOF.out, ⟨_, HLU.out, HF.out⟩, HBWo.out, _, _, _, rfl⟩
end Go.Proofs.Ythojahknocageaa


/- The best pieces plainly: they are valid, have the fewest cells, and no more than letters. -/
namespace Go.Proofs.Ythojahknocageaa
open Go.RowKit

/-- pieces one behind the other, from the place k to the end of the word -/
def Chain (T : List PRule) (s : ByteArray) : Nat → List PPiece → Prop
  | k, [] => k = s.size
  | k, p :: R => p.f = (k : Int) ∧ PcOk T s p ∧ Chain T s p.t.toNat R
def endFrom (k : Nat) (P : List PPiece) : Nat → Int
  | 0 => (k : Int)
  | i + 1 => (P.getD i noP).t
theorem endFrom_cons (k : Nat) (p : PPiece) (R : List PPiece) (ht : 0 ≤ p.t) (i : Nat) : endFrom k (p :: R) (i + 1) = endFrom p.t.toNat R i := by
  cases i with
  | zero => show p.t = (p.t.toNat : Int); omega
  | succ i => rfl
theorem Chain.pv {T : List PRule} {s : ByteArray} (hv : ValidTb T) : ∀ {P : List PPiece} {k : Nat}, Chain T s k P → (∀ i, i < P.length → (P.getD i noP).f = endFrom k P i ∧ PcOk T s (P.getD i noP)) ∧ endFrom k P P.length = s.size := by
  intro P
  induction P with
  | nil => intro k h; exact ⟨fun i hi => by simp at hi, by show (k : Int) = _; rw [show k = s.size from h]⟩
  | cons p R ih =>
    intro k h
    obtain ⟨h1, h2, h3⟩ := h
    obtain ⟨k1, k2⟩ := ih h3
    have h4 := pcOk_end h2 hv.2.1
    refine ⟨fun i hi => ?_, ?_⟩
    · cases i with
      | zero => exact ⟨h1, h2⟩
      | succ i =>
        rw [endFrom_cons k p R (by omega)]
        exact k1 i (by simpa using hi)
    · rw [List.length_cons, endFrom_cons k p R (by omega)]; exact k2
theorem Chain.of_pv {T : List PRule} {s : ByteArray} (hv : ValidTb T) : ∀ {P : List PPiece} {k : Nat}, (∀ i, i < P.length → (P.getD i noP).f = endFrom k P i ∧ PcOk T s (P.getD i noP)) → endFrom k P P.length = s.size → Chain T s k P := by
  intro P
  induction P with
  | nil => intro k _ h; have h' : (k : Int) = s.size := h; show k = s.size; omega
  | cons p R ih =>
    intro k h1 h2
    obtain ⟨h3, h4⟩ := h1 0 (by simp)
    have h4' : PcOk T s p := h4
    have h5 := pcOk_end h4' hv.2.1
    refine ⟨h3, h4', ih (fun i hi => ?_) ?_⟩
    · have := h1 (i + 1) (by simpa using hi)
      rw [endFrom_cons k p R (by omega)] at this
      exact this
    · rw [List.length_cons, endFrom_cons k p R (by omega)] at h2; exact h2
theorem endFrom_zero (P : List PPiece) (i : Nat) : endFrom 0 P i = endAt P i := by
  cases i with
  | zero => rfl
  | succ i => rfl
theorem chain_iff {T : List PRule} {s : ByteArray} (hv : ValidTb T) {P : List PPiece} : Chain T s 0 P ↔ ValidPv T s P := by
  constructor
  · intro h
    obtain ⟨h1, h2⟩ := h.pv hv
    exact ⟨fun i hi => by rw [← endFrom_zero]; exact h1 i hi, by rw [← endFrom_zero]; exact h2⟩
  · intro h
    exact Chain.of_pv hv (fun i hi => by rw [endFrom_zero]; exact h.1 i hi) (by rw [endFrom_zero]; exact h.2)
/-- how many cells pieces have -/
def lenP (T : List PRule) (s : ByteArray) : List PPiece → Nat
  | [] => 0
  | p :: R => (pcC T s p).length + lenP T s R
theorem lenP_snoc (T : List PRule) (s : ByteArray) (P : List PPiece) (p : PPiece) : lenP T s (P ++ [p]) = lenP T s P + (pcC T s p).length := by
  induction P with
  | nil => simp [lenP]
  | cons q P ih => simp [lenP, ih]; omega
theorem pcsTo_lenP (T : List PRule) (s : ByteArray) (P : List PPiece) : ∀ k, k ≤ P.length → (pcsTo T s P k).length = lenP T s (P.take k) := by
  intro k
  induction k with
  | zero => intro _; simp [pcsTo, lenP]
  | succ k ih =>
    intro hk
    show (pcsTo T s P k ++ pcC T s (P.getD k noP)).length = _
    rw [List.length_append, ih (by omega), List.take_add_one, List.getElem?_eq_getElem (by omega), List.getD_eq_getElem?_getD, List.getElem?_eq_getElem (by omega)]
    simp only [Option.toList_some, Option.getD_some]
    rw [lenP_snoc]
theorem pcsL_len (T : List PRule) (s : ByteArray) (P : List PPiece) : (pcsL T s P).length = lenP T s P := by
  unfold pcsL
  rw [pcsTo_lenP T s P _ (Nat.le_refl _), List.take_length]
/-- a piece that is used at a place is a piece there, and costs what is least -/
theorem BstA.ok {T : List PRule} {s : ByteArray} {A : Nat → Int} {k : Nat} {r : Int} (hv : ValidTb T) (hk : k < s.size) (hm : MinAt T s A k (A k)) (h : BstA T s A k r) : PcOk T s (pcB T k r) ∧ pcost T s A (pcB T k r) = A k := by
  rcases h with ⟨rfl, h⟩ | ⟨j, rfl, hA, hc, h⟩
  · refine ⟨?_, ?_⟩
    · unfold pcB PcOk
      rw [if_pos rfl]
      simp only
      exact ⟨by omega, by omega, .inl ⟨trivial, trivial⟩⟩
    · rw [pcost_letter]
      rcases hm.2.2 with h3 | ⟨j, hj, h3⟩
      · exact h3.symm
      · exact absurd h3.symm (h j hj)
  · refine ⟨?_, by rw [pcost_rule]; exact hc⟩
    have hs := hA.size hv
    have h1 := hA.1
    unfold pcB PcOk
    rw [if_neg (by omega)]
    simp only
    refine ⟨by omega, by omega, .inr ⟨by omega, by omega, ?_, ?_⟩⟩
    · rw [Int.toNat_natCast]; exact hA.2
    · rw [Int.toNat_natCast, szR_nat]
theorem BestP.chain {T : List PRule} {s : ByteArray} {A : Nat → Int} (hv : ValidTb T) (hL : LeastUp T s A 0) {k : Nat} {R : List PPiece} (h : BestP T s A k R) : Chain T s k R ∧ (lenP T s R : Int) = A k := by
  induction h with
  | done => exact ⟨rfl, by rw [hL.1]; rfl⟩
  | @step k r R hk hb _ ih =>
    obtain ⟨h1, h2⟩ := hb.ok hv hk (hL.2 k (Nat.zero_le _) hk)
    have h3 := hb.bd hv hk
    refine ⟨⟨h3.2.1, h1, ih.1⟩, ?_⟩
    have h4 : lenP T s (pcB T k r :: R) = (pcC T s (pcB T k r)).length + lenP T s R := rfl
    unfold pcost at h2
    have := ih.2
    rw [h4]
    omega
theorem pcost_least {T : List PRule} {s : ByteArray} {A : Nat → Int} {k : Nat} (hm : MinAt T s A k (A k)) {p : PPiece} (hf : p.f = (k : Int)) (h : PcOk T s p) : A k ≤ pcost T s A p := by
  obtain ⟨r, f, t⟩ := p
  simp only at hf
  subst hf
  rcases h.2.2 with ⟨h3, h4⟩ | ⟨h3, h4, h5, h6⟩
  · simp only at h3 h4
    subst h3 h4
    have := hm.1
    rw [pc_letter, pcost_letter]; exact this
  · simp only at h3 h4 h5 h6
    obtain ⟨j, rfl⟩ : ∃ j : Nat, r = j := ⟨r.toNat, by omega⟩
    rw [Int.toNat_natCast] at h5 h6
    have ha : Applies T s k j := ⟨by omega, h5⟩
    have := hm.2.1 j ha
    have e : (⟨(j : Int), (k : Int), t⟩ : PPiece) = pcB T k (j : Int) := by
      rw [pcB, if_neg (by omega), szR_nat, h6]
    rw [e, pcost_rule]; exact this
/-- no pieces have fewer cells -/
theorem chain_least {T : List PRule} {s : ByteArray} {A : Nat → Int} (hL : LeastUp T s A 0) : ∀ {P : List PPiece} {k : Nat}, Chain T s k P → A k ≤ lenP T s P := by
  intro P
  induction P with
  | nil => intro k h; rw [show k = s.size from h, hL.1]; exact Int.le_refl _
  | cons p R ih =>
    intro k h
    obtain ⟨h1, h2, h3⟩ := h
    have h4 := ih h3
    have hk : k < s.size := by have := h2.2.1; omega
    have h5 := pcost_least (hL.2 k (Nat.zero_le _) hk) h1 h2
    have h6 : lenP T s (p :: R) = (pcC T s p).length + lenP T s R := rfl
    unfold pcost at h5
    rw [h6]
    omega
theorem least_letters {T : List PRule} {s : ByteArray} {A : Nat → Int} (hL : LeastUp T s A 0) : ∀ d k, s.size - k = d → k ≤ s.size → A k ≤ (s.size - k : Nat) := by
  intro d
  induction d with
  | zero => intro k hd hk; rw [show k = s.size from by omega, hL.1]; omega
  | succ d ih =>
    intro k hd hk
    have h1 := (hL.2 k (Nat.zero_le _) (by omega)).1
    have h2 := ih (k + 1) (by omega) (by omega)
    omega
theorem Chain.len {T : List PRule} {s : ByteArray} (hv : ValidTb T) : ∀ {P : List PPiece} {k : Nat}, Chain T s k P → P.length + k ≤ s.size := by
  intro P
  induction P with
  | nil => intro k h; rw [show k = s.size from h]; simp
  | cons p R ih =>
    intro k h
    obtain ⟨h1, h2, h3⟩ := h
    have h4 := ih h3
    have h5 := pcOk_end h2 hv.2.1
    simp only [List.length_cons]
    omega
theorem chain_fit {T : List PRule} {s : ByteArray} (hv : ValidTb T) (hs : s.size ≤ 1000) {P : List PPiece} (h : ValidPv T s P) : PiecesFit P := by
  have hT := hv.1
  intro x hx
  obtain ⟨i, hi, rfl⟩ := List.getElem_of_mem hx
  have h1 := (h.1 i hi).2
  have e : P.getD i noP = P[i] := by rw [List.getD_eq_getElem?_getD, List.getElem?_eq_getElem hi]; rfl
  rw [e] at h1
  have h2 := pcOk_end h1 hv.2.1
  have h3 := h1.2.1
  have h4 : -1 ≤ P[i].r ∧ P[i].r < 17 := by rcases h1.2.2 with ⟨h5, _⟩ | ⟨h5, h6, _⟩ <;> omega
  refine ⟨?_, ?_, ?_⟩ <;> omega
theorem lenP_ge {T : List PRule} {s : ByteArray} (hv : ValidTb T) : ∀ {P : List PPiece} {k : Nat}, Chain T s k P → P.length ≤ lenP T s P := by
  intro P
  induction P with
  | nil => intro k _; exact Nat.le_refl _
  | cons p R ih =>
    intro k h
    have h4 := ih h.2.2
    have h5 := pcC_len h.2.1 hv.2.1
    have h6 : lenP T s (p :: R) = (pcC T s p).length + lenP T s R := rfl
    simp only [List.length_cons]
    omega
structure BestFacts (T : List PRule) (s : ByteArray) (P : List PPiece) : Prop where
  pv : ValidPv T s P
  fit : PiecesFit P
  len : P.length ≤ 16
  low : ∀ {R : List PPiece}, ValidPv T s R → lenP T s P ≤ lenP T s R
  few : lenP T s P ≤ s.size
theorem BestPs.facts {T : List PRule} {s : ByteArray} {P : List PPiece} (hv : ValidTb T) (hw : WordB 16 s.data.toList) (h : BestPs T s P) : BestFacts T s P := by
  obtain ⟨A, h1, h2⟩ := h
  obtain ⟨h3, h4⟩ := h2.chain hv h1
  have hs : s.size ≤ 16 := by have := hw.2.1; rw [wd_size] at this; exact this
  have hpv := (chain_iff hv).1 h3
  have h5 := h3.len hv
  refine ⟨hpv, chain_fit hv (by omega) hpv, by omega, fun {R} hR => ?_, ?_⟩
  · have := chain_least h1 ((chain_iff hv).2 hR); omega
  · have := least_letters h1 _ 0 rfl (by omega); omega
end Go.Proofs.Ythojahknocageaa


/- BestPieces and WordCells on both sides, for what is valid and what is not. -/
namespace Go.Proofs.Ythojahknocageaa
open Go.RowKit

def OkW (T : List PRule) (s : ByteArray) : Prop := ValidTb T ∧ WordB 16 s.data.toList
/-- of a valid table and a word the best pieces, else none -/
def BpRes (T : List PRule) (s : ByteArray) (b : Bool) (P : List PPiece) : Prop := if b then BestPs T s P else P = []
theorem BpRes.same {T : List PRule} {s : ByteArray} {b : Bool} {P Q : List PPiece} (hb : b = true ↔ OkW T s) (h : BpRes T s b P) (k : BpRes T s b Q) : P = Q := by
  unfold BpRes at h k
  cases b
  · simp at h k; rw [h, k]
  · simp at h k; exact h.same (hb.1 rfl).1 k
def BpMade (T : List PRule) (s : ByteArray) (b : Bool) (w : World) (e : Ending) (w' : World) : Prop := ∃ P, BpRes T s b P ∧ PcsMade P w e w'
theorem i_isWord_k (s : ByteArray) (b : Bool) (w : World) (hs : s.size ≤ 9223372036854775807) (hb : Hid (decide (WordB 16 s.data.toList) = b)) :
    Calls Try.prog 36 #[.string s] w fun e w' => e = .returned (.bool b) ∧ w = w' := i_isWord_t s b w hs hb
/-- of a valid table and a word the cells of the best pieces, else none -/
def WcRes (T : List PRule) (s : ByteArray) (b : Bool) (C : List Int) : Prop := if b then ∃ P, BestPs T s P ∧ C = pcsL T s P else C = []
theorem WcRes.same {T : List PRule} {s : ByteArray} {b : Bool} {C D : List Int} (hb : b = true ↔ OkW T s) (h : WcRes T s b C) (k : WcRes T s b D) : C = D := by
  unfold WcRes at h k
  cases b
  · simp at h k; rw [h, k]
  · simp at h k
    obtain ⟨P, h1, rfl⟩ := h
    obtain ⟨Q, k1, rfl⟩ := k
    rw [h1.same (hb.1 rfl).1 k1]
def WcMade (T : List PRule) (s : ByteArray) (b : Bool) (w : World) (e : Ending) (w' : World) : Prop := ∃ C, WcRes T s b C ∧ ListMade C w e w'
set_option maxHeartbeats 2000000 in
theorem i_wordCells (w : World) (v : Value) (T : List PRule) (s : ByteArray) (hx : TableAt w v T) (hv : Hid (ValidTb T)) (hw : Hid (WordB 16 s.data.toList)) :
    Calls Try.prog 37 #[v, .string s] w fun e w' => WcMade T s true w e w' := by
  have HX := keptH hx
  obtain ⟨ta, tc, hv0, _⟩ := hx
  subst hv0
  go_enter Try.func37, Try.ntmps37
  go_wp2_with fail
  refine (i_bestPieces w _ T s HX.out hv hw).mono ?_
  rintro e w1 ⟨v1, P, rfl, hO, hP, hb1, a1, n1, c1, rfl⟩
  have HF := hP.facts hv.out hw.out
  have HPV : Hid (PvUp T s P P.length) := HF.pv.1
  have HB1 := keptH hb1
  have HI := keptH (OwnPn.at hO)
  have HP := keptH hP
  clear hO hP hb1 HF
  go_wp2_with fail
  refine (i_piecesCells w1 _ _ T s P (HX.out.below HB1.out) hv hw HI.out HPV).mono ?_
  rintro e w2 ⟨v2, rfl, hO2, hb2, hsl⟩
  have FIN : Hid (WcMade T s true w (.returned v2) w2) := ⟨_, ⟨P, HP.out, rfl⟩, v2, rfl, World.ownsRow.mono hO2 HB1.out.size, below_next HB1.out hb2, hsl⟩
  clear hO2 hb2 hsl
  go_wp2
  go_ret
  exact FIN.out
set_option maxHeartbeats 2000000 in
theorem s_wordCells (w : World) (g n c : Nat) (T : List PRule) (s : ByteArray) (hx : TableAt w (.slice (some ⟨g, 0, none⟩) n c) T) (hn : T.length = n) (hv : Hid (ValidTb T)) (hw : Hid (WordB 16 s.data.toList)) :
    Calls Try.prog 40 #[.slice (some ⟨g, 0, none⟩) n c, .string s] w fun e w' => WcMade T s true w e w' := by
  have HX := keptH hx
  have HN := Lib.hid hn
  clear hx hn
  go_enter Try.func40, Try.ntmps40
  go_wp2_with fail
  refine (s_best w g n c T s HX.out HN.out hv hw).mono ?_
  rintro e w1 ⟨v1, P, rfl, hO, hP, hb1, a1, n1, c1, rfl⟩
  have HF := hP.facts hv.out hw.out
  have HPV : Hid (PvUp T s P P.length) := HF.pv.1
  have HB1 := keptH hb1
  have HI := keptH (OwnPn.at hO)
  have HP := keptH hP
  clear hO hP hb1 HF
  go_wp2_with fail
  refine (s_cellsOf w1 _ _ T s P (HX.out.below HB1.out) hv hw HI.out HPV).mono ?_
  rintro e w2 ⟨v2, rfl, hO2, hb2, hsl⟩
  have FIN : Hid (WcMade T s true w (.returned v2) w2) := ⟨_, ⟨P, HP.out, rfl⟩, v2, rfl, World.ownsRow.mono hO2 HB1.out.size, below_next HB1.out hb2, hsl⟩
  clear hO2 hb2 hsl
  go_wp2
  go_ret
  exact FIN.out
set_option maxHeartbeats 2000000 in
theorem i_WordCells (w : World) (v : Value) (T : List PRule) (s : ByteArray) (b : Bool) (hx : TableAt w v T) (hf : TableFits T) (hs : s.size ≤ 9223372036854775807) (hb : Hid (b = true ↔ OkW T s)) :
    Calls Try.prog 18 #[v, .string s] w fun e w' => WcMade T s b w e w' := by
  have HX := keptH hx
  obtain ⟨ta, tc, hv0, _⟩ := hx
  subst hv0
  have HF := keptH hf
  clear hf
  by_cases hT : ValidTb T
  · have HT := keptH hT
    by_cases hW : WordB 16 s.data.toList
    · obtain rfl : b = true := hb.out.2 ⟨hT, hW⟩
      have HW := keptH hW
      have HWD : Hid (decide (WordB 16 s.data.toList) = true) := decide_eq_true hW
      clear hT hW hb
      go_enter Try.func18, Try.ntmps18
      go_wp2_with fail
      refine (i_ValidTable w _ T true HX.out HF.out (show _ ↔ _ from ⟨fun _ => HT.out, fun _ => rfl⟩)).mono ?_
      rintro e w1 ⟨rfl, hb1⟩
      have HB1 := keptH hb1
      clear hb1
      go_wp2_with fail
      refine (i_isWord_t s true w1 hs HWD).mono ?_
      rintro e w' ⟨rfl, rfl⟩
      go_wp2_with fail
      refine (i_wordCells w1 _ T s (HX.out.below HB1.out) HT.out HW.out).mono ?_
      rintro e w2 ⟨C, hP, v2, rfl, hO, hb2, hsl⟩
      have FIN : Hid (WcMade T s true w (.returned v2) w2) := ⟨C, hP, v2, rfl, World.ownsRow.mono hO HB1.out.size, below_next HB1.out hb2, hsl⟩
      clear hO hP hb2 hsl
      go_wp2
      go_ret
      exact FIN.out
    · obtain rfl : b = false := by
        cases b
        · rfl
        · exact absurd (hb.out.1 rfl).2 hW
      have HWD : Hid (decide (WordB 16 s.data.toList) = false) := decide_eq_false hW
      clear hT hW hb
      go_enter Try.func18, Try.ntmps18
      go_wp2_with fail
      refine (i_ValidTable w _ T true HX.out HF.out (show _ ↔ _ from ⟨fun _ => HT.out, fun _ => rfl⟩)).mono ?_
      rintro e w1 ⟨rfl, hb1⟩
      have HB1 := keptH hb1
      clear hb1
      go_wp2_with fail
      refine (i_isWord_t s false w1 hs HWD).mono ?_
      rintro e w' ⟨rfl, rfl⟩
      go_wp2
      go_ret
      exact ⟨[], rfl, _, rfl, OwnInts.nil _ _, HB1.out, _, _, _, rfl⟩
  · obtain rfl : b = false := by
      cases b
      · rfl
      · exact absurd (hb.out.1 rfl).1 hT
    have HT := keptH hT
    clear hT hb
    go_enter Try.func18, Try.ntmps18
    go_wp2_with fail
    refine (i_ValidTable w _ T false HX.out HF.out (bool_iff_false HT.out)).mono ?_
    rintro e w1 ⟨rfl, hb1⟩
    have HB1 := keptH hb1
    clear hb1
    go_wp2
    go_ret
    exact ⟨[], rfl, _, rfl, OwnInts.nil _ _, HB1.out, _, _, _, rfl⟩
set_option maxHeartbeats 2000000 in
theorem s_WordCells (w : World) (g n c : Nat) (T : List PRule) (s : ByteArray) (b : Bool) (hx : TableAt w (.slice (some ⟨g, 0, none⟩) n c) T) (hn : T.length = n) (hf : TableFits T) (hs : s.size ≤ 9223372036854775807) (hb : Hid (b = true ↔ OkW T s)) :
    Calls Try.prog 19 #[.slice (some ⟨g, 0, none⟩) n c, .string s] w fun e w' => WcMade T s b w e w' := by
  have HX := keptH hx
  have HN := Lib.hid hn
  have HF := keptH hf
  clear hf hn hx
  by_cases hT : ValidTb T
  · have HT := keptH hT
    by_cases hW : WordB 16 s.data.toList
    · obtain rfl : b = true := hb.out.2 ⟨hT, hW⟩
      have HW := keptH hW
      have HWD : Hid (decide (WordB 16 s.data.toList) = true) := decide_eq_true hW
      clear hT hW hb
      go_enter Try.func19, Try.ntmps19
      go_wp2_with fail
      refine (s_validTable w _ T true HX.out HF.out (show _ ↔ _ from ⟨fun _ => HT.out, fun _ => rfl⟩)).mono ?_
      rintro e w1 ⟨rfl, hb1⟩
      have HB1 := keptH hb1
      clear hb1
      go_wp2_with fail
      refine (s_validWord_t s true w1 hs HWD).mono ?_
      rintro e w' ⟨rfl, rfl⟩
      go_wp2_with fail
      refine (s_wordCells w1 g n c T s (HX.out.below HB1.out) HN.out HT.out HW.out).mono ?_
      rintro e w2 ⟨C, hP, v2, rfl, hO, hb2, hsl⟩
      have FIN : Hid (WcMade T s true w (.returned v2) w2) := ⟨C, hP, v2, rfl, World.ownsRow.mono hO HB1.out.size, below_next HB1.out hb2, hsl⟩
      clear hO hP hb2 hsl
      go_wp2
      go_ret
      exact FIN.out
    · obtain rfl : b = false := by
        cases b
        · rfl
        · exact absurd (hb.out.1 rfl).2 hW
      have HWD : Hid (decide (WordB 16 s.data.toList) = false) := decide_eq_false hW
      clear hT hW hb
      go_enter Try.func19, Try.ntmps19
      go_wp2_with fail
      refine (s_validTable w _ T true HX.out HF.out (show _ ↔ _ from ⟨fun _ => HT.out, fun _ => rfl⟩)).mono ?_
      rintro e w1 ⟨rfl, hb1⟩
      have HB1 := keptH hb1
      clear hb1
      go_wp2_with fail
      refine (s_validWord_t s false w1 hs HWD).mono ?_
      rintro e w' ⟨rfl, rfl⟩
      go_wp2
      go_ret
      exact ⟨[], rfl, _, rfl, OwnInts.nil _ _, HB1.out, _, _, _, rfl⟩
  · obtain rfl : b = false := by
      cases b
      · rfl
      · exact absurd (hb.out.1 rfl).1 hT
    have HT := keptH hT
    clear hT hb
    go_enter Try.func19, Try.ntmps19
    go_wp2_with fail
    refine (s_validTable w _ T false HX.out HF.out (bool_iff_false HT.out)).mono ?_
    rintro e w1 ⟨rfl, hb1⟩
    have HB1 := keptH hb1
    clear hb1
    go_wp2
    go_ret
    exact ⟨[], rfl, _, rfl, OwnInts.nil _ _, HB1.out, _, _, _, rfl⟩
end Go.Proofs.Ythojahknocageaa

