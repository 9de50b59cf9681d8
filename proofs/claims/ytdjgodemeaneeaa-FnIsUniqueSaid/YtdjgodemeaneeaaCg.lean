
/- In how many ways cells are code words: the program. -/
import Derived.Test.YtdjgodemeaneeaaCf
import Derived.Test.YtdjgodemeaneeaaCd
import Derived.Test.YtdjgodemeaneeaaOwnS
namespace Go.Proofs.Ytdjgodemeaneeaa
open Go.RowKit

/-- over the first k words, the ways for cells that begin with them; A has the ways behind one cell, two cells, .. -/
def wayTo (L : List (List Int)) (ys A : List Int) : Nat → Int
  | 0 => 0
  | k + 1 => if ys.take (L.getD k []).length = L.getD k [] then IntKind.i64.wrap (wayTo L ys A k + A.getD ((L.getD k []).length - 1) 0) else wayTo L ys A k
/-- the ways for the cells, for those from the second one on, .. -/
def ways (L : List (List Int)) : List Int → List Int
  | [] => [1]
  | z :: ys => wayTo L (z :: ys) (ways L ys) L.length :: ways L ys
theorem ways_len (L : List (List Int)) (zs : List Int) : (ways L zs).length = zs.length + 1 := by
  induction zs with
  | nil => rfl
  | cons z ys ih => simp [ways, ih]
def fc (L : List (List Int)) (zs : List Int) : Int := (ways L zs).getD 0 0

/-- the ways from i on, before them noughts, behind them p noughts -/
def arrI (L : List (List Int)) (zs : List Int) (p i : Nat) : List Int := List.replicate i 0 ++ (ways L (zs.drop i) ++ List.replicate p 0)
/-- the same, with x at i -/
def arrX (L : List (List Int)) (zs : List Int) (p i : Nat) (x : Int) : List Int := List.replicate i 0 ++ x :: (ways L (zs.drop (i + 1)) ++ List.replicate p 0)
theorem arrI_len (L : List (List Int)) (zs : List Int) (p i : Nat) (h : i ≤ zs.length) : (arrI L zs p i).length = zs.length + 1 + p := by
  simp [arrI, ways_len]; omega
theorem arrX_len (L : List (List Int)) (zs : List Int) (p i : Nat) (x : Int) (h : i < zs.length) : (arrX L zs p i x).length = zs.length + 1 + p := by
  simp [arrX, ways_len]; omega
theorem arr_start (L : List (List Int)) (zs : List Int) (p i : Nat) : arrI L zs p (i + 1) = arrX L zs p i 0 := by
  simp [arrI, arrX, List.replicate_succ']
theorem arr_done (L : List (List Int)) (zs : List Int) (p i : Nat) (h : i < zs.length) : arrX L zs p i (wayTo L (zs.drop i) (ways L (zs.drop (i + 1))) L.length) = arrI L zs p i := by
  unfold arrX arrI
  rw [List.drop_eq_getElem_cons h]
  rfl
theorem arrX_at (L : List (List Int)) (zs : List Int) (p i : Nat) (x : Int) : (arrX L zs p i x).getD i 0 = x := by
  simp [arrX, List.getD_eq_getElem?_getD]
theorem arrX_set (L : List (List Int)) (zs : List Int) (p i : Nat) (x y : Int) : (arrX L zs p i x).set i y = arrX L zs p i y := by
  simp [arrX]
theorem arrX_behind (L : List (List Int)) (zs : List Int) (p i k : Nat) (x : Int) (h0 : 1 ≤ k) (h1 : i + k ≤ zs.length) : (arrX L zs p i x).getD (i + k) 0 = (ways L (zs.drop (i + 1))).getD (k - 1) 0 := by
  obtain ⟨j, rfl⟩ : ∃ j, k = j + 1 := ⟨k - 1, by omega⟩
  have hl : j < (ways L (zs.drop (i + 1))).length := by rw [ways_len, List.length_drop]; omega
  unfold arrX
  rw [List.getD_eq_getElem?_getD, List.getD_eq_getElem?_getD, List.getElem?_append_right (by simp), List.length_replicate, show i + (j + 1) - i = j + 1 from by omega, List.getElem?_cons_succ, List.getElem?_append_left hl, Nat.add_sub_cancel]
theorem arrI_head (L : List (List Int)) (zs : List Int) (p : Nat) : (arrI L zs p 0).getD 0 0 = fc L zs := by
  unfold arrI fc
  have hl : 0 < (ways L zs).length := by rw [ways_len]; omega
  simp [List.getD_eq_getElem?_getD, List.getElem?_append_left hl]
/-- before the first round -/
theorem arr_first (L : List (List Int)) (zs : List Int) (p : Nat) : (List.replicate (zs.length + 1 + p) (0 : Int)).set zs.length 1 = arrI L zs p zs.length := by
  have e : List.replicate (zs.length + 1 + p) (0 : Int) = List.replicate zs.length 0 ++ 0 :: List.replicate p 0 := by
    rw [show zs.length + 1 + p = zs.length + (p + 1) from by omega, ← List.replicate_append_replicate]; rfl
  rw [e]
  simp [arrI, ways]
theorem wayTo_hit {L : List (List Int)} {ys A w : List Int} {k : Nat} (hw : L.getD k [] = w) (h : ys.take w.length = w) : wayTo L ys A (k + 1) = IntKind.i64.wrap (wayTo L ys A k + A.getD (w.length - 1) 0) := by
  subst hw
  show (if _ then _ else _) = _
  rw [if_pos h]
theorem wayTo_miss {L : List (List Int)} {ys A w : List Int} {k : Nat} (hw : L.getD k [] = w) (h : ¬ ys.take w.length = w) : wayTo L ys A (k + 1) = wayTo L ys A k := by
  subst hw
  show (if _ then _ else _) = _
  rw [if_neg h]

/-- block g begins with these numbers, and may be written -/
def ArrAt (w : World) (g : Nat) (A : List Int) : Prop := (∀ j, j < A.length → w.cell? ⟨g, j, none⟩ = some (.int .i64 (A.getD j 0))) ∧ (∀ j, w.frozen? ⟨g, j, none⟩ = false) ∧ g < w.heap.size
theorem ArrAt.below {w w' : World} {g : Nat} {A : List Int} (h : ArrAt w g A) (hb : Below w.heap.size w w') : ArrAt w' g A :=
  ⟨fun j hj => (hb.cell (p := ⟨g, j, none⟩) h.2.2).trans (h.1 j hj), fun o => (hb.frozen h.2.2).trans (h.2.1 o), Nat.lt_of_lt_of_le h.2.2 hb.size⟩
theorem ArrAt.set {w : World} {g : Nat} {A : List Int} (h : ArrAt w g A) (k : Nat) (hk : k < A.length) (z : Int) : ArrAt (w.setCell ⟨g, k, none⟩ (.int .i64 z)) g (A.set k z) := by
  refine ⟨fun j hj => ?_, fun o => by rw [World.frozen?_setCell]; exact h.2.1 o, by simp [World.setCell]; exact h.2.2⟩
  rw [List.length_set] at hj
  by_cases e : k = j
  · subst e
    rw [World.cell?_setCell_same w _ _ (h.1 k hk)]
    simp [List.getD_eq_getElem?_getD, hk]
  · rw [World.cell?_setCell_other _ _ _ _ (fun h => by injection h; omega), h.1 j hj]
    simp [List.getD_eq_getElem?_getD, e]
theorem keptH' {p : Prop} (h : p) : Hid p := h
def zero25 : Array Value := #[.int .i64 0, .int .i64 0, .int .i64 0, .int .i64 0, .int .i64 0, .int .i64 0, .int .i64 0, .int .i64 0, .int .i64 0, .int .i64 0, .int .i64 0, .int .i64 0, .int .i64 0, .int .i64 0, .int .i64 0, .int .i64 0, .int .i64 0, .int .i64 0, .int .i64 0, .int .i64 0, .int .i64 0, .int .i64 0, .int .i64 0, .int .i64 0, .int .i64 0]
theorem zero25_at (j : Nat) (h : j < 25) : zero25.toList[j]? = some (.int .i64 0) := by
  have e : zero25.toList = List.replicate 25 (.int .i64 0) := rfl
  rw [e, List.getElem?_replicate, if_pos h]
theorem arr_alloc (w : World) (t : TypeId) (m : Nat) : ArrAt (w.alloc (.cells (zero25.setIfInBounds m (.int .i64 1)) t)) w.heap.size ((List.replicate 25 0).set m 1) := by
  refine ⟨fun j hj => ?_, fun j => frozen_of_row _ _ j _ _ (heap_alloc_new w _), by simp⟩
  rw [List.length_set, List.length_replicate] at hj
  rw [cell_of_row _ w.heap.size j _ _ _ (heap_alloc_new w _)]
  rw [← Array.getElem?_toList, Array.toList_setIfInBounds, List.getD_eq_getElem?_getD, List.getElem?_set, List.getElem?_set, zero25_at j hj, List.getElem?_replicate, if_pos hj]
  have e : zero25.toList.length = 25 := rfl
  rw [e, List.length_replicate]
  by_cases h : m = j
  · subst h; simp [hj]
  · simp [h]

set_option maxHeartbeats 4000000 in
theorem i_FactorCount (w : World) (v u : Value) (L : List (List Int)) (zs : List Int) (hx : ListsAt w v L) (hy : IntsAt w u zs) (hv : Hid (ValidCd L)) (hl : zs.length ≤ 24) (hc : Hid (∀ z ∈ zs, 0 ≤ z ∧ z < 64)) :
    Calls Try.prog 31 #[v, u] w fun e w' => e = .returned (.int .i64 (fc L zs)) ∧ Below w.heap.size w w' := by
  have HX := Lib.hid hx
  have HY := Lib.hid hy
  obtain ⟨a, c, rfl, x1, x2, _⟩ := hx
  obtain ⟨a', d, rfl, y1, y2, _⟩ := hy
  obtain ⟨n, hn⟩ : ∃ n, L.length = n := ⟨_, rfl⟩
  obtain ⟨m, hm⟩ : ∃ m, zs.length = m := ⟨_, rfl⟩
  rw [hn] at x1 HX ⊢
  rw [hm] at y1 HY hl ⊢
  have HN := Lib.hid hn
  have HM := Lib.hid hm
  have HV : Hid (decide (ValidL zs) = true) := decide_eq_true ⟨by omega, hc.out⟩
  clear hn hm
  go_enter Try.func31, Try.ntmps31
  go_wp2_with fail
  refine (i_ValidCode w _ L true HX.out (show _ ↔ _ from ⟨fun _ => hv.out, fun _ => rfl⟩)).mono ?_
  rintro e w1 ⟨rfl, hb1⟩
  go_wp2_with fail
  have := i_ValidCells w1 _ zs (HY.out.below hb1)
  rw [HV.out] at this
  refine this.mono ?_
  rintro e w2 ⟨rfl, rfl⟩
  clear this
  have HC : Hid (ArrAt (w1.alloc (.cells (zero25.setIfInBounds m (.int .i64 1)) 67)) w1.heap.size (arrI L zs (24 - m) m)) := by
    have h := arr_alloc w1 67 m
    have e := arr_first L zs (24 - m)
    rw [HM.out, show m + 1 + (24 - m) = 25 from by omega] at e
    rw [e] at h
    exact h
  have HB1 : Hid (Below w.heap.size w (w1.alloc (.cells (zero25.setIfInBounds m (.int .i64 1)) 67))) := hb1.alloc hb1.size _
  have hz : zero25[m]? = some (.int .i64 0) := by rw [← Array.getElem?_toList]; exact zero25_at m (by omega)
  have hc0 : (w1.alloc (.cells zero25 67)).cell? ⟨w1.heap.size, m, none⟩ = some (.int .i64 0) := by
    rw [cell_of_row _ w1.heap.size m _ _ _ (heap_alloc_new w1 _)]; exact hz
  have hf0 : (w1.alloc (.cells zero25 67)).frozen? ⟨w1.heap.size, m, none⟩ = false := frozen_of_row _ _ m _ _ (heap_alloc_new w1 _)
  have e25 : (Obj.cells #[.int .i64 0, .int .i64 0, .int .i64 0, .int .i64 0, .int .i64 0, .int .i64 0, .int .i64 0, .int .i64 0, .int .i64 0, .int .i64 0, .int .i64 0, .int .i64 0, .int .i64 0, .int .i64 0, .int .i64 0, .int .i64 0, .int .i64 0, .int .i64 0, .int .i64 0, .int .i64 0, .int .i64 0, .int .i64 0, .int .i64 0, .int .i64 0, .int .i64 0] 67) = Obj.cells zero25 67 := rfl
  have b1 : (0 : Int) ≤ (m : Int) := by omega
  have b2 : (m : Int) < 25 := by omega
  have u1 : IntKind.i64.wrap ((m : Int) - 1) = (m : Int) - 1 := IntWalk.i64_in _ (by omega)
  have hsz : w.heap.size ≤ w1.heap.size := hb1.size
  go_wp2_with fail
  clear hz hc0 hf0 u1 hb1
  generalize (w1.alloc (.cells (zero25.setIfInBounds m (.int .i64 1)) 67)) = wA at HC HB1 ⊢
  obtain ⟨g, hg⟩ : ∃ g, w1.heap.size = g := ⟨_, rfl⟩
  rw [hg] at HC hsz ⊢
  clear hg e25
  go_loopw [6] (fun x wr => ∃ (k : Nat) (y : Int), k ≤ m ∧ x = .int .i64 y ∧ y = (k : Int) - 1 ∧ ArrAt wr g (arrI L zs (24 - m) k) ∧ Below w.heap.size w wr) (fun x _ => (intOf x + 1).toNat)
  case atStart => exact ⟨m, _, Nat.le_refl _, rfl, rfl, HC.out, HB1.out⟩
  case round =>
    clear HC HB1
    obtain ⟨k, y, hk, rfl, hy, hA, hB⟩ := hrel
    by_cases hk0 : k = 0
    · subst hk0
      obtain rfl : y = -1 := by omega
      have h0 := hA.1 0 (by rw [arrI_len _ _ _ _ (by omega)]; omega)
      rw [arrI_head] at h0
      clear hA hy
      go_wp2
      go_ret
      exact ⟨rfl, hB⟩
    · obtain ⟨j, rfl⟩ : ∃ j, k = j + 1 := ⟨k - 1, by omega⟩
      obtain rfl : y = (j : Int) := by omega
      clear hy hk0
      rw [arr_start] at hA
      have dj : decide ((j : Int) < 0) = false := decide_eq_false (by omega)
      obtain ⟨g', off', rfl⟩ := HY.out.addrC (by omega)
      go_wp2_with fail
      go_loopw [34] (fun x wx => ∃ q : Nat, q ≤ n ∧ x = .int .i64 q ∧ ArrAt wx g (arrX L zs (24 - m) j (wayTo L (zs.drop j) (ways L (zs.drop (j + 1))) q)) ∧ Below w.heap.size w wx) (fun x _ => n - (intOf x).toNat)
      case atStart => exact ⟨0, Nat.zero_le _, rfl, hA, hB⟩
      case round =>
        clear hA hB
        obtain ⟨q, hq, rfl, hA, hB⟩ := hrel
        by_cases hlt : q < n
        · obtain ⟨g3, off3, u3, rfl, c1, hu3⟩ := (HX.out.below hB).someNth hlt
          obtain ⟨wd, hr⟩ : ∃ wd, L.getD q [] = wd := ⟨_, rfl⟩
          have hw4 : CodeW (L.getD q []) := hv.out.2.1 q (by rw [HN.out]; exact hlt)
          rw [hr] at hu3 hw4
          have HR := Lib.hid hr
          clear hr
          have HU := Lib.hid hu3
          obtain ⟨a4, cp4, rfl, _, _, _⟩ := hu3
          obtain ⟨l, hl2⟩ : ∃ l, wd.length = l := ⟨_, rfl⟩
          obtain ⟨⟨l1, l4⟩, _⟩ := hw4
          rw [hl2] at c1 HU l1 l4
          have HL := Lib.hid hl2
          clear hl2
          have HD : Hid (IntsAt _ (.slice (some ⟨g', off' + j, none⟩) (m - j) (d - j)) (zs.drop j)) := (HY.out.below hB).dropC j (by omega)
          have dj2 : ¬ d = j := by omega
          have b3 : (0 : Int) ≤ (j : Int) := by omega
          have b4 : (j : Int) ≤ (m : Int) := by omega
          have n1 : ((j : Int)).toNat = j := by omega
          by_cases hit : (zs.drop j).take wd.length = wd
          · have HB := Lib.hid (decide_eq_true hit)
            have hlen : j + l ≤ m := by
              have := begins_len hit
              rw [HL.out, List.length_drop, HM.out] at this
              omega
            have HW := Lib.hid (wayTo_hit (A := ways L (zs.drop (j + 1))) HR.out hit)
            clear hit
            have HA := keptH' hA
            clear hA
            go_wp2_with fail
            refine (i_beginsWith_b _ _ _ (zs.drop j) wd true HD.out HU.out HB).mono ?_
            rintro e w5 ⟨rfl, hb5⟩
            have hA5 := HA.out.below hb5
            have hB5 := below_next hB hb5
            obtain ⟨X, hX⟩ : ∃ X, wayTo L (zs.drop j) (ways L (zs.drop (j + 1))) q = X := ⟨_, rfl⟩
            obtain ⟨Y, hY⟩ : ∃ Y, (ways L (zs.drop (j + 1))).getD (l - 1) 0 = Y := ⟨_, rfl⟩
            have hW := HW.out
            rw [hX] at hA5 hW
            rw [HL.out, hY] at hW
            have hal : (arrX L zs (24 - m) j X).length = 25 := by rw [arrX_len _ _ _ _ _ (by rw [HM.out]; omega), HM.out]; omega
            have r1 := hA5.1 j (by omega)
            rw [arrX_at] at r1
            have r2 := hA5.1 (j + l) (by omega)
            rw [arrX_behind L zs _ j l X l1 (by rw [HM.out]; exact hlen), hY] at r2
            have f1 := hA5.2.1 j
            obtain ⟨Z, hZ⟩ : ∃ Z, IntKind.i64.wrap (X + Y) = Z := ⟨_, rfl⟩
            rw [hZ] at hW
            have hS := hA5.set j (by omega) Z
            rw [arrX_set] at hS
            have HS : Hid (ArrAt (w5.setCell ⟨g, j, none⟩ (.int .i64 Z)) g (arrX L zs (24 - m) j (wayTo L (zs.drop j) (ways L (zs.drop (j + 1))) (q + 1)))) := by
              rw [hW]; exact hS
            have HB5 := keptH' (hB5.setCell (p := ⟨g, j, none⟩) hsz (.int .i64 Z))
            have u1 : IntKind.i64.wrap ((j : Int) + (l : Int)) = (j : Int) + (l : Int) := IntWalk.i64_in _ (by omega)
            have n2 : ((j : Int) + (l : Int)).toNat = j + l := by omega
            have b5 : (0 : Int) ≤ (j : Int) + (l : Int) := by omega
            have b6 : (j : Int) + (l : Int) < 25 := by omega
            have b7 : (j : Int) < 25 := by omega
            clear hX hY hW hA5 hB5 hS hB hb5 hal
            go_wp2_with fail
            go_region
            all_goals
              go_wp2
              go_roundw
              case rel => exact ⟨q + 1, by omega, by go_num, HS.out, HB5.out.drew⟩
              case measure => simp [intOf]; omega
          · have HB := Lib.hid (decide_eq_false hit)
            have HW := Lib.hid (wayTo_miss (A := ways L (zs.drop (j + 1))) HR.out hit)
            clear hit
            rw [← HW.out] at hA
            have HA := keptH' hA
            clear hA
            go_wp2_with fail
            refine (i_beginsWith_b _ _ _ (zs.drop j) wd false HD.out HU.out HB).mono ?_
            rintro e w5 ⟨rfl, hb5⟩
            have HA5 := keptH' (HA.out.below hb5)
            have HB5 := keptH' (below_next hB hb5)
            clear hb5 hB
            go_wp2
            go_roundw
            case rel => exact ⟨q + 1, by omega, by go_num, HA5.out, HB5.out⟩
            case measure => simp [intOf]; omega
        · obtain rfl : q = n := by omega
          rw [← HN.out, arr_done L zs _ j (by rw [HM.out]; omega)] at hA
          have HA := keptH' hA
          have HBx := keptH' hB
          clear hA hB
          have u2 : IntKind.i64.wrap ((j : Int) - 1) = (j : Int) - 1 := IntWalk.i64_in _ (by omega)
          go_wp2
          go_roundw
          case rel => exact ⟨j, _, by omega, rfl, rfl, HA.out, HBx.out⟩
          case measure => first | (simp [intOf]; omega) | simp [intOf]
end Go.Proofs.Ytdjgodemeaneeaa
