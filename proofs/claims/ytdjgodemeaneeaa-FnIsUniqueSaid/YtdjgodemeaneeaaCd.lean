
/- Codes: whether they are valid, in the program and in its model. -/
import Derived.Test.YtdjgodemeaneeaaCc
import Derived.Test.YtdjgodemeaneeaaVal
namespace Go.Proofs.Ytdjgodemeaneeaa
open Go.RowKit

/-- a list that may be in a valid code -/
def CodeW (zs : List Int) : Prop := (1 ≤ zs.length ∧ zs.length ≤ 4) ∧ ∀ z ∈ zs, 0 ≤ z ∧ z < 64
instance (zs : List Int) : Decidable (CodeW zs) := inferInstanceAs (Decidable (_ ∧ _))
/-- the first k lists are code words, each another one -/
def CdUp (L : List (List Int)) (k : Nat) : Prop := (∀ i, i < k → CodeW (L.getD i [])) ∧ ∀ i j, i < k → j < i → L.getD j [] ≠ L.getD i []
theorem CdUp.zero (L : List (List Int)) : CdUp L 0 := ⟨fun i h => absurd h (by omega), fun i j h => absurd h (by omega)⟩
theorem CdUp.succ {L : List (List Int)} {k : Nat} (h : CdUp L k) (e : CodeW (L.getD k [])) (f : LNone L (L.getD k []) k) : CdUp L (k + 1) := by
  refine ⟨fun i hi => ?_, fun i j hi hj => ?_⟩
  · by_cases hik : i = k
    · subst hik; exact e
    · exact h.1 i (by omega)
  · by_cases hik : i = k
    · subst hik; exact f j hj
    · exact h.2 i j (by omega) hj
/-- a valid code -/
def ValidCd (L : List (List Int)) : Prop := L.length ≤ 8 ∧ CdUp L L.length
theorem ValidCd.b (L : List (List Int)) : ∃ b : Bool, b = true ↔ ValidCd L := by
  by_cases h : ValidCd L
  · exact ⟨true, by simp [h]⟩
  · exact ⟨false, by simp [h]⟩
theorem lnone_take (L : List (List Int)) (xs : List Int) (k n : Nat) (hn : L.length = n) (hk : k ≤ n) : xs ∉ L.take k ↔ LNone L xs k := by
  have hl : (L.take k).length = k := by rw [List.length_take]; omega
  constructor
  · intro h i hi e
    refine h ?_
    rw [← e, ← getD_take _ _ _ _ hi]
    exact lmem_of_getD hl hi rfl
  · intro h
    refine LNone.all (n := k) (fun i hi => ?_) hl
    rw [getD_take _ _ _ _ hi]
    exact h i hi

theorem i_isCodeWord (w : World) (u : Value) (zs : List Int) (b : Bool) (hx : IntsAt w u zs) (hb : Hid (decide (CodeW zs) = b)) :
    Calls Try.prog 63 #[u] w fun e w' => e = .returned (.bool b) ∧ w = w' := by
  have HX := Lib.hid hx
  obtain ⟨a, c, rfl, x1, x2, _⟩ := hx
  obtain ⟨n, hn⟩ : ∃ n, zs.length = n := ⟨_, rfl⟩
  have HV : ∀ wx, IntsAt wx (.slice a n c) zs → Hid (Calls Try.prog 61 #[.slice a n c] wx fun e w' => e = .returned (.bool (decide (ValidL zs))) ∧ wx = w') := fun wx h => i_ValidCells wx _ zs h
  rw [hn] at x1 HX ⊢
  have HN := Lib.hid hn
  clear hn
  by_cases h1 : 1 ≤ n
  · have d1 : decide (1 ≤ (n : Int)) = true := decide_eq_true (by omega)
    by_cases h4 : n ≤ 4
    · have d2 : decide ((n : Int) ≤ 4) = true := decide_eq_true (by omega)
      obtain ⟨b2, hb2⟩ : ∃ b2, decide (ValidL zs) = b2 := ⟨_, rfl⟩
      have HB : Hid (b2 = b) := by
        show b2 = b
        rw [← hb.out, ← hb2]
        refine decide_eq_decide.2 ⟨fun h => ⟨by rw [HN.out]; omega, h.2⟩, fun h => ⟨by rw [HN.out]; omega, h.2⟩⟩
      rw [hb2] at HV
      clear hb2
      go_enter Try.func63, Try.ntmps63
      go_wp2_with (go_at_call 61; refine (HV _ HX.out).out.mono ?_; rintro e w' ⟨rfl, rfl⟩)
      go_ret
      exact ⟨by rw [HB.out]; rfl, rfl⟩
    · have d2 : decide ((n : Int) ≤ 4) = false := decide_eq_false (by omega)
      have HB : Hid (b = false) := by
        show b = false
        rw [← hb.out]
        exact decide_eq_false fun h => by have := h.1; rw [HN.out] at this; omega
      go_enter Try.func63, Try.ntmps63
      go_wp2
      go_ret
      exact ⟨by rw [HB.out]; rfl, rfl⟩
  · have d1 : decide (1 ≤ (n : Int)) = false := decide_eq_false (by omega)
    have HB : Hid (b = false) := by
      show b = false
      rw [← hb.out]
      exact decide_eq_false fun h => by have := h.1; rw [HN.out] at this; omega
    go_enter Try.func63, Try.ntmps63
    go_wp2
    go_ret
    exact ⟨by rw [HB.out]; rfl, rfl⟩

set_option maxHeartbeats 2000000 in
theorem i_ValidCode (w : World) (v : Value) (L : List (List Int)) (b : Bool) (hx : ListsAt w v L) (hb : Hid (b = true ↔ ValidCd L)) :
    Calls Try.prog 33 #[v] w fun e w' => e = .returned (.bool b) ∧ Below w.heap.size w w' := by
  have HX := Lib.hid hx
  obtain ⟨a, cp, rfl, x1, x2, x3⟩ := hx
  obtain ⟨n, hn⟩ : ∃ n, L.length = n := ⟨_, rfl⟩
  rw [hn] at x1 x3 HX ⊢
  have HN := Lib.hid hn
  clear hn
  by_cases hbig : n ≤ 8
  · have d1 : decide (8 < (n : Int)) = false := decide_eq_false (by omega)
    go_enter Try.func33, Try.ntmps33
    go_wp2
    go_loopw [10] (fun i wr => ∃ k : Nat, k ≤ n ∧ i = .int .i64 k ∧ CdUp L k ∧ Below w.heap.size w wr) (fun i _ => n - (intOf i).toNat)
    case atStart => exact ⟨0, Nat.zero_le _, rfl, CdUp.zero _, Below.refl _ _⟩
    case round =>
      obtain ⟨k, hk, rfl, hs, hb1⟩ := hrel
      by_cases hlt : k < n
      · rcases x3 with rfl | ⟨g, off, rfl, x3⟩
        · exact absurd HN.out (by simp; omega)
        obtain ⟨u, c1, hu⟩ := x3 k hlt
        obtain ⟨zs, hr⟩ : ∃ zs, L.getD k [] = zs := ⟨_, rfl⟩
        rw [hr] at hu
        have HR := Lib.hid hr
        clear hr x3
        have HU : Hid (IntsAt w u zs) := hu
        obtain ⟨a2, cp2, rfl, h1, h2, _⟩ := hu
        have c1 := (hb1.cell (World.block_lt_of_cell? w _ c1)).trans c1
        have HTK : Hid (ListsAt wr (.slice (some ⟨g, off, none⟩) k cp) (L.take k)) := (HX.out.take k hk).below hb1
        by_cases e : CodeW zs
        · have HW : Hid (decide (CodeW zs) = true) := decide_eq_true e
          by_cases e2 : LNone L zs k
          · have HB : Hid (decide (zs ∈ L.take k) = false) := decide_eq_false ((lnone_take L zs k n HN.out hk).2 e2)
            have hs' := hs.succ (by rw [HR.out]; exact e) (by rw [HR.out]; exact e2)
            clear e e2 hs
            go_wp2_with fail
            refine (i_isCodeWord wr _ zs true (HU.out.below hb1) HW).mono ?_
            rintro e w2 ⟨rfl, rfl⟩
            go_wp2_with fail
            refine (i_hasList_b wr _ _ _ zs false HTK.out (HU.out.below hb1) HB).mono ?_
            rintro e w2 ⟨rfl, hb2⟩
            go_wp2
            go_roundw
            case rel => exact ⟨k + 1, by omega, by go_num, hs', below_next hb1 hb2⟩
            case measure => simp [intOf]; omega
          · have HB : Hid (decide (zs ∈ L.take k) = true) := decide_eq_true (Classical.byContradiction fun h => e2 ((lnone_take L zs k n HN.out hk).1 h))
            have HNO : Hid (b = false) := by
              show b = false
              cases b
              · rfl
              · refine absurd ?_ e2
                have := (hb.out.1 rfl).2.2
                intro i hi
                have h := this k i (by rw [HN.out]; exact hlt) hi
                rwa [HR.out] at h
            clear e e2 hs
            go_wp2_with fail
            refine (i_isCodeWord wr _ zs true (HU.out.below hb1) HW).mono ?_
            rintro e w2 ⟨rfl, rfl⟩
            go_wp2_with fail
            refine (i_hasList_b wr _ _ _ zs true HTK.out (HU.out.below hb1) HB).mono ?_
            rintro e w2 ⟨rfl, hb2⟩
            go_wp2
            go_ret
            exact ⟨by rw [HNO.out]; rfl, below_next hb1 hb2⟩
        · have HW : Hid (decide (CodeW zs) = false) := decide_eq_false e
          have HNO : Hid (b = false) := by
            show b = false
            cases b
            · rfl
            · have := (hb.out.1 rfl).2.1 k (by rw [HN.out]; exact hlt)
              rw [HR.out] at this
              exact absurd this e
          clear e hs
          go_wp2_with fail
          refine (i_isCodeWord wr _ zs false (HU.out.below hb1) HW).mono ?_
          rintro e w2 ⟨rfl, rfl⟩
          go_wp2
          go_ret
          exact ⟨by rw [HNO.out]; rfl, hb1⟩
      · obtain rfl : k = n := by omega
        have HY : Hid (b = true) := hb.out.2 ⟨by rw [HN.out]; exact hbig, by rw [HN.out]; exact hs⟩
        go_wp2
        go_ret
        exact ⟨by rw [HY.out]; rfl, hb1⟩
  · have d1 : decide (8 < (n : Int)) = true := decide_eq_true (by omega)
    have HNO : Hid (b = false) := by
      show b = false
      cases b
      · rfl
      · have := (hb.out.1 rfl).1; have := HN.out; omega
    go_enter Try.func33, Try.ntmps33
    go_wp2
    go_ret
    exact ⟨by rw [HNO.out]; rfl, Below.refl _ _⟩

set_option maxHeartbeats 2000000 in
theorem s_validCode (w : World) (v : Value) (L : List (List Int)) (b : Bool) (hx : ListsAt w v L) (hb : Hid (b = true ↔ ValidCd L)) :
    Calls Try.prog 59 #[v] w fun e w' => e = .returned (.bool b) ∧ Below w.heap.size w w' := by
  obtain ⟨a, cp, rfl, x1, x2, x3⟩ := hx
  obtain ⟨n, hn⟩ : ∃ n, L.length = n := ⟨_, rfl⟩
  rw [hn] at x1 x3 ⊢
  have HN := Lib.hid hn
  clear hn
  go_enter Try.func59, Try.ntmps59
  go_wp2
  go_loopw [3] (fun i wr => ∃ k : Nat, k ≤ n ∧ i = .int .i64 k ∧ CdUp L k ∧ Below w.heap.size w wr) (fun i _ => n - (intOf i).toNat)
  case atStart => exact ⟨0, Nat.zero_le _, rfl, CdUp.zero _, Below.refl _ _⟩
  case round =>
    obtain ⟨k, hk, rfl, hs, hb1⟩ := hrel
    have hsz := hb1.size
    by_cases hlt : k < n
    · rcases x3 with rfl | ⟨g, off, rfl, x3⟩
      · exact absurd HN.out (by simp; omega)
      have X3 := Lib.hid x3
      obtain ⟨u, c1, hu⟩ := x3 k hlt
      obtain ⟨zs, hr⟩ : ∃ zs, L.getD k [] = zs := ⟨_, rfl⟩
      rw [hr] at hu
      have HR := Lib.hid hr
      clear hr x3
      have HU : Hid (IntsAt w u zs) := hu
      obtain ⟨a2, cp2, rfl, h1, h2, h3⟩ := hu
      obtain ⟨m, hm⟩ : ∃ m, zs.length = m := ⟨_, rfl⟩
      rw [hm] at h1 h3 c1 HU
      have HM := Lib.hid hm
      clear hm
      have C1 := Lib.hid c1
      have c1 := (hb1.cell (World.block_lt_of_cell? w _ c1)).trans c1
      by_cases e : 1 ≤ m ∧ m ≤ 4
      · obtain ⟨e1, e2⟩ := e
        go_wp2_with fail
        refine (inRange_yes _ _ _ _ (by omega) (by omega)).mono ?_
        rintro e w' ⟨rfl, rfl⟩
        go_wp2_with fail
        clear c1
        go_loopw [4] (fun j wx => ∃ q : Nat, q ≤ m ∧ j = .int .i64 q ∧ CellsUp zs q ∧ Below w.heap.size w wx) (fun j _ => m - (intOf j).toNat)
        case atStart => exact ⟨0, Nat.zero_le _, rfl, CellsUp.zero _, hb1⟩
        case round =>
          clear hb1 hsz
          obtain ⟨q, hq, rfl, hc, hb2⟩ := hrel
          have c1 := (hb2.cell (World.block_lt_of_cell? w _ C1.out)).trans C1.out
          by_cases hlt2 : q < m
          · rcases h3 with rfl | ⟨g2, off2, rfl, h3⟩
            · exact absurd HM.out (by simp; omega)
            have c2 := h3 q hlt2
            obtain ⟨y, hy⟩ : ∃ y, zs.getD q 0 = y := ⟨_, rfl⟩
            rw [hy] at c2
            have HY := Lib.hid hy
            clear hy h3
            have c2 := (hb2.cell (World.block_lt_of_cell? w _ c2)).trans c2
            by_cases e3 : 0 ≤ y ∧ y < 64
            · obtain ⟨e4, e5⟩ := e3
              have hc' := hc.succ (by rw [HY.out]; exact ⟨e4, e5⟩)
              clear hc
              go_wp2_with (go_at_call 93; refine (s_isCell_yes _ _ e4 e5).mono ?_; rintro e w' ⟨rfl, rfl⟩)
              go_roundw
              case rel => exact ⟨q + 1, by omega, by go_num, hc', hb2⟩
              case measure => simp [intOf]; omega
            · have e3' : y < 0 ∨ 64 ≤ y := by omega
              have HNO : Hid (b = false) := by
                show b = false
                cases b
                · rfl
                · have := (hb.out.1 rfl).2.1 k (by rw [HN.out]; exact hlt)
                  rw [HR.out] at this
                  have h := this.2 y (by rw [← HY.out, List.getD_eq_getElem?_getD, List.getElem?_eq_getElem (by rw [HM.out]; exact hlt2), Option.getD_some]; exact List.getElem_mem _)
                  omega
              clear e3 hc hs
              go_wp2_with (go_at_call 93; refine (s_isCell_no _ _ e3').mono ?_; rintro e w' ⟨rfl, rfl⟩)
              go_ret
              exact ⟨by rw [HNO.out]; rfl, hb2⟩
          · obtain rfl : q = m := by omega
            have HCW : Hid (CodeW zs) := ⟨by rw [HM.out]; exact ⟨e1, e2⟩, hc.all HM.out⟩
            clear hc h3 h1 h2 hq
            go_wp2_with fail
            go_loopw [5] (fun j wx => ∃ q2 : Nat, q2 ≤ k ∧ j = .int .i64 q2 ∧ LNone L zs q2 ∧ Below w.heap.size w wx) (fun j _ => k - (intOf j).toNat)
            case atStart => exact ⟨0, Nat.zero_le _, rfl, LNone.zero _ _, hb2⟩
            case round =>
              clear hb2 c1
              obtain ⟨p, hp, rfl, hl, hb3⟩ := hrel
              have c1 := (hb3.cell (World.block_lt_of_cell? w _ C1.out)).trans C1.out
              by_cases hlt3 : p < k
              · obtain ⟨u4, c4, hu4⟩ := X3.out p (by omega)
                obtain ⟨ys, hr4⟩ : ∃ ys, L.getD p [] = ys := ⟨_, rfl⟩
                rw [hr4] at hu4
                have HR4 := Lib.hid hr4
                clear hr4
                have HU4 : Hid (IntsAt w u4 ys) := hu4
                obtain ⟨a4, cp4, rfl, _⟩ := hu4
                have c4 := (hb3.cell (World.block_lt_of_cell? w _ c4)).trans c4
                have b1 : (0 : Int) ≤ (k : Int) := by omega
                have b2 : (0 : Int) ≤ (p : Int) := by omega
                have b3 : (k : Int) < (n : Int) := by omega
                have b4 : (p : Int) < (n : Int) := by omega
                have HUx : Hid (IntsAt wr.drew (.slice a2 q cp2) zs) := (show IntsAt wr (.slice a2 q cp2) zs from HU.out.below hb3)
                have HUy : Hid (IntsAt wr.drew (.slice a4 ys.length cp4) ys) := (show IntsAt wr (.slice a4 ys.length cp4) ys from HU4.out.below hb3)
                have HK : Hid (∀ wy, Below wr.heap.size wr wy → wy.cell? ⟨g, off + k, none⟩ = some (.slice a2 q cp2) ∧ wy.cell? ⟨g, off + p, none⟩ = some (.slice a4 ys.length cp4)) := fun wy h =>
                  ⟨(h.cell (World.block_lt_of_cell? wr _ c1)).trans c1, (h.cell (World.block_lt_of_cell? wr _ c4)).trans c4⟩
                by_cases e6 : ys = zs
                · have HB : Hid (decide (ys = zs) = true) := decide_eq_true e6
                  have HNO : Hid (b = false) := by
                    show b = false
                    cases b
                    · rfl
                    · have := (hb.out.1 rfl).2.2 k p (by rw [HN.out]; exact hlt) hlt3
                      rw [HR.out, HR4.out] at this
                      exact absurd e6 this
                  have hsz3 := hb3.size
                  clear e6 hl hs
                  go_wp2_with fail
                  go_region_held3 (fun wy => wy.cell? ⟨g, off + k, none⟩ = some (.slice a2 q cp2) ∧ wy.cell? ⟨g, off + p, none⟩ = some (.slice a4 ys.length cp4)) (first | assumption | exact HK.out _ (Below.refl _ _).drew | exact HK.out _ ((Below.refl _ _).drew.trans hb2)) (first | (go_at_call 94; refine (s_sameInts_b wr.drew _ _ ys zs true HUy.out HUx.out HB).mono ?_; rintro e w2 ⟨rfl, hb2⟩))
                  all_goals
                    go_wp2
                    go_ret
                    exact ⟨by rw [HNO.out]; rfl, hb3.trans (((Below.refl _ _).drew.trans hb2).mono hsz3)⟩
                · have HB : Hid (decide (ys = zs) = false) := decide_eq_false e6
                  have hl' := hl.succ (by rw [HR4.out]; exact e6)
                  have hsz3 := hb3.size
                  clear e6 hl
                  go_wp2_with fail
                  go_region_held3 (fun wy => wy.cell? ⟨g, off + k, none⟩ = some (.slice a2 q cp2) ∧ wy.cell? ⟨g, off + p, none⟩ = some (.slice a4 ys.length cp4)) (first | assumption | exact HK.out _ (Below.refl _ _).drew | exact HK.out _ ((Below.refl _ _).drew.trans hb2)) (first | (go_at_call 94; refine (s_sameInts_b wr.drew _ _ ys zs false HUy.out HUx.out HB).mono ?_; rintro e w2 ⟨rfl, hb2⟩))
                  all_goals
                    go_wp2
                    go_roundw
                    case rel => exact ⟨p + 1, by omega, by go_num, hl', hb3.trans (((Below.refl _ _).drew.trans hb2).mono hsz3)⟩
                    case measure => simp [intOf]; omega
              · obtain rfl : p = k := by omega
                have hs' := hs.succ (by rw [HR.out]; exact HCW.out) (by rw [HR.out]; exact hl)
                clear hl hs
                go_wp2
                go_roundw
                case rel => exact ⟨p + 1, by omega, by go_num, hs', hb3⟩
                case measure => simp [intOf]; omega
      · have e' : (m : Int) < 1 ∨ 4 < (m : Int) := by omega
        have HNO : Hid (b = false) := by
          show b = false
          cases b
          · rfl
          · have := (hb.out.1 rfl).2.1 k (by rw [HN.out]; exact hlt)
            rw [HR.out] at this
            have h := this.1
            rw [HM.out] at h
            exact absurd h e
        clear e hs
        go_wp2_with fail
        refine (inRange_no _ _ _ _ e').mono ?_
        rintro e w' ⟨rfl, rfl⟩
        go_wp2
        go_ret
        exact ⟨by rw [HNO.out]; rfl, hb1⟩
    · obtain rfl : k = n := by omega
      by_cases hbig : k ≤ 8
      · have HB : Hid (b = true) := hb.out.2 ⟨by rw [HN.out]; exact hbig, by rw [HN.out]; exact hs⟩
        have d1 : decide ((k : Int) ≤ 8) = true := decide_eq_true (by omega)
        go_wp2
        go_ret
        exact ⟨by rw [HB.out]; rfl, hb1⟩
      · have HB : Hid (b = false) := by
          show b = false
          cases b
          · rfl
          · have := (hb.out.1 rfl).1; have := HN.out; omega
        have d1 : decide ((k : Int) ≤ 8) = false := decide_eq_false (by omega)
        go_wp2
        go_ret
        exact ⟨by rw [HB.out]; rfl, hb1⟩
end Go.Proofs.Ytdjgodemeaneeaa
