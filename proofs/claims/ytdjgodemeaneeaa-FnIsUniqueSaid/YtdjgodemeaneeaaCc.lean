
/- Lists in lists: impl.sameCells, impl.hasList, spec.hasList. -/
import Derived.Test.YtdjgodemeaneeaaCa
import Derived.Test.YtdjgodemeaneeaaSameInts
import Derived.Deep.RegionHeld3
namespace Go.Proofs.Ytdjgodemeaneeaa
open Go.RowKit

set_option maxHeartbeats 1000000 in
theorem i_sameCells (w : World) (u v : Value) (xs ys : List Int) (hx : IntsAt w u xs) (hy : IntsAt w v ys) :
    Calls Try.prog 98 #[u, v] w fun e w' => e = .returned (.bool (decide (xs = ys))) ∧ Below w.heap.size w w' := by
  obtain ⟨a, c, rfl, x1, x2, x3⟩ := hx
  obtain ⟨b, d, rfl, y1, y2, y3⟩ := hy
  obtain ⟨n, hn⟩ : ∃ n, xs.length = n := ⟨_, rfl⟩
  obtain ⟨m, hm⟩ : ∃ m, ys.length = m := ⟨_, rfl⟩
  rw [hn] at x1 x3 ⊢
  rw [hm] at y1 y3 ⊢
  have HN := Lib.hid hn
  have HM := Lib.hid hm
  clear hn hm
  by_cases hnm : n = m
  · subst hnm
    go_enter Try.func98, Try.ntmps98
    go_wp2
    go_loopw [13] (fun i wr => ∃ k : Nat, k ≤ n ∧ i = .int .i64 k ∧ SameUp xs ys k ∧ ∃ q, wr = w.drewN q) (fun i _ => n - (intOf i).toNat)
    case atStart => exact ⟨0, Nat.zero_le _, rfl, SameUp.zero _ _, 0, rfl⟩
    case round =>
      obtain ⟨k, hk, rfl, hs, q, rfl⟩ := hrel
      by_cases hlt : k < n
      · rcases x3 with rfl | ⟨g, off, rfl, x3⟩
        · exact absurd HN.out (by simp; omega)
        rcases y3 with rfl | ⟨g2, off2, rfl, y3⟩
        · exact absurd HM.out (by simp; omega)
        have cx := x3 k hlt
        have cy := y3 k hlt
        obtain ⟨zx, hzx⟩ : ∃ z, xs.getD k 0 = z := ⟨_, rfl⟩
        obtain ⟨zy, hzy⟩ : ∃ z, ys.getD k 0 = z := ⟨_, rfl⟩
        rw [hzx] at cx
        rw [hzy] at cy
        have HX := Lib.hid hzx
        have HY := Lib.hid hzy
        clear hzx hzy x3 y3
        by_cases e : zx = zy
        · have e1 : (zx != zy) = false := by simpa using e
          have E := Lib.hid e
          clear e
          go_wp2
          go_quiet (fail)
          go_wp2
          go_roundw
          case rel => exact ⟨k + 1, by omega, by go_num, hs.succ (by rw [HX.out, HY.out, E.out]), _, rfl⟩
          case measure => simp [intOf]; omega
        · have e1 : (zx != zy) = true := by simpa using e
          have E := Lib.hid e
          clear e
          go_wp2
          go_quiet (fail)
          go_wp2
          go_ret
          refine ⟨ret_bool ?_, below_drewN (below_drewN (Below.refl _ _) _) _⟩
          symm
          apply decide_eq_false
          rintro rfl
          exact E.out (by rw [← HX.out, ← HY.out])
      · go_wp2
        go_ret
        obtain rfl : k = n := by omega
        exact ⟨ret_bool (decide_eq_true (hs.all HN.out HM.out)).symm, below_drewN (Below.refl _ _) _⟩
  · have e1 : ((n : Int) != (m : Int)) = true := by simp; omega
    have e2 : ((n : Int) == (m : Int)) = false := by simp; omega
    go_enter Try.func98, Try.ntmps98
    go_wp2
    go_ret
    refine ⟨ret_bool ?_, Below.refl _ _⟩
    symm
    apply decide_eq_false
    rintro rfl
    exact hnm (HN.out.symm.trans HM.out)
theorem i_sameCells_b (w : World) (u v : Value) (xs ys : List Int) (b : Bool) (hx : IntsAt w u xs) (hy : IntsAt w v ys) (hb : Hid (decide (xs = ys) = b)) :
    Calls Try.prog 98 #[u, v] w fun e w' => e = .returned (.bool b) ∧ Below w.heap.size w w' := by
  have := i_sameCells w u v xs ys hx hy
  rw [hb.out] at this
  exact this
theorem s_sameInts_b (w : World) (u v : Value) (xs ys : List Int) (b : Bool) (hx : IntsAt w u xs) (hy : IntsAt w v ys) (hb : Hid (decide (xs = ys) = b)) :
    Calls Try.prog 94 #[u, v] w fun e w' => e = .returned (.bool b) ∧ Below w.heap.size w w' := by
  have := sameInts_any w u v xs ys hx hy
  rw [hb.out] at this
  exact this

/-- the first k lists are not xs -/
def LNone (L : List (List Int)) (xs : List Int) (k : Nat) : Prop := ∀ i, i < k → L.getD i [] ≠ xs
theorem LNone.zero (L : List (List Int)) (xs : List Int) : LNone L xs 0 := fun i h => absurd h (by omega)
theorem LNone.succ {L : List (List Int)} {xs : List Int} {k : Nat} (h : LNone L xs k) (e : L.getD k [] ≠ xs) : LNone L xs (k + 1) := fun i hi => by
  by_cases hik : i = k
  · subst hik; exact e
  · exact h i (by omega)
theorem LNone.all {L : List (List Int)} {xs : List Int} {n : Nat} (h : LNone L xs n) (hn : L.length = n) : xs ∉ L := by
  intro hm
  obtain ⟨i, hi, rfl⟩ := List.getElem_of_mem hm
  exact h i (by omega) (by simp [List.getD_eq_getElem?_getD, hi])
theorem lmem_of_getD {L : List (List Int)} {xs : List Int} {k n : Nat} (hn : L.length = n) (hk : k < n) (e : L.getD k [] = xs) : xs ∈ L := by
  subst e
  rw [List.getD_eq_getElem?_getD, List.getElem?_eq_getElem (by omega), Option.getD_some]; exact List.getElem_mem _

set_option maxHeartbeats 1000000 in
theorem i_hasList (w : World) (u v : Value) (L : List (List Int)) (xs : List Int) (hx : ListsAt w u L) (hy : IntsAt w v xs) :
    Calls Try.prog 64 #[u, v] w fun e w' => e = .returned (.bool (decide (xs ∈ L))) ∧ Below w.heap.size w w' := by
  obtain ⟨a, c, rfl, x1, x2, x3⟩ := hx
  obtain ⟨n, hn⟩ : ∃ n, L.length = n := ⟨_, rfl⟩
  rw [hn] at x1 x3 ⊢
  have HN := Lib.hid hn
  have HV := Lib.hid hy
  clear hn
  obtain ⟨a3, cp3, rfl, _⟩ := hy
  go_enter Try.func64, Try.ntmps64
  go_wp2
  go_loopw [9] (fun i wr => ∃ k : Nat, k ≤ n ∧ i = .int .i64 k ∧ LNone L xs k ∧ Below w.heap.size w wr) (fun i _ => n - (intOf i).toNat)
  case atStart => exact ⟨0, Nat.zero_le _, rfl, LNone.zero _ _, Below.refl _ _⟩
  case round =>
    obtain ⟨k, hk, rfl, hs, hb⟩ := hrel
    by_cases hlt : k < n
    · rcases x3 with rfl | ⟨g, off, rfl, x3⟩
      · exact absurd HN.out (by simp; omega)
      obtain ⟨u, c1, hu⟩ := x3 k hlt
      obtain ⟨zs, hr⟩ : ∃ zs, L.getD k [] = zs := ⟨_, rfl⟩
      rw [hr] at hu
      have HR := Lib.hid hr
      clear hr x3
      have HU : Hid (IntsAt w u zs) := hu
      obtain ⟨a2, cp2, rfl, h1, h2, _⟩ := hu
      have c1 := (hb.cell (World.block_lt_of_cell? w _ c1)).trans c1
      by_cases e : zs = xs
      · have HB : Hid (decide (zs = xs) = true) := decide_eq_true e
        have HM : Hid (xs ∈ L) := lmem_of_getD HN.out hlt (HR.out.trans e)
        clear e hs
        go_wp2_with fail
        refine (i_sameCells_b wr _ _ zs xs true (HU.out.below hb) (HV.out.below hb) HB).mono ?_
        rintro e w2 ⟨rfl, hb2⟩
        go_wp2
        go_ret
        exact ⟨ret_bool (decide_eq_true HM.out).symm, below_next hb hb2⟩
      · have HB : Hid (decide (zs = xs) = false) := decide_eq_false e
        have hs' := hs.succ (by rw [HR.out]; exact e)
        clear e hs
        go_wp2_with fail
        refine (i_sameCells_b wr _ _ zs xs false (HU.out.below hb) (HV.out.below hb) HB).mono ?_
        rintro e w2 ⟨rfl, hb2⟩
        go_wp2
        go_roundw
        case rel => exact ⟨k + 1, by omega, by go_num, hs', below_next hb hb2⟩
        case measure => simp [intOf]; omega
    · go_wp2
      go_ret
      obtain rfl : k = n := by omega
      exact ⟨ret_bool (decide_eq_false (hs.all HN.out)).symm, hb⟩
theorem i_hasList_b (w : World) (u v : Value) (L : List (List Int)) (xs : List Int) (b : Bool) (hx : ListsAt w u L) (hy : IntsAt w v xs) (hb : Hid (decide (xs ∈ L) = b)) :
    Calls Try.prog 64 #[u, v] w fun e w' => e = .returned (.bool b) ∧ Below w.heap.size w w' := by
  have := i_hasList w u v L xs hx hy
  rw [hb.out] at this
  exact this

set_option maxHeartbeats 1000000 in
theorem s_hasList (w : World) (u v : Value) (L : List (List Int)) (xs : List Int) (hx : ListsAt w u L) (hy : IntsAt w v xs) :
    Calls Try.prog 90 #[u, v] w fun e w' => e = .returned (.bool (decide (xs ∈ L))) ∧ Below w.heap.size w w' := by
  obtain ⟨a, c, rfl, x1, x2, x3⟩ := hx
  obtain ⟨n, hn⟩ : ∃ n, L.length = n := ⟨_, rfl⟩
  rw [hn] at x1 x3 ⊢
  have HN := Lib.hid hn
  have HV := Lib.hid hy
  clear hn
  obtain ⟨a3, cp3, rfl, _⟩ := hy
  go_enter Try.func90, Try.ntmps90
  go_wp2
  go_loopw [5] (fun i wr => ∃ k : Nat, k ≤ n ∧ i = .int .i64 k ∧ LNone L xs k ∧ Below w.heap.size w wr) (fun i _ => n - (intOf i).toNat)
  case atStart => exact ⟨0, Nat.zero_le _, rfl, LNone.zero _ _, Below.refl _ _⟩
  case round =>
    obtain ⟨k, hk, rfl, hs, hb⟩ := hrel
    by_cases hlt : k < n
    · rcases x3 with rfl | ⟨g, off, rfl, x3⟩
      · exact absurd HN.out (by simp; omega)
      obtain ⟨u, c1, hu⟩ := x3 k hlt
      obtain ⟨zs, hr⟩ : ∃ zs, L.getD k [] = zs := ⟨_, rfl⟩
      rw [hr] at hu
      have HR := Lib.hid hr
      clear hr x3
      have HU : Hid (IntsAt w u zs) := hu
      obtain ⟨a2, cp2, rfl, h1, h2, _⟩ := hu
      have c1 := (hb.cell (World.block_lt_of_cell? w _ c1)).trans c1
      by_cases e : zs = xs
      · have HB : Hid (decide (zs = xs) = true) := decide_eq_true e
        have HM : Hid (xs ∈ L) := lmem_of_getD HN.out hlt (HR.out.trans e)
        clear e hs
        go_wp2_with fail
        refine (s_sameInts_b wr _ _ zs xs true (HU.out.below hb) (HV.out.below hb) HB).mono ?_
        rintro e w2 ⟨rfl, hb2⟩
        go_wp2
        go_ret
        exact ⟨ret_bool (decide_eq_true HM.out).symm, below_next hb hb2⟩
      · have HB : Hid (decide (zs = xs) = false) := decide_eq_false e
        have hs' := hs.succ (by rw [HR.out]; exact e)
        clear e hs
        go_wp2_with fail
        refine (s_sameInts_b wr _ _ zs xs false (HU.out.below hb) (HV.out.below hb) HB).mono ?_
        rintro e w2 ⟨rfl, hb2⟩
        go_wp2
        go_roundw
        case rel => exact ⟨k + 1, by omega, by go_num, hs', below_next hb hb2⟩
        case measure => simp [intOf]; omega
    · go_wp2
      go_ret
      obtain rfl : k = n := by omega
      exact ⟨ret_bool (decide_eq_false (hs.all HN.out)).symm, hb⟩
theorem s_hasList_b (w : World) (u v : Value) (L : List (List Int)) (xs : List Int) (b : Bool) (hx : ListsAt w u L) (hy : IntsAt w v xs) (hb : Hid (decide (xs ∈ L) = b)) :
    Calls Try.prog 90 #[u, v] w fun e w' => e = .returned (.bool b) ∧ Below w.heap.size w w' := by
  have := s_hasList w u v L xs hx hy
  rw [hb.out] at this
  exact this
end Go.Proofs.Ytdjgodemeaneeaa
