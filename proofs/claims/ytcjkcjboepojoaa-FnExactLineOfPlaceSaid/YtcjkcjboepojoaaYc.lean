
/- The exact laws of PlaceOfLine and LineOfPlace; their draws. -/
import Derived.Test.YtcjkcjboepojoaaYb
namespace Go.Proofs.Ytcjkcjboepojoaa
open Go.RowKit

set_option maxHeartbeats 1000000 in
theorem exPlaceOfLine_walk (n h : Int) (w : World) :
    Calls Try.prog 5 #[.int .i64 n, .int .i64 h] w fun e w' => e = .returned (.bool true) ∧ Below w.heap.size w w' := by
  obtain ⟨a, b, hr⟩ := plOf_ex n h
  have HR := keptY hr
  clear hr
  go_enter Try.func5, Try.ntmps5
  go_wp2_with fail
  refine (s_PlaceOfLine _ n h a b HR).mono ?_
  rintro e w2 ⟨rfl, hb2⟩
  go_wp2_with fail
  refine (i_PlaceOfLine _ n h a b HR).mono ?_
  rintro e w3 ⟨rfl, hb3⟩
  go_wp2
  go_ret
  exact ⟨rfl, below_next hb2 hb3⟩
set_option maxHeartbeats 1000000 in
theorem exLineOfPlace_walk (p r h : Int) (w : World) :
    Calls Try.prog 6 #[.int .i64 p, .int .i64 r, .int .i64 h] w fun e w' => e = .returned (.bool true) ∧ Below w.heap.size w w' := by
  obtain ⟨x, hr⟩ := lnOf_ex p r h
  have HR := keptY hr
  clear hr
  go_enter Try.func6, Try.ntmps6
  go_wp2_with fail
  refine (s_LineOfPlace _ p r h x HR).mono ?_
  rintro e w2 ⟨rfl, rfl⟩
  go_wp2_with fail
  refine (i_LineOfPlace _ p r h x HR).mono ?_
  rintro e w2 ⟨rfl, rfl⟩
  go_wp2
  go_ret
  exact ⟨rfl, Below.refl _ _⟩
theorem plOf_back {n h a b : Int} (h1 : OkPl n h) (ha : a = n / (h - 1)) (hb : b = 1 + n % (h - 1)) : LnOf a b h n ∧ 0 ≤ a ∧ 1 ≤ b ∧ b < h := by
  obtain ⟨⟨p1, p2⟩, p3, p4⟩ := h1
  have hd := Int.emod_def n (h - 1)
  rw [Int.mul_comm] at hd
  rw [← ha] at hd
  have m0 := Int.emod_nonneg n (b := h - 1) (by omega)
  have m1 := Int.emod_lt_of_pos n (b := h - 1) (by omega)
  have a0 : 0 ≤ a := by rw [ha]; exact Int.ediv_nonneg p3 (by omega)
  have a1 : a ≤ 199 := by rw [ha]; exact Int.le_trans (Int.ediv_le_self _ p3) p4
  have e : a * (h - 1) + b - 1 = n := by omega
  exact ⟨.inl ⟨⟨⟨p1, p2⟩, ⟨a0, a1⟩, by omega, by omega⟩, by omega, e.symm⟩, a0, by omega, by omega⟩
theorem lnOf_back {p r h x : Int} (h1 : OkLn p r h) (h2 : p * (h - 1) + r - 1 ≤ 199) (hx : x = p * (h - 1) + r - 1) : PlOf x h p r ∧ 0 ≤ x := by
  obtain ⟨⟨p1, p2⟩, ⟨p3, p4⟩, p5, p6⟩ := h1
  have hm := mul_bd p3 p4 (m := h - 1) (by omega) (by omega)
  have hq : x / (h - 1) = p := by
    rw [hx, show p * (h - 1) + r - 1 = (r - 1) + p * (h - 1) from by omega, Int.add_mul_ediv_right _ _ (by omega), Int.ediv_eq_zero_of_lt (by omega) (by omega)]
    omega
  have hd := Int.emod_def x (h - 1)
  rw [hq, Int.mul_comm] at hd
  exact ⟨.inl ⟨⟨⟨p1, p2⟩, by omega, by omega⟩, hq.symm, by omega⟩, by omega⟩
def TwoDrawn (w : World) (e : Ending) (w' : World) : Prop :=
  ∃ n h : Int, e = .returned (.tuple #[.int .i64 n, .int .i64 h]) ∧ (-1 ≤ n ∧ n ≤ 1000) ∧ (1 ≤ h ∧ h ≤ 31) ∧ Below w.heap.size w w'
set_option maxHeartbeats 1000000 in
theorem drawPlaceOfLine_any (w : World) (a : Option Addr) (len cap : Nat) (zs : List Int) (h : RowIn .u8 w a len cap zs) :
    Calls Try.prog 7 #[.slice a len cap] w fun e w' => TwoDrawn w e w' := by
  obtain ⟨h1, h2, h3⟩ := bytesAt_of_row h
  clear h
  go_enter Try.func7, Try.ntmps7
  go_wp2_with fail
  refine (newReader_any w _ a len cap h1 (Nat.le_refl _) h2 h3).mono ?_
  rintro e w1 ⟨L, rfl, hrd, hgr⟩
  have hb := hgr.size
  go_wp2_with fail
  refine (pick_any w1 _ _ L 0 _ hrd (by omega) (by omega) (by omega)).mono ?_
  rintro e w2 ⟨k1, rfl, hk1, hrd1, hgr1⟩
  go_wp2_with fail
  refine (pick_any w2 _ _ L 1 _ hrd1 (by omega) (by omega) (by omega)).mono ?_
  rintro e w3 ⟨k2, rfl, hk2, hrd2, hgr2⟩
  go_wp2_with fail
  have hlt := hrd2.lt
  refine (one_any _ _ _ L 2 w3.heap.size 6 6 [k1, k2, 0, 199, 200, -1] (hrd2.alloc _) (heap_alloc_new w3 _) (by omega) (Lib.hid rfl) (by omega) (by omega) (by omega)).mono ?_
  rintro e w4 ⟨v, rfl, hv, hrd3, hgr3⟩
  have hG4 := keptY (grown_trans hgr1 (grown_trans hgr2 (grown_trans (World.grownBy_alloc w3 _ _) hgr3)))
  have hv' : -1 ≤ v ∧ v ≤ 1000 := by simp at hv; omega
  have hlt4 := hrd3.lt
  clear hv hgr1 hgr2 hgr3
  go_wp2_with fail
  refine (one_any _ _ _ L 3 w4.heap.size 7 7 [4, 3, 2, 30, 1, 31, 10] (hrd3.alloc _) (heap_alloc_new w4 _) (by omega) (Lib.hid rfl) (by omega) (by omega) (by omega)).mono ?_
  rintro e w5 ⟨u, rfl, hu, hrd5, hgr5⟩
  have hu' : 1 ≤ u ∧ u ≤ 31 := by simp at hu; omega
  have hG5 := keptY (grown_new hgr (grown_trans hG4.out (grown_trans (World.grownBy_alloc w4 _ _) hgr5)) (Nat.le_refl _))
  clear hu hgr5
  go_wp2
  refine bodyPost_ret (results_twoY rfl _ _ _) rfl ?_
  exact ⟨v, u, rfl, hv', hu', below_of_grown hG5.out⟩
def ThreeDrawn (w : World) (e : Ending) (w' : World) : Prop :=
  ∃ p r h : Int, e = .returned (.tuple #[.int .i64 p, .int .i64 r, .int .i64 h]) ∧ Below w.heap.size w w'
theorem results_threeY {fn : Func} {t u v : Tmp} (h : fn.results = #[.tmp t, .tmp u, .tmp v]) (tmps : Array Value) (P : Program) (w : World) :
    (results fn tmps).run P w = .ok (.tuple #[tmps.getD t undef, tmps.getD u undef, tmps.getD v undef]) w := by
  simp [results, h]
set_option maxHeartbeats 1000000 in
theorem drawLineOfPlace_any (w : World) (a : Option Addr) (len cap : Nat) (zs : List Int) (h : RowIn .u8 w a len cap zs) :
    Calls Try.prog 11 #[.slice a len cap] w fun e w' => ThreeDrawn w e w' := by
  obtain ⟨h1, h2, h3⟩ := bytesAt_of_row h
  clear h
  go_enter Try.func11, Try.ntmps11
  go_wp2_with fail
  refine (newReader_any w _ a len cap h1 (Nat.le_refl _) h2 h3).mono ?_
  rintro e w1 ⟨L, rfl, hrd, hgr⟩
  have hb := hgr.size
  have hlt := hrd.lt
  go_wp2_with fail
  refine (one_any _ _ _ L 0 w1.heap.size 7 7 [4, 3, 2, 30, 1, 31, 10] (hrd.alloc _) (heap_alloc_new w1 _) (by omega) (Lib.hid rfl) (by omega) (by omega) (by omega)).mono ?_
  rintro e w2 ⟨u, rfl, hu, hrd2, hgr2⟩
  have hu' : 1 ≤ u ∧ u ≤ 31 := by simp at hu; omega
  have hG2 := keptY (grown_trans (World.grownBy_alloc w1 _ _) hgr2)
  clear hu hgr2 hrd
  go_wp2_with fail
  refine (pick_any w2 _ _ L 1 _ hrd2 (by omega) (by omega) (by omega)).mono ?_
  rintro e w3 ⟨k1, rfl, hk1, hrd3, hgr3⟩
  go_wp2_with fail
  refine (pick_any w3 _ _ L 2 _ hrd3 (by omega) (by omega) (by omega)).mono ?_
  rintro e w4 ⟨k2, rfl, hk2, hrd4, hgr4⟩
  go_wp2_with fail
  have hlt4 := hrd4.lt
  refine (one_any _ _ _ L 3 w4.heap.size 5 5 [k1, 0, k2, 199, -1] (hrd4.alloc _) (heap_alloc_new w4 _) (by omega) (Lib.hid rfl) (by omega) (by omega) (by omega)).mono ?_
  rintro e w5 ⟨v, rfl, hv, hrd5, hgr5⟩
  have hG5 := keptY (grown_trans hG2.out (grown_trans hgr3 (grown_trans hgr4 (grown_trans (World.grownBy_alloc w4 _ _) hgr5))))
  have hlt5 := hrd5.lt
  clear hv hgr3 hgr4 hgr5
  go_wp2_with fail
  refine (one_any _ _ _ L 4 w5.heap.size 6 6 [1, 2, u - 1, u, 0, 3] (hrd5.alloc _) (heap_alloc_new w5 _) (by omega) (Lib.hid rfl) (by omega) (by omega) (by omega)).mono ?_
  rintro e w6 ⟨x, rfl, hx, hrd6, hgr6⟩
  have hG6 := keptY (grown_new hgr (grown_trans hG5.out (grown_trans (World.grownBy_alloc w5 _ _) hgr6)) (Nat.le_refl _))
  clear hx hgr6
  go_wp2
  refine bodyPost_ret (results_threeY rfl _ _ _) rfl ?_
  exact ⟨v, x, u, rfl, below_of_grown hG6.out⟩
set_option maxHeartbeats 1000000 in
theorem placeOfLine_walk (a : Option Addr) (len cap : Nat) (zs : List Int) (w : World) (h : RowIn .u8 w a len cap zs) :
    Calls Try.prog 3 #[.slice a len cap] w fun e w' => e = .returned (.bool true) ∧ Below w.heap.size w w' := by
  have hlen : len ≤ 9223372036854775807 := by
    obtain ⟨_, h2, h3⟩ := bytesAt_of_row h; unfold maxLen at h3; omega
  by_cases hbig : len ≤ 1048576
  · go_enter Try.func3, Try.ntmps3
    go_wp2_with fail
    refine (drawPlaceOfLine_any w a len cap zs h).mono ?_
    rintro e w1 ⟨n, ht, rfl, hn, hh, hb1⟩
    clear h
    obtain ⟨x, y, hr⟩ := plOf_ex n ht
    have HR := keptY hr
    go_wp2_with fail
    refine (i_PlaceOfLine _ n ht x y HR).mono ?_
    rintro e w2 ⟨rfl, hb2⟩
    go_wp2_with fail
    refine (s_PlaceOfLine _ n ht x y HR).mono ?_
    rintro e w3 ⟨rfl, hb3⟩
    have hB3 := below_next (below_next hb1 hb2) hb3
    clear hb1 hb2 hb3
    rcases hr with ⟨h1, hx, hy⟩ | ⟨_, rfl, rfl⟩
    · obtain ⟨k1, k2, k3, k4⟩ := plOf_back h1 hx hy
      have K1 := keptY k1
      have d1 : decide (x < 0) = false := decide_eq_false (by omega)
      have d2 : decide (1 ≤ y) = true := decide_eq_true (by omega)
      have d3 : decide (y < ht) = true := decide_eq_true (by omega)
      clear hx hy h1 k1
      go_wp2_with fail
      refine (i_LineOfPlace _ x y ht n K1).mono ?_
      rintro e w4 ⟨rfl, rfl⟩
      go_wp2
      go_ret
      exact ⟨rfl, hB3⟩
    · go_wp2
      go_ret
      exact ⟨rfl, hB3⟩
  · go_enter Try.func3, Try.ntmps3
    go_wp2
    go_ret
    exact ⟨rfl, Below.refl _ _⟩
set_option maxHeartbeats 1000000 in
theorem lineOfPlace_walk (a : Option Addr) (len cap : Nat) (zs : List Int) (w : World) (h : RowIn .u8 w a len cap zs) :
    Calls Try.prog 4 #[.slice a len cap] w fun e w' => e = .returned (.bool true) ∧ Below w.heap.size w w' := by
  have hlen : len ≤ 9223372036854775807 := by
    obtain ⟨_, h2, h3⟩ := bytesAt_of_row h; unfold maxLen at h3; omega
  by_cases hbig : len ≤ 1048576
  · go_enter Try.func4, Try.ntmps4
    go_wp2_with fail
    refine (drawLineOfPlace_any w a len cap zs h).mono ?_
    rintro e w1 ⟨p, r, ht, rfl, hb1⟩
    clear h
    obtain ⟨x, hr⟩ := lnOf_ex p r ht
    have HR := keptY hr
    go_wp2_with fail
    refine (i_LineOfPlace _ p r ht x HR).mono ?_
    rintro e w2 ⟨rfl, rfl⟩
    go_wp2_with fail
    refine (s_LineOfPlace _ p r ht x HR).mono ?_
    rintro e w2 ⟨rfl, rfl⟩
    rcases hr with ⟨h1, h2, hx⟩ | ⟨_, rfl⟩
    · obtain ⟨k1, k2⟩ := lnOf_back h1 h2 hx
      have K1 := keptY k1
      have d1 : decide (x < 0) = false := decide_eq_false (by omega)
      clear hx h1 h2 k1
      go_wp2_with fail
      refine (i_PlaceOfLine _ x ht p r K1).mono ?_
      rintro e w4 ⟨rfl, hb4⟩
      go_wp2
      go_ret
      exact ⟨rfl, below_next hb1 hb4⟩
    · go_wp2_with fail
      refine (s_LineOfPlace _ p r ht (-1) HR).mono ?_
      rintro e w2 ⟨rfl, rfl⟩
      go_wp2
      go_ret
      exact ⟨rfl, hb1⟩
  · go_enter Try.func4, Try.ntmps4
    go_wp2
    go_ret
    exact ⟨rfl, Below.refl _ _⟩
end Go.Proofs.Ytcjkcjboepojoaa
