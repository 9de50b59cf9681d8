
/- P160, P161, P202: kinds of cells. -/
import Derived.Test.YtekchmbbafjmmaaPdd
import Derived.Test.YtekchmbbafjmmaaPrC
import Derived.Test.YtekchmbbafjmmaaDrC
namespace Go.Proofs.Ytekchmbbafjmmaa
open Go.RowKit

theorem kind_table1 : ∀ x : Nat, x < 64 → ∀ y : Nat, y < 64 → (0 ≤ kindV x y ∧ kindV x y ≤ 4) ∧ (kindV x y = 0 ↔ x = y) ∧ (kindV x y = 1 ↔ kindV y x = 2) ∧ (kindV x y = 3 ↔ kindV y x = 3) := by decide +kernel
theorem kind_table2 : ∀ x : Nat, x < 64 → ∀ y : Nat, y < 64 → kindV (x % 8 * 8 + x / 8) (y % 8 * 8 + y / 8) = kindV x y ∧ (kindV x y = 1 → pc x < pc y) ∧ (kindV x y = 2 → pc y < pc x) ∧ (kindV x y = 4 → pc x ≠ pc y) := by decide +kernel
theorem kind_table3 : ∀ x : Nat, x < 64 → ∀ y : Nat, y < 64 → (kindV x y = 0 → pc x = pc y) ∧ (kindV x y = 3 → pc x = pc y) := by decide +kernel
theorem kind_table (x : Nat) (hx : x < 64) (y : Nat) (hy : y < 64) : (0 ≤ kindV x y ∧ kindV x y ≤ 4) ∧ (kindV x y = 0 ↔ x = y) ∧ (kindV x y = 1 ↔ kindV y x = 2) ∧ (kindV x y = 3 ↔ kindV y x = 3) ∧ kindV (x % 8 * 8 + x / 8) (y % 8 * 8 + y / 8) = kindV x y ∧
    ((kindV x y = 1 → pc x < pc y) ∧ (kindV x y = 2 → pc y < pc x) ∧ (kindV x y = 4 → pc x ≠ pc y) ∧ (kindV x y = 0 → pc x = pc y) ∧ (kindV x y = 3 → pc x = pc y)) := by
  obtain ⟨a1, a2, a3, a4⟩ := kind_table1 x hx y hy
  obtain ⟨b1, b2, b3, b4⟩ := kind_table2 x hx y hy
  obtain ⟨c1, c2⟩ := kind_table3 x hx y hy
  exact ⟨a1, a2, a3, a4, b1, b2, b3, b4, c1, c2⟩
def TwoDrawn (w : World) (e : Ending) (w' : World) : Prop := ∃ x y : Int, e = .returned (.tuple #[.int .i64 x, .int .i64 y]) ∧ Below w.heap.size w w'
theorem s_Mirror_some (x : Int) (w : World) :
    Calls Try.prog 48 #[.int .i64 x] w fun e w' => ∃ m : Int, e = .returned (.int .i64 m) ∧ w = w' := by
  by_cases h : Cl x
  · obtain ⟨c, rfl⟩ : ∃ c : Nat, x = c := ⟨x.toNat, by have := h.1; omega⟩
    exact (s_Mirror c _ w (by have := h.2; omega) (Lib.hid rfl)).mono fun e w' ⟨h1, h2⟩ => ⟨_, h1, h2⟩
  · exact (s_Mirror_no x w (by unfold Cl at h; omega)).mono fun e w' ⟨h1, h2⟩ => ⟨_, h1, h2⟩
theorem results_twoK {fn : Func} {t u : Tmp} (h : fn.results = #[.tmp t, .tmp u]) (tmps : Array Value) (P : Program) (w : World) :
    (results fn tmps).run P w = .ok (.tuple #[tmps.getD t undef, tmps.getD u undef]) w := by
  simp [results, h]
set_option maxHeartbeats 1000000 in
theorem drawKindOf_any (w : World) (a : Option Addr) (len cap : Nat) (zs : List Int) (h : RowIn .u8 w a len cap zs) :
    Calls Try.prog 18 #[.slice a len cap] w fun e w' => TwoDrawn w e w' := by
  obtain ⟨h1, h2, h3⟩ := bytesAt_of_row h
  clear h
  go_enter Try.func18, Try.ntmps18
  go_wp2_with fail
  refine (newReader_any w _ a len cap h1 (Nat.le_refl _) h2 h3).mono ?_
  rintro e w1 ⟨L, rfl, hrd, hgr⟩
  go_wp2_with fail
  refine (anyCell_any w1 w.heap.size w.heap.size L 0 hrd (by omega)).mono ?_
  rintro e w2 ⟨x, rfl, _, _, hrd2, hgr2⟩
  go_wp2_with fail
  refine (anyCell_any w2 w.heap.size w.heap.size L _ hrd2 (by omega)).mono ?_
  rintro e w3 ⟨x2, rfl, _, _, hrd3, hgr3⟩
  go_wp2_with fail
  refine (anyCell_any w3 w.heap.size w.heap.size L _ hrd3 (by omega)).mono ?_
  rintro e w4 ⟨x3, rfl, _, _, hrd4, hgr4⟩
  go_wp2_with fail
  refine (s_Mirror_some x w4).mono ?_
  rintro e w' ⟨m, rfl, rfl⟩
  have hlt := hrd4.lt
  go_wp2_with fail
  refine (one_any _ w.heap.size w.heap.size L _ w4.heap.size 6 6 [x2, x3, x, 63, 0, m] (hrd4.alloc _) (heap_alloc_new w4 _) (by omega) (Lib.hid rfl) (by omega) (by omega) (by omega)).mono ?_
  rintro e w5 ⟨y, rfl, _, hrd5, hgr5⟩
  have hg := grown_new hgr (grown_trans (grown_trans hgr2 (grown_trans hgr3 hgr4)) (grown_trans (World.grownBy_alloc w4 _ _) hgr5)) (Nat.le_refl _)
  clear hgr hgr2 hgr3 hgr4 hgr5
  go_wp2
  refine bodyPost_ret (results_twoK rfl _ _ _) rfl ?_
  exact ⟨x, y, rfl, below_of_grown hg⟩
theorem i_dots_len (c : Nat) (p : Nat) (w : World) (hc : c < 64) (hp : Hid (pc c = p)) :
    Calls Try.prog 22 #[.int .i64 c] w fun e w' => ∃ a cp, e = .returned (.slice a p cp) ∧ Below w.heap.size w w' :=
  (i_dotsOf c w hc).mono fun e w' ⟨v, h1, h2, h3, a, n, cp, h4⟩ => by
    subst h4
    obtain ⟨_, _, e5, _⟩ := h2.at
    injection e5 with _ e6 _
    rw [dots_table c hc, hp.out] at e6
    subst e6
    exact ⟨a, cp, h1, h3⟩
set_option maxHeartbeats 4000000 in
theorem kindOf_walk (a : Option Addr) (len cap : Nat) (zs : List Int) (w : World) (h : RowIn .u8 w a len cap zs) :
    Calls Try.prog 3 #[.slice a len cap] w fun e w' => e = .returned (.bool true) ∧ Below w.heap.size w w' := by
  have hlen : len ≤ 9223372036854775807 := by
    obtain ⟨_, h2, h3⟩ := bytesAt_of_row h; unfold maxLen at h3; omega
  by_cases hbig : len ≤ 1048576
  · go_enter Try.func3, Try.ntmps3
    go_wp2_with fail
    refine (drawKindOf_any w a len cap zs h).mono ?_
    rintro e w1 ⟨x, y, rfl, hb1⟩
    clear h
    obtain ⟨v, hv⟩ : ∃ v, kindA x y = v := ⟨_, rfl⟩
    have HV := Lib.hid hv
    go_wp2_with fail
    refine (i_KindOf x y v _ HV).mono ?_
    rintro e w' ⟨rfl, rfl⟩
    go_wp2_with fail
    refine (s_KindOf x y v _ HV).mono ?_
    rintro e w2 ⟨rfl, hb2⟩
    have hB2 := below_next hb1 hb2
    clear hb1 hb2
    by_cases hcl : Cl x ∧ Cl y
    · obtain ⟨m, rfl⟩ : ∃ m : Nat, x = m := ⟨x.toNat, by have := hcl.1.1; omega⟩
      obtain ⟨n, rfl⟩ : ∃ n : Nat, y = n := ⟨y.toNat, by have := hcl.2.1; omega⟩
      have hm : m < 64 := by have := hcl.1.2; omega
      have hn : n < 64 := by have := hcl.2.2; omega
      have hvk : kindV m n = v := by rw [← hv, kindA, if_pos hcl]; simp
      obtain ⟨t0, t1, t2, t3, t4, t5⟩ := kind_table m hm n hn
      rw [hvk] at t0 t1 t2 t3 t4 t5
      have d0 : decide (v < 0) = false := decide_eq_false (by omega)
      obtain ⟨u, hu⟩ : ∃ u, kindV n m = u := ⟨_, rfl⟩
      rw [hu] at t2 t3
      have hu2 := (kind_table n hn m hm).1
      rw [hu] at hu2
      have HU : Hid (kindA (n : Int) (m : Int) = u) := by show _ = _; rw [← hu, kindA, if_pos ⟨hcl.2, hcl.1⟩]; simp
      clear hv hvk hcl t4 t5 hu
      go_wp2_with fail
      refine (i_KindOf _ _ u _ HU).mono ?_
      rintro e w' ⟨rfl, rfl⟩
      have d1 : ((m : Int) == (n : Int)) = decide (v = 0) := by
        by_cases hmn : m = n
        · rw [decide_eq_true (t1.2 hmn)]; simp; omega
        · rw [decide_eq_false (fun h => hmn (t1.1 h))]; simp; omega
      have HD := Lib.hid d1
      have HV0 := Lib.hid t0
      have hv5 : v = 0 ∨ v = 1 ∨ v = 2 ∨ v = 3 ∨ v = 4 := by omega
      have hu5 : u = 0 ∨ u = 1 ∨ u = 2 ∨ u = 3 ∨ u = 4 := by omega
      clear d0 t0 t1 hu2 d1
      rcases hv5 with rfl | rfl | rfl | rfl | rfl <;> rcases hu5 with rfl | rfl | rfl | rfl | rfl <;> first
        | (exfalso; simp at t2 t3; done)
        | (have d2 : ((m : Int) == (n : Int)) = true := by rw [HD.out]; rfl
           clear t2 t3 HD HV0 HV HU
           go_wp2
           go_ret
           exact ⟨rfl, hB2⟩)
        | (have d2 : ((m : Int) == (n : Int)) = false := by rw [HD.out]; rfl
           clear t2 t3 HD HV0 HV HU
           go_wp2
           go_ret
           exact ⟨rfl, hB2⟩)
    · have hv1 : v = -1 := by rw [← hv, kindA, if_neg hcl]
      subst hv1
      clear hv hcl
      go_wp2_with fail
      refine (s_KindOf x y _ _ HV).mono ?_
      rintro e w3 ⟨rfl, hb3⟩
      go_wp2
      go_ret
      exact ⟨rfl, below_next hB2 hb3⟩
  · have d : decide (len ≤ 1048576) = false := decide_eq_false hbig
    have hl : (1048576 : Int) < len := by omega
    clear h
    go_enter Try.func3, Try.ntmps3
    go_wp2
    go_ret
    exact ⟨rfl, Below.refl _ _⟩
set_option maxHeartbeats 4000000 in
theorem kindOfMirror_walk (a : Option Addr) (len cap : Nat) (zs : List Int) (w : World) (h : RowIn .u8 w a len cap zs) :
    Calls Try.prog 4 #[.slice a len cap] w fun e w' => e = .returned (.bool true) ∧ Below w.heap.size w w' := by
  have hlen : len ≤ 9223372036854775807 := by
    obtain ⟨_, h2, h3⟩ := bytesAt_of_row h; unfold maxLen at h3; omega
  by_cases hbig : len ≤ 1048576
  · go_enter Try.func4, Try.ntmps4
    go_wp2_with fail
    refine (drawKindOf_any w a len cap zs h).mono ?_
    rintro e w1 ⟨x, y, rfl, hb1⟩
    clear h
    obtain ⟨v, hv⟩ : ∃ v, kindA x y = v := ⟨_, rfl⟩
    have HV := Lib.hid hv
    go_wp2_with fail
    refine (i_KindOf x y v _ HV).mono ?_
    rintro e w' ⟨rfl, rfl⟩
    go_wp2_with fail
    refine (s_KindOf x y v _ HV).mono ?_
    rintro e w2 ⟨rfl, hb2⟩
    have hB2 := below_next hb1 hb2
    clear hb1 hb2
    by_cases hcl : Cl x ∧ Cl y
    · obtain ⟨m, rfl⟩ : ∃ m : Nat, x = m := ⟨x.toNat, by have := hcl.1.1; omega⟩
      obtain ⟨n, rfl⟩ : ∃ n : Nat, y = n := ⟨y.toNat, by have := hcl.2.1; omega⟩
      have hm : m < 64 := by have := hcl.1.2; omega
      have hn : n < 64 := by have := hcl.2.2; omega
      have hvk : kindV m n = v := by rw [← hv, kindA, if_pos hcl]; simp
      obtain ⟨t0, t1, t2, t3, t4, t5⟩ := kind_table m hm n hn
      rw [hvk] at t0 t1 t2 t3 t4 t5
      have d0 : decide (v < 0) = false := decide_eq_false (by omega)
      obtain ⟨m2, hm2⟩ : ∃ m2, m % 8 * 8 + m / 8 = m2 := ⟨_, rfl⟩
      obtain ⟨n2, hn2⟩ : ∃ n2, n % 8 * 8 + n / 8 = n2 := ⟨_, rfl⟩
      rw [hm2, hn2] at t4
      have HU : Hid (kindA (m2 : Int) (n2 : Int) = v) := by
        show _ = _
        rw [← t4, kindA, if_pos ⟨⟨by omega, by omega⟩, ⟨by omega, by omega⟩⟩]; simp
      have HM2 := Lib.hid hm2
      have HN2 := Lib.hid hn2
      clear hv hvk hcl t1 t2 t3 t4 t5 hm2 hn2
      go_wp2_with fail
      refine (i_Mirror m m2 _ hm HM2).mono ?_
      rintro e w' ⟨rfl, rfl⟩
      go_wp2_with fail
      refine (i_Mirror n n2 _ hn HN2).mono ?_
      rintro e w' ⟨rfl, rfl⟩
      go_wp2_with fail
      refine (i_KindOf _ _ v _ HU).mono ?_
      rintro e w' ⟨rfl, rfl⟩
      go_wp2
      go_ret
      exact ⟨rfl, hB2⟩
    · have hv1 : v = -1 := by rw [← hv, kindA, if_neg hcl]
      subst hv1
      clear hv hcl
      go_wp2_with fail
      refine (s_KindOf x y _ _ HV).mono ?_
      rintro e w3 ⟨rfl, hb3⟩
      go_wp2
      go_ret
      exact ⟨rfl, below_next hB2 hb3⟩
  · have d : decide (len ≤ 1048576) = false := decide_eq_false hbig
    have hl : (1048576 : Int) < len := by omega
    clear h
    go_enter Try.func4, Try.ntmps4
    go_wp2
    go_ret
    exact ⟨rfl, Below.refl _ _⟩
set_option maxHeartbeats 4000000 in
theorem kindOfDots_walk (a : Option Addr) (len cap : Nat) (zs : List Int) (w : World) (h : RowIn .u8 w a len cap zs) :
    Calls Try.prog 5 #[.slice a len cap] w fun e w' => e = .returned (.bool true) ∧ Below w.heap.size w w' := by
  have hlen : len ≤ 9223372036854775807 := by
    obtain ⟨_, h2, h3⟩ := bytesAt_of_row h; unfold maxLen at h3; omega
  by_cases hbig : len ≤ 1048576
  · go_enter Try.func5, Try.ntmps5
    go_wp2_with fail
    refine (drawKindOf_any w a len cap zs h).mono ?_
    rintro e w1 ⟨x, y, rfl, hb1⟩
    clear h
    obtain ⟨v, hv⟩ : ∃ v, kindA x y = v := ⟨_, rfl⟩
    have HV := Lib.hid hv
    go_wp2_with fail
    refine (i_KindOf x y v _ HV).mono ?_
    rintro e w' ⟨rfl, rfl⟩
    go_wp2_with fail
    refine (s_KindOf x y v _ HV).mono ?_
    rintro e w2 ⟨rfl, hb2⟩
    have hB2 := below_next hb1 hb2
    clear hb1 hb2
    by_cases hcl : Cl x ∧ Cl y
    · obtain ⟨m, rfl⟩ : ∃ m : Nat, x = m := ⟨x.toNat, by have := hcl.1.1; omega⟩
      obtain ⟨n, rfl⟩ : ∃ n : Nat, y = n := ⟨y.toNat, by have := hcl.2.1; omega⟩
      have hm : m < 64 := by have := hcl.1.2; omega
      have hn : n < 64 := by have := hcl.2.2; omega
      have hvk : kindV m n = v := by rw [← hv, kindA, if_pos hcl]; simp
      obtain ⟨t0, t1, t2, t3, t4, t5⟩ := kind_table m hm n hn
      rw [hvk] at t0 t1 t2 t3 t4 t5
      have d0 : decide (v < 0) = false := decide_eq_false (by omega)
      obtain ⟨p, hp⟩ : ∃ p, pc m = p := ⟨_, rfl⟩
      obtain ⟨q, hq⟩ : ∃ q, pc n = q := ⟨_, rfl⟩
      rw [hp, hq] at t5
      have pp := pc_le m
      have pq := pc_le n
      rw [hp] at pp
      rw [hq] at pq
      have HP := Lib.hid hp
      have HQ := Lib.hid hq
      have hv5 : v = 0 ∨ v = 1 ∨ v = 2 ∨ v = 3 ∨ v = 4 := by omega
      clear hv hvk hcl t1 t2 t3 t4 hp hq
      go_wp2_with fail
      refine (i_dots_len m p _ hm HP).mono ?_
      rintro e w3 ⟨a3, c3, rfl, hb3⟩
      have hB3 := below_next hB2 hb3
      clear hb3 hB2
      go_wp2_with fail
      refine (i_dots_len n q _ hn HQ).mono ?_
      rintro e w4 ⟨a4, c4, rfl, hb4⟩
      have hB4 := below_next hB3 hb4
      clear hb4 hB3
      obtain ⟨r1, r2, r4, r0, r3⟩ := t5
      clear d0 t0 HV HP HQ
      rcases hv5 with rfl | rfl | rfl | rfl | rfl
      · have r := r0 rfl
        subst r
        clear r1 r2 r3 r4 r0
        go_wp2
        go_ret
        exact ⟨rfl, hB4⟩
      · have r := r1 rfl
        have d : decide ((p : Int) < (q : Int)) = true := decide_eq_true (by omega)
        clear r1 r2 r3 r4 r0
        go_wp2
        go_ret
        exact ⟨rfl, hB4⟩
      · have r := r2 rfl
        have d : decide ((q : Int) < (p : Int)) = true := decide_eq_true (by omega)
        clear r1 r2 r3 r4 r0
        go_wp2
        go_ret
        exact ⟨rfl, hB4⟩
      · have r := r3 rfl
        subst r
        clear r1 r2 r3 r4 r0
        go_wp2
        go_ret
        exact ⟨rfl, hB4⟩
      · have r := r4 rfl
        have d : ((p : Int) != (q : Int)) = true := by simp; omega
        have d2 : ((p : Int) == (q : Int)) = false := by simp; omega
        clear r1 r2 r3 r4 r0
        go_wp2
        go_ret
        exact ⟨rfl, hB4⟩
    · have hv1 : v = -1 := by rw [← hv, kindA, if_neg hcl]
      subst hv1
      clear hv hcl
      go_wp2_with fail
      refine (s_KindOf x y _ _ HV).mono ?_
      rintro e w3 ⟨rfl, hb3⟩
      go_wp2
      go_ret
      exact ⟨rfl, below_next hB2 hb3⟩
  · have d : decide (len ≤ 1048576) = false := decide_eq_false hbig
    have hl : (1048576 : Int) < len := by omega
    clear h
    go_enter Try.func5, Try.ntmps5
    go_wp2
    go_ret
    exact ⟨rfl, Below.refl _ _⟩
end Go.Proofs.Ytekchmbbafjmmaa
