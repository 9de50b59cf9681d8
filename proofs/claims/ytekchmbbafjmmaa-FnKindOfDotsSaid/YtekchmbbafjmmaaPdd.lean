
/- KindOf of the model; its exact law. -/
import Derived.Test.YtekchmbbafjmmaaPdc
namespace Go.Proofs.Ytekchmbbafjmmaa
open Go.RowKit

theorem below_eq {a b c : World} (h : Below a.heap.size a b) (e : b = c) : Below a.heap.size a c := by subst e; exact h
theorem s_dot_yes (c : Nat) (k : Int) (w : World) (hc : c < 64) (hb : Hid (k ∈ dotsL c)) :
    Calls Try.prog 54 #[.int .i64 c] w fun e w' => ∃ a n cp, e = .returned (.slice a n cp) ∧ Below w.heap.size w w' ∧ Hid (Calls Try.prog 53 #[.slice a n cp, .int .i64 k] w' fun e2 w2 => ∃ r : Int, e2 = .returned (.int .i64 r) ∧ w' = w2 ∧ 0 ≤ r) :=
  (s_dotsOf c w hc).mono fun e w' ⟨v, h1, h2, h3, a, n, cp, h4⟩ => by
    subst h4
    exact ⟨a, n, cp, h1, h3, s_placeIn_yes w' _ _ _ h2.at hb⟩
theorem s_dot_no (c : Nat) (k : Int) (w : World) (hc : c < 64) (hb : Hid (k ∉ dotsL c)) :
    Calls Try.prog 54 #[.int .i64 c] w fun e w' => ∃ a n cp, e = .returned (.slice a n cp) ∧ Below w.heap.size w w' ∧ Hid (Calls Try.prog 53 #[.slice a n cp, .int .i64 k] w' fun e2 w2 => ∃ r : Int, e2 = .returned (.int .i64 r) ∧ w' = w2 ∧ r < 0) :=
  (s_dotsOf c w hc).mono fun e w' ⟨v, h1, h2, h3, a, n, cp, h4⟩ => by
    subst h4
    exact ⟨a, n, cp, h1, h3, s_placeIn_no w' _ _ _ h2.at hb⟩
theorem s_dots_len (c : Nat) (p : Nat) (w : World) (hc : c < 64) (hp : Hid (pc c = p)) :
    Calls Try.prog 54 #[.int .i64 c] w fun e w' => ∃ a cp, e = .returned (.slice a p cp) ∧ Below w.heap.size w w' :=
  (s_dotsOf c w hc).mono fun e w' ⟨v, h1, h2, h3, a, n, cp, h4⟩ => by
    subst h4
    obtain ⟨_, _, e5, _⟩ := h2.at
    injection e5 with _ e6 _
    rw [dots_table c hc, hp.out] at e6
    subst e6
    exact ⟨a, cp, h1, h3⟩
def KOut (v : Int) (w : World) (e : Ending) (w' : World) : Prop := e = .returned (.int .i64 v) ∧ Below w.heap.size w w'
set_option maxHeartbeats 4000000 in
theorem s_KindOf_yes (x y : Nat) (w : World) (hx : x < 64) (hy : y < 64) :
    Calls Try.prog 20 #[.int .i64 x, .int .i64 y] w fun e w' => KOut (kindV x y) w e w' := by
  obtain ⟨v, hv⟩ : ∃ v, kindV x y = v := ⟨_, rfl⟩
  rw [hv]
  unfold kindV at hv
  obtain ⟨t1, t2, t3⟩ := cm_table x hx y hy
  obtain ⟨p, hp⟩ : ∃ p, pc x = p := ⟨_, rfl⟩
  obtain ⟨q, hq⟩ : ∃ q, pc y = q := ⟨_, rfl⟩
  obtain ⟨m, hm⟩ : ∃ m, pc (x &&& y) = m := ⟨_, rfl⟩
  have px := pc_le x
  have py := pc_le y
  rw [hm] at t1 t2 t3
  rw [hp] at t2 hv px
  rw [hq] at t3 hv py
  have HP := Lib.hid hp
  have HQ := Lib.hid hq
  have HM := Lib.hid t1
  have hv2 : (if x = y then (0 : Int) else if m = p then 1 else if m = q then 2 else if p = q then 3 else 4) = v := by
    rw [← hv]
    by_cases h1 : x = y
    · rw [if_pos h1, if_pos h1]
    · rw [if_neg h1, if_neg h1]
      by_cases h2 : m = p
      · rw [if_pos h2, if_pos (t2.1 h2)]
      · rw [if_neg h2, if_neg (fun h => h2 (t2.2 h))]
        by_cases h3 : m = q
        · rw [if_pos h3, if_pos (t3.1 h3)]
        · rw [if_neg h3, if_neg (fun h => h3 (t3.2 h))]
  have HV := Lib.hid hv2
  clear hv hv2 t1 t2 t3 hp hq hm
  have hm6 : m ≤ 6 := by have := HM.out; have := cmN_le x y 6; omega
  go_enter Try.func20, Try.ntmps20
  go_wp2_with fail
  refine (s_isCell_yes _ _ (by omega) (by omega)).mono ?_
  rintro e w' ⟨rfl, rfl⟩
  go_wp2_with fail
  refine (s_isCell_yes _ _ (by omega) (by omega)).mono ?_
  rintro e w' ⟨rfl, rfl⟩
  go_wp2_with fail
  go_loopw [5, 6] (fun b i wr => ∃ k n : Nat, k ≤ 6 ∧ i = .int .i64 ((k : Int) + 1) ∧ b = .int .i64 n ∧ n ≤ k ∧ Hid (cmN x y k = n) ∧ Below w.heap.size w wr) (fun _ i _ => 8 - (intOf i).toNat)
  case atStart => exact ⟨0, 0, by omega, rfl, rfl, by omega, rfl, Below.refl _ _⟩
  case round =>
    obtain ⟨k, n, hk, rfl, rfl, hnk, hcm, hB⟩ := hrel
    by_cases h6 : k < 6
    · have hst : cmN x y (k + 1) = n + if ((k : Int) + 1) ∈ dotsL x ∧ ((k : Int) + 1) ∈ dotsL y then 1 else 0 := by rw [cmN, hcm.out]
      clear hcm
      by_cases hb1 : ((k : Int) + 1) ∈ dotsL x
      · have HB1 : Hid (((k : Int) + 1) ∈ dotsL x) := hb1
        by_cases hb2' : ((k : Int) + 1) ∈ dotsL y
        · have HB2 : Hid (((k : Int) + 1) ∈ dotsL y) := hb2'
          have HN : Hid (cmN x y (k + 1) = n + 1) := by show _ = _; rw [hst, if_pos ⟨hb1, hb2'⟩]
          clear hst hb1 hb2'
          go_wp2_with fail
          refine (s_dot_yes x _ _ hx HB1).mono ?_
          rintro e w2 ⟨a2, n2, c2, rfl, hb2, HC⟩
          have hB2 := hB.trans (hb2.mono hB.size)
          go_wp2_with fail
          refine HC.out.mono ?_
          rintro e w3 ⟨r, rfl, rfl, hr⟩
          clear HC hb2
          go_wp2_with fail
          refine (s_dot_yes y _ _ hy HB2).mono ?_
          rintro e w4 ⟨a4, n4, c4, rfl, hb4, HC⟩
          have hB4 := hB2.trans (hb4.mono hB2.size)
          go_wp2_with fail
          refine HC.out.mono ?_
          rintro e w5 ⟨r5, rfl, rfl, hr5⟩
          clear HC hb4
          go_wp2_with fail
          refine (p_one true _).mono ?_
          rintro e w' ⟨rfl, rfl⟩
          go_wp2
          go_roundw
          case rel => exact ⟨k + 1, n + 1, by omega, by go_num, by go_num, by omega, HN, hB4⟩
          case measure => simp [intOf]; omega
        · have HB2 : Hid (((k : Int) + 1) ∉ dotsL y) := hb2'
          have HN : Hid (cmN x y (k + 1) = n) := by show _ = _; rw [hst, if_neg (fun h => hb2' h.2)]; rfl
          clear hst hb1 hb2'
          go_wp2_with fail
          refine (s_dot_yes x _ _ hx HB1).mono ?_
          rintro e w2 ⟨a2, n2, c2, rfl, hb2, HC⟩
          have hB2 := hB.trans (hb2.mono hB.size)
          go_wp2_with fail
          refine HC.out.mono ?_
          rintro e w3 ⟨r, rfl, rfl, hr⟩
          clear HC hb2
          go_wp2_with fail
          refine (s_dot_no y _ _ hy HB2).mono ?_
          rintro e w4 ⟨a4, n4, c4, rfl, hb4, HC⟩
          have hB4 := hB2.trans (hb4.mono hB2.size)
          go_wp2_with fail
          refine HC.out.mono ?_
          rintro e w5 ⟨r5, rfl, rfl, hr5⟩
          have d : decide (0 ≤ r5) = false := decide_eq_false (by omega)
          clear HC hb4
          go_wp2_with fail
          refine (p_one false _).mono ?_
          rintro e w' ⟨rfl, rfl⟩
          go_wp2
          go_roundw
          case rel => exact ⟨k + 1, n, by omega, by go_num, by go_num, by omega, HN, hB4⟩
          case measure => simp [intOf]; omega
      · have HB1 : Hid (((k : Int) + 1) ∉ dotsL x) := hb1
        have HN : Hid (cmN x y (k + 1) = n) := by show _ = _; rw [hst, if_neg (fun h => hb1 h.1)]; rfl
        clear hst hb1
        go_wp2_with fail
        refine (s_dot_no x _ _ hx HB1).mono ?_
        rintro e w2 ⟨a2, n2, c2, rfl, hb2, HC⟩
        have hB2 := hB.trans (hb2.mono hB.size)
        go_wp2_with fail
        refine HC.out.mono ?_
        rintro e w3 ⟨r, rfl, rfl, hr⟩
        have d : decide (0 ≤ r) = false := decide_eq_false (by omega)
        clear HC hb2
        go_wp2_with fail
        refine (p_one false _).mono ?_
        rintro e w' ⟨rfl, rfl⟩
        go_wp2
        go_roundw
        case rel => exact ⟨k + 1, n, by omega, by go_num, by go_num, by omega, HN, hB2⟩
        case measure => simp [intOf]; omega
    · obtain rfl : k = 6 := by omega
      have HNM : Hid (n = m) := by show _ = _; rw [← hcm.out, HM.out]
      obtain rfl : n = m := HNM.out
      clear hcm HNM HM
      go_wp2_with fail
      refine (s_dots_len x p _ hx HP).mono ?_
      rintro e w2 ⟨a2, c2, rfl, hb2⟩
      have hB2 := hB.trans (hb2.mono hB.size)
      clear hb2
      go_wp2_with fail
      refine (s_dots_len y q _ hy HQ).mono ?_
      rintro e w3 ⟨a3, c3, rfl, hb3⟩
      have hB3 := hB2.trans (hb3.mono hB2.size)
      clear hb3
      have hv := HV.out
      by_cases h1 : x = y
      · rw [if_pos h1] at hv
        have d1 : ((x : Int) == (y : Int)) = true := by simp; omega
        have HVv := Lib.hid hv
        clear h1 hv
        go_wp2
        go_ret
        exact ⟨by rw [← HVv.out]; rfl, hB3⟩
      rw [if_neg h1] at hv
      have d1 : ((x : Int) == (y : Int)) = false := by simp; omega
      by_cases h2 : n = p
      · rw [if_pos h2] at hv
        have d2 : ((n : Int) == (p : Int)) = true := by simp; omega
        have HVv := Lib.hid hv
        clear h1 h2 hv
        go_wp2
        go_ret
        exact ⟨by rw [← HVv.out]; rfl, hB3⟩
      rw [if_neg h2] at hv
      have d2 : ((n : Int) == (p : Int)) = false := by simp; omega
      by_cases h3 : n = q
      · rw [if_pos h3] at hv
        have d3 : ((n : Int) == (q : Int)) = true := by simp; omega
        have HVv := Lib.hid hv
        clear h1 h2 h3 hv
        go_wp2
        go_ret
        exact ⟨by rw [← HVv.out]; rfl, hB3⟩
      rw [if_neg h3] at hv
      have d3 : ((n : Int) == (q : Int)) = false := by simp; omega
      by_cases h4 : p = q
      · rw [if_pos h4] at hv
        have d4 : ((p : Int) == (q : Int)) = true := by simp; omega
        have HVv := Lib.hid hv
        clear h1 h2 h3 h4 hv
        go_wp2
        go_ret
        exact ⟨by rw [← HVv.out]; rfl, hB3⟩
      · rw [if_neg h4] at hv
        have d4 : ((p : Int) == (q : Int)) = false := by simp; omega
        have HVv := Lib.hid hv
        clear h1 h2 h3 h4 hv
        go_wp2
        go_ret
        exact ⟨by rw [← HVv.out]; rfl, hB3⟩
theorem s_KindOf_no (x y : Int) (w : World) (h : ¬ (Cl x ∧ Cl y)) :
    Calls Try.prog 20 #[.int .i64 x, .int .i64 y] w fun e w' => KOut (-1) w e w' := by
  by_cases hx : Cl x
  · have hy : y < 0 ∨ 64 ≤ y := by
      by_cases hy : Cl y
      · exact absurd ⟨hx, hy⟩ h
      · unfold Cl at hy; omega
    obtain ⟨h0, h1⟩ := hx
    clear h
    go_enter Try.func20, Try.ntmps20
    go_wp2_with fail
    refine (s_isCell_yes _ _ h0 h1).mono ?_
    rintro e w' ⟨rfl, rfl⟩
    go_wp2_with fail
    refine (s_isCell_no _ _ hy).mono ?_
    rintro e w' ⟨rfl, rfl⟩
    go_wp2
    go_ret
    exact ⟨rfl, Below.refl _ _⟩
  · have hx' : x < 0 ∨ 64 ≤ x := by unfold Cl at hx; omega
    clear h hx
    go_enter Try.func20, Try.ntmps20
    go_wp2_with fail
    refine (s_isCell_no _ _ hx').mono ?_
    rintro e w' ⟨rfl, rfl⟩
    go_wp2
    go_ret
    exact ⟨rfl, Below.refl _ _⟩
/-- the answer of KindOf -/
def kindA (x y : Int) : Int := if Cl x ∧ Cl y then kindV x.toNat y.toNat else -1
theorem i_KindOf (x y v : Int) (w : World) (hv : Hid (kindA x y = v)) :
    Calls Try.prog 19 #[.int .i64 x, .int .i64 y] w fun e w' => e = .returned (.int .i64 v) ∧ w = w' := by
  have hv := hv.out
  unfold kindA at hv
  by_cases h : Cl x ∧ Cl y
  · rw [if_pos h] at hv
    obtain ⟨m, rfl⟩ : ∃ m : Nat, x = m := ⟨x.toNat, by have := h.1.1; omega⟩
    obtain ⟨n, rfl⟩ : ∃ n : Nat, y = n := ⟨y.toNat, by have := h.2.1; omega⟩
    rw [Int.toNat_natCast, Int.toNat_natCast] at hv
    rw [← hv]
    exact i_KindOf_yes m n w (by have := h.1.2; omega) (by have := h.2.2; omega)
  · rw [if_neg h] at hv
    rw [← hv]
    exact i_KindOf_no x y w h
theorem s_KindOf (x y v : Int) (w : World) (hv : Hid (kindA x y = v)) :
    Calls Try.prog 20 #[.int .i64 x, .int .i64 y] w fun e w' => KOut v w e w' := by
  have hv := hv.out
  unfold kindA at hv
  by_cases h : Cl x ∧ Cl y
  · rw [if_pos h] at hv
    obtain ⟨m, rfl⟩ : ∃ m : Nat, x = m := ⟨x.toNat, by have := h.1.1; omega⟩
    obtain ⟨n, rfl⟩ : ∃ n : Nat, y = n := ⟨y.toNat, by have := h.2.1; omega⟩
    rw [Int.toNat_natCast, Int.toNat_natCast] at hv
    rw [← hv]
    exact s_KindOf_yes m n w (by have := h.1.2; omega) (by have := h.2.2; omega)
  · rw [if_neg h] at hv
    rw [← hv]
    exact s_KindOf_no x y w h
theorem exKindOf_walk (x y : Int) (w : World) :
    Calls Try.prog 14 #[.int .i64 x, .int .i64 y] w fun e w' => e = .returned (.bool true) ∧ Below w.heap.size w w' := by
  obtain ⟨v, hv⟩ : ∃ v, kindA x y = v := ⟨_, rfl⟩
  have HV := Lib.hid hv
  clear hv
  go_enter Try.func14, Try.ntmps14
  go_wp2_with fail
  refine (s_KindOf x y v _ HV).mono ?_
  rintro e w1 ⟨rfl, hb⟩
  go_wp2_with fail
  refine (i_KindOf x y v _ HV).mono ?_
  rintro e w' ⟨rfl, rfl⟩
  go_wp2
  go_ret
  exact ⟨rfl, hb⟩
end Go.Proofs.Ytekchmbbafjmmaa
