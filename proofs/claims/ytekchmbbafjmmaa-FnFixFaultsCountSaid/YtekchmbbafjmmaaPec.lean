
/- How the faults of two lists go on; canTake, canCut of the program. -/
import Derived.Test.YtekchmbbafjmmaaPdi
import Derived.Test.YtekchmbbafjmmaaPea
namespace Go.Proofs.Ytekchmbbafjmmaa
open Go.RowKit

theorem below_drewNP {B : Nat} {a w : World} (h : Below B a w) (n : Nat) : Below B a (w.drewN n) := ⟨h.os, h.tape, h.output, h.size, h.block⟩
def takeB (A B : List Int) (i j : Nat) : Bool := decide (i < A.length ∧ j < B.length ∧ dF A B i j = (sw (A.getD i 0) (B.getD j 0) : Int) + dF A B (i + 1) (j + 1))
def cutB (A B : List Int) (i j : Nat) : Bool := decide (i < A.length ∧ dF A B i j = 4 + dF A B (i + 1) j)
theorem drop_getD {A : List Int} {i : Nat} (h : i < A.length) : A.drop i = A.getD i 0 :: A.drop (i + 1) := by
  rw [List.drop_eq_getElem_cons h, List.getD_eq_getElem?_getD, List.getElem?_eq_getElem h]; rfl
theorem steps_take {A B : List Int} {i j : Nat} (h : takeB A B i j = true) :
    i < A.length ∧ j < B.length ∧ stepsL (A.drop i) (B.drop j) i = (if A.getD i 0 ≠ B.getD j 0 then [⟨0, i, B.getD j 0⟩] else []) ++ stepsL (A.drop (i + 1)) (B.drop (j + 1)) (i + 1) := by
  obtain ⟨h1, h2, h3⟩ := of_decide_eq_true h
  refine ⟨h1, h2, ?_⟩
  unfold dF at h3
  rw [drop_getD h1, drop_getD h2] at h3 ⊢
  rw [stepsL, if_pos (by omega)]
theorem steps_cut {A B : List Int} {i j : Nat} (h : takeB A B i j = false) (h' : cutB A B i j = true) :
    i < A.length ∧ stepsL (A.drop i) (B.drop j) i = ⟨1, i, A.getD i 0⟩ :: stepsL (A.drop (i + 1)) (B.drop j) (i + 1) := by
  have h0 := of_decide_eq_false h
  obtain ⟨h1, h3⟩ := of_decide_eq_true h'
  refine ⟨h1, ?_⟩
  by_cases h2 : j < B.length
  · have h4 : ¬ dF A B i j = (sw (A.getD i 0) (B.getD j 0) : Int) + dF A B (i + 1) (j + 1) := fun h => h0 ⟨h1, h2, h⟩
    unfold dF at h3 h4
    rw [drop_getD h1, drop_getD h2] at h3 h4 ⊢
    rw [stepsL, if_neg (by omega), if_pos (by omega)]
  · have h5 : B.drop j = [] := List.drop_eq_nil_of_le (by omega)
    rw [drop_getD h1, h5, stepsL, if_pos (by rw [dist_nil', dist_nil']; simp; omega)]
theorem steps_put {A B : List Int} {i j : Nat} (hi : i ≤ A.length) (h : takeB A B i j = false) (h' : cutB A B i j = false) (hm : i < A.length ∨ j < B.length) :
    j < B.length ∧ stepsL (A.drop i) (B.drop j) i = ⟨2, i, B.getD j 0⟩ :: stepsL (A.drop i) (B.drop (j + 1)) i := by
  have h0 := of_decide_eq_false h
  have h3 := of_decide_eq_false h'
  by_cases h2 : j < B.length
  · refine ⟨h2, ?_⟩
    by_cases h1 : i < A.length
    · have h4 : ¬ dF A B i j = (sw (A.getD i 0) (B.getD j 0) : Int) + dF A B (i + 1) (j + 1) := fun h => h0 ⟨h1, h2, h⟩
      have h5 : ¬ dF A B i j = 4 + dF A B (i + 1) j := fun h => h3 ⟨h1, h⟩
      unfold dF at h4 h5
      rw [drop_getD h1, drop_getD h2] at h4 h5 ⊢
      rw [stepsL, if_neg (by omega), if_neg (by omega)]
    · have h5 : A.drop i = [] := List.drop_eq_nil_of_le (by omega)
      rw [drop_getD h2, h5, stepsL]
  · have h1 : i < A.length := by omega
    have h5 : B.drop j = [] := List.drop_eq_nil_of_le (by omega)
    refine absurd ?_ h3
    refine ⟨h1, ?_⟩
    unfold dF
    rw [h5, drop_getD h1, dist_nil', dist_nil']
    simp; omega
theorem steps_end {A B : List Int} {i j : Nat} (hi : A.length ≤ i) (hj : B.length ≤ j) : stepsL (A.drop i) (B.drop j) i = [] := by
  rw [List.drop_eq_nil_of_le hi, List.drop_eq_nil_of_le hj, stepsL]
set_option maxHeartbeats 4000000 in
theorem i_canTake (w : World) (u v : Value) (A B : List Int) (al : Option Addr) (nl cl m : Nat) (i j : Nat) (t : Bool) (hA : IntsAt w u A) (hB : IntsAt w v B) (hp : PicAt w al nl cl m (dF A B)) (hnl : nl = A.length + 1) (hm : m = B.length + 1)
    (hi : i ≤ A.length) (hj : j ≤ B.length) (ha30 : A.length ≤ 30) (hb30 : B.length ≤ 30) (hcA : ∀ z ∈ A, Cl z) (hcB : ∀ z ∈ B, Cl z) (ht : Hid (takeB A B i j = t)) :
    Calls Try.prog 63 #[u, v, .int .i64 i, .int .i64 j, .slice al nl cl] w fun e w' => e = .returned (.bool t) ∧ Below w.heap.size w w' := by
  have ht := ht.out
  unfold takeB at ht
  obtain ⟨aa, ca, rfl, xa1, xa2, xa3⟩ := hA
  obtain ⟨ab, cb, rfl, xb1, xb2, xb3⟩ := hB
  obtain ⟨na, hna⟩ : ∃ n, A.length = n := ⟨_, rfl⟩
  obtain ⟨nb, hnb⟩ : ∃ n, B.length = n := ⟨_, rfl⟩
  obtain ⟨i1, hi1⟩ : ∃ i1, i + 1 = i1 := ⟨_, rfl⟩
  obtain ⟨j1, hj1⟩ : ∃ j1, j + 1 = j1 := ⟨_, rfl⟩
  rw [hna] at hnl hi ha30 xa1 ht ⊢
  rw [hnb] at hm hj hb30 xb1 ht ⊢
  by_cases hiA : i < na
  · have d1 : decide (i < na) = true := decide_eq_true hiA
    by_cases hjB : j < nb
    · have d2 : decide (j < nb) = true := decide_eq_true hjB
      have bd0 := dF_bd A B i j
      have bd3 := dF_bd A B (i + 1) (j + 1)
      rw [hi1, hj1] at ht bd3
      obtain ⟨_, _, g, off, rfl, hrow⟩ := hp
      obtain ⟨b1, o1, d1', r1, r2, r3, r4⟩ := hrow i1 (by omega)
      obtain ⟨b0, o0, d0, s1, s2, s3, s4⟩ := hrow i (by omega)
      have e2 := r4 j1 (by omega)
      have e3 := s4 j (by omega)
      rcases xa3 with xa3 | ⟨ga, oa, rfl, xa3⟩
      · rw [xa3] at hna; simp at hna; omega
      rcases xb3 with xb3 | ⟨gb, ob, rfl, xb3⟩
      · rw [xb3] at hnb; simp at hnb; omega
      have ea := xa3 i (by omega)
      have eb := xb3 j (by omega)
      have hAm : A.getD i 0 ∈ A := by rw [List.getD_eq_getElem?_getD, List.getElem?_eq_getElem (by omega)]; exact List.getElem_mem _
      have hBm : B.getD j 0 ∈ B := by rw [List.getD_eq_getElem?_getD, List.getElem?_eq_getElem (by omega)]; exact List.getElem_mem _
      obtain ⟨p, hp⟩ : ∃ p : Nat, A.getD i 0 = p := ⟨(A.getD i 0).toNat, by have := (hcA _ hAm).1; omega⟩
      obtain ⟨q, hq⟩ : ∃ q : Nat, B.getD j 0 = q := ⟨(B.getD j 0).toNat, by have := (hcB _ hBm).1; omega⟩
      have hp64 : p < 64 := by have := (hcA _ hAm).2; omega
      have hq64 : q < 64 := by have := (hcB _ hBm).2; omega
      rw [hp] at ea ht
      rw [hq] at eb ht
      obtain ⟨c, hc⟩ : ∃ c, sw (p : Int) (q : Int) = c := ⟨_, rfl⟩
      have hc6 := sw_le (p : Int) (q : Int)
      rw [hc] at ht hc6
      have HSW : Hid (∀ k, Calls Try.prog 77 #[.int .i64 p, .int .i64 q] (w.drewN k) fun e w' => e = .returned (.int .i64 (c : Int)) ∧ w' = w.drewN k) := fun k => by rw [← hc]; exact (i_swapCost p q _ hp64 hq64).mono fun _ _ ⟨h, k⟩ => ⟨h, k.symm⟩
      obtain ⟨X, hX⟩ : ∃ X, dF A B i j = X := ⟨_, rfl⟩
      obtain ⟨Z, hZ⟩ : ∃ Z, dF A B i1 j1 = Z := ⟨_, rfl⟩
      rw [hX] at bd0 e3 ht
      rw [hZ] at bd3 e2 ht
      have b1' : (0 : Int) ≤ (i1 : Int) := by omega
      have b2' : (i1 : Int) < (nl : Int) := by omega
      have b3' : (i : Int) < (nl : Int) := by omega
      have b4' : (j1 : Int) < (m : Int) := by omega
      have b5' : (j : Int) < (m : Int) := by omega
      have b6' : (i : Int) < (na : Int) := by omega
      have b7' : (j : Int) < (nb : Int) := by omega
      have n2' : i1 < nl := by omega
      have n3' : i < nl := by omega
      have n4' : j1 < m := by omega
      have n5' : j < m := by omega
      have u1 : IntKind.i64.wrap ((i : Int) + 1) = (i1 : Int) := by rw [show ((i : Int) + 1) = (i1 : Int) from by omega]; exact IntWalk.i64_in _ (by omega)
      have u2 : IntKind.i64.wrap ((j : Int) + 1) = (j1 : Int) := by rw [show ((j : Int) + 1) = (j1 : Int) from by omega]; exact IntWalk.i64_in _ (by omega)
      have u3 : IntKind.i64.wrap ((c : Int) + Z) = (c : Int) + Z := IntWalk.i64_in _ (by omega)
      have HT : Hid (t = (X == (c : Int) + Z)) := by
        show _ = _
        rw [← ht]
        by_cases h : X = (c : Int) + Z
        · rw [decide_eq_true ⟨hiA, hjB, h⟩, h]; simp
        · rw [decide_eq_false (fun k => h k.2.2)]; simp [h]
      clear ht hX hZ hc hp hq hAm hBm xa3 xb3 r2 r3 r4 s2 s3 s4 hrow hcA hcB hi1 hj1 hna hnb hnl hm bd0 bd3
      go_enter Try.func63, Try.ntmps63
      go_wp2_with fail
      go_quiet (first | (go_at_call 77; with_reducible exact Calls.quiet_of_same (HSW.out _)))
      go_wp2
      go_ret
      exact ⟨by rw [HT.out]; rfl, below_drewNP (Below.refl _ _) _⟩
    · have d2 : decide (j < nb) = false := decide_eq_false hjB
      have HT : Hid (t = false) := by show _ = _; rw [← ht]; exact decide_eq_false (fun k => hjB k.2.1)
      clear ht hp xa3 xb3 hcA hcB hi1 hj1 hna hnb hjB hnl hm
      go_enter Try.func63, Try.ntmps63
      go_wp2_with fail
      go_quiet (fail)
      go_wp2
      go_ret
      exact ⟨by rw [HT.out]; rfl, below_drewNP (Below.refl _ _) _⟩
  · have d1 : decide (i < na) = false := decide_eq_false hiA
    have HT : Hid (t = false) := by show _ = _; rw [← ht]; exact decide_eq_false (fun k => hiA k.1)
    clear ht hp xa3 xb3 hcA hcB hi1 hj1 hna hnb hiA hnl hm
    go_enter Try.func63, Try.ntmps63
    go_wp2_with fail
    go_quiet (fail)
    go_wp2
    go_ret
    exact ⟨by rw [HT.out]; rfl, below_drewNP (Below.refl _ _) _⟩
set_option maxHeartbeats 4000000 in
theorem i_canCut (w : World) (u : Value) (A B : List Int) (al : Option Addr) (nl cl m : Nat) (i j : Nat) (t : Bool) (hA : IntsAt w u A) (hp : PicAt w al nl cl m (dF A B)) (hnl : nl = A.length + 1) (hm : m = B.length + 1)
    (_hi : i ≤ A.length) (hj : j ≤ B.length) (ha30 : A.length ≤ 30) (hb30 : B.length ≤ 30) (ht : Hid (cutB A B i j = t)) :
    Calls Try.prog 64 #[u, .int .i64 i, .int .i64 j, .slice al nl cl] w fun e w' => e = .returned (.bool t) ∧ Below w.heap.size w w' := by
  have ht := ht.out
  unfold cutB at ht
  obtain ⟨aa, ca, rfl, xa1, xa2, xa3⟩ := hA
  obtain ⟨na, hna⟩ : ∃ n, A.length = n := ⟨_, rfl⟩
  obtain ⟨nb, hnb⟩ : ∃ n, B.length = n := ⟨_, rfl⟩
  obtain ⟨i1, hi1⟩ : ∃ i1, i + 1 = i1 := ⟨_, rfl⟩
  obtain ⟨j1, hj1⟩ : ∃ j1, j + 1 = j1 := ⟨_, rfl⟩
  rw [hna] at hnl _hi ha30 xa1 ht ⊢
  rw [hnb] at hm hj hb30
  by_cases hiA : i < na
  · have d1 : decide (i < na) = true := decide_eq_true hiA
    have bd0 := dF_bd A B i j
    have bd3 := dF_bd A B (i + 1) j
    rw [hi1] at ht bd3
    obtain ⟨_, _, g, off, rfl, hrow⟩ := hp
    obtain ⟨b1, o1, d1', r1, r2, r3, r4⟩ := hrow i1 (by omega)
    obtain ⟨b0, o0, d0, s1, s2, s3, s4⟩ := hrow i (by omega)
    have e2 := r4 j (by omega)
    have e3 := s4 j (by omega)
    obtain ⟨X, hX⟩ : ∃ X, dF A B i j = X := ⟨_, rfl⟩
    obtain ⟨Z, hZ⟩ : ∃ Z, dF A B i1 j = Z := ⟨_, rfl⟩
    rw [hX] at bd0 e3 ht
    rw [hZ] at bd3 e2 ht
    have b1' : (0 : Int) ≤ (i1 : Int) := by omega
    have b2' : (i1 : Int) < (nl : Int) := by omega
    have b3' : (i : Int) < (nl : Int) := by omega
    have b5' : (j : Int) < (m : Int) := by omega
    have n2' : i1 < nl := by omega
    have n3' : i < nl := by omega
    have n5' : j < m := by omega
    have u1 : IntKind.i64.wrap ((i : Int) + 1) = (i1 : Int) := by rw [show ((i : Int) + 1) = (i1 : Int) from by omega]; exact IntWalk.i64_in _ (by omega)
    have u3 : IntKind.i64.wrap (4 + Z) = 4 + Z := IntWalk.i64_in _ (by omega)
    have HT : Hid (t = (X == 4 + Z)) := by
      show _ = _
      rw [← ht]
      by_cases h : X = 4 + Z
      · rw [decide_eq_true ⟨hiA, h⟩, h]; simp
      · rw [decide_eq_false (fun k => h k.2)]; simp [h]
    clear ht hX hZ xa3 r2 r3 r4 s2 s3 s4 hrow hi1 hj1 hna hnb hnl hm bd0 bd3
    go_enter Try.func64, Try.ntmps64
    go_wp2_with fail
    go_quiet (fail)
    go_wp2
    go_ret
    exact ⟨by rw [HT.out]; rfl, below_drewNP (Below.refl _ _) _⟩
  · have d1 : decide (i < na) = false := decide_eq_false hiA
    have HT : Hid (t = false) := by show _ = _; rw [← ht]; exact decide_eq_false (fun k => hiA k.1)
    clear ht hp xa3 hi1 hj1 hna hnb hiA hnl hm
    go_enter Try.func64, Try.ntmps64
    go_wp2_with fail
    go_quiet (fail)
    go_wp2
    go_ret
    exact ⟨by rw [HT.out]; rfl, below_drewNP (Below.refl _ _) _⟩
end Go.Proofs.Ytekchmbbafjmmaa
