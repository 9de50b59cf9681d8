
/- leastCosts of the program: the table of the least costs. -/
import Derived.Test.YtekchmbbafjmmaaPdc
import Derived.Test.YtekchmbbafjmmaaPdb
import Derived.Test.YtekchmbbafjmmaaId
import Derived.Test.YtekchmbbafjmmaaReg
namespace Go.Proofs.Ytekchmbbafjmmaa
open Go.RowKit

/-- the least cost from two places on -/
def dF (A B : List Int) (i j : Nat) : Int := (dist (A.drop i) (B.drop j) : Int)
theorem dist_bd (a b : List Int) : dist a b ≤ 4 * (a.length + b.length) := by
  have := dist_app a [] [] b
  rw [List.append_nil, List.nil_append, dist_nil, dist_nil'] at this
  omega
theorem dF_bd (A B : List Int) (i j : Nat) : 0 ≤ dF A B i j ∧ dF A B i j ≤ 4 * (A.length + B.length) := by
  have := dist_bd (A.drop i) (B.drop j)
  rw [List.length_drop, List.length_drop] at this
  unfold dF; omega
theorem dF_endA {A B : List Int} {j : Nat} : dF A B A.length j = 4 * ((B.length : Int) - j) ∨ B.length < j := by
  by_cases h : B.length < j
  · exact .inr h
  · refine .inl ?_
    unfold dF
    rw [List.drop_length, dist_nil, List.length_drop]; omega
theorem dF_endB {A B : List Int} {i : Nat} : dF A B i B.length = 4 * ((A.length : Int) - i) ∨ A.length < i := by
  by_cases h : A.length < i
  · exact .inr h
  · refine .inl ?_
    unfold dF
    rw [List.drop_length, dist_nil', List.length_drop]; omega
theorem dF_step {A B : List Int} {i j : Nat} (hi : i < A.length) (hj : j < B.length) :
    dF A B i j = min (4 + min (dF A B (i + 1) j) (dF A B i (j + 1))) ((sw (A.getD i 0) (B.getD j 0) : Int) + dF A B (i + 1) (j + 1)) := by
  unfold dF
  rw [List.drop_eq_getElem_cons hi, List.drop_eq_getElem_cons hj, dist_cons, ← List.drop_eq_getElem_cons hi, ← List.drop_eq_getElem_cons hj]
  rw [List.getD_eq_getElem?_getD, List.getD_eq_getElem?_getD, List.getElem?_eq_getElem hi, List.getElem?_eq_getElem hj]
  simp only [Option.getD_some]
  omega
def KInt (z : Int) (w : World) (e : Ending) (w' : World) : Prop := e = .returned (.int .i64 z) ∧ Below w.heap.size w w'
theorem ints_cell {w : World} {a : Option Addr} {n c : Nat} {zs : List Int} {g off : Nat} {k : Nat} (h : IntsAt w (.slice a n c) zs) (ha : a = some ⟨g, off, none⟩) (hk : k < zs.length) : w.cell? ⟨g, off + k, none⟩ = some (.int .i64 (zs.getD k 0)) := by
  obtain ⟨a', c', e, _, _, x3⟩ := h
  injection e with e1 e2 e3
  subst e1 ha
  rcases x3 with x3 | ⟨g', off', e4, x3⟩
  · rw [x3] at hk; simp at hk
  · injection e4 with e4; injection e4 with e5 e6 _; subst e5 e6
    exact x3 k hk
set_option maxHeartbeats 4000000 in
theorem i_leastCostAt (w : World) (u v : Value) (A B : List Int) (al : Option Addr) (nl cl m : Nat) (f : Nat → Nat → Int) (i j : Nat) (hA : IntsAt w u A) (hB : IntsAt w v B) (hp : PicAt w al nl cl m f) (hnl : nl = A.length + 1) (hm : m = B.length + 1)
    (hi : i ≤ A.length) (hj : j ≤ B.length) (ha30 : A.length ≤ 30) (hb30 : B.length ≤ 30) (hcA : ∀ z ∈ A, Cl z) (hcB : ∀ z ∈ B, Cl z)
    (h1 : i < A.length → j < B.length → f (i + 1) j = dF A B (i + 1) j ∧ f i (j + 1) = dF A B i (j + 1) ∧ f (i + 1) (j + 1) = dF A B (i + 1) (j + 1)) :
    Calls Try.prog 75 #[u, v, .int .i64 i, .int .i64 j, .slice al nl cl] w fun e w' => KInt (dF A B i j) w e w' := by
  obtain ⟨aa, ca, rfl, xa1, xa2, xa3⟩ := hA
  obtain ⟨ab, cb, rfl, xb1, xb2, xb3⟩ := hB
  obtain ⟨na, hna⟩ : ∃ n, A.length = n := ⟨_, rfl⟩
  obtain ⟨nb, hnb⟩ : ∃ n, B.length = n := ⟨_, rfl⟩
  rw [hna] at hnl hi ha30 h1 xa1 ⊢
  rw [hnb] at hm hj hb30 h1 xb1 ⊢
  by_cases hiA : i = na
  · have HE : Hid (dF A B i j = 4 * ((nb : Int) - j)) := by
      show _ = _
      rw [hiA, ← hna]
      rcases dF_endA (A := A) (B := B) (j := j) with h | h
      · rw [h, hnb]
      · omega
    have d1 : ((i : Int) == (na : Int)) = true := by simp; omega
    have u1 : IntKind.i64.wrap ((nb : Int) - (j : Int)) = (nb : Int) - (j : Int) := IntWalk.i64_in _ (by omega)
    have u2 : IntKind.i64.wrap (4 * ((nb : Int) - (j : Int))) = 4 * ((nb : Int) - (j : Int)) := IntWalk.i64_in _ (by omega)
    clear hp h1 hcA hcB xa3 xb3 hiA hna hnb
    go_enter Try.func75, Try.ntmps75
    go_wp2
    go_ret
    exact ⟨by rw [HE.out]; rfl, Below.refl _ _⟩
  have d1 : ((i : Int) == (na : Int)) = false := by simp; omega
  by_cases hjB : j = nb
  · have HE : Hid (dF A B i j = 4 * ((na : Int) - i)) := by
      show _ = _
      rw [hjB, ← hnb]
      rcases dF_endB (A := A) (B := B) (i := i) with h | h
      · rw [h, hna]
      · omega
    have d2 : ((j : Int) == (nb : Int)) = true := by simp; omega
    have u1 : IntKind.i64.wrap ((na : Int) - (i : Int)) = (na : Int) - (i : Int) := IntWalk.i64_in _ (by omega)
    have u2 : IntKind.i64.wrap (4 * ((na : Int) - (i : Int))) = 4 * ((na : Int) - (i : Int)) := IntWalk.i64_in _ (by omega)
    clear hp h1 hcA hcB xa3 xb3 hjB hna hnb
    go_enter Try.func75, Try.ntmps75
    go_wp2
    go_ret
    exact ⟨by rw [HE.out]; rfl, Below.refl _ _⟩
  have d2 : ((j : Int) == (nb : Int)) = false := by simp; omega
  have hil : i < na := by omega
  have hjl : j < nb := by omega
  obtain ⟨f1, f2, f3⟩ := h1 hil hjl
  have hst := dF_step (A := A) (B := B) (i := i) (j := j) (by omega) (by omega)
  have bd1 := dF_bd A B (i + 1) j
  have bd2 := dF_bd A B i (j + 1)
  have bd3 := dF_bd A B (i + 1) (j + 1)
  obtain ⟨i1, hi1⟩ : ∃ i1, i + 1 = i1 := ⟨_, rfl⟩
  obtain ⟨j1, hj1⟩ : ∃ j1, j + 1 = j1 := ⟨_, rfl⟩
  rw [hi1, hj1] at hst f3 bd3
  rw [hi1] at f1 bd1
  rw [hj1] at f2 bd2
  obtain ⟨_, _, g, off, rfl, hrow⟩ := hp
  obtain ⟨b1, o1, d1', r1, r2, r3, r4⟩ := hrow i1 (by omega)
  obtain ⟨b0, o0, d0, s1, s2, s3, s4⟩ := hrow i (by omega)
  have e1 := r4 j (by omega)
  have e2 := r4 j1 (by omega)
  have e3 := s4 j1 (by omega)
  rw [f1] at e1
  rw [f3] at e2
  rw [f2] at e3
  rcases xa3 with xa3 | ⟨ga, oa, rfl, xa3⟩
  · rw [xa3] at hna; simp at hna; omega
  rcases xb3 with xb3 | ⟨gb, ob, rfl, xb3⟩
  · rw [xb3] at hnb; simp at hnb; omega
  have ea := xa3 i (by omega)
  have eb := xb3 j (by omega)
  have hAm : A.getD i 0 ∈ A := by rw [List.getD_eq_getElem?_getD, List.getElem?_eq_getElem (by omega)]; exact List.getElem_mem _
  have hBm : B.getD j 0 ∈ B := by rw [List.getD_eq_getElem?_getD, List.getElem?_eq_getElem (by omega)]; exact List.getElem_mem _
  obtain ⟨p, hp⟩ : ∃ p : Nat, A.getD i 0 = p := ⟨(A.getD i 0).toNat, by have := (hcA _ hAm).1; omega⟩
  obtain ⟨q, hq⟩ : ∃ q : Nat, B.getD j 0 = q := ⟨(B.getD j 0).toNat, by have := (hcB _ hBm).1; omega⟩
  have hp64 : p < 64 := by have := (hcA _ hAm).2; omega
  have hq64 : q < 64 := by have := (hcB _ hBm).2; omega
  rw [hp] at ea hst
  rw [hq] at eb hst
  obtain ⟨c, hc⟩ : ∃ c, sw (p : Int) (q : Int) = c := ⟨_, rfl⟩
  have hc6 := sw_le (p : Int) (q : Int)
  rw [hc] at hst hc6
  have HSW : Hid (∀ w, Calls Try.prog 77 #[.int .i64 p, .int .i64 q] w fun e w' => e = .returned (.int .i64 (c : Int)) ∧ w = w') := fun w => by rw [← hc]; exact i_swapCost p q w hp64 hq64
  obtain ⟨X, hX⟩ : ∃ X, dF A B i1 j = X := ⟨_, rfl⟩
  obtain ⟨Y, hY⟩ : ∃ Y, dF A B i j1 = Y := ⟨_, rfl⟩
  obtain ⟨Z, hZ⟩ : ∃ Z, dF A B i1 j1 = Z := ⟨_, rfl⟩
  rw [hX] at bd1 e1 hst
  rw [hY] at bd2 e3 hst
  rw [hZ] at bd3 e2 hst
  have EE : Hid (∀ wy, Below w.heap.size w wy → wy.cell? ⟨g, off + i1, none⟩ = some (.slice (some ⟨b1, o1, none⟩) m d1') ∧ wy.cell? ⟨b1, o1 + j, none⟩ = some (.int .i64 X) ∧ wy.cell? ⟨g, off + i, none⟩ = some (.slice (some ⟨b0, o0, none⟩) m d0) ∧ wy.cell? ⟨b0, o0 + j1, none⟩ = some (.int .i64 Y) ∧ wy.cell? ⟨b1, o1 + j1, none⟩ = some (.int .i64 Z) ∧ wy.cell? ⟨ga, oa + i, none⟩ = some (.int .i64 (p : Int)) ∧ wy.cell? ⟨gb, ob + j, none⟩ = some (.int .i64 (q : Int)) ∧ Below w.heap.size w wy) := fun wy hb => ⟨(hb.cell (World.block_lt_of_cell? w _ r1)).trans r1, (hb.cell (World.block_lt_of_cell? w _ e1)).trans e1, (hb.cell (World.block_lt_of_cell? w _ s1)).trans s1, (hb.cell (World.block_lt_of_cell? w _ e3)).trans e3, (hb.cell (World.block_lt_of_cell? w _ e2)).trans e2, (hb.cell (World.block_lt_of_cell? w _ ea)).trans ea, (hb.cell (World.block_lt_of_cell? w _ eb)).trans eb, hb⟩
  have b1' : (0 : Int) ≤ (i1 : Int) := by omega
  have b2' : (i1 : Int) < (nl : Int) := by omega
  have b3' : (i : Int) < (nl : Int) := by omega
  have b4' : (j1 : Int) < (m : Int) := by omega
  have b5' : (j : Int) < (m : Int) := by omega
  have b6' : (i : Int) < (na : Int) := by omega
  have b7' : (j : Int) < (nb : Int) := by omega
  have n2' : i1 < nl := by omega
  have n3' : i < nl := by omega
  have n4' : j1 < m := by omega
  have n5' : j < m := by omega
  have u1 : IntKind.i64.wrap ((i : Int) + 1) = (i1 : Int) := by rw [show ((i : Int) + 1) = (i1 : Int) from by omega]; exact IntWalk.i64_in _ (by omega)
  have u2 : IntKind.i64.wrap ((j : Int) + 1) = (j1 : Int) := by rw [show ((j : Int) + 1) = (j1 : Int) from by omega]; exact IntWalk.i64_in _ (by omega)
  have u3 : IntKind.i64.wrap ((c : Int) + Z) = (c : Int) + Z := IntWalk.i64_in _ (by omega)
  obtain ⟨M, hM⟩ : ∃ M, min X Y = M := ⟨_, rfl⟩
  have hMb : 0 ≤ M ∧ M ≤ 240 := by omega
  have u4 : IntKind.i64.wrap (4 + M) = 4 + M := IntWalk.i64_in _ (by omega)
  obtain ⟨V, hV⟩ : ∃ V, min (4 + M) ((c : Int) + Z) = V := ⟨_, rfl⟩
  have HV : Hid (dF A B i j = V) := by show _ = _; rw [hst, hM, hV]
  have m1 : (if Y < X then Y else X) = M := by rw [← hM]; split <;> omega
  have m2 : (if (c : Int) + Z < 4 + M then (c : Int) + Z else 4 + M) = V := by rw [← hV]; split <;> omega
  clear hst hX hY hZ hc hp hq hAm hBm ea eb xa3 xb3 e1 e2 e3 r1 r2 r3 r4 s1 s2 s3 s4 hrow f1 f2 f3 h1 hcA hcB hM hV hi1 hj1 hna hnb hiA hjB hnl hm bd1 bd2 bd3
  go_enter Try.func75, Try.ntmps75
  go_wp2_with fail
  refine wp_region_held_drew (S := fun wy => wy.cell? ⟨g, off + i1, none⟩ = some (.slice (some ⟨b1, o1, none⟩) m d1') ∧ wy.cell? ⟨b1, o1 + j, none⟩ = some (.int .i64 X) ∧ wy.cell? ⟨g, off + i, none⟩ = some (.slice (some ⟨b0, o0, none⟩) m d0) ∧ wy.cell? ⟨b0, o0 + j1, none⟩ = some (.int .i64 Y) ∧ wy.cell? ⟨b1, o1 + j1, none⟩ = some (.int .i64 Z) ∧ wy.cell? ⟨ga, oa + i, none⟩ = some (.int .i64 (p : Int)) ∧ wy.cell? ⟨gb, ob + j, none⟩ = some (.int .i64 (q : Int)) ∧ Below w.heap.size w wy) (by kernel_rfl) (EE.out _ (Below.refl _ _).drew) (fun hHeld => ?_)
  refine reg_take (i := 0) (d := 30) (.slice (some ⟨g, off, none⟩) nl cl) rfl rfl (by kernel_rfl) (by kernel_rfl) (by kernel_rfl) (fun _ _ _ h => h) (by rfl) (by intro wq hq; obtain ⟨q0, q1, q2, q3, q4, q5, q6, _⟩ := hq; go_simp) (by assumption) ?_
  simp only [Act.put, List.setIfInBounds_toArray, List.set_cons_zero, List.set_cons_succ]
  refine reg_take (i := 1) (d := 31) (.int .i64 (i : Int)) rfl rfl (by kernel_rfl) (by kernel_rfl) (by kernel_rfl) (fun _ _ _ h => h) (by rfl) (by intro wq hq; obtain ⟨q0, q1, q2, q3, q4, q5, q6, _⟩ := hq; go_simp) (by assumption) ?_
  simp only [Act.put, List.setIfInBounds_toArray, List.set_cons_zero, List.set_cons_succ]
  refine reg_take (i := 2) (d := 32) (.int .i64 (i1 : Int)) rfl rfl (by kernel_rfl) (by kernel_rfl) (by kernel_rfl) (fun _ _ _ h => h) (by rfl) (by intro wq hq; obtain ⟨q0, q1, q2, q3, q4, q5, q6, _⟩ := hq; go_simp) (by assumption) ?_
  simp only [Act.put, List.setIfInBounds_toArray, List.set_cons_zero, List.set_cons_succ]
  refine reg_take (i := 3) (d := 33) (.pointer (some ⟨g, off + i1, none⟩)) rfl rfl (by kernel_rfl) (by kernel_rfl) (by kernel_rfl) (fun _ _ _ h => h) (by rfl) (by intro wq hq; obtain ⟨q0, q1, q2, q3, q4, q5, q6, _⟩ := hq; go_simp) (by assumption) ?_
  simp only [Act.put, List.setIfInBounds_toArray, List.set_cons_zero, List.set_cons_succ]
  refine reg_take (i := 4) (d := 34) (.slice (some ⟨b1, o1, none⟩) m d1') rfl rfl (by kernel_rfl) (by kernel_rfl) (by kernel_rfl) (fun _ _ _ h => h) (by rfl) (by intro wq hq; obtain ⟨q0, q1, q2, q3, q4, q5, q6, _⟩ := hq; go_simp) (by assumption) ?_
  simp only [Act.put, List.setIfInBounds_toArray, List.set_cons_zero, List.set_cons_succ]
  refine reg_take (i := 5) (d := 35) (.int .i64 (j : Int)) rfl rfl (by kernel_rfl) (by kernel_rfl) (by kernel_rfl) (fun _ _ _ h => h) (by rfl) (by intro wq hq; obtain ⟨q0, q1, q2, q3, q4, q5, q6, _⟩ := hq; go_simp) (by assumption) ?_
  simp only [Act.put, List.setIfInBounds_toArray, List.set_cons_zero, List.set_cons_succ]
  refine reg_take (i := 6) (d := 36) (.pointer (some ⟨b1, o1 + j, none⟩)) rfl rfl (by kernel_rfl) (by kernel_rfl) (by kernel_rfl) (fun _ _ _ h => h) (by rfl) (by intro wq hq; obtain ⟨q0, q1, q2, q3, q4, q5, q6, _⟩ := hq; go_simp) (by assumption) ?_
  simp only [Act.put, List.setIfInBounds_toArray, List.set_cons_zero, List.set_cons_succ]
  refine reg_take (i := 7) (d := 37) (.int .i64 X) rfl rfl (by kernel_rfl) (by kernel_rfl) (by kernel_rfl) (fun _ _ _ h => h) (by rfl) (by intro wq hq; obtain ⟨q0, q1, q2, q3, q4, q5, q6, _⟩ := hq; go_simp) (by assumption) ?_
  simp only [Act.put, List.setIfInBounds_toArray, List.set_cons_zero, List.set_cons_succ]
  refine reg_take (i := 8) (d := 38) (.slice (some ⟨g, off, none⟩) nl cl) rfl rfl (by kernel_rfl) (by kernel_rfl) (by kernel_rfl) (fun _ _ _ h => h) (by rfl) (by intro wq hq; obtain ⟨q0, q1, q2, q3, q4, q5, q6, _⟩ := hq; go_simp) (by assumption) ?_
  simp only [Act.put, List.setIfInBounds_toArray, List.set_cons_zero, List.set_cons_succ]
  refine reg_take (i := 9) (d := 39) (.int .i64 (i : Int)) rfl rfl (by kernel_rfl) (by kernel_rfl) (by kernel_rfl) (fun _ _ _ h => h) (by rfl) (by intro wq hq; obtain ⟨q0, q1, q2, q3, q4, q5, q6, _⟩ := hq; go_simp) (by assumption) ?_
  simp only [Act.put, List.setIfInBounds_toArray, List.set_cons_zero, List.set_cons_succ]
  refine reg_take (i := 10) (d := 40) (.pointer (some ⟨g, off + i, none⟩)) rfl rfl (by kernel_rfl) (by kernel_rfl) (by kernel_rfl) (fun _ _ _ h => h) (by rfl) (by intro wq hq; obtain ⟨q0, q1, q2, q3, q4, q5, q6, _⟩ := hq; go_simp) (by assumption) ?_
  simp only [Act.put, List.setIfInBounds_toArray, List.set_cons_zero, List.set_cons_succ]
  refine reg_take (i := 11) (d := 41) (.slice (some ⟨b0, o0, none⟩) m d0) rfl rfl (by kernel_rfl) (by kernel_rfl) (by kernel_rfl) (fun _ _ _ h => h) (by rfl) (by intro wq hq; obtain ⟨q0, q1, q2, q3, q4, q5, q6, _⟩ := hq; go_simp) (by assumption) ?_
  simp only [Act.put, List.setIfInBounds_toArray, List.set_cons_zero, List.set_cons_succ]
  refine reg_take (i := 12) (d := 42) (.int .i64 (j : Int)) rfl rfl (by kernel_rfl) (by kernel_rfl) (by kernel_rfl) (fun _ _ _ h => h) (by rfl) (by intro wq hq; obtain ⟨q0, q1, q2, q3, q4, q5, q6, _⟩ := hq; go_simp) (by assumption) ?_
  simp only [Act.put, List.setIfInBounds_toArray, List.set_cons_zero, List.set_cons_succ]
  refine reg_take (i := 13) (d := 43) (.int .i64 (j1 : Int)) rfl rfl (by kernel_rfl) (by kernel_rfl) (by kernel_rfl) (fun _ _ _ h => h) (by rfl) (by intro wq hq; obtain ⟨q0, q1, q2, q3, q4, q5, q6, _⟩ := hq; go_simp) (by assumption) ?_
  simp only [Act.put, List.setIfInBounds_toArray, List.set_cons_zero, List.set_cons_succ]
  refine reg_take (i := 14) (d := 44) (.pointer (some ⟨b0, o0 + j1, none⟩)) rfl rfl (by kernel_rfl) (by kernel_rfl) (by kernel_rfl) (fun _ _ _ h => h) (by rfl) (by intro wq hq; obtain ⟨q0, q1, q2, q3, q4, q5, q6, _⟩ := hq; go_simp) (by assumption) ?_
  simp only [Act.put, List.setIfInBounds_toArray, List.set_cons_zero, List.set_cons_succ]
  refine reg_take (i := 15) (d := 45) (.int .i64 Y) rfl rfl (by kernel_rfl) (by kernel_rfl) (by kernel_rfl) (fun _ _ _ h => h) (by rfl) (by intro wq hq; obtain ⟨q0, q1, q2, q3, q4, q5, q6, _⟩ := hq; go_simp) (by assumption) ?_
  simp only [Act.put, List.setIfInBounds_toArray, List.set_cons_zero, List.set_cons_succ]
  refine reg_take (i := 16) (d := 46) (.int .i64 M) rfl rfl (by kernel_rfl) (by kernel_rfl) (by kernel_rfl) (fun _ _ _ h => h) (by rfl) (by intro wq hq; obtain ⟨q0, q1, q2, q3, q4, q5, q6, _⟩ := hq; go_simp) (by assumption) ?_
  simp only [Act.put, List.setIfInBounds_toArray, List.set_cons_zero, List.set_cons_succ]
  refine reg_take (i := 17) (d := 47) (.int .i64 (4 + M)) rfl rfl (by kernel_rfl) (by kernel_rfl) (by kernel_rfl) (fun _ _ _ h => h) (by rfl) (by intro wq hq; obtain ⟨q0, q1, q2, q3, q4, q5, q6, _⟩ := hq; go_simp) (by assumption) ?_
  simp only [Act.put, List.setIfInBounds_toArray, List.set_cons_zero, List.set_cons_succ]
  refine reg_take (i := 18) (d := 11) (.int .i64 (4 + M)) rfl rfl (by kernel_rfl) (by kernel_rfl) (by kernel_rfl) (fun _ _ _ h => h) (by rfl) (by intro wq hq; obtain ⟨q0, q1, q2, q3, q4, q5, q6, _⟩ := hq; go_simp) (by assumption) ?_
  simp only [Act.put, List.setIfInBounds_toArray, List.set_cons_zero, List.set_cons_succ]
  refine wpAnyH_done (by kernel_rfl) ?_ _
  clear hHeld
  go_wp2_with fail
  refine wp_region_held_drew (S := fun wy => wy.cell? ⟨g, off + i1, none⟩ = some (.slice (some ⟨b1, o1, none⟩) m d1') ∧ wy.cell? ⟨b1, o1 + j, none⟩ = some (.int .i64 X) ∧ wy.cell? ⟨g, off + i, none⟩ = some (.slice (some ⟨b0, o0, none⟩) m d0) ∧ wy.cell? ⟨b0, o0 + j1, none⟩ = some (.int .i64 Y) ∧ wy.cell? ⟨b1, o1 + j1, none⟩ = some (.int .i64 Z) ∧ wy.cell? ⟨ga, oa + i, none⟩ = some (.int .i64 (p : Int)) ∧ wy.cell? ⟨gb, ob + j, none⟩ = some (.int .i64 (q : Int)) ∧ Below w.heap.size w wy) (by kernel_rfl) (EE.out _ (Below.refl _ _).drew.drew) (fun hHeld => ?_)
  refine reg_take (i := 0) (d := 48) (.int .i64 (4 + M)) rfl rfl (by kernel_rfl) (by kernel_rfl) (by kernel_rfl) (fun _ _ _ h => h) (by rfl) (by intro wq hq; obtain ⟨q0, q1, q2, q3, q4, q5, q6, _⟩ := hq; go_simp) (by assumption) ?_
  simp only [Act.put, List.setIfInBounds_toArray, List.set_cons_zero, List.set_cons_succ]
  refine reg_take (i := 1) (d := 49) (.slice (some ⟨ga, oa, none⟩) na ca) rfl rfl (by kernel_rfl) (by kernel_rfl) (by kernel_rfl) (fun _ _ _ h => h) (by rfl) (by intro wq hq; obtain ⟨q0, q1, q2, q3, q4, q5, q6, _⟩ := hq; go_simp) (by assumption) ?_
  simp only [Act.put, List.setIfInBounds_toArray, List.set_cons_zero, List.set_cons_succ]
  refine reg_take (i := 2) (d := 50) (.int .i64 (i : Int)) rfl rfl (by kernel_rfl) (by kernel_rfl) (by kernel_rfl) (fun _ _ _ h => h) (by rfl) (by intro wq hq; obtain ⟨q0, q1, q2, q3, q4, q5, q6, _⟩ := hq; go_simp) (by assumption) ?_
  simp only [Act.put, List.setIfInBounds_toArray, List.set_cons_zero, List.set_cons_succ]
  refine reg_take (i := 3) (d := 51) (.pointer (some ⟨ga, oa + i, none⟩)) rfl rfl (by kernel_rfl) (by kernel_rfl) (by kernel_rfl) (fun _ _ _ h => h) (by rfl) (by intro wq hq; obtain ⟨q0, q1, q2, q3, q4, q5, q6, _⟩ := hq; go_simp) (by assumption) ?_
  simp only [Act.put, List.setIfInBounds_toArray, List.set_cons_zero, List.set_cons_succ]
  refine reg_take (i := 4) (d := 52) (.int .i64 (p : Int)) rfl rfl (by kernel_rfl) (by kernel_rfl) (by kernel_rfl) (fun _ _ _ h => h) (by rfl) (by intro wq hq; obtain ⟨q0, q1, q2, q3, q4, q5, q6, _⟩ := hq; go_simp) (by assumption) ?_
  simp only [Act.put, List.setIfInBounds_toArray, List.set_cons_zero, List.set_cons_succ]
  refine reg_take (i := 5) (d := 53) (.slice (some ⟨gb, ob, none⟩) nb cb) rfl rfl (by kernel_rfl) (by kernel_rfl) (by kernel_rfl) (fun _ _ _ h => h) (by rfl) (by intro wq hq; obtain ⟨q0, q1, q2, q3, q4, q5, q6, _⟩ := hq; go_simp) (by assumption) ?_
  simp only [Act.put, List.setIfInBounds_toArray, List.set_cons_zero, List.set_cons_succ]
  refine reg_take (i := 6) (d := 54) (.int .i64 (j : Int)) rfl rfl (by kernel_rfl) (by kernel_rfl) (by kernel_rfl) (fun _ _ _ h => h) (by rfl) (by intro wq hq; obtain ⟨q0, q1, q2, q3, q4, q5, q6, _⟩ := hq; go_simp) (by assumption) ?_
  simp only [Act.put, List.setIfInBounds_toArray, List.set_cons_zero, List.set_cons_succ]
  refine reg_take (i := 7) (d := 55) (.pointer (some ⟨gb, ob + j, none⟩)) rfl rfl (by kernel_rfl) (by kernel_rfl) (by kernel_rfl) (fun _ _ _ h => h) (by rfl) (by intro wq hq; obtain ⟨q0, q1, q2, q3, q4, q5, q6, _⟩ := hq; go_simp) (by assumption) ?_
  simp only [Act.put, List.setIfInBounds_toArray, List.set_cons_zero, List.set_cons_succ]
  refine reg_take (i := 8) (d := 56) (.int .i64 (q : Int)) rfl rfl (by kernel_rfl) (by kernel_rfl) (by kernel_rfl) (fun _ _ _ h => h) (by rfl) (by intro wq hq; obtain ⟨q0, q1, q2, q3, q4, q5, q6, _⟩ := hq; go_simp) (by assumption) ?_
  simp only [Act.put, List.setIfInBounds_toArray, List.set_cons_zero, List.set_cons_succ]
  refine reg_take (i := 10) (d := 58) (.slice (some ⟨g, off, none⟩) nl cl) rfl rfl (by kernel_rfl) (by kernel_rfl) (by kernel_rfl) (fun _ _ _ h => h) (by rfl) (by intro wq hq; obtain ⟨q0, q1, q2, q3, q4, q5, q6, _⟩ := hq; go_simp) (by assumption) ?_
  simp only [Act.put, List.setIfInBounds_toArray, List.set_cons_zero, List.set_cons_succ]
  refine reg_take (i := 11) (d := 59) (.int .i64 (i : Int)) rfl rfl (by kernel_rfl) (by kernel_rfl) (by kernel_rfl) (fun _ _ _ h => h) (by rfl) (by intro wq hq; obtain ⟨q0, q1, q2, q3, q4, q5, q6, _⟩ := hq; go_simp) (by assumption) ?_
  simp only [Act.put, List.setIfInBounds_toArray, List.set_cons_zero, List.set_cons_succ]
  refine reg_take (i := 12) (d := 60) (.int .i64 (i1 : Int)) rfl rfl (by kernel_rfl) (by kernel_rfl) (by kernel_rfl) (fun _ _ _ h => h) (by rfl) (by intro wq hq; obtain ⟨q0, q1, q2, q3, q4, q5, q6, _⟩ := hq; go_simp) (by assumption) ?_
  simp only [Act.put, List.setIfInBounds_toArray, List.set_cons_zero, List.set_cons_succ]
  refine reg_take (i := 13) (d := 61) (.pointer (some ⟨g, off + i1, none⟩)) rfl rfl (by kernel_rfl) (by kernel_rfl) (by kernel_rfl) (fun _ _ _ h => h) (by rfl) (by intro wq hq; obtain ⟨q0, q1, q2, q3, q4, q5, q6, _⟩ := hq; go_simp) (by assumption) ?_
  simp only [Act.put, List.setIfInBounds_toArray, List.set_cons_zero, List.set_cons_succ]
  refine reg_take (i := 14) (d := 62) (.slice (some ⟨b1, o1, none⟩) m d1') rfl rfl (by kernel_rfl) (by kernel_rfl) (by kernel_rfl) (fun _ _ _ h => h) (by rfl) (by intro wq hq; obtain ⟨q0, q1, q2, q3, q4, q5, q6, _⟩ := hq; go_simp) (by assumption) ?_
  simp only [Act.put, List.setIfInBounds_toArray, List.set_cons_zero, List.set_cons_succ]
  refine reg_take (i := 15) (d := 63) (.int .i64 (j : Int)) rfl rfl (by kernel_rfl) (by kernel_rfl) (by kernel_rfl) (fun _ _ _ h => h) (by rfl) (by intro wq hq; obtain ⟨q0, q1, q2, q3, q4, q5, q6, _⟩ := hq; go_simp) (by assumption) ?_
  simp only [Act.put, List.setIfInBounds_toArray, List.set_cons_zero, List.set_cons_succ]
  refine reg_take (i := 16) (d := 64) (.int .i64 (j1 : Int)) rfl rfl (by kernel_rfl) (by kernel_rfl) (by kernel_rfl) (fun _ _ _ h => h) (by rfl) (by intro wq hq; obtain ⟨q0, q1, q2, q3, q4, q5, q6, _⟩ := hq; go_simp) (by assumption) ?_
  simp only [Act.put, List.setIfInBounds_toArray, List.set_cons_zero, List.set_cons_succ]
  refine reg_take (i := 17) (d := 65) (.pointer (some ⟨b1, o1 + j1, none⟩)) rfl rfl (by kernel_rfl) (by kernel_rfl) (by kernel_rfl) (fun _ _ _ h => h) (by rfl) (by intro wq hq; obtain ⟨q0, q1, q2, q3, q4, q5, q6, _⟩ := hq; go_simp) (by assumption) ?_
  simp only [Act.put, List.setIfInBounds_toArray, List.set_cons_zero, List.set_cons_succ]
  refine reg_take (i := 18) (d := 66) (.int .i64 Z) rfl rfl (by kernel_rfl) (by kernel_rfl) (by kernel_rfl) (fun _ _ _ h => h) (by rfl) (by intro wq hq; obtain ⟨q0, q1, q2, q3, q4, q5, q6, _⟩ := hq; go_simp) (by assumption) ?_
  simp only [Act.put, List.setIfInBounds_toArray, List.set_cons_zero, List.set_cons_succ]
  refine wpAnyH_ready (rs := [9]) (by kernel_rfl) (by simp) ?_
  refine AllReadyH.cons rfl (fun K hK => ?_) AllReadyH.nil
  go_simp
  refine (HSW.out w.drew.drew).mono ?_
  rintro e w' ⟨rfl, rfl⟩
  refine hK.out _ _ (EE.out _ (Below.refl _ _).drew.drew) (fun hHeld2 => ?_)
  clear hK hHeld
  have hHeld := hHeld2
  clear hHeld2
  refine reg_take (i := 19) (d := 67) (.int .i64 ((c : Int) + Z)) rfl rfl (by kernel_rfl) (by kernel_rfl) (by kernel_rfl) (fun _ _ _ h => h) (by rfl) (by intro wq hq; obtain ⟨q0, q1, q2, q3, q4, q5, q6, _⟩ := hq; go_simp) (by assumption) ?_
  simp only [Act.put, List.setIfInBounds_toArray, List.set_cons_zero, List.set_cons_succ]
  refine reg_take (i := 20) (d := 68) (.int .i64 V) rfl rfl (by kernel_rfl) (by kernel_rfl) (by kernel_rfl) (fun _ _ _ h => h) (by rfl) (by intro wq hq; obtain ⟨q0, q1, q2, q3, q4, q5, q6, _⟩ := hq; go_simp) (by assumption) ?_
  simp only [Act.put, List.setIfInBounds_toArray, List.set_cons_zero, List.set_cons_succ]
  refine reg_take (i := 21) (d := 10) (.int .i64 V) rfl rfl (by kernel_rfl) (by kernel_rfl) (by kernel_rfl) (fun _ _ _ h => h) (by rfl) (by intro wq hq; obtain ⟨q0, q1, q2, q3, q4, q5, q6, _⟩ := hq; go_simp) (by assumption) ?_
  simp only [Act.put, List.setIfInBounds_toArray, List.set_cons_zero, List.set_cons_succ]
  refine wpAnyH_done (by kernel_rfl) ?_ _
  all_goals
    go_wp2
    go_ret
    exact ⟨by rw [← HV.out]; rfl, (Below.refl _ _).drew.drew⟩
end Go.Proofs.Ytekchmbbafjmmaa
