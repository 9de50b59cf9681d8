
/- P166: faults cost what they cost. -/
import Derived.Test.YtekchmbbafjmmaaPem
import Derived.Test.YtekchmbbafjmmaaDots
import Derived.Test.YtekchmbbafjmmaaIsIn
namespace Go.Proofs.Ytekchmbbafjmmaa
open Go.RowKit

/-- the dots below k in which two cells differ -/
def dmN (x y : Nat) : Nat → Nat
  | 0 => 0
  | k + 1 => dmN x y k + if decide ((k : Int) ∈ dotsL x) = decide ((k : Int) ∈ dotsL y) then 0 else 1
theorem dm_table : ∀ x : Nat, x < 64 → ∀ y : Nat, y < 64 → dmN x y 7 = sw (x : Int) (y : Int) ∧ dmN x y 1 = 0 := by decide +kernel
theorem dm_le (x y k : Nat) : dmN x y k ≤ k := by
  induction k with
  | zero => simp [dmN]
  | succ k ih => simp only [dmN]; split <;> omega
def OkF (A : List Int) (f : PF) : Prop := (f.k = 0 ∧ (∃ x : Nat, f.i = (x : Int) ∧ x < A.length ∧ Cl (A.getD x 0)) ∧ Cl f.c) ∨ f.k = 1 ∨ f.k = 2
theorem steps_okf : ∀ (n : Nat) (A a b : List Int) (i : Nat), a.length + b.length ≤ n → A.drop i = a → (∀ x ∈ a, Cl x) → (∀ x ∈ b, Cl x) → ∀ f ∈ stepsL a b i, OkF A f := by
  intro n
  induction n with
  | zero =>
    intro A a b i hn hd _ _ f hf
    obtain rfl : a = [] := List.length_eq_zero_iff.1 (by omega)
    obtain rfl : b = [] := List.length_eq_zero_iff.1 (by omega)
    rw [stepsL] at hf; simp at hf
  | succ n ih =>
    intro A a b i hn hd ha hb f hf
    match a, b, hd, hn, ha, hb with
    | [], [], hd, _, _, _ => rw [stepsL] at hf; simp at hf
    | [], y :: b', hd, hn, ha, hb =>
      simp only [List.length_cons] at hn
      rw [stepsL] at hf
      rcases List.mem_cons.1 hf with rfl | hf
      · exact .inr (.inr rfl)
      · exact ih A [] b' i (by simp at hn ⊢; omega) hd ha (fun z hz => hb z (List.mem_cons_of_mem _ hz)) f hf
    | x :: a', [], hd, hn, ha, hb =>
      obtain ⟨hi', hx, hd'⟩ := dropP_cons hd
      simp only [List.length_cons] at hn
      rw [stepsL, if_pos (by rw [dist_nil', dist_nil']; simp; omega)] at hf
      rcases List.mem_cons.1 hf with rfl | hf
      · exact .inr (.inl rfl)
      · exact ih A a' [] (i + 1) (by simp at hn ⊢; omega) hd' (fun z hz => ha z (List.mem_cons_of_mem _ hz)) hb f hf
    | x :: a', y :: b', hd, hn, ha, hb =>
      obtain ⟨hi', hx, hd'⟩ := dropP_cons hd
      simp only [List.length_cons] at hn
      have ha' : ∀ z ∈ a', Cl z := fun z hz => ha z (List.mem_cons_of_mem _ hz)
      have hb' : ∀ z ∈ b', Cl z := fun z hz => hb z (List.mem_cons_of_mem _ hz)
      rw [stepsL] at hf
      by_cases h1 : dist (x :: a') (y :: b') = sw x y + dist a' b'
      · rw [if_pos h1] at hf
        rcases List.mem_append.1 hf with hf | hf
        · split at hf
          · rcases List.mem_singleton.1 hf with rfl
            exact .inl ⟨rfl, ⟨i, rfl, hi', by rw [hx]; exact ha x List.mem_cons_self⟩, hb y List.mem_cons_self⟩
          · simp at hf
        · exact ih A a' b' (i + 1) (by omega) hd' ha' hb' f hf
      · rw [if_neg h1] at hf
        by_cases h2 : dist (x :: a') (y :: b') = 4 + dist a' (y :: b')
        · rw [if_pos h2] at hf
          rcases List.mem_cons.1 hf with rfl | hf
          · exact .inr (.inl rfl)
          · exact ih A a' (y :: b') (i + 1) (by simp; omega) hd' ha' hb f hf
        · rw [if_neg h2] at hf
          rcases List.mem_cons.1 hf with rfl | hf
          · exact .inr (.inr rfl)
          · exact ih A (x :: a') b' i (by simp; omega) hd ha hb' f hf
theorem cost_take {A : List Int} {P : List PF} {k : Nat} (h : k < P.length) : costPL A (P.take (k + 1)) = costPL A (P.take k) + costPF A (P.getD k noF) := by
  rw [List.take_add_one, List.getElem?_eq_getElem h, costPL_append, List.getD_eq_getElem?_getD, List.getElem?_eq_getElem h]
  simp [costPL]
theorem cost_bd (A : List Int) (P : List PF) : costPL A P ≤ 6 * P.length := by
  induction P with
  | nil => simp [costPL]
  | cons f P ih =>
    simp only [costPL, List.length_cons]
    have : costPF A f ≤ 6 := by
      unfold costPF
      split
      · exact sw_le _ _
      · omega
    omega
theorem isIn_p (w : World) (u : Value) (zs : List Int) (z : Int) (b : Bool) (hx : IntsAt w u zs) (hb : Hid (decide (z ∈ zs) = b)) :
    Calls Try.prog 33 #[u, .int .i64 z] w fun e w' => e = .returned (.bool b) ∧ w = w' := by
  have := isIn_any w u zs z hx
  rw [hb.out] at this
  exact this
set_option maxHeartbeats 4000000 in
theorem proofStepsCost_walk (a : Option Addr) (len cap : Nat) (zs : List Int) (w : World) (h : RowIn .u8 w a len cap zs) :
    Calls Try.prog 11 #[.slice a len cap] w fun e w' => e = .returned (.bool true) ∧ Below w.heap.size w w' := by
  have hlen : len ≤ 9223372036854775807 := by
    obtain ⟨_, h2, h3⟩ := bytesAt_of_row h; unfold maxLen at h3; omega
  by_cases hbig : len ≤ 1048576
  · go_enter Try.func11, Try.ntmps11
    go_wp2_with fail
    refine (drawProofSteps_any w a len cap zs h).mono ?_
    rintro e w1 ⟨a1, n, ca, b1, m, cb, A, B, rfl, hA0, hB, hAl, hBl, hFA, HB⟩
    have hA := hA0.at
    clear h hA0
    obtain ⟨F, hF⟩ : ∃ F, proofL A B = F := ⟨_, rfl⟩
    have HF := Lib.hid hF
    have HFM := Lib.hid hFA
    have HL : Hid (F.length ≤ 2000000) := by show _ ≤ _; rw [← hF]; have := proofL_len A B; omega
    obtain ⟨c, hc⟩ : ∃ c, costA A B = c := ⟨_, rfl⟩
    have HC := Lib.hid hc
    clear hFA
    go_wp2_with fail
    refine (i_ProofSteps_any _ _ _ A B F hA hB HF).mono ?_
    rintro e w2 ⟨v2, rfl, hO, hbn⟩
    replace hA := hA.below hbn
    replace hB := hB.below hbn
    replace HB := below_next HB hbn
    clear hbn
    go_wp2_with fail
    refine (s_ProofSteps_any _ _ _ A B F hA hB HF).mono ?_
    rintro e w3 ⟨v3, rfl, hO3, hbn⟩
    replace hA := hA.below hbn
    replace hB := hB.below hbn
    replace hO := hO.below hbn
    replace HB := below_next HB hbn
    clear hbn
    go_wp2_with fail
    refine (equalFaults_same _ _ _ F hO.at hO3.at).mono ?_
    rintro e w4 ⟨rfl, hbn⟩
    replace hA := hA.below hbn
    replace hB := hB.below hbn
    replace hO := hO.below hbn
    replace HB := below_next HB hbn
    clear hbn hO3
    go_wp2_with fail
    refine (i_ProofCost _ _ _ A B c hA hB HC).mono ?_
    rintro e w5 ⟨rfl, hbn⟩
    replace hA := hA.below hbn
    replace hB := hB.below hbn
    replace hO := hO.below hbn
    replace HB := below_next HB hbn
    clear hbn
    by_cases hok : OkP A ∧ OkP B
    · skip
      have hc0 : decide (c < 0) = false := decide_eq_false (by rw [← hc, costA, if_pos hok]; omega)
      have hFS : F = stepsL A B 0 := by rw [← hF, proofL_cost hok]
      have HFN : Hid (∀ f ∈ F, OkF A f) := by
        show ∀ f ∈ F, OkF A f
        rw [hFS]
        exact steps_okf _ A A B 0 (Nat.le_refl _) rfl hok.1.cl hok.2.cl
      have HCS : Hid ((costPL A F : Int) = c) := by show _ = _; rw [hFS, cost_steps _ A A B 0 (Nat.le_refl _) rfl, ← hc, costA, if_pos hok]
      have hFl : F.length ≤ 60 := by rw [← hF]; exact proofL_len A B
      have hcb : c ≤ 1000 := by have := HCS.out; have := cost_bd A F; omega
      have hcb0 : 0 ≤ c := by have := HCS.out; omega
      obtain ⟨ao, no, co, hoo⟩ := hO.isSlice
      subst hoo
      have hno := hO.len
      have HNO := Lib.hid hno
      have hno60 : no ≤ 60 := by omega
      have hnA : A.length = n := by obtain ⟨_, _, e, _⟩ := hA; injection e with _ e2 _; exact e2.symm
      have HNA := Lib.hid hnA
      have hn8 : n ≤ 8 := by omega
      have HO := keptI hO
      have HAk := keptI hA
      have HBk := keptI hB
      have HW := keptI HB
      have hsw := HB.size
      clear hc hok hF hFS hFl hO hA hB HB hno hnA hAl hBl
      go_wp2_with fail
      go_loopw [6, 7] (fun t i wr => ∃ (k z : Nat), k ≤ no ∧ i = .int .i64 k ∧ t = .int .i64 z ∧ Hid (z = costPL A (F.take k)) ∧ z ≤ 6 * k ∧ Below w5.heap.size w5 wr) (fun _ i _ => no - (intOf i).toNat)
      case atStart => exact ⟨0, 0, Nat.zero_le _, rfl, rfl, by show _ = _; simp [costPL], by omega, Below.refl _ _⟩
      case round =>
        obtain ⟨k, z, hk, rfl, rfl, hz, hzb, hbb⟩ := hrel
        have HBB := keptI hbb
        have hszb := hbb.size
        clear hbb
        by_cases hlt : k < no
        · obtain ⟨g, rfl, _, _⟩ := HO.out.addr (by omega)
          obtain ⟨e0, e1, e2, _⟩ := HO.out.cell3 hlt
          have hk' : k < F.length := by rw [HNO.out]; exact hlt
          have hof := HFN.out (F.getD k noF) (by rw [List.getD_eq_getElem?_getD, List.getElem?_eq_getElem hk']; exact List.getElem_mem _)
          have HT : Hid (costPL A (F.take (k + 1)) = z + costPF A (F.getD k noF)) := by show _ = _; rw [cost_take hk', hz.out]
          obtain ⟨p, hp⟩ : ∃ p, F.getD k noF = p := ⟨_, rfl⟩
          rw [hp] at e0 e1 e2 hof HT
          clear hp hk' hz
          obtain ⟨fk, fi, fc⟩ := p
          simp only at e0 e1 e2
          have e0 := (HBB.out.cell (World.block_lt_of_cell? w5 _ e0)).trans e0
          have e1 := (HBB.out.cell (World.block_lt_of_cell? w5 _ e1)).trans e1
          have e2 := (HBB.out.cell (World.block_lt_of_cell? w5 _ e2)).trans e2
          have g1 : (0 : Int) ≤ (k : Int) := by omega
          have g2 : (k : Int) < (no : Int) := by omega
          have u4 : IntKind.i64.wrap ((z : Int) + 4) = ((z + 4 : Nat) : Int) := by rw [show ((z : Int) + 4) = ((z + 4 : Nat) : Int) from by omega]; exact IntWalk.i64_in _ (by omega)
          have hcase : fk = 0 ∨ fk = 1 ∨ fk = 2 := by
            rcases hof with h | h | h
            · exact .inl h.1
            · exact .inr (.inl h)
            · exact .inr (.inr h)
          by_cases hk0 : fk = 0
          · subst hk0
            obtain ⟨x, rfl, hx, hcx⟩ : ∃ x : Nat, fi = (x : Int) ∧ x < A.length ∧ Cl (A.getD x 0) := by
              rcases hof with h | h | h
              · exact h.2.1
              · exact absurd h (by simp)
              · exact absurd h (by simp)
            have hcf : Cl fc := by
              rcases hof with h | h | h
              · exact h.2.2
              · exact absurd h (by simp)
              · exact absurd h (by simp)
            rw [HNA.out] at hx
            obtain ⟨p, hp⟩ : ∃ p : Nat, A.getD x 0 = p := ⟨(A.getD x 0).toNat, by have := hcx.1; omega⟩
            obtain ⟨q, rfl⟩ : ∃ q : Nat, fc = q := ⟨fc.toNat, by have := hcf.1; omega⟩
            have hp64 : p < 64 := by have := hcx.2; omega
            have hq64 : q < 64 := by have := hcf.2; omega
            have HTP : Hid (costPL A (F.take (k + 1)) = z + dmN p q 7) := by
              show _ = _
              rw [HT.out, (dm_table p hp64 q hq64).1]
              simp [costPF]
              rw [← List.getD_eq_getElem?_getD, hp]
            have HD1 := Lib.hid (dm_table p hp64 q hq64).2
            obtain ⟨aq, cq, eq, _, _, xa3⟩ := HAk.out
            injection eq with eq1 eq2 eq3
            clear eq2 eq3
            subst eq1
            rcases xa3 with xa3 | ⟨ga, oa, rfl, xa3⟩
            · have := HNA.out; rw [xa3] at this; simp at this; omega
            have ea := xa3 x (by rw [HNA.out]; exact hx)
            rw [hp] at ea
            have ea := (HBB.out.cell (World.block_lt_of_cell? w5 _ ea)).trans ea
            have s1 : (0 : Int) ≤ (x : Int) := by omega
            have s2 : (x : Int) < (n : Int) := by omega
            have E2 := Lib.hid e2
            have HX := Lib.hid hx
            clear hof hcase HT hcx hcf xa3 hp hx
            go_wp2_with fail
            refine (i_dotsOf p wr hp64).mono ?_
            rintro e w6 ⟨v6, rfl, hD6, hb6, a6, n6, c6, rfl⟩
            have HBB6 := HBB.out.trans (hb6.mono hszb)
            have e0 := (hb6.cell (World.block_lt_of_cell? wr _ e0)).trans e0
            have e2 := (hb6.cell (World.block_lt_of_cell? wr _ E2.out)).trans E2.out
            have hsz6 := HBB6.size
            clear e1 ea hb6
            go_wp2_with fail
            refine (i_dotsOf q w6 hq64).mono ?_
            rintro e w7 ⟨v7, rfl, hD7, hb7, a7, n7, c7, rfl⟩
            have HD6 := keptI (hD6.below hb7)
            have HD7 := keptI hD7
            have HBB7 := keptI (HBB6.trans (hb7.mono hsz6))
            clear hb7 hD6 hD7 HBB6 e0 e2
            go_wp2_with fail
            go_loopw [6, 10] (fun t i wr => ∃ (kk : Nat), 1 ≤ kk ∧ kk ≤ 7 ∧ i = .int .i64 kk ∧ t = .int .i64 ((z + dmN p q kk : Nat) : Int) ∧ wr = w7) (fun _ i _ => 7 - (intOf i).toNat)
            case atStart => exact ⟨1, by omega, by omega, rfl, by rw [HD1.out]; rfl, rfl⟩
            case round =>
              obtain ⟨kk, hk1, hk7, rfl, rfl, rfl⟩ := hrel
              obtain ⟨y, hy⟩ : ∃ y, z + dmN p q kk = y := ⟨_, rfl⟩
              have hyb : y ≤ 6 * k + 7 := by have := dm_le p q kk; omega
              rw [hy]
              by_cases hkk : kk ≤ 6
              · have l1 : (kk : Int) ≤ 6 := by omega
                have l2 : decide ((kk : Int) ≤ 6) = true := decide_eq_true l1
                have l3 : decide (kk ≤ 6) = true := decide_eq_true hkk
                have v1 : IntKind.i64.wrap ((kk : Int) + 1) = ((kk + 1 : Nat) : Int) := by rw [show ((kk : Int) + 1) = ((kk + 1 : Nat) : Int) from by omega]; exact IntWalk.i64_in _ (by omega)
                have v2 : IntKind.i64.wrap ((y : Int) + 1) = ((y + 1 : Nat) : Int) := by rw [show ((y : Int) + 1) = ((y + 1 : Nat) : Int) from by omega]; exact IntWalk.i64_in _ (by omega)
                obtain ⟨b1, hb1⟩ : ∃ b, decide ((kk : Int) ∈ dotsL p) = b := ⟨_, rfl⟩
                obtain ⟨b2, hb2⟩ : ∃ b, decide ((kk : Int) ∈ dotsL q) = b := ⟨_, rfl⟩
                have HB1 := Lib.hid hb1
                have HB2 := Lib.hid hb2
                have HY : Hid (z + dmN p q (kk + 1) = y + (if b1 = b2 then 0 else 1)) := by show _ = _; rw [dmN, hb1, hb2, ← hy]; omega
                clear hb1 hb2 hy
                go_wp2_with fail
                refine (isIn_p _ _ _ _ b1 HD6.out.at HB1).mono ?_
                rintro e w' ⟨rfl, rfl⟩
                go_wp2_with fail
                refine (isIn_p _ _ _ _ b2 HD7.out.at HB2).mono ?_
                rintro e w' ⟨rfl, rfl⟩
                cases b1 <;> cases b2
                all_goals
                  go_wp2
                  go_roundw
                  case rel => exact ⟨kk + 1, by omega, by omega, by go_num, by rw [HY.out]; rfl, by first | rfl | trivial⟩
                  case measure => simp [intOf]; omega
              · obtain rfl : kk = 7 := by omega
                have l2 : decide (((7 : Nat) : Int) ≤ 6) = false := by decide
                have HZ : Hid (y = costPL A (F.take (k + 1))) := by show _ = _; rw [← hy, HTP.out]
                have hy6 : y ≤ 6 * (k + 1) := by
                  have h1 := sw_le (p : Int) (q : Int)
                  rw [← (dm_table p hp64 q hq64).1] at h1
                  omega
                clear hy
                go_wp2
                go_roundw
                case rel => exact ⟨k + 1, y, by omega, by go_num, rfl, HZ, hy6, HBB7.out⟩
                case measure => simp [intOf]; omega
          · have t0 : (fk == 0) = false := by simp [hk0]
            have t2 : decide (fk = 0) = false := decide_eq_false hk0
            have HZ : Hid (z + 4 = costPL A (F.take (k + 1))) := by show _ = _; rw [HT.out]; simp [costPF, hk0]
            clear hof hcase HT e1 e2
            go_wp2
            go_roundw
            case rel => exact ⟨k + 1, z + 4, by omega, by go_num, by go_num, HZ, by omega, HBB.out⟩
            case measure => simp [intOf]; omega
        · obtain rfl : k = no := by omega
          have hzc : (z : Int) = c := by rw [← HCS.out, hz.out, List.take_of_length_le (by rw [HNO.out]; exact Nat.le_refl _)]
          subst hzc
          clear hz
          go_wp2_with fail
          refine (i_ProofCost _ _ _ A B _ (HAk.out.below HBB.out) (HBk.out.below HBB.out) HC).mono ?_
          rintro e w8 ⟨rfl, hbn⟩
          have HF9 := below_next (HW.out.trans (HBB.out.mono hsw)) hbn
          go_wp2
          go_ret
          exact ⟨rfl, HF9⟩
    · have hc1 : c = -1 := by rw [← hc, costA, if_neg hok]
      subst hc1
      clear hc hok hF
      go_wp2_with fail
      refine (s_ProofSteps_any _ _ _ A B F hA hB HF).mono ?_
      rintro e w6 ⟨v6, rfl, hO6, hbn⟩
      replace hO := hO.below hbn
      replace HB := below_next HB hbn
      clear hbn hA hB
      go_wp2_with fail
      refine (equalFaults_same _ _ _ F hO.at hO6.at).mono ?_
      rintro e w7 ⟨rfl, hbn⟩
      replace HB := below_next HB hbn
      clear hbn hO hO6
      go_wp2
      go_ret
      exact ⟨rfl, HB⟩
  · have d : decide (len ≤ 1048576) = false := decide_eq_false hbig
    have hl : (1048576 : Int) < len := by omega
    clear h
    go_enter Try.func11, Try.ntmps11
    go_wp2
    go_ret
    exact ⟨rfl, Below.refl _ _⟩
end Go.Proofs.Ytekchmbbafjmmaa
