
/- Words have no spaces. -/
import Derived.Test.YtnbppackijjohaaLn
import Derived.Test.YtnbppackijjohaaLo
import Derived.Test.YtnbppackijjohaaLj
import Derived.Test.YtnbppackijjohaaIsIn
import Derived.Deep.QuietTactic
import Derived.BigQuiet
namespace Go.Proofs.Ytnbppackijjohaa
open Go.RowKit

theorem count_takeL {zs : List Int} {z : Int} {k : Nat} (h : k < zs.length) : (zs.take (k + 1)).count z = (zs.take k).count z + if zs.getD k 0 = z then 1 else 0 := by
  rw [List.take_succ_eq_append_getElem h, List.count_append, List.getD_eq_getElem?_getD, List.getElem?_eq_getElem h, Option.getD_some]
  by_cases e : zs[k] = z
  · rw [if_pos e, e]; simp
  · rw [if_neg e, List.count_singleton]; simp [e]

set_option maxHeartbeats 1000000 in
theorem countL_any (w : World) (u : Value) (zs : List Int) (z : Int) (c : Nat) (hx : IntsAt w u zs) (hc : Hid (zs.count z = c)) :
    Calls Try.prog 29 #[u, .int .i64 z] w fun e w' => e = .returned (.int .i64 c) ∧ w = w' := by
  obtain ⟨a, cp, rfl, x1, x2, x3⟩ := hx
  obtain ⟨n, hn⟩ : ∃ n, zs.length = n := ⟨_, rfl⟩
  rw [hn] at x1 x3 ⊢
  have HN := Lib.hid hn
  clear hn
  go_enter Try.func29, Try.ntmps29
  go_wp2
  go_loop [5, 6] (fun m i => ∃ k q : Nat, k ≤ n ∧ i = .int .i64 k ∧ m = .int .i64 q ∧ q ≤ k ∧ Hid ((zs.take k).count z = q)) (fun _ i => n - (intOf i).toNat)
  case atStart => exact ⟨0, 0, Nat.zero_le _, rfl, rfl, by omega, rfl⟩
  case round =>
    obtain ⟨k, q, hk, rfl, rfl, hqk, hq⟩ := hrel
    by_cases hlt : k < n
    · rcases x3 with rfl | ⟨g, off, rfl, x3⟩
      · exact absurd HN.out (by simp; omega)
      have cx := x3 k hlt
      have hct := count_takeL (zs := zs) (z := z) (k := k) (by rw [HN.out]; exact hlt)
      obtain ⟨y, hy⟩ : ∃ y, zs.getD k 0 = y := ⟨_, rfl⟩
      rw [hy] at cx hct
      clear hy x3
      by_cases e : y = z
      · have e1 : (y == z) = true := by simpa using e
        have hq' : Hid ((zs.take (k + 1)).count z = q + 1) := by show _ = _; rw [hct, if_pos e, hq.out]
        clear e hct
        go_wp2
        go_round
        case rel => exact ⟨k + 1, q + 1, by omega, by go_num, by go_num, by omega, hq'⟩
        case measure => simp [intOf]; omega
      · have e1 : (y == z) = false := by simpa using e
        have hq' : Hid ((zs.take (k + 1)).count z = q) := by show _ = _; rw [hct, if_neg e, hq.out]; rfl
        clear e hct
        go_wp2
        go_round
        case rel => exact ⟨k + 1, q, by omega, by go_num, rfl, by omega, hq'⟩
        case measure => simp [intOf]; omega
    · have hqc : q = c := by rw [← hq.out, ← hc.out, List.take_of_length_le (by have := HN.out; omega)]
      clear hc
      subst hqc
      go_wp2
      go_ret
      exact ⟨rfl, rfl⟩

theorem countL_w (w : World) (u : Value) (zs : List Int) (z : Int) (c : Nat) (hx : IntsAt w u zs) (hc : Hid (zs.count z = c)) :
    Calls Try.prog 29 #[u, .int .i64 z] w fun e w' => e = .returned (.int .i64 c) ∧ w' = w :=
  (countL_any w u zs z c hx hc).mono fun _ _ ⟨h1, h2⟩ => ⟨h1, h2.symm⟩
/-- the cells of all lists -/
def tot (L : List (List Int)) : Nat := (L.map List.length).sum
theorem tot_app (A B : List (List Int)) : tot (A ++ B) = tot A + tot B := by simp [tot, List.sum_append]
theorem tot_one (x : List Int) : tot [x] = x.length := by simp [tot]
theorem fold_tot (line : List Int) : ∀ s : List (List Int) × List Int, tot (wEnd (line.foldl wStep s)) + line.count 0 = tot s.1 + s.2.length + line.length := by
  induction line with
  | nil =>
    intro s
    unfold wEnd
    by_cases h : s.2 = []
    · simp [h]
    · simp [h, tot_app, tot_one]
  | cons c r ih =>
    intro s
    rw [List.foldl_cons]
    have h1 := ih (wStep s c)
    by_cases h : c = 0
    · subst h
      rw [List.count_cons_self, List.length_cons]
      by_cases h2 : s.2 = []
      · have e : wStep s 0 = s := by simp [wStep, h2]
        rw [e] at h1 ⊢
        omega
      · have e : wStep s 0 = (s.1 ++ [s.2], []) := by simp [wStep, h2]
        rw [e] at h1 ⊢
        simp only [tot_app, tot_one, List.length_nil] at h1
        omega
    · have e : wStep s c = (s.1, s.2 ++ [c]) := by simp [wStep, h]
      rw [e] at h1 ⊢
      rw [List.count_cons_of_ne h, List.length_cons]
      simp only [List.length_append, List.length_singleton] at h1
      omega
theorem fold_words (line : List Int) : ∀ s : List (List Int) × List Int, Words s.1 → (0 : Int) ∉ s.2 → Words (wEnd (line.foldl wStep s)) := by
  induction line with
  | nil =>
    intro s h1 h2
    unfold wEnd
    by_cases h : s.2 = []
    · simp only [List.foldl_nil, h, if_true]; exact h1
    · simp only [List.foldl_nil, h, if_false]
      intro y hy
      rcases List.mem_append.1 hy with hy | hy
      · exact h1 y hy
      · simp only [List.mem_singleton] at hy; subst hy; exact ⟨h, h2⟩
  | cons c r ih =>
    intro s h1 h2
    rw [List.foldl_cons]
    refine ih _ ?_ ?_
    · unfold wStep
      by_cases h : c ≠ 0
      · simp only [h, ne_eq, not_false_eq_true, if_true]; exact h1
      · by_cases h3 : s.2 = []
        · simp only [h, h3, if_false, if_true]; exact h1
        · simp only [h, h3, if_false]
          intro y hy
          rcases List.mem_append.1 hy with hy | hy
          · exact h1 y hy
          · simp only [List.mem_singleton] at hy; subst hy; exact ⟨h3, h2⟩
    · unfold wStep
      by_cases h : c ≠ 0
      · simp only [h, ne_eq, not_false_eq_true, if_true, List.mem_append, List.mem_singleton, not_or]
        exact ⟨h2, fun e => h e.symm⟩
      · by_cases h3 : s.2 = []
        · rw [if_neg h, if_pos h3]; exact h2
        · rw [if_neg h, if_neg h3]; simp
theorem wol_tot (line : List Int) : tot (wol line) + line.count 0 = line.length := by
  have := fold_tot line ([], [])
  unfold wol
  simp only [tot, List.map_nil, List.sum_nil, List.length_nil] at this ⊢
  omega
theorem wol_words (line : List Int) : Words (wol line) := fold_words line ([], []) (fun y hy => by simp at hy) (by simp)
theorem wolAll_words (L : List (List Int)) : Words (wolAll L) := fun y hy => by
  obtain ⟨x, _, hy⟩ := List.mem_flatMap.1 hy
  exact wol_words x y hy
theorem wolAll_tot {L : List (List Int)} {k : Nat} (h : k < L.length) : tot (wolAll (L.take (k + 1))) + (L.getD k []).count 0 = tot (wolAll (L.take k)) + (L.getD k []).length := by
  rw [wolAll_succ L h, tot_app]
  have := wol_tot (L.getD k [])
  omega
theorem tot_take_le (L : List (List Int)) (k : Nat) : tot (L.take k) ≤ tot L := by
  have : tot L = tot (L.take k) + tot (L.drop k) := by rw [← tot_app, List.take_append_drop]
  omega
theorem tot_succ {L : List (List Int)} {k : Nat} (h : k < L.length) : tot (L.take (k + 1)) = tot (L.take k) + (L.getD k []).length := by
  rw [take_succL [] L h, tot_app, tot_one]
theorem tot_le {L : List (List Int)} (h : Len40 L) : ∀ k, k ≤ L.length → tot (L.take k) ≤ 40 * k := by
  intro k
  induction k with
  | zero => intro _; simp [tot]
  | succ k ih =>
    intro hk
    have h1 := ih (by omega)
    have h2 := h k
    rw [tot_succ (by omega)]; omega
theorem wolAll_mono {L : List (List Int)} {k : Nat} (h : k ≤ L.length) : tot (wolAll (L.take k)) ≤ tot (L.take k) := by
  induction k with
  | zero => simp [tot, wolAll]
  | succ k ih =>
    have h1 := ih (by omega)
    have h2 := wolAll_tot (L := L) (k := k) (by omega)
    rw [tot_succ (by omega)]; omega
theorem wolAll_part (L : List (List Int)) (k : Nat) : tot (wolAll (L.take k)) ≤ tot (wolAll L) := by
  have : wolAll L = wolAll (L.take k) ++ wolAll (L.drop k) := by unfold wolAll; rw [← List.flatMap_append, List.take_append_drop]
  rw [this, tot_app]; omega
theorem drawWordsOfLines_any (w : World) (a : Option Addr) (len cap : Nat) (zs : List Int) (h : RowIn .u8 w a len cap zs) :
    Calls Try.prog 26 #[.slice a len cap] w fun e w' => LwMade w e w' := by
  go_enter Try.func26, Try.ntmps26
  go_wp2_with fail
  refine (drawLineCost_any w a len cap zs h).mono ?_
  rintro e w1 ⟨S, a1, n1, c1, P, W, rfl, hO, hP, hW, hb1⟩
  go_wp2
  refine bodyPost_ret (results_twoL rfl _ _ _) rfl ?_
  exact ⟨S, _, _, _, P, W, rfl, hO, hP, hW, hb1⟩
set_option maxRecDepth 20000 in
set_option maxHeartbeats 4000000 in
theorem wordsOfLines_walk (a : Option Addr) (len cap : Nat) (zs : List Int) (w : World) (h : RowIn .u8 w a len cap zs) :
    Calls Try.prog 9 #[.slice a len cap] w fun e w' => e = .returned (.bool true) ∧ Below w.heap.size w w' := by
  have hlen : len ≤ 9223372036854775807 := by
    obtain ⟨_, h2, h3⟩ := bytesAt_of_row h; unfold maxLen at h3; omega
  by_cases hbig : len ≤ 1048576
  · go_enter Try.func9, Try.ntmps9
    go_wp2_with fail
    refine (drawWordsOfLines_any w a len cap zs h).mono ?_
    rintro e w1 ⟨S, a1, n1, c1, P, W, rfl, hO, hP, hW, hb1⟩
    clear h
    have HX1 := keptL hO.at
    have HB1 := keptL hb1
    clear hO hb1 hP
    obtain ⟨b, hb⟩ := boolOf (LinesOk P W)
    have HBB : Hid (b = true ↔ LinesOk P W) := hb
    clear hb
    go_wp2_with fail
    refine (i_WordsOfLines w1 _ P W b HX1.out HBB).mono ?_
    rintro e w2 ⟨a2, n2, c2, rfl, hO2, hb2⟩
    obtain ⟨R, hR⟩ : ∃ R, wlR P b = R := ⟨_, rfl⟩
    have HR := Lib.hid hR
    rw [hR] at hO2
    have HO2 := keptL hO2
    have HX2 := keptL (HX1.out.below hb2)
    have HB2 := keptL (below_next HB1.out hb2)
    have hn2 : n2 = R.length := by
      obtain ⟨_, _, e, _⟩ := hO2.at
      injection e with _ e2 _
    have HN2 := keptL hn2
    clear hR hO2 hb2 hn2
    go_wp2_with fail
    refine (s_WordsOfLines w2 _ P W b HX2.out HBB).mono ?_
    rintro e w3 ⟨a3, n3, c3, rfl, hO3, hb3⟩
    rw [HR.out] at hO3
    have HO23 := keptL (HO2.out.below hb3)
    have HO3 := keptL hO3.at
    have HX3 := keptL (HX2.out.below hb3)
    have HB3 := keptL (below_next HB2.out hb3)
    clear hO3 hb3 HO2 HX2 HB2
    go_wp2_with fail
    refine (equalLists_same w3 _ _ R HO23.out.at HO3.out).mono ?_
    rintro e w4 ⟨rfl, hb4⟩
    have HO4 := keptL (HO23.out.below hb4)
    have HX4 := keptL (HX3.out.below hb4)
    have HB4 := keptL (below_next HB3.out hb4)
    clear hb4 HO23 HX3 HB3 HO3
    by_cases h0 : n2 = 0
    · subst h0
      go_wp2_with fail
      refine (s_WordsOfLines w4 _ P W b HX4.out HBB).mono ?_
      rintro e w5 ⟨a5, n5, c5, rfl, hO5, hb5⟩
      rw [HR.out] at hO5
      have HO45 := keptL (HO4.out.at.below hb5)
      have HO5 := keptL hO5.at
      have HB5 := keptL (below_next HB4.out hb5)
      clear hO5 hb5
      go_wp2_with fail
      refine (equalLists_same w5 _ _ R HO45.out HO5.out).mono ?_
      rintro e w6 ⟨rfl, hb6⟩
      have HB6 := keptL (below_next HB5.out hb6)
      clear hb6
      go_wp2
      go_ret
      exact ⟨rfl, HB6.out⟩
    · have q0 : ((n2 : Int) == 0) = false := by simp; omega
      have hRne : R ≠ [] := by
        intro e
        have := HN2.out
        rw [e] at this
        exact h0 this
      have HT : Hid (b = true) := by
        show b = true
        cases b
        · exact absurd HR.out.symm hRne
        · rfl
      have HOK : Hid (LinesOk P W) := HBB.out.1 HT.out
      have HRW : Hid (wolAll P = R) := by
        show _ = _
        have := HR.out
        rw [HT.out] at this
        by_cases hm : (wolAll P).length ≤ 30
        · rw [wlR_few hm] at this; exact this
        · rw [wlR_many hm] at this; exact absurd this.symm hRne
      have hn2b : n2 ≤ 30 := by
        have := HR.out
        rw [HT.out] at this
        by_cases hm : (wolAll P).length ≤ 30
        · have h2 := HN2.out; rw [← HRW.out] at h2; omega
        · rw [wlR_many hm] at this; exact absurd this.symm hRne
      have HWD : Hid (∀ k, k < n2 → R.getD k [] ≠ [] ∧ (0 : Int) ∉ R.getD k []) := fun k hk => by
        have h1 : R.getD k [] ∈ R := getD_memL (by rw [← HN2.out]; exact hk)
        have h2 := wolAll_words P
        rw [HRW.out] at h2
        exact h2 _ h1
      obtain ⟨np, hnp⟩ : ∃ np, P.length = np := ⟨_, rfl⟩
      have HNP := Lib.hid hnp
      have hn1 : n1 = np := by
        obtain ⟨_, _, e, _⟩ := HX4.out
        injection e with _ e2 _
        omega
      subst hn1
      have hn30 : n1 ≤ 30 := by have := HOK.out.1; omega
      obtain ⟨T, hT⟩ : ∃ T, tot R = T := ⟨_, rfl⟩
      have HTT := Lib.hid hT
      have hTb : T ≤ 1200 := by
        have h1 := wolAll_mono (L := P) (Nat.le_refl _)
        have h2 := tot_le HOK.out.len P.length (Nat.le_refl _)
        rw [List.take_length, HRW.out, hT] at h1
        rw [List.take_length] at h2
        omega
      have HWT : Hid (tot (wolAll P) = T) := by show _ = _; rw [HRW.out, hT]
      clear hT hnp hRne
      go_wp2
      go_loop [6, 7] (fun s i => ∃ k d : Nat, k ≤ n2 ∧ i = .int .i64 k ∧ s = .int .i64 d ∧ Hid (tot (R.take k) = d)) (fun _ i => n2 - (intOf i).toNat)
      case atStart => exact ⟨0, 0, Nat.zero_le _, by go_num, by go_num, rfl⟩
      case round =>
        obtain ⟨k, d, hk, rfl, rfl, HD⟩ := hrel
        have hdT : d ≤ T := by rw [← HD.out, ← HTT.out]; exact tot_take_le R k
        by_cases hlt : k < n2
        · obtain ⟨g, u, rfl, cc, hE, hnx⟩ := HO4.out.nth hlt
          clear hnx
          obtain ⟨hw1, hw2⟩ := HWD.out k hlt
          have hD' := tot_succ (L := R) (k := k) (by rw [← HN2.out]; exact hlt)
          have hdT' : tot (R.take (k + 1)) ≤ T := by rw [← HTT.out]; exact tot_take_le R (k + 1)
          obtain ⟨ys, hys⟩ : ∃ ys, R.getD k [] = ys := ⟨_, rfl⟩
          rw [hys] at hE hw1 hw2 hD'
          have HU := keptL hE.1
          obtain ⟨a6, cp6, rfl, y1, y2, _⟩ := hE.1
          obtain ⟨m, hm⟩ : ∃ m, ys.length = m := ⟨_, rfl⟩
          rw [hm] at cc y1 hD' HU
          have hm0 : ¬ m = 0 := fun e => hw1 (List.length_eq_zero_iff.1 (by omega))
          have em : ((m : Int) == 0) = false := by simp; omega
          rw [HD.out] at hD'
          have HD' : Hid (tot (R.take (k + 1)) = d + m) := hD'
          have HIN : Hid (decide ((0 : Int) ∈ ys) = false) := decide_eq_false hw2
          have hdm : d + m ≤ 1200 := by omega
          have hk12 : k < 1200 := by omega
          have b1 : (0 : Int) ≤ (k : Int) := by omega
          have b2 : (k : Int) < (n2 : Int) := by omega
          clear hys hw1 hw2 hE hm HD hD' hdT'
          go_wp2_with fail
          refine (isIn_any w4 _ ys 0 HU.out).mono ?_
          rw [HIN.out]
          rintro e w7 ⟨rfl, rfl⟩
          go_wp2
          go_round
          case rel => exact ⟨k + 1, d + m, by omega, by go_num, by go_num, HD'⟩
          case measure => simp [intOf] <;> omega
        · obtain rfl : k = n2 := by omega
          have hdT2 : T = d := by
            rw [← HD.out, ← HTT.out, HN2.out, List.take_length]
          subst hdT2
          clear HD hdT
          go_wp2
          go_loopw [6, 8] (fun s i wr => ∃ k d q : Nat, k ≤ n1 ∧ i = .int .i64 k ∧ s = .int .i64 d ∧ Hid (d + tot (wolAll (P.take k)) = T) ∧ wr = w4.drewN q) (fun _ i _ => n1 - (intOf i).toNat)
          case atStart => exact ⟨0, _, 0, Nat.zero_le _, by go_num, rfl, by show _ = _; simp [wolAll, tot], rfl⟩
          case round =>
            obtain ⟨j, d, q, hj, rfl, rfl, HD, rfl⟩ := hrel
            by_cases hjl : j < n1
            · obtain ⟨g, off, u, rfl, cc, hu⟩ := HX4.out.someNth hjl
              have hst := wolAll_tot (L := P) (k := j) (by rw [HNP.out]; exact hjl)
              have hpt := wolAll_part P (j + 1)
              rw [HWT.out] at hpt
              have hl40 := HOK.out.len j
              obtain ⟨ys, hys⟩ : ∃ ys, P.getD j [] = ys := ⟨_, rfl⟩
              rw [hys] at hu hst hl40
              have HU := keptL hu
              obtain ⟨a6, cp6, rfl, y1, y2, _⟩ := hu
              obtain ⟨m, hm⟩ : ∃ m, ys.length = m := ⟨_, rfl⟩
              obtain ⟨c, hc⟩ : ∃ c, ys.count 0 = c := ⟨_, rfl⟩
              have hcm : c ≤ m := by rw [← hc, ← hm]; exact List.count_le_length
              rw [hm] at cc y1 hst HU hl40
              have HC := Lib.hid hc
              have HUq : Hid (IntsAt (w4.drewN q) (.slice a6 m cp6) ys) := HU.out
              rw [hc] at hst
              have hdd := HD.out
              obtain ⟨d', hd'⟩ : ∃ d' : Nat, d' + tot (wolAll (P.take (j + 1))) = T := ⟨T - tot (wolAll (P.take (j + 1))), by omega⟩
              have HD' := Lib.hid hd'
              have hdc : (d : Int) - m + c = d' := by omega
              have hd12 : d ≤ 1200 := by omega
              have hd12' : d' ≤ 1200 := by omega
              have u1 : IntKind.i64.wrap ((d : Int) - m) = (d : Int) - m := IntWalk.i64_in _ (by omega)
              have u2 : IntKind.i64.wrap ((d : Int) - m + c) = (d' : Int) := by rw [hdc]; exact IntWalk.i64_in _ (by omega)
              have b1 : (0 : Int) ≤ (j : Int) := by omega
              have b2 : (j : Int) < (n1 : Int) := by omega
              have cq : (w4.drewN q).cell? ⟨g, off + j, none⟩ = some (.slice a6 m cp6) := cc
              obtain ⟨wq, hwq⟩ : ∃ wq, w4.drewN q = wq := ⟨_, rfl⟩
              have HWQ := Lib.hid hwq
              rw [hwq] at cq HUq ⊢
              clear hys hst hpt hm hc hdd hd' HD hcm cc hwq
              go_wp2_with fail
              go_quiet ((go_at_call 29; exact Calls.quiet_of_same (countL_w _ _ ys 0 c (HUq.out.drewN _) HC)))
              go_wp2
              go_roundw
              case rel => exact ⟨j + 1, d', q + nq, by omega, by go_num, by first | rfl | (simp [u1, u2]; done) | go_num, HD', by rw [← HWQ.out, World.drewN_drewN]⟩
              case measure => simp [intOf] <;> omega
            · obtain rfl : j = n1 := by omega
              have hz : d = 0 := by
                have h1 := HD.out
                have h2 := HWT.out
                rw [← HNP.out, List.take_length, h2] at h1
                omega
              subst hz
              go_wp2
              go_ret
              exact ⟨rfl, below_drewN HB4.out _⟩
  · have hbig' : 1048576 < len := by omega
    go_enter Try.func9, Try.ntmps9
    go_wp2
    go_ret
    exact ⟨rfl, Below.refl _ _⟩
end Go.Proofs.Ytnbppackijjohaa
