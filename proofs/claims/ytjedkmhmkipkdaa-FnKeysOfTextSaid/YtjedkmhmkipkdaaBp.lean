
/- KeysOf of the model. -/
import Derived.Test.YtjedkmhmkipkdaaBl
import Derived.Deep.QuietTactic
import Derived.BigQuiet
namespace Go.Proofs.Ytjedkmhmkipkdaa
open Go.RowKit

/-- the keys of a code, each times T -/
def trUp (T : Int) (c : Nat) : Nat → List Int
  | 0 => []
  | k + 1 => if c / 2 ^ k % 2 = 1 then trUp T c k ++ [T * ((k : Int) + 1)] else trUp T c k
theorem trUp_one (c k : Nat) : trUp 1 c k = keysUp c k := by
  induction k with
  | zero => rfl
  | succ k ih => simp only [trUp, keysUp, ih, Int.one_mul]
theorem trUp_neg (c k : Nat) : trUp (-1) c k = relUp c k := by
  induction k with
  | zero => rfl
  | succ k ih => simp only [trUp, relUp, ih, Int.neg_mul, Int.one_mul]
theorem trUp_le (T : Int) (c k : Nat) : (trUp T c k).length ≤ k := by
  induction k with
  | zero => simp [trUp]
  | succ k ih => simp only [trUp]; split <;> (try rw [List.length_append, List.length_singleton]) <;> omega
/-- what is put behind the events before, ahead of the turn T -/
def midL (m : Nat) (T : Int) : List Int := if T = 1 then [] else if T = -1 then trUp 1 m 7 else codeEv m
theorem midL_one (m : Nat) : midL m 1 = [] := by simp [midL]
theorem midL_next (m : Nat) {T : Int} (h : T = 1 ∨ T = -1) : midL m (T - 2) = midL m T ++ trUp T m 7 := by
  rcases h with rfl | rfl
  · simp [midL]
  · simp [midL, codeEv, trUp_one, trUp_neg]
theorem midL_end (m : Nat) : midL m (-3) = codeEv m := by simp [midL]
theorem midL_le (m : Nat) (T : Int) : (midL m T).length ≤ 14 := by
  unfold midL
  split
  · simp
  · split
    · have := trUp_le 1 m 7; omega
    · exact codeEv_le m
set_option maxRecDepth 20000 in
set_option maxHeartbeats 2000000 in
theorem s_KeysOf (w : World) (u : Value) (zs L : List Int) (hx : IntsAt w u zs) (_hf : Fits zs) (hL : Hid (keysL zs = L)) :
    Calls Try.prog 26 #[u] w fun e w' => ∃ a n c, e = .returned (.slice a n c) ∧ OwnInts w' w.heap.size (.slice a n c) L ∧ Below w.heap.size w w' := by
  obtain ⟨i0, hi, hz0, hz1, hz2⟩ := info_parts infoInt
  obtain ⟨a, c, rfl, x1, x2, x3⟩ := hx
  obtain ⟨n, hn⟩ : ∃ n, zs.length = n := ⟨_, rfl⟩
  rw [hn] at x1 x3 ⊢
  have HN := keptE hn
  clear hn _hf
  have hO0 : OwnInts (w.alloc (.cells #[] 3)) w.heap.size (.slice (some ⟨w.heap.size, 0, none⟩) 0 0) [] := OwnInts.made w w.heap.size (Nat.le_refl _)
  have hB0 : Below w.heap.size w (w.alloc (.cells #[] 3)) := (Below.refl _ _).alloc (Nat.le_refl _) _
  have HO0 := keptE hO0
  have HB0 := keptE hB0
  clear hO0 hB0
  by_cases hbig : n ≤ 20
  · go_enter Try.func26, Try.ntmps26
    go_wp2_with fail
    go_loopw [3, 4] (fun v i wr => ∃ k : Nat, k ≤ n ∧ i = .int .i64 k ∧ Hid (CdUp zs k) ∧ Hid (OwnInts wr w.heap.size v (evL (zs.take k))) ∧ Hid (Below w.heap.size w wr)) (fun _ i _ => n - (intOf i).toNat)
    case atStart => exact ⟨0, Nat.zero_le _, rfl, CdUp.zero _, HO0, HB0⟩
    case round =>
      clear HO0 HB0
      obtain ⟨wo, rfl⟩ : ∃ wo, wo = wr := ⟨wr, rfl⟩
      obtain ⟨k, hk, rfl, hu, hown, hb⟩ := hrel
      obtain ⟨ao, no, co, hoo⟩ := hown.out.isSliceB
      subst hoo
      have hsz := hb.out.size
      by_cases hlt : k < n
      · rcases x3 with rfl | ⟨g, off, rfl, x3⟩
        · exact absurd HN.out (by simp; omega)
        have cx0 := x3 k hlt
        obtain ⟨y, hy⟩ : ∃ y, zs.getD k 0 = y := ⟨_, rfl⟩
        rw [hy] at cx0
        have HCX : Hid (∀ wx, Below w.heap.size w wx → wx.cell? ⟨g, off + k, none⟩ = some (.int .i64 y)) := fun wx hb' => (hb'.cell (World.block_lt_of_cell? w _ cx0)).trans cx0
        have cx := HCX.out wo hb.out
        have hkl : k < zs.length := by rw [HN.out]; exact hlt
        have HY := keptE hy
        clear x3 cx0 hy
        by_cases hyb : 1 ≤ y ∧ y ≤ 127
        · obtain ⟨hy1, hy2⟩ := hyb
          have hu' : Hid (CdUp zs (k + 1)) := hu.out.succ (by rw [HY.out]; exact ⟨hy1, hy2⟩)
          have HST := keptE (evL_take hkl HY.out)
          obtain ⟨m, rfl⟩ : ∃ m : Nat, y = m := ⟨y.toNat, by omega⟩
          rw [Int.toNat_natCast] at HST
          have hm : m < 128 := by omega
          have hEl : (evL (zs.take k)).length ≤ 280 := by have := evL_le (zs.take k); rw [List.length_take] at this; omega
          obtain ⟨E, hE⟩ : ∃ E, evL (zs.take k) = E := ⟨_, rfl⟩
          rw [hE] at hown HST hEl
          have k0 : (0 : Int) ≤ (k : Int) := by omega
          have k1 : (k : Int) < (n : Int) := by omega
          clear hE hkl
          go_wp2_with fail
          refine (inRange_yes _ _ _ _ hy1 hy2).mono ?_
          rintro e w' ⟨rfl, rfl⟩
          go_wp2_with fail
          go_loopw [3, 5, 6] (fun v t y wr => ∃ T : Int, (T = 1 ∨ T = -1 ∨ T = -3) ∧ t = .int .i64 T ∧ Hid (OwnInts wr w.heap.size v (E ++ midL m T)) ∧ Hid (Below w.heap.size w wr)) (fun _ t _ _ => (intOf t + 3).toNat)
          case atStart => exact ⟨1, .inl rfl, rfl, keptE (by rw [midL_one, List.append_nil]; exact hown.out), hb⟩
          case round =>
            clear hown hb cx hsz
            obtain ⟨wm, rfl⟩ : ∃ wm, wm = wr := ⟨wr, rfl⟩
            obtain ⟨T, hT, rfl, hown, hb⟩ := hrel
            obtain ⟨am, nm, cm, hoo⟩ := hown.out.isSliceB
            subst hoo
            by_cases hT3 : T = -3
            · subst hT3
              have HO9 : Hid (OwnInts wm w.heap.size (.slice am nm cm) (evL (zs.take (k + 1)))) := keptE (by have h := hown.out; rw [midL_end] at h; rw [HST.out]; exact h)
              clear hown hT
              go_wp2
              go_roundw
              case rel => exact ⟨k + 1, by omega, by go_num, hu', HO9, hb⟩
              case measure => simp [intOf]; omega
            · have hT2 : T = 1 ∨ T = -1 := by omega
              have dT : decide (-1 ≤ T) = true := decide_eq_true (by omega)
              have HNX := keptE (midL_next m hT2)
              have hml := midL_le m T
              obtain ⟨M, hM⟩ : ∃ M, midL m T = M := ⟨_, rfl⟩
              rw [hM] at hown HNX hml
              have uT : IntKind.i64.wrap (T - 2) = T - 2 := IntWalk.i64_in _ (by omega)
              clear hM hT hT3
              go_wp2_with fail
              go_loopw [3, 6] (fun v y wr => ∃ j : Nat, j ≤ 7 ∧ y = .int .i64 ((j : Int) + 1) ∧ Hid (OwnInts wr w.heap.size v (E ++ M ++ trUp T m j)) ∧ Hid (Below w.heap.size w wr)) (fun _ y _ => 9 - (intOf y).toNat)
              case atStart => exact ⟨0, by omega, rfl, by simpa [trUp] using hown, hb⟩
              case round =>
                clear hown hb
                obtain ⟨j, hj, rfl, hown, hb⟩ := hrel
                have hsz := hb.out.size
                obtain ⟨aj, nj, cj, hoo⟩ := hown.out.isSliceB
                subst hoo
                by_cases hlj : j < 7
                · have cx := HCX.out wr hb.out
                  have HV : Hid (kb ((j : Int) + 1) = 2 ^ j) := kb_pow j
                  have hp1 : 1 ≤ 2 ^ j := Nat.one_le_two_pow
                  have hp2 : 2 ^ j ≤ 64 := Nat.le_trans (Nat.pow_le_pow_right (by omega) (show j ≤ 6 by omega)) (by decide)
                  have htl := trUp_le T m j
                  have HTS : Hid (trUp T m (j + 1) = if m / 2 ^ j % 2 = 1 then trUp T m j ++ [T * ((j : Int) + 1)] else trUp T m j) := rfl
                  obtain ⟨v, hv⟩ : ∃ v, 2 ^ j = v := ⟨_, rfl⟩
                  rw [hv] at HV hp1 hp2 HTS
                  obtain ⟨q, hq⟩ : ∃ q, m / v = q := ⟨_, rfl⟩
                  obtain ⟨r, hr⟩ : ∃ r, q % 2 = r := ⟨_, rfl⟩
                  rw [hq, hr] at HTS
                  have hqm : q ≤ m := by rw [← hq]; exact Nat.div_le_self _ _
                  have t1 : ((m : Int)).tdiv (v : Int) = (q : Int) := by rw [Int.tdiv_eq_ediv_of_nonneg (by omega), ← hq]; simp
                  have t2 : ((q : Int)).tmod 2 = (r : Int) := by rw [Int.tmod_eq_emod_of_nonneg (by omega), ← hr]; simp
                  have v0 : ((v : Int) == 0) = false := by simp; omega
                  have w1 : IntKind.i64.wrap (q : Int) = q := IntWalk.i64_in _ (by omega)
                  have hr2 : r < 2 := by rw [← hr]; exact Nat.mod_lt _ (by omega)
                  have w2 : IntKind.i64.wrap (r : Int) = r := IntWalk.i64_in _ (by omega)
                  obtain ⟨D, hD⟩ : ∃ D, trUp T m j = D := ⟨_, rfl⟩
                  rw [hD] at hown HTS htl
                  have HBI : Hid (∀ p, Calls Try.prog 44 #[.int .i64 ((j : Int) + 1)] (wr.drewN p) fun e w' => e = .returned (.int .i64 v) ∧ w' = wr.drewN p) := fun p => (s_bitOf _ v _ (by omega) (by omega) HV).mono fun _ _ ⟨h, k⟩ => ⟨h, k.symm⟩
                  clear hv hq hr hD
                  have hEMD : (E ++ M ++ D).length ≤ 400 := by rw [List.length_append, List.length_append]; omega
                  by_cases hr1 : r = 1
                  · subst hr1
                    rw [if_pos rfl] at HTS
                    have HSJ : Hid (E ++ M ++ trUp T m (j + 1) = (E ++ M ++ D) ++ [T * ((j : Int) + 1)]) := by show _ = _; rw [HTS.out, ← List.append_assoc]
                    obtain ⟨z, hz⟩ : ∃ z, T * ((j : Int) + 1) = z := ⟨_, rfl⟩
                    have hzb : -7 ≤ z ∧ z ≤ 7 := by
                      rcases hT2 with rfl | rfl <;> omega
                    have uz : IntKind.i64.wrap z = z := IntWalk.i64_in _ (by omega)
                    rw [hz] at HSJ
                    obtain ⟨Z, hZ⟩ : ∃ Z, E ++ M ++ D = Z := ⟨_, rfl⟩
                    rw [hZ] at hown HSJ hEMD
                    clear hZ HTS
                    go_wp2_with fail
                    go_quiet (first | (go_at_call 44; with_reducible exact Calls.quiet_of_same (HBI.out _)))
                    clear HBI
                    have hOd : OwnInts (wr.drewN nq) w.heap.size (.slice aj nj cj) Z := hown.out
                    have hBd : Below w.heap.size w (wr.drewN nq) := below_drewN hb.out nq
                    have hsd : w.heap.size ≤ (wr.drewN nq).heap.size := hBd.size
                    generalize wr.drewN nq = wd at hOd hBd hsd ⊢
                    clear hown hb cx
                    go_wp2_with (at_builtin; refine wpList_append_own _ rfl _ _ 23 rfl w.heap.size 3 i0 (.int .i64 0) 1 8 Try.underlying23 hi hz0 hz1 hz2 rfl (by decide) _ _ _ rfl (hOd.alloc _) ⟨wd.heap.size, 0, none⟩ 1 1 [.int .i64 z] rfl rfl new_one one_cell (by unfold maxLen; omega) (by omega) (by simp; omega) ?_)
                    intro v' w6 hown' hgrow _
                    have HO6 := keptE (OwnInts.snoc hown')
                    have HB6 := keptE (below_append hBd hsd hOd hgrow)
                    clear hown' hgrow hOd hBd
                    go_wp2
                    go_roundw
                    case rel => exact ⟨j + 1, by omega, by go_num, keptE (by rw [HSJ.out]; exact HO6.out), HB6⟩
                    case measure => simp [intOf]; omega
                  · have r1 : ((r : Int) == 1) = false := by simp; omega
                    rw [if_neg hr1] at HTS
                    have HSJ : Hid (OwnInts wr w.heap.size (.slice aj nj cj) (E ++ M ++ trUp T m (j + 1))) := keptE (by rw [HTS.out]; exact hown.out)
                    clear hr1 HTS hown
                    go_wp2_with fail
                    go_quiet (first | (go_at_call 44; with_reducible exact Calls.quiet_of_same (HBI.out _)))
                    clear HBI
                    have HOd : Hid (OwnInts (wr.drewN nq) w.heap.size (.slice aj nj cj) (E ++ M ++ trUp T m (j + 1))) := HSJ.out
                    have HBd : Hid (Below w.heap.size w (wr.drewN nq)) := below_drewN hb.out nq
                    generalize wr.drewN nq = wd at HOd HBd ⊢
                    clear HSJ hb cx
                    go_wp2
                    go_roundw
                    case rel => exact ⟨j + 1, by omega, by go_num, HOd, HBd⟩
                    case measure => simp [intOf]; omega
                · obtain rfl : j = 7 := by omega
                  have HO9 : Hid (OwnInts wr w.heap.size (.slice aj nj cj) (E ++ midL m (T - 2))) := keptE (by rw [HNX.out, ← List.append_assoc]; exact hown.out)
                  clear hown
                  go_wp2
                  go_roundw
                  case rel => exact ⟨T - 2, by omega, by go_num, HO9, hb⟩
                  case measure => simp [intOf]; omega
        · have hyb' : y < 1 ∨ 127 < y := by omega
          have HF : Hid (L = []) := by show _ = _; rw [← hL.out]; exact if_neg (not_codes HN.out hlt HY.out hyb')
          clear hyb hown
          go_wp2_with fail
          refine (inRange_no _ _ _ _ hyb').mono ?_
          rintro e w' ⟨rfl, rfl⟩
          go_wp2
          go_ret
          exact ⟨_, _, _, rfl, by rw [HF.out]; exact OwnInts.nil _ _, hb.out⟩
      · obtain rfl : k = n := by omega
        have HF : Hid (OwnInts wo w.heap.size (.slice ao no co) L) := by
          have h := hown.out
          rw [List.take_of_length_le (by rw [HN.out]; exact Nat.le_refl _)] at h
          have hc : CodesOk zs := ⟨by rw [HN.out]; exact hbig, hu.out.all HN.out⟩
          have : keysL zs = evL zs := if_pos hc
          rw [hL.out] at this
          rw [this]
          exact h
        clear hown
        go_wp2
        go_ret
        exact ⟨_, _, _, rfl, HF.out, hb.out⟩
  · have hbig' : 20 < n := by omega
    have HF : Hid (L = []) := by show _ = _; rw [← hL.out]; exact if_neg (fun h => hbig (by have := h.1; rw [HN.out] at this; exact this))
    go_enter Try.func26, Try.ntmps26
    go_wp2
    go_ret
    exact ⟨_, _, _, rfl, by rw [HF.out]; exact OwnInts.nil _ _, HB0.out⟩
end Go.Proofs.Ytjedkmhmkipkdaa
