
/- P167, P168: faults that are put right. -/
import Derived.Test.YtekchmbbafjmmaaPem
import Derived.Test.YtekchmbbafjmmaaPen
namespace Go.Proofs.Ytekchmbbafjmmaa
open Go.RowKit

def FxY (L : List Int) (ok : Bool) (w : World) (e : Ending) (w' : World) : Prop := ∃ a n c, e = .returned (.tuple #[.slice a n c, .bool ok]) ∧ L.length = n ∧ OwnInts w' w.heap.size (.slice a n c) L ∧ Below w.heap.size w w'
theorem FxY.of {r : Option (List Int)} {L : List Int} {ok : Bool} {w w' : World} {e : Ending} (h : FxOut r w e w') (h1 : r.getD [] = L) (h2 : r.isSome = ok) : FxY L ok w e w' := by
  obtain ⟨v, he, hO, hb⟩ := h
  rw [h1] at hO
  rw [h2] at he
  obtain ⟨a, n, c, hv, hn⟩ := own_parts hO
  subst hv
  exact ⟨a, n, c, he, hn, hO, hb⟩
theorem i_FixFaults_y (w : World) (aa : Option Addr) (na ca : Nat) (A : List Int) (v : Value) (P : List PF) (r : Option (List Int)) (L : List Int) (ok : Bool) (hA : IntsAt w (.slice aa na ca) A) (hfm : FormF aa na ca) (hP : FaultsAt w v P) (hl : P.length ≤ 2000000) (hr : Hid (fixO A P = r)) (h1 : Hid (r.getD [] = L)) (h2 : Hid (r.isSome = ok)) :
    Calls Try.prog 32 #[.slice aa na ca, v] w fun e w' => FxY L ok w e w' :=
  (i_FixFaults w aa na ca A v P r hA hfm hP hl hr).mono fun _ _ h => FxY.of h h1.out h2.out
theorem s_FixFaults_y (w : World) (aa : Option Addr) (na ca : Nat) (A : List Int) (v : Value) (P : List PF) (r : Option (List Int)) (L : List Int) (ok : Bool) (hA : IntsAt w (.slice aa na ca) A) (hfm : FormF aa na ca) (hP : FaultsAt w v P) (hl : P.length ≤ 2000000) (hr : Hid (fixO A P = r)) (h1 : Hid (r.getD [] = L)) (h2 : Hid (r.isSome = ok)) :
    Calls Try.prog 35 #[.slice aa na ca, v] w fun e w' => FxY L ok w e w' :=
  (s_FixFaults w aa na ca A v P r hA hfm hP hl hr).mono fun _ _ h => FxY.of h h1.out h2.out
theorem fixO_some {A : List Int} {P : List PF} {L : List Int} (h : fixO A P = some L) : OkP A ∧ fixL A P 0 = some L ∧ L.length ≤ 30 := by
  unfold fixO at h
  split at h
  · rename_i hA
    cases hf : fixL A P 0 with
    | none => rw [hf] at h; simp at h
    | some r =>
      rw [hf] at h
      simp only [Option.bind_some] at h
      split at h
      · rename_i hl
        injection h with h
        subst h
        exact ⟨hA, rfl, hl⟩
      · cases h
  · cases h
theorem fix_cost {A : List Int} {P : List PF} {L : List Int} (h : fixO A P = some L) : costA A L ≤ 6 * (P.length : Int) := by
  obtain ⟨_, h2, _⟩ := fixO_some h
  have := fix_dist P A 0 L h2
  rw [List.drop_zero] at this
  unfold costA
  split <;> omega
theorem costA_low (A L : List Int) : -1 ≤ costA A L := by unfold costA; split <;> omega
theorem fix_none {A : List Int} (h : OkP A) : fixO A [] = some A := by
  unfold fixO
  rw [if_pos h, fixL]
  simp only [Option.bind_some, List.drop_zero]
  rw [if_pos h.1]
set_option maxHeartbeats 4000000 in
theorem fixFaults_walk (a : Option Addr) (len cap : Nat) (zs : List Int) (w : World) (h : RowIn .u8 w a len cap zs) :
    Calls Try.prog 12 #[.slice a len cap] w fun e w' => e = .returned (.bool true) ∧ Below w.heap.size w w' := by
  have hlen : len ≤ 9223372036854775807 := by
    obtain ⟨_, h2, h3⟩ := bytesAt_of_row h; unfold maxLen at h3; omega
  by_cases hbig : len ≤ 1048576
  · go_enter Try.func12, Try.ntmps12
    go_wp2_with fail
    refine (drawFixFaults_any w a len cap zs h).mono ?_
    rintro e w1 ⟨a1, n, ca, b1, m, cb, A, P, rfl, hA, hP, hAl, hPl, hFA, HB⟩
    clear h
    have hn : A.length = n := by obtain ⟨_, _, e, _⟩ := hA; injection e with _ e2 _; exact e2.symm
    have hm : P.length = m := by obtain ⟨_, _, e, _⟩ := hP; injection e with _ e2 _; exact e2.symm
    have HN := Lib.hid hn
    have HM := Lib.hid hm
    have HFM := Lib.hid hFA
    have hm61 : m ≤ 61 := by omega
    have hn8 : n ≤ 8 := by omega
    have HL : Hid (P.length ≤ 2000000) := by show _ ≤ _; omega
    obtain ⟨r, hr⟩ : ∃ r, fixO A P = r := ⟨_, rfl⟩
    have HR := Lib.hid hr
    clear hFA hn hm hAl hPl
    obtain ⟨L, hL⟩ : ∃ L, r.getD [] = L := ⟨_, rfl⟩
    obtain ⟨ok, hok⟩ : ∃ ok, r.isSome = ok := ⟨_, rfl⟩
    have H1 := Lib.hid hL
    have H2 := Lib.hid hok
    go_wp2_with fail
    refine (i_FixFaults_y _ _ n ca A _ P r L ok hA HFM.out hP HL.out HR H1 H2).mono ?_
    rintro e w2 ⟨a5, n5, c5, rfl, hn5, hO5, hbn⟩
    have HN5 := Lib.hid hn5
    clear hn5
    replace hA := hA.below hbn
    replace hP := hP.below hbn
    replace HB := below_next HB hbn
    clear hbn
    go_wp2_with fail
    refine (s_FixFaults_y _ _ n ca A _ P r L ok hA HFM.out hP HL.out HR H1 H2).mono ?_
    rintro e w3 ⟨a7, n7, c7, rfl, _, hO7, hbn⟩
    replace hA := hA.below hbn
    replace hP := hP.below hbn
    replace hO5 := hO5.below hbn
    replace HB := below_next HB hbn
    clear hbn
    go_wp2_with fail
    refine (equalInts_x _ _ _ L hO5.at hO7.at).mono ?_
    rintro e w4 ⟨rfl, hbn⟩
    replace hA := hA.below hbn
    replace hP := hP.below hbn
    replace hO5 := hO5.below hbn
    replace hO7 := hO7.below hbn
    replace HB := below_next HB hbn
    clear hbn
    cases r with
    | none =>
      have hok' : ok = false := hok.symm
      subst hok'
      clear hok H2 hr HR
      go_wp2_with fail
      refine (equalInts_x _ _ _ L hO5.at hO7.at).mono ?_
      rintro e w5 ⟨rfl, hbn⟩
      replace HB := below_next HB hbn
      clear hbn hO5 hO7 hA hP
      go_wp2
      go_ret
      exact ⟨rfl, HB⟩
    | some L' =>
      have hok' : ok = true := hok.symm
      subst hok'
      have hLL : L' = L := hL
      subst hLL
      clear hok H1 H2 hL hO7
      have hOK := (fixO_some hr).1
      have HR2 : Hid (fixO A [] = some A) := fix_none hOK
      obtain ⟨c, hc⟩ : ∃ c, costA A L' = c := ⟨_, rfl⟩
      have HC := Lib.hid hc
      have hc6 : c ≤ 6 * (m : Int) := by have := fix_cost hr; rw [HM.out, hc] at this; exact this
      have hc1 : -1 ≤ c := by have := costA_low A L'; omega
      have u1 : IntKind.i64.wrap (6 * (m : Int)) = 6 * (m : Int) := IntWalk.i64_in _ (by omega)
      have d1 : decide (c ≤ 6 * (m : Int)) = true := decide_eq_true hc6
      clear hc hOK hr HR
      go_wp2_with fail
      refine (i_FixFaults_y _ _ n ca A _ [] (some A) A true hA HFM.out (FaultsAt.nil _) (by simp) HR2 (Lib.hid rfl) (Lib.hid rfl)).mono ?_
      rintro e w5 ⟨a9, n9, c9, rfl, _, hO9, hbn⟩
      replace hA := hA.below hbn
      replace hO5 := hO5.below hbn
      replace HB := below_next HB hbn
      clear hbn hP
      go_wp2_with fail
      refine (equalInts_x _ _ _ A hO9.at hA).mono ?_
      rintro e w6 ⟨rfl, hbn⟩
      replace hA := hA.below hbn
      replace hO5 := hO5.below hbn
      replace HB := below_next HB hbn
      clear hbn hO9
      go_wp2_with fail
      refine (i_ProofCost _ _ _ A L' c hA hO5.at HC).mono ?_
      rintro e w7 ⟨rfl, hbn⟩
      replace HB := below_next HB hbn
      clear hbn hA hO5
      go_wp2
      go_ret
      exact ⟨rfl, HB⟩
  · have d : decide (len ≤ 1048576) = false := decide_eq_false hbig
    have hl : (1048576 : Int) < len := by omega
    clear h
    go_enter Try.func12, Try.ntmps12
    go_wp2
    go_ret
    exact ⟨rfl, Below.refl _ _⟩
theorem cnt_append (F G : List PF) : cntPL (F ++ G) = cntPL F + cntPL G := by
  induction F with
  | nil => simp [cntPL]
  | cons f F ih => simp only [List.cons_append, cntPL, ih]; omega
theorem cnt_take {P : List PF} {k : Nat} (h : k < P.length) : cntPL (P.take (k + 1)) = cntPL (P.take k) + cntPF (P.getD k noF) := by
  rw [List.take_add_one, List.getElem?_eq_getElem h, cnt_append, List.getD_eq_getElem?_getD, List.getElem?_eq_getElem h]
  simp [cntPL]
theorem cnt_bd (P : List PF) : -(P.length : Int) ≤ cntPL P ∧ cntPL P ≤ P.length := by
  induction P with
  | nil => simp [cntPL]
  | cons f P ih =>
    simp only [cntPL, List.length_cons]
    unfold cntPF
    split
    · omega
    · split <;> omega
set_option maxHeartbeats 4000000 in
theorem fixFaultsCount_walk (a : Option Addr) (len cap : Nat) (zs : List Int) (w : World) (h : RowIn .u8 w a len cap zs) :
    Calls Try.prog 13 #[.slice a len cap] w fun e w' => e = .returned (.bool true) ∧ Below w.heap.size w w' := by
  have hlen : len ≤ 9223372036854775807 := by
    obtain ⟨_, h2, h3⟩ := bytesAt_of_row h; unfold maxLen at h3; omega
  by_cases hbig : len ≤ 1048576
  · go_enter Try.func13, Try.ntmps13
    go_wp2_with fail
    refine (drawFixFaults_any w a len cap zs h).mono ?_
    rintro e w1 ⟨a1, n, ca, b1, m, cb, A, P, rfl, hA, hP, hAl, hPl, hFA, HB⟩
    clear h
    have hn : A.length = n := by obtain ⟨_, _, e, _⟩ := hA; injection e with _ e2 _; exact e2.symm
    have hm : P.length = m := by obtain ⟨_, _, e, _⟩ := hP; injection e with _ e2 _; exact e2.symm
    have HN := Lib.hid hn
    have HM := Lib.hid hm
    have HFM := Lib.hid hFA
    have hm61 : m ≤ 61 := by omega
    have hn8 : n ≤ 8 := by omega
    have HL : Hid (P.length ≤ 2000000) := by show _ ≤ _; omega
    obtain ⟨r, hr⟩ : ∃ r, fixO A P = r := ⟨_, rfl⟩
    have HR := Lib.hid hr
    clear hFA hn hm hAl hPl
    obtain ⟨L, hL⟩ : ∃ L, r.getD [] = L := ⟨_, rfl⟩
    obtain ⟨ok, hok⟩ : ∃ ok, r.isSome = ok := ⟨_, rfl⟩
    have H1 := Lib.hid hL
    have H2 := Lib.hid hok
    go_wp2_with fail
    refine (i_FixFaults_y _ _ n ca A _ P r L ok hA HFM.out hP HL.out HR H1 H2).mono ?_
    rintro e w2 ⟨a5, n5, c5, rfl, hn5, hO5, hbn⟩
    have HN5 := Lib.hid hn5
    clear hn5
    replace hA := hA.below hbn
    replace hP := hP.below hbn
    replace HB := below_next HB hbn
    clear hbn
    go_wp2_with fail
    refine (s_FixFaults_y _ _ n ca A _ P r L ok hA HFM.out hP HL.out HR H1 H2).mono ?_
    rintro e w3 ⟨a7, n7, c7, rfl, _, hO7, hbn⟩
    replace hA := hA.below hbn
    replace hP := hP.below hbn
    replace hO5 := hO5.below hbn
    replace HB := below_next HB hbn
    clear hbn
    go_wp2_with fail
    refine (equalInts_x _ _ _ L hO5.at hO7.at).mono ?_
    rintro e w4 ⟨rfl, hbn⟩
    replace hA := hA.below hbn
    replace hP := hP.below hbn
    replace hO5 := hO5.below hbn
    replace hO7 := hO7.below hbn
    replace HB := below_next HB hbn
    clear hbn
    cases r with
    | none =>
      have hok' : ok = false := hok.symm
      subst hok'
      clear hok H2 hr HR
      go_wp2_with fail
      refine (equalInts_x _ _ _ L hO5.at hO7.at).mono ?_
      rintro e w5 ⟨rfl, hbn⟩
      replace HB := below_next HB hbn
      clear hbn hO5 hO7 hA hP
      go_wp2
      go_ret
      exact ⟨rfl, HB⟩
    | some L' =>
      have hok' : ok = true := hok.symm
      subst hok'
      have hLL : L' = L := hL
      subst hLL
      clear hok H1 H2 hL hO7
      have hcnt := fix_count P A 0 L' (Nat.zero_le _) (fixO_some hr).2.1
      have HCN : Hid ((n5 : Int) = (n : Int) + cntPL P) := by show _ = _; rw [← HN5.out, hcnt, HN.out]; omega
      have HP := keptI hP
      have HB4 := keptI HB
      clear hcnt hr HR hO5 hA hP HB
      obtain ⟨ap, cp, e, x1, x2, hx3⟩ := HP.out
      injection e with e1 e2 e3
      clear e2 e3
      subst e1
      have HX := Lib.hid hx3
      clear hx3
      go_wp2
      go_loopw [9, 10] (fun t i wr => ∃ (k : Nat) (z : Int), k ≤ m ∧ i = .int .i64 k ∧ t = .int .i64 z ∧ Hid (z = (n : Int) + cntPL (P.take k)) ∧ wr = w4) (fun _ i _ => m - (intOf i).toNat)
      case atStart => exact ⟨0, n, Nat.zero_le _, rfl, rfl, by show _ = _; simp [cntPL], rfl⟩
      case round =>
        obtain ⟨k, z, hk, rfl, rfl, hz, rfl⟩ := hrel
        by_cases hlt : k < m
        · rcases HX.out with hh | ⟨g, off, rfl, hh⟩
          · have := HM.out; rw [hh] at this; simp at this; omega
          have hk' : k < P.length := by rw [HM.out]; exact hlt
          obtain ⟨p, hp⟩ : ∃ p, P.getD k noF = p := ⟨_, rfl⟩
          have hra := hh k hk'
          rw [hp] at hra
          have HT := Lib.hid (cnt_take hk')
          have hbd := cnt_bd (P.take k)
          rw [List.length_take] at hbd
          have hz0 := hz.out
          have bz : -100 ≤ z ∧ z ≤ 100 := by omega
          have HPP := Lib.hid hp
          clear hh hp hz0 hbd hk'
          obtain ⟨fk, fi, fc⟩ := p
          obtain ⟨c0, c1, c2⟩ := hra
          simp only at c0 c1 c2
          have g1 : (0 : Int) ≤ (k : Int) := by omega
          have g2 : (k : Int) < (m : Int) := by omega
          have u1 : IntKind.i64.wrap (z + 1) = z + 1 := IntWalk.i64_in _ (by omega)
          have u2 : IntKind.i64.wrap (z - 1) = z - 1 := IntWalk.i64_in _ (by omega)
          by_cases k2 : fk = 2
          · subst k2
            go_wp2
            go_roundw
            case rel => exact ⟨k + 1, z + 1, by omega, by go_num, rfl, by show _ = _; rw [HT.out, HPP.out, hz.out]; simp [cntPF]; omega, by first | rfl | trivial⟩
            case measure => simp [intOf]; omega
          · have t0 : (fk == 2) = false := by simp [k2]
            have t2 : decide (fk = 2) = false := decide_eq_false k2
            by_cases k1 : fk = 1
            · subst k1
              go_wp2
              go_roundw
              case rel => exact ⟨k + 1, z - 1, by omega, by go_num, rfl, by show _ = _; rw [HT.out, HPP.out, hz.out]; simp [cntPF]; omega, by first | rfl | trivial⟩
              case measure => simp [intOf]; omega
            · have y0 : (fk == 1) = false := by simp [k1]
              have y2 : decide (fk = 1) = false := decide_eq_false k1
              go_wp2
              go_roundw
              case rel => exact ⟨k + 1, z, by omega, by go_num, rfl, by show _ = _; rw [HT.out, HPP.out, hz.out]; simp [cntPF, k1, k2], by first | rfl | trivial⟩
              case measure => simp [intOf]; omega
        · obtain rfl : k = m := by omega
          have hz5 : z = (n5 : Int) := by rw [hz.out, HCN.out, List.take_of_length_le (by rw [HM.out]; exact Nat.le_refl _)]
          subst hz5
          clear hz
          go_wp2
          go_ret
          exact ⟨rfl, HB4.out⟩
  · have d : decide (len ≤ 1048576) = false := decide_eq_false hbig
    have hl : (1048576 : Int) < len := by omega
    clear h
    go_enter Try.func13, Try.ntmps13
    go_wp2
    go_ret
    exact ⟨rfl, Below.refl _ _⟩
end Go.Proofs.Ytekchmbbafjmmaa
