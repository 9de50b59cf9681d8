
/- plainCells in the model. -/
import Derived.Test.YtjedkmhmkipkdaaPlP
namespace Go.Proofs.Ytjedkmhmkipkdaa
open Go.RowKit

set_option maxHeartbeats 1000000 in
theorem s_runEnd (s : ByteArray) (l : List UInt8) (k0 e : Nat) (w : World) (hT : Txt s l) (hs : s.size ≤ 9223372036854775000) (h0 : k0 ≤ s.size) (he : Hid (re l k0 = e)) :
    Calls Try.prog 66 #[.string s, .int .i64 k0] w fun e' w' => e' = .returned (.int .i64 e) ∧ w = w' := by
  have HT := Lib.hid hT
  clear hT
  go_enter Try.func66, Try.ntmps66
  go_wp2
  go_loop [5] (fun i => ∃ k : Nat, k ≤ s.size ∧ i = .int .i64 k ∧ Hid (re l k = e)) (fun i => s.size - (intOf i).toNat)
  case atStart => exact ⟨k0, h0, rfl, he⟩
  case round =>
    obtain ⟨k, hk, rfl, hr⟩ := hrel
    by_cases hlt : k < s.size
    · obtain ⟨h2, hbk⟩ := HT.out.2 k hlt
      cases hlet : letB (s[k]).toNat with
      | true =>
        have HL := Lib.hid hlet
        have hr' : Hid (re l (k + 1) = e) := by show _ = _; rw [← hr.out, re_go h2 (by rw [hbk]; exact hlet)]
        clear hlet hbk hr
        go_wp2_with (go_at_call 63; refine (s_isLetter_b _ true _ HL).mono ?_; rintro e w' ⟨rfl, rfl⟩)
        go_round
        case rel => exact ⟨k + 1, by omega, by go_num, hr'⟩
        case measure => simp [intOf]; omega
      | false =>
        have HL := Lib.hid hlet
        have hr' : Hid (k = e) := by show _ = _; rw [← hr.out, re_stop h2 (by rw [hbk]; exact hlet)]
        clear hlet hbk hr
        go_wp2_with (go_at_call 63; refine (s_isLetter_b _ false _ HL).mono ?_; rintro e w' ⟨rfl, rfl⟩)
        go_ret
        exact ⟨ret_i64' (by rw [hr'.out]), rfl⟩
    · have hr' : Hid (k = e) := by show _ = _; rw [← hr.out, re_end (by have := HT.out.1; omega)]
      clear hr
      go_wp2
      go_ret
      exact ⟨ret_i64' (by rw [hr'.out]), rfl⟩


set_option maxHeartbeats 1000000 in
theorem s_allUpper (s : ByteArray) (l : List UInt8) (r : Bool) (w : World) (hT : Txt s l) (hs : s.size ≤ 9223372036854775000) (hr : Hid (l.all (fun b => capB b.toNat) = r)) :
    Calls Try.prog 80 #[.string s] w fun e' w' => e' = .returned (.bool r) ∧ w = w' := by
  have HT := Lib.hid hT
  clear hT
  go_enter Try.func80, Try.ntmps80
  go_wp2
  go_loop [3] (fun i => ∃ k : Nat, k ≤ s.size ∧ i = .int .i64 k ∧ Hid ((sub l 0 k).all (fun b => capB b.toNat) = true)) (fun i => s.size - (intOf i).toNat)
  case atStart => exact ⟨0, by omega, rfl, by show _ = _; rw [sub_self]; rfl⟩
  case round =>
    obtain ⟨k, hk, rfl, hall⟩ := hrel
    by_cases hlt : k < s.size
    · obtain ⟨h2, hbk⟩ := HT.out.2 k hlt
      cases hcap : capB (s[k]).toNat with
      | true =>
        have HC := Lib.hid hcap
        have hall' : Hid ((sub l 0 (k + 1)).all (fun b => capB b.toNat) = true) := by show _ = _; rw [sub_succ (Nat.zero_le _) h2, all_snoc, hall.out, hbk, hcap]; rfl
        clear hcap hbk hall
        go_wp2_with (go_at_call 78; refine (s_isUpper_b _ true _ HC).mono ?_; rintro e w' ⟨rfl, rfl⟩)
        go_round
        case rel => exact ⟨k + 1, by omega, by go_num, hall'⟩
        case measure => simp [intOf]; omega
      | false =>
        have HC := Lib.hid hcap
        have hr' : Hid (r = false) := by
          show _ = _
          rw [← hr.out, List.all_eq_false]
          exact ⟨l[k], List.getElem_mem _, by rw [hbk, hcap]; simp⟩
        clear hcap hbk hall
        go_wp2_with (go_at_call 78; refine (s_isUpper_b _ false _ HC).mono ?_; rintro e w' ⟨rfl, rfl⟩)
        go_ret
        exact ⟨by rw [hr'.out]; rfl, rfl⟩
    · have hr' : Hid (r = true) := by
        show _ = _
        have hk2 : k = l.length := by have := HT.out.1; omega
        rw [← hr.out]
        have h := hall.out
        rw [hk2, show sub l 0 l.length = l from by simp [sub]] at h
        exact h
      clear hall
      go_wp2
      go_ret
      exact ⟨by rw [hr'.out]; rfl, rfl⟩

theorem s_letterCell_n (n z : Int) (w : World) (h0 : 0 ≤ n) (h1 : n < 26) (hz : Hid (letL.getD n.toNat 0 = z)) :
    Calls Try.prog 86 #[.int .i64 n] w fun e w' => e = .returned (.int .i64 z) ∧ Below w.heap.size w w' := by
  have := s_letterCell n w h0 h1
  rw [hz.out] at this
  exact this
theorem s_lowerCell (b : UInt8) (z : Int) (w : World) (hl : Hid (letB b.toNat = true)) (hz : Hid (letC b = z)) :
    Calls Try.prog 81 #[.int .u8 b.toNat] w fun e' w' => e' = .returned (.int .i64 z) ∧ Below w.heap.size w w' := by
  have h256 := b.toNat_lt
  cases hcap : capB b.toNat with
  | true =>
    have HC := Lib.hid hcap
    have hc : 65 ≤ b.toNat ∧ b.toNat ≤ 90 := of_decide_eq_true hcap
    have HN : Hid (letL.getD ((b.toNat : Int) - 65).toNat 0 = z) := by
      show _ = _
      have := hz.out
      rw [letC, letNum, if_pos hcap] at this
      rw [show ((b.toNat : Int) - 65).toNat = b.toNat - 65 from by omega]; exact this
    obtain ⟨c1, c2⟩ := hc
    clear hcap
    go_enter Try.func81, Try.ntmps81
    go_wp2_with (first | (go_at_call 78; refine (s_isUpper_b _ true _ HC).mono ?_; rintro e w' ⟨rfl, rfl⟩) | (go_at_call 86; refine (s_letterCell_n _ z _ (by omega) (by omega) HN).mono ?_; rintro e w2 ⟨rfl, hb⟩))
    go_ret
    exact ⟨rfl, hb⟩
  | false =>
    have HC := Lib.hid hcap
    have hc : 97 ≤ b.toNat ∧ b.toNat ≤ 122 := by
      have h1 := hl.out
      rw [letB] at h1
      have h2 : decide (65 ≤ b.toNat ∧ b.toNat ≤ 90) = false := hcap
      rw [h2, Bool.or_false] at h1
      exact of_decide_eq_true h1
    have HN : Hid (letL.getD ((b.toNat : Int) - 97).toNat 0 = z) := by
      show _ = _
      have := hz.out
      rw [letC, letNum, hcap] at this
      rw [show ((b.toNat : Int) - 97).toNat = b.toNat - 97 from by omega]; simpa using this
    obtain ⟨c1, c2⟩ := hc
    clear hcap
    go_enter Try.func81, Try.ntmps81
    go_wp2_with (first | (go_at_call 78; refine (s_isUpper_b _ false _ HC).mono ?_; rintro e w' ⟨rfl, rfl⟩) | (go_at_call 86; refine (s_letterCell_n _ z _ (by omega) (by omega) HN).mono ?_; rintro e w2 ⟨rfl, hb⟩))
    go_ret
    exact ⟨rfl, hb⟩
theorem made_alloc (w : World) : OwnInts (w.alloc (.cells #[] 3)) w.heap.size (.slice (some ⟨w.heap.size, 0, none⟩) 0 0) [] := OwnInts.made _ _ (Nat.le_refl _)
theorem small_num {c : Nat} (h : smallB c = true) : decide (letNum c < 10) = decide (c ≤ 106) := by
  have h1 : 97 ≤ c ∧ c ≤ 122 := of_decide_eq_true h
  have h2 : capB c = false := by simp [capB]; omega
  rw [letNum, h2]
  simp; omega

set_option maxHeartbeats 8000000 in
theorem s_runCells (s : ByteArray) (l : List UInt8) (d : Bool) (w : World) (hT : Txt s l) (hs : s.size ≤ 1000000) (h0 : 0 < s.size) (hA : ∀ k (h : k < s.size), letB (s[k]).toNat = true) :
    Calls Try.prog 67 #[.string s, .bool d] w fun e w' => CellsMade (runC l d) w e w' := by
  obtain ⟨i0, hi, hz0, hz1, hz2⟩ := info_parts infoInt
  have HT := Lib.hid hT
  have HA := Lib.hid hA
  obtain ⟨ha2, hba⟩ := hT.2 0 h0
  have hh0 : l.headD 0 = s[0] := by
    rw [← hba]
    cases l with
    | nil => simp at ha2
    | cons x r => rfl
  have hfull : sub l 0 s.size = l := by rw [← hT.1]; simp [sub]
  cases hU : l.all (fun b => capB b.toNat) with
  | true =>
    have HU := Lib.hid hU
    by_cases h2 : 2 ≤ s.size
    · have hW : wholeB l = true := by rw [wholeB, hU, hT.1, decide_eq_true h2]; rfl
      have hcs : smallB (s[0]).toNat = false := cap_not_small (by rw [← hh0]; exact whole_head hW)
      have HR : Hid (runC l d = [32, 32] ++ bodyC true (sub l 0 s.size)) := by show _ = _; rw [runC, hW, headC, hh0, hcs, hfull]; simp
      have d1 : decide ((1 : Int) < (s.size : Int)) = true := decide_eq_true (by omega)
      clear hT hA hba hh0 hfull hU hW hcs
      have ho0 := made_alloc w
      have hb0 : Below w.heap.size w (w.alloc (.cells #[] 3)) := (Below.refl _ _).alloc (Nat.le_refl _) _
      have hs0 : w.heap.size ≤ (w.alloc (.cells #[] 3)).heap.size := hb0.size
      go_enter Try.func67, Try.ntmps67
      go_wp2_with fail
      refine (s_allUpper s l true _ HT.out (by omega) HU).mono ?_
      rintro e w' ⟨rfl, rfl⟩
      generalize w.alloc (.cells #[] 3) = wa at ho0 hb0 hs0 ⊢
      go_wp2_with (at_builtin; go_loud (refine wpList_append_own _ rfl _ _ 23 rfl w.heap.size 3 i0 (.int .i64 0) 1 8 Try.underlying23 hi hz0 hz1 hz2 rfl (by decide) _ 0 [] rfl (ho0.alloc _) ⟨wa.heap.size, 0, none⟩ 2 2 [.int .i64 32, .int .i64 32] rfl rfl new_two two_cell (by unfold maxLen; first | omega | (simp; omega)) (by first | omega | (simp; omega)) (by first | (simp; omega) | simp) ?_))
      intro v' w1 hown' hgrow _
      have ho1 := OwnInts.snoc2 (zs := []) hown'
      have hb1 := below_append hb0 hs0 ho0 hgrow
      clear hown' hgrow ho0 hb0
      have hs1 := hb1.size
      go_wp2_with fail
      go_loopw [5, 6] (fun v i wr => ∃ k : Nat, k ≤ s.size ∧ i = .int .i64 k ∧ OwnInts wr w.heap.size v ([32, 32] ++ bodyC true (sub l 0 k)) ∧ Below w.heap.size w wr) (fun _ i _ => s.size - (intOf i).toNat)
      case atStart => exact ⟨0, by omega, rfl, by rw [sub_self]; exact (by simpa [bodyC] using ho1), hb1⟩
      case round =>
        obtain ⟨k, hkb, rfl, hown, hb⟩ := hrel
        have hsw := hb.size
        by_cases hlt : k < s.size
        · obtain ⟨h2, hbk⟩ := HT.out.2 k hlt
          have hlet : letB (s[k]).toNat = true := HA.out k hlt
          have HLt := Lib.hid hlet
          obtain ⟨z, hz⟩ : ∃ z, letC (s[k]) = z := ⟨_, rfl⟩
          have HZ := Lib.hid hz
          have hbl : ([32, 32] ++ bodyC true (sub l 0 k)).length ≤ 2 + 2 * k := by
            rw [List.length_append]
            have h1 := body_len true (sub l 0 k)
            rw [sub_length (by have := HT.out.1; omega)] at h1
            have h3 : ([32, 32] : List Int).length ≤ 2 := by decide
            omega
          have hS : Hid ([32, 32] ++ bodyC true (sub l 0 (k + 1)) = ([32, 32] ++ bodyC true (sub l 0 k)) ++ [z]) := by
            show _ = _
            rw [sub_succ (Nat.zero_le _) h2, body_snoc, hbk, oneC, hz]; simp
          obtain ⟨acc, hacc⟩ : ∃ acc, [32, 32] ++ bodyC true (sub l 0 k) = acc := ⟨_, rfl⟩
          rw [hacc] at hown hS hbl
          clear hlet hz hacc hbk
          go_wp2_with fail
          refine (s_lowerCell _ z _ HLt HZ).mono ?_
          rintro e w1 ⟨rfl, hb1⟩
          have hown1 := hown.below hb1
          have hB1 := hb.trans (hb1.mono hsw)
          have hsz1 := hB1.size
          clear hown hb hb1
          go_wp2_with (at_builtin; go_loud (refine wpList_append_own _ rfl _ _ 23 rfl w.heap.size 3 i0 (.int .i64 0) 1 8 Try.underlying23 hi hz0 hz1 hz2 rfl (by decide) _ _ _ rfl (hown1.alloc _) ⟨w1.heap.size, 0, none⟩ 1 1 [.int .i64 z] rfl rfl new_one one_cell (by unfold maxLen; first | omega | (simp; omega)) (by first | omega | (simp; omega)) (by first | (simp; omega) | simp) ?_))
          intro v' w2 hown' hgrow _
          have R1 := OwnInts.snoc hown'
          have R2 := below_append hB1 hsz1 hown1 hgrow
          clear hown' hgrow hown1 hB1
          go_wp2
          go_roundw
          case rel => exact ⟨k + 1, by omega, by go_num, by rw [hS.out]; exact R1, R2⟩
          case measure => simp [intOf]; omega
        · obtain rfl : k = s.size := by omega
          obtain ⟨_, _, _, hvv⟩ := (show ∃ a n c, _ = Value.slice a n c from (by rcases hown.2 with ⟨h, _⟩ | ⟨g, cap, _, h, _⟩ <;> exact ⟨_, _, _, h⟩))
          go_wp2
          go_ret
          exact ⟨_, rfl, by rw [HR.out]; exact hown, hb, _, _, _, hvv⟩
    · have hW : wholeB l = false := by rw [wholeB, hU, hT.1, decide_eq_false h2]; rfl
      have hRC : ∀ d, runC l d = headC false d (s[0]).toNat ++ bodyC false (sub l 0 s.size) := fun d => by rw [runC, hW, hh0, hfull]
      have d1 : decide ((1 : Int) < (s.size : Int)) = false := decide_eq_false (by omega)
      clear hba hfull hU hW
      cases d with
      | false =>
        have HR : Hid (runC l false = [] ++ bodyC false (sub l 0 s.size)) := by show _ = _; rw [hRC, headC]; simp
        clear hRC hT hA hh0
        have ho0 := made_alloc w
        have hb0 : Below w.heap.size w (w.alloc (.cells #[] 3)) := (Below.refl _ _).alloc (Nat.le_refl _) _
        have hs0 : w.heap.size ≤ (w.alloc (.cells #[] 3)).heap.size := hb0.size
        go_enter Try.func67, Try.ntmps67
        go_wp2_with fail
        go_loopw [5, 7] (fun v i wr => ∃ k : Nat, k ≤ s.size ∧ i = .int .i64 k ∧ OwnInts wr w.heap.size v ([] ++ bodyC false (sub l 0 k)) ∧ Below w.heap.size w wr) (fun _ i _ => s.size - (intOf i).toNat)
        case atStart => exact ⟨0, by omega, rfl, by rw [sub_self]; exact (by simpa [bodyC] using ho0), hb0⟩
        case round =>
          obtain ⟨k, hkb, rfl, hown, hb⟩ := hrel
          have hsw := hb.size
          by_cases hlt : k < s.size
          · obtain ⟨h2, hbk⟩ := HT.out.2 k hlt
            have hlet : letB (s[k]).toNat = true := HA.out k hlt
            have HLt := Lib.hid hlet
            obtain ⟨z, hz⟩ : ∃ z, letC (s[k]) = z := ⟨_, rfl⟩
            have HZ := Lib.hid hz
            have hbl : ([] ++ bodyC false (sub l 0 k)).length ≤ 2 + 2 * k := by
              rw [List.length_append]
              have h1 := body_len false (sub l 0 k)
              rw [sub_length (by have := HT.out.1; omega)] at h1
              have h3 : ([] : List Int).length ≤ 2 := by decide
              omega
            cases hcap : capB (s[k]).toNat with
            | false =>
              have HC := Lib.hid hcap
              have hS : Hid ([] ++ bodyC false (sub l 0 (k + 1)) = ([] ++ bodyC false (sub l 0 k)) ++ [z]) := by
                show _ = _
                rw [sub_succ (Nat.zero_le _) h2, body_snoc, hbk, oneC, hcap, hz]; simp
              obtain ⟨acc, hacc⟩ : ∃ acc, [] ++ bodyC false (sub l 0 k) = acc := ⟨_, rfl⟩
              rw [hacc] at hown hS hbl
              clear hlet hz hacc hbk hcap
              go_wp2_with fail
              refine (s_isUpper_b _ false _ HC).mono ?_
              rintro e w' ⟨rfl, rfl⟩
              go_wp2_with fail
              refine (s_lowerCell _ z _ HLt HZ).mono ?_
              rintro e w1 ⟨rfl, hb1⟩
              have hown1 := hown.below hb1
              have hB1 := hb.trans (hb1.mono hsw)
              have hsz1 := hB1.size
              clear hown hb hb1
              go_wp2_with (at_builtin; go_loud (refine wpList_append_own _ rfl _ _ 23 rfl w.heap.size 3 i0 (.int .i64 0) 1 8 Try.underlying23 hi hz0 hz1 hz2 rfl (by decide) _ _ _ rfl (hown1.alloc _) ⟨w1.heap.size, 0, none⟩ 1 1 [.int .i64 z] rfl rfl new_one one_cell (by unfold maxLen; first | omega | (simp; omega)) (by first | omega | (simp; omega)) (by first | (simp; omega) | simp) ?_))
              intro v' w2 hown' hgrow _
              have R1 := OwnInts.snoc hown'
              have R2 := below_append hB1 hsz1 hown1 hgrow
              clear hown' hgrow hown1 hB1
              go_wp2
              go_roundw
              case rel => exact ⟨k + 1, by omega, by go_num, by rw [hS.out]; exact R1, R2⟩
              case measure => simp [intOf]; omega
            | true =>
              have HC := Lib.hid hcap
              have hS : Hid ([] ++ bodyC false (sub l 0 (k + 1)) = (([] ++ bodyC false (sub l 0 k)) ++ [32]) ++ [z]) := by
                show _ = _
                rw [sub_succ (Nat.zero_le _) h2, body_snoc, hbk, oneC, hcap, hz]; simp
              obtain ⟨acc, hacc⟩ : ∃ acc, [] ++ bodyC false (sub l 0 k) = acc := ⟨_, rfl⟩
              rw [hacc] at hown hS hbl
              clear hlet hz hacc hbk hcap
              go_wp2_with fail
              refine (s_isUpper_b _ true _ HC).mono ?_
              rintro e w' ⟨rfl, rfl⟩
              go_wp2_with (at_builtin; go_loud (refine wpList_append_own _ rfl _ _ 23 rfl w.heap.size 3 i0 (.int .i64 0) 1 8 Try.underlying23 hi hz0 hz1 hz2 rfl (by decide) _ _ _ rfl (hown.alloc _) ⟨wr.heap.size, 0, none⟩ 1 1 [.int .i64 32] rfl rfl new_one one_cell (by unfold maxLen; first | omega | (simp; omega)) (by first | omega | (simp; omega)) (by first | (simp; omega) | simp) ?_))
              intro v' wA hown' hgrow _
              have hownA := OwnInts.snoc hown'
              have hbA := below_append hb hsw hown hgrow
              clear hown' hgrow hown hb
              have hswA := hbA.size
              have hblA : (acc ++ [32]).length ≤ 3 + 2 * k := by simp; omega
              obtain ⟨acc1, hacc1⟩ : ∃ acc1, acc ++ [32] = acc1 := ⟨_, rfl⟩
              rw [hacc1] at hownA hS hblA
              clear hacc1
              go_wp2_with fail
              refine (s_lowerCell _ z _ HLt HZ).mono ?_
              rintro e w1 ⟨rfl, hb1⟩
              have hown1 := hownA.below hb1
              have hB1 := hbA.trans (hb1.mono hswA)
              have hsz1 := hB1.size
              clear hownA hbA hb1
              go_wp2_with (at_builtin; go_loud (refine wpList_append_own _ rfl _ _ 23 rfl w.heap.size 3 i0 (.int .i64 0) 1 8 Try.underlying23 hi hz0 hz1 hz2 rfl (by decide) _ _ _ rfl (hown1.alloc _) ⟨w1.heap.size, 0, none⟩ 1 1 [.int .i64 z] rfl rfl new_one one_cell (by unfold maxLen; first | omega | (simp; omega)) (by first | omega | (simp; omega)) (by first | (simp; omega) | simp) ?_))
              intro v' w2 hown' hgrow _
              have R1 := OwnInts.snoc hown'
              have R2 := below_append hB1 hsz1 hown1 hgrow
              clear hown' hgrow hown1 hB1
              go_wp2
              go_roundw
              case rel => exact ⟨k + 1, by omega, by go_num, by rw [hS.out]; exact R1, R2⟩
              case measure => simp [intOf]; omega
          · obtain rfl : k = s.size := by omega
            obtain ⟨_, _, _, hvv⟩ := (show ∃ a n c, _ = Value.slice a n c from (by rcases hown.2 with ⟨h, _⟩ | ⟨g, cap, _, h, _⟩ <;> exact ⟨_, _, _, h⟩))
            go_wp2
            go_ret
            exact ⟨_, rfl, by rw [HR.out]; exact hown, hb, _, _, _, hvv⟩
      | true =>
        cases hsm : smallB (s[0]).toNat with
        | false =>
          have HS : Hid (decide (97 ≤ (s[0]).toNat ∧ (s[0]).toNat ≤ 122) = false) := hsm
          have HR : Hid (runC l true = [] ++ bodyC false (sub l 0 s.size)) := by show _ = _; rw [hRC, headC, hsm]; simp
          clear hRC hT hA hh0 hsm
          have ho0 := made_alloc w
          have hb0 : Below w.heap.size w (w.alloc (.cells #[] 3)) := (Below.refl _ _).alloc (Nat.le_refl _) _
          have hs0 : w.heap.size ≤ (w.alloc (.cells #[] 3)).heap.size := hb0.size
          go_enter Try.func67, Try.ntmps67
          go_wp2_with fail
          refine (s_isLower_b _ false _ HS).mono ?_
          rintro e w' ⟨rfl, rfl⟩
          go_wp2_with fail
          go_loopw [5, 7] (fun v i wr => ∃ k : Nat, k ≤ s.size ∧ i = .int .i64 k ∧ OwnInts wr w.heap.size v ([] ++ bodyC false (sub l 0 k)) ∧ Below w.heap.size w wr) (fun _ i _ => s.size - (intOf i).toNat)
          case atStart => exact ⟨0, by omega, rfl, by rw [sub_self]; exact (by simpa [bodyC] using ho0), hb0⟩
          case round =>
            obtain ⟨k, hkb, rfl, hown, hb⟩ := hrel
            have hsw := hb.size
            by_cases hlt : k < s.size
            · obtain ⟨h2, hbk⟩ := HT.out.2 k hlt
              have hlet : letB (s[k]).toNat = true := HA.out k hlt
              have HLt := Lib.hid hlet
              obtain ⟨z, hz⟩ : ∃ z, letC (s[k]) = z := ⟨_, rfl⟩
              have HZ := Lib.hid hz
              have hbl : ([] ++ bodyC false (sub l 0 k)).length ≤ 2 + 2 * k := by
                rw [List.length_append]
                have h1 := body_len false (sub l 0 k)
                rw [sub_length (by have := HT.out.1; omega)] at h1
                have h3 : ([] : List Int).length ≤ 2 := by decide
                omega
              cases hcap : capB (s[k]).toNat with
              | false =>
                have HC := Lib.hid hcap
                have hS : Hid ([] ++ bodyC false (sub l 0 (k + 1)) = ([] ++ bodyC false (sub l 0 k)) ++ [z]) := by
                  show _ = _
                  rw [sub_succ (Nat.zero_le _) h2, body_snoc, hbk, oneC, hcap, hz]; simp
                obtain ⟨acc, hacc⟩ : ∃ acc, [] ++ bodyC false (sub l 0 k) = acc := ⟨_, rfl⟩
                rw [hacc] at hown hS hbl
                clear hlet hz hacc hbk hcap
                go_wp2_with fail
                refine (s_isUpper_b _ false _ HC).mono ?_
                rintro e w' ⟨rfl, rfl⟩
                go_wp2_with fail
                refine (s_lowerCell _ z _ HLt HZ).mono ?_
                rintro e w1 ⟨rfl, hb1⟩
                have hown1 := hown.below hb1
                have hB1 := hb.trans (hb1.mono hsw)
                have hsz1 := hB1.size
                clear hown hb hb1
                go_wp2_with (at_builtin; go_loud (refine wpList_append_own _ rfl _ _ 23 rfl w.heap.size 3 i0 (.int .i64 0) 1 8 Try.underlying23 hi hz0 hz1 hz2 rfl (by decide) _ _ _ rfl (hown1.alloc _) ⟨w1.heap.size, 0, none⟩ 1 1 [.int .i64 z] rfl rfl new_one one_cell (by unfold maxLen; first | omega | (simp; omega)) (by first | omega | (simp; omega)) (by first | (simp; omega) | simp) ?_))
                intro v' w2 hown' hgrow _
                have R1 := OwnInts.snoc hown'
                have R2 := below_append hB1 hsz1 hown1 hgrow
                clear hown' hgrow hown1 hB1
                go_wp2
                go_roundw
                case rel => exact ⟨k + 1, by omega, by go_num, by rw [hS.out]; exact R1, R2⟩
                case measure => simp [intOf]; omega
              | true =>
                have HC := Lib.hid hcap
                have hS : Hid ([] ++ bodyC false (sub l 0 (k + 1)) = (([] ++ bodyC false (sub l 0 k)) ++ [32]) ++ [z]) := by
                  show _ = _
                  rw [sub_succ (Nat.zero_le _) h2, body_snoc, hbk, oneC, hcap, hz]; simp
                obtain ⟨acc, hacc⟩ : ∃ acc, [] ++ bodyC false (sub l 0 k) = acc := ⟨_, rfl⟩
                rw [hacc] at hown hS hbl
                clear hlet hz hacc hbk hcap
                go_wp2_with fail
                refine (s_isUpper_b _ true _ HC).mono ?_
                rintro e w' ⟨rfl, rfl⟩
                go_wp2_with (at_builtin; go_loud (refine wpList_append_own _ rfl _ _ 23 rfl w.heap.size 3 i0 (.int .i64 0) 1 8 Try.underlying23 hi hz0 hz1 hz2 rfl (by decide) _ _ _ rfl (hown.alloc _) ⟨wr.heap.size, 0, none⟩ 1 1 [.int .i64 32] rfl rfl new_one one_cell (by unfold maxLen; first | omega | (simp; omega)) (by first | omega | (simp; omega)) (by first | (simp; omega) | simp) ?_))
                intro v' wA hown' hgrow _
                have hownA := OwnInts.snoc hown'
                have hbA := below_append hb hsw hown hgrow
                clear hown' hgrow hown hb
                have hswA := hbA.size
                have hblA : (acc ++ [32]).length ≤ 3 + 2 * k := by simp; omega
                obtain ⟨acc1, hacc1⟩ : ∃ acc1, acc ++ [32] = acc1 := ⟨_, rfl⟩
                rw [hacc1] at hownA hS hblA
                clear hacc1
                go_wp2_with fail
                refine (s_lowerCell _ z _ HLt HZ).mono ?_
                rintro e w1 ⟨rfl, hb1⟩
                have hown1 := hownA.below hb1
                have hB1 := hbA.trans (hb1.mono hswA)
                have hsz1 := hB1.size
                clear hownA hbA hb1
                go_wp2_with (at_builtin; go_loud (refine wpList_append_own _ rfl _ _ 23 rfl w.heap.size 3 i0 (.int .i64 0) 1 8 Try.underlying23 hi hz0 hz1 hz2 rfl (by decide) _ _ _ rfl (hown1.alloc _) ⟨w1.heap.size, 0, none⟩ 1 1 [.int .i64 z] rfl rfl new_one one_cell (by unfold maxLen; first | omega | (simp; omega)) (by first | omega | (simp; omega)) (by first | (simp; omega) | simp) ?_))
                intro v' w2 hown' hgrow _
                have R1 := OwnInts.snoc hown'
                have R2 := below_append hB1 hsz1 hown1 hgrow
                clear hown' hgrow hown1 hB1
                go_wp2
                go_roundw
                case rel => exact ⟨k + 1, by omega, by go_num, by rw [hS.out]; exact R1, R2⟩
                case measure => simp [intOf]; omega
            · obtain rfl : k = s.size := by omega
              obtain ⟨_, _, _, hvv⟩ := (show ∃ a n c, _ = Value.slice a n c from (by rcases hown.2 with ⟨h, _⟩ | ⟨g, cap, _, h, _⟩ <;> exact ⟨_, _, _, h⟩))
              go_wp2
              go_ret
              exact ⟨_, rfl, by rw [HR.out]; exact hown, hb, _, _, _, hvv⟩
        | true =>
          have HS : Hid (decide (97 ≤ (s[0]).toNat ∧ (s[0]).toNat ≤ 122) = true) := hsm
          by_cases h106 : (s[0]).toNat ≤ 106
          · have d106 : decide (((s[0]).toNat : Int) ≤ 106) = true := decide_eq_true (by omega)
            have hn10 := small_num hsm
            have HR : Hid (runC l true = [48] ++ bodyC false (sub l 0 s.size)) := by show _ = _; rw [hRC, headC, hsm, hn10, decide_eq_true h106]; simp
            clear hRC hT hA hh0 hsm hn10
            have ho0 := made_alloc w
            have hb0 : Below w.heap.size w (w.alloc (.cells #[] 3)) := (Below.refl _ _).alloc (Nat.le_refl _) _
            have hs0 : w.heap.size ≤ (w.alloc (.cells #[] 3)).heap.size := hb0.size
            go_enter Try.func67, Try.ntmps67
            go_wp2_with fail
            refine (s_isLower_b _ true _ HS).mono ?_
            rintro e w' ⟨rfl, rfl⟩
            generalize w.alloc (.cells #[] 3) = wa at ho0 hb0 hs0 ⊢
            go_wp2_with (at_builtin; go_loud (refine wpList_append_own _ rfl _ _ 23 rfl w.heap.size 3 i0 (.int .i64 0) 1 8 Try.underlying23 hi hz0 hz1 hz2 rfl (by decide) _ 0 [] rfl (ho0.alloc _) ⟨wa.heap.size, 0, none⟩ 1 1 [.int .i64 48] rfl rfl new_one one_cell (by unfold maxLen; first | omega | (simp; omega)) (by first | omega | (simp; omega)) (by first | (simp; omega) | simp) ?_))
            intro v' w1 hown' hgrow _
            have ho1 := OwnInts.snoc (zs := []) hown'
            have hb1 := below_append hb0 hs0 ho0 hgrow
            clear hown' hgrow ho0 hb0
            have hs1 := hb1.size
            go_wp2_with fail
            go_loopw [5, 7] (fun v i wr => ∃ k : Nat, k ≤ s.size ∧ i = .int .i64 k ∧ OwnInts wr w.heap.size v ([48] ++ bodyC false (sub l 0 k)) ∧ Below w.heap.size w wr) (fun _ i _ => s.size - (intOf i).toNat)
            case atStart => exact ⟨0, by omega, rfl, by rw [sub_self]; exact (by simpa [bodyC] using ho1), hb1⟩
            case round =>
              obtain ⟨k, hkb, rfl, hown, hb⟩ := hrel
              have hsw := hb.size
              by_cases hlt : k < s.size
              · obtain ⟨h2, hbk⟩ := HT.out.2 k hlt
                have hlet : letB (s[k]).toNat = true := HA.out k hlt
                have HLt := Lib.hid hlet
                obtain ⟨z, hz⟩ : ∃ z, letC (s[k]) = z := ⟨_, rfl⟩
                have HZ := Lib.hid hz
                have hbl : ([48] ++ bodyC false (sub l 0 k)).length ≤ 2 + 2 * k := by
                  rw [List.length_append]
                  have h1 := body_len false (sub l 0 k)
                  rw [sub_length (by have := HT.out.1; omega)] at h1
                  have h3 : ([48] : List Int).length ≤ 2 := by decide
                  omega
                cases hcap : capB (s[k]).toNat with
                | false =>
                  have HC := Lib.hid hcap
                  have hS : Hid ([48] ++ bodyC false (sub l 0 (k + 1)) = ([48] ++ bodyC false (sub l 0 k)) ++ [z]) := by
                    show _ = _
                    rw [sub_succ (Nat.zero_le _) h2, body_snoc, hbk, oneC, hcap, hz]; simp
                  obtain ⟨acc, hacc⟩ : ∃ acc, [48] ++ bodyC false (sub l 0 k) = acc := ⟨_, rfl⟩
                  rw [hacc] at hown hS hbl
                  clear hlet hz hacc hbk hcap
                  go_wp2_with fail
                  refine (s_isUpper_b _ false _ HC).mono ?_
                  rintro e w' ⟨rfl, rfl⟩
                  go_wp2_with fail
                  refine (s_lowerCell _ z _ HLt HZ).mono ?_
                  rintro e w1 ⟨rfl, hb1⟩
                  have hown1 := hown.below hb1
                  have hB1 := hb.trans (hb1.mono hsw)
                  have hsz1 := hB1.size
                  clear hown hb hb1
                  go_wp2_with (at_builtin; go_loud (refine wpList_append_own _ rfl _ _ 23 rfl w.heap.size 3 i0 (.int .i64 0) 1 8 Try.underlying23 hi hz0 hz1 hz2 rfl (by decide) _ _ _ rfl (hown1.alloc _) ⟨w1.heap.size, 0, none⟩ 1 1 [.int .i64 z] rfl rfl new_one one_cell (by unfold maxLen; first | omega | (simp; omega)) (by first | omega | (simp; omega)) (by first | (simp; omega) | simp) ?_))
                  intro v' w2 hown' hgrow _
                  have R1 := OwnInts.snoc hown'
                  have R2 := below_append hB1 hsz1 hown1 hgrow
                  clear hown' hgrow hown1 hB1
                  go_wp2
                  go_roundw
                  case rel => exact ⟨k + 1, by omega, by go_num, by rw [hS.out]; exact R1, R2⟩
                  case measure => simp [intOf]; omega
                | true =>
                  have HC := Lib.hid hcap
                  have hS : Hid ([48] ++ bodyC false (sub l 0 (k + 1)) = (([48] ++ bodyC false (sub l 0 k)) ++ [32]) ++ [z]) := by
                    show _ = _
                    rw [sub_succ (Nat.zero_le _) h2, body_snoc, hbk, oneC, hcap, hz]; simp
                  obtain ⟨acc, hacc⟩ : ∃ acc, [48] ++ bodyC false (sub l 0 k) = acc := ⟨_, rfl⟩
                  rw [hacc] at hown hS hbl
                  clear hlet hz hacc hbk hcap
                  go_wp2_with fail
                  refine (s_isUpper_b _ true _ HC).mono ?_
                  rintro e w' ⟨rfl, rfl⟩
                  go_wp2_with (at_builtin; go_loud (refine wpList_append_own _ rfl _ _ 23 rfl w.heap.size 3 i0 (.int .i64 0) 1 8 Try.underlying23 hi hz0 hz1 hz2 rfl (by decide) _ _ _ rfl (hown.alloc _) ⟨wr.heap.size, 0, none⟩ 1 1 [.int .i64 32] rfl rfl new_one one_cell (by unfold maxLen; first | omega | (simp; omega)) (by first | omega | (simp; omega)) (by first | (simp; omega) | simp) ?_))
                  intro v' wA hown' hgrow _
                  have hownA := OwnInts.snoc hown'
                  have hbA := below_append hb hsw hown hgrow
                  clear hown' hgrow hown hb
                  have hswA := hbA.size
                  have hblA : (acc ++ [32]).length ≤ 3 + 2 * k := by simp; omega
                  obtain ⟨acc1, hacc1⟩ : ∃ acc1, acc ++ [32] = acc1 := ⟨_, rfl⟩
                  rw [hacc1] at hownA hS hblA
                  clear hacc1
                  go_wp2_with fail
                  refine (s_lowerCell _ z _ HLt HZ).mono ?_
                  rintro e w1 ⟨rfl, hb1⟩
                  have hown1 := hownA.below hb1
                  have hB1 := hbA.trans (hb1.mono hswA)
                  have hsz1 := hB1.size
                  clear hownA hbA hb1
                  go_wp2_with (at_builtin; go_loud (refine wpList_append_own _ rfl _ _ 23 rfl w.heap.size 3 i0 (.int .i64 0) 1 8 Try.underlying23 hi hz0 hz1 hz2 rfl (by decide) _ _ _ rfl (hown1.alloc _) ⟨w1.heap.size, 0, none⟩ 1 1 [.int .i64 z] rfl rfl new_one one_cell (by unfold maxLen; first | omega | (simp; omega)) (by first | omega | (simp; omega)) (by first | (simp; omega) | simp) ?_))
                  intro v' w2 hown' hgrow _
                  have R1 := OwnInts.snoc hown'
                  have R2 := below_append hB1 hsz1 hown1 hgrow
                  clear hown' hgrow hown1 hB1
                  go_wp2
                  go_roundw
                  case rel => exact ⟨k + 1, by omega, by go_num, by rw [hS.out]; exact R1, R2⟩
                  case measure => simp [intOf]; omega
              · obtain rfl : k = s.size := by omega
                obtain ⟨_, _, _, hvv⟩ := (show ∃ a n c, _ = Value.slice a n c from (by rcases hown.2 with ⟨h, _⟩ | ⟨g, cap, _, h, _⟩ <;> exact ⟨_, _, _, h⟩))
                go_wp2
                go_ret
                exact ⟨_, rfl, by rw [HR.out]; exact hown, hb, _, _, _, hvv⟩
          · have d106 : decide (((s[0]).toNat : Int) ≤ 106) = false := decide_eq_false (by omega)
            have hn10 := small_num hsm
            have HR : Hid (runC l true = [] ++ bodyC false (sub l 0 s.size)) := by show _ = _; rw [hRC, headC, hsm, hn10, decide_eq_false h106]; simp
            clear hRC hT hA hh0 hsm hn10
            have ho0 := made_alloc w
            have hb0 : Below w.heap.size w (w.alloc (.cells #[] 3)) := (Below.refl _ _).alloc (Nat.le_refl _) _
            have hs0 : w.heap.size ≤ (w.alloc (.cells #[] 3)).heap.size := hb0.size
            go_enter Try.func67, Try.ntmps67
            go_wp2_with fail
            refine (s_isLower_b _ true _ HS).mono ?_
            rintro e w' ⟨rfl, rfl⟩
            go_wp2_with fail
            go_loopw [5, 7] (fun v i wr => ∃ k : Nat, k ≤ s.size ∧ i = .int .i64 k ∧ OwnInts wr w.heap.size v ([] ++ bodyC false (sub l 0 k)) ∧ Below w.heap.size w wr) (fun _ i _ => s.size - (intOf i).toNat)
            case atStart => exact ⟨0, by omega, rfl, by rw [sub_self]; exact (by simpa [bodyC] using ho0), hb0⟩
            case round =>
              obtain ⟨k, hkb, rfl, hown, hb⟩ := hrel
              have hsw := hb.size
              by_cases hlt : k < s.size
              · obtain ⟨h2, hbk⟩ := HT.out.2 k hlt
                have hlet : letB (s[k]).toNat = true := HA.out k hlt
                have HLt := Lib.hid hlet
                obtain ⟨z, hz⟩ : ∃ z, letC (s[k]) = z := ⟨_, rfl⟩
                have HZ := Lib.hid hz
                have hbl : ([] ++ bodyC false (sub l 0 k)).length ≤ 2 + 2 * k := by
                  rw [List.length_append]
                  have h1 := body_len false (sub l 0 k)
                  rw [sub_length (by have := HT.out.1; omega)] at h1
                  have h3 : ([] : List Int).length ≤ 2 := by decide
                  omega
                cases hcap : capB (s[k]).toNat with
                | false =>
                  have HC := Lib.hid hcap
                  have hS : Hid ([] ++ bodyC false (sub l 0 (k + 1)) = ([] ++ bodyC false (sub l 0 k)) ++ [z]) := by
                    show _ = _
                    rw [sub_succ (Nat.zero_le _) h2, body_snoc, hbk, oneC, hcap, hz]; simp
                  obtain ⟨acc, hacc⟩ : ∃ acc, [] ++ bodyC false (sub l 0 k) = acc := ⟨_, rfl⟩
                  rw [hacc] at hown hS hbl
                  clear hlet hz hacc hbk hcap
                  go_wp2_with fail
                  refine (s_isUpper_b _ false _ HC).mono ?_
                  rintro e w' ⟨rfl, rfl⟩
                  go_wp2_with fail
                  refine (s_lowerCell _ z _ HLt HZ).mono ?_
                  rintro e w1 ⟨rfl, hb1⟩
                  have hown1 := hown.below hb1
                  have hB1 := hb.trans (hb1.mono hsw)
                  have hsz1 := hB1.size
                  clear hown hb hb1
                  go_wp2_with (at_builtin; go_loud (refine wpList_append_own _ rfl _ _ 23 rfl w.heap.size 3 i0 (.int .i64 0) 1 8 Try.underlying23 hi hz0 hz1 hz2 rfl (by decide) _ _ _ rfl (hown1.alloc _) ⟨w1.heap.size, 0, none⟩ 1 1 [.int .i64 z] rfl rfl new_one one_cell (by unfold maxLen; first | omega | (simp; omega)) (by first | omega | (simp; omega)) (by first | (simp; omega) | simp) ?_))
                  intro v' w2 hown' hgrow _
                  have R1 := OwnInts.snoc hown'
                  have R2 := below_append hB1 hsz1 hown1 hgrow
                  clear hown' hgrow hown1 hB1
                  go_wp2
                  go_roundw
                  case rel => exact ⟨k + 1, by omega, by go_num, by rw [hS.out]; exact R1, R2⟩
                  case measure => simp [intOf]; omega
                | true =>
                  have HC := Lib.hid hcap
                  have hS : Hid ([] ++ bodyC false (sub l 0 (k + 1)) = (([] ++ bodyC false (sub l 0 k)) ++ [32]) ++ [z]) := by
                    show _ = _
                    rw [sub_succ (Nat.zero_le _) h2, body_snoc, hbk, oneC, hcap, hz]; simp
                  obtain ⟨acc, hacc⟩ : ∃ acc, [] ++ bodyC false (sub l 0 k) = acc := ⟨_, rfl⟩
                  rw [hacc] at hown hS hbl
                  clear hlet hz hacc hbk hcap
                  go_wp2_with fail
                  refine (s_isUpper_b _ true _ HC).mono ?_
                  rintro e w' ⟨rfl, rfl⟩
                  go_wp2_with (at_builtin; go_loud (refine wpList_append_own _ rfl _ _ 23 rfl w.heap.size 3 i0 (.int .i64 0) 1 8 Try.underlying23 hi hz0 hz1 hz2 rfl (by decide) _ _ _ rfl (hown.alloc _) ⟨wr.heap.size, 0, none⟩ 1 1 [.int .i64 32] rfl rfl new_one one_cell (by unfold maxLen; first | omega | (simp; omega)) (by first | omega | (simp; omega)) (by first | (simp; omega) | simp) ?_))
                  intro v' wA hown' hgrow _
                  have hownA := OwnInts.snoc hown'
                  have hbA := below_append hb hsw hown hgrow
                  clear hown' hgrow hown hb
                  have hswA := hbA.size
                  have hblA : (acc ++ [32]).length ≤ 3 + 2 * k := by simp; omega
                  obtain ⟨acc1, hacc1⟩ : ∃ acc1, acc ++ [32] = acc1 := ⟨_, rfl⟩
                  rw [hacc1] at hownA hS hblA
                  clear hacc1
                  go_wp2_with fail
                  refine (s_lowerCell _ z _ HLt HZ).mono ?_
                  rintro e w1 ⟨rfl, hb1⟩
                  have hown1 := hownA.below hb1
                  have hB1 := hbA.trans (hb1.mono hswA)
                  have hsz1 := hB1.size
                  clear hownA hbA hb1
                  go_wp2_with (at_builtin; go_loud (refine wpList_append_own _ rfl _ _ 23 rfl w.heap.size 3 i0 (.int .i64 0) 1 8 Try.underlying23 hi hz0 hz1 hz2 rfl (by decide) _ _ _ rfl (hown1.alloc _) ⟨w1.heap.size, 0, none⟩ 1 1 [.int .i64 z] rfl rfl new_one one_cell (by unfold maxLen; first | omega | (simp; omega)) (by first | omega | (simp; omega)) (by first | (simp; omega) | simp) ?_))
                  intro v' w2 hown' hgrow _
                  have R1 := OwnInts.snoc hown'
                  have R2 := below_append hB1 hsz1 hown1 hgrow
                  clear hown' hgrow hown1 hB1
                  go_wp2
                  go_roundw
                  case rel => exact ⟨k + 1, by omega, by go_num, by rw [hS.out]; exact R1, R2⟩
                  case measure => simp [intOf]; omega
              · obtain rfl : k = s.size := by omega
                obtain ⟨_, _, _, hvv⟩ := (show ∃ a n c, _ = Value.slice a n c from (by rcases hown.2 with ⟨h, _⟩ | ⟨g, cap, _, h, _⟩ <;> exact ⟨_, _, _, h⟩))
                go_wp2
                go_ret
                exact ⟨_, rfl, by rw [HR.out]; exact hown, hb, _, _, _, hvv⟩
  | false =>
    have HU := Lib.hid hU
    have hW : wholeB l = false := by rw [wholeB, hU]; rfl
    have hRC : ∀ d, runC l d = headC false d (s[0]).toNat ++ bodyC false (sub l 0 s.size) := fun d => by rw [runC, hW, hh0, hfull]
    clear hba hfull hU hW
    by_cases h2 : 2 ≤ s.size
    · have d1 : decide ((1 : Int) < (s.size : Int)) = true := decide_eq_true (by omega)
      cases d with
      | false =>
        have HR : Hid (runC l false = [] ++ bodyC false (sub l 0 s.size)) := by show _ = _; rw [hRC, headC]; simp
        clear hRC hT hA hh0
        have ho0 := made_alloc w
        have hb0 : Below w.heap.size w (w.alloc (.cells #[] 3)) := (Below.refl _ _).alloc (Nat.le_refl _) _
        have hs0 : w.heap.size ≤ (w.alloc (.cells #[] 3)).heap.size := hb0.size
        go_enter Try.func67, Try.ntmps67
        go_wp2_with fail
        refine (s_allUpper s l false _ HT.out (by omega) HU).mono ?_
        rintro e w' ⟨rfl, rfl⟩
        go_wp2_with fail
        go_loopw [5, 7] (fun v i wr => ∃ k : Nat, k ≤ s.size ∧ i = .int .i64 k ∧ OwnInts wr w.heap.size v ([] ++ bodyC false (sub l 0 k)) ∧ Below w.heap.size w wr) (fun _ i _ => s.size - (intOf i).toNat)
        case atStart => exact ⟨0, by omega, rfl, by rw [sub_self]; exact (by simpa [bodyC] using ho0), hb0⟩
        case round =>
          obtain ⟨k, hkb, rfl, hown, hb⟩ := hrel
          have hsw := hb.size
          by_cases hlt : k < s.size
          · obtain ⟨h2, hbk⟩ := HT.out.2 k hlt
            have hlet : letB (s[k]).toNat = true := HA.out k hlt
            have HLt := Lib.hid hlet
            obtain ⟨z, hz⟩ : ∃ z, letC (s[k]) = z := ⟨_, rfl⟩
            have HZ := Lib.hid hz
            have hbl : ([] ++ bodyC false (sub l 0 k)).length ≤ 2 + 2 * k := by
              rw [List.length_append]
              have h1 := body_len false (sub l 0 k)
              rw [sub_length (by have := HT.out.1; omega)] at h1
              have h3 : ([] : List Int).length ≤ 2 := by decide
              omega
            cases hcap : capB (s[k]).toNat with
            | false =>
              have HC := Lib.hid hcap
              have hS : Hid ([] ++ bodyC false (sub l 0 (k + 1)) = ([] ++ bodyC false (sub l 0 k)) ++ [z]) := by
                show _ = _
                rw [sub_succ (Nat.zero_le _) h2, body_snoc, hbk, oneC, hcap, hz]; simp
              obtain ⟨acc, hacc⟩ : ∃ acc, [] ++ bodyC false (sub l 0 k) = acc := ⟨_, rfl⟩
              rw [hacc] at hown hS hbl
              clear hlet hz hacc hbk hcap
              go_wp2_with fail
              refine (s_isUpper_b _ false _ HC).mono ?_
              rintro e w' ⟨rfl, rfl⟩
              go_wp2_with fail
              refine (s_lowerCell _ z _ HLt HZ).mono ?_
              rintro e w1 ⟨rfl, hb1⟩
              have hown1 := hown.below hb1
              have hB1 := hb.trans (hb1.mono hsw)
              have hsz1 := hB1.size
              clear hown hb hb1
              go_wp2_with (at_builtin; go_loud (refine wpList_append_own _ rfl _ _ 23 rfl w.heap.size 3 i0 (.int .i64 0) 1 8 Try.underlying23 hi hz0 hz1 hz2 rfl (by decide) _ _ _ rfl (hown1.alloc _) ⟨w1.heap.size, 0, none⟩ 1 1 [.int .i64 z] rfl rfl new_one one_cell (by unfold maxLen; first | omega | (simp; omega)) (by first | omega | (simp; omega)) (by first | (simp; omega) | simp) ?_))
              intro v' w2 hown' hgrow _
              have R1 := OwnInts.snoc hown'
              have R2 := below_append hB1 hsz1 hown1 hgrow
              clear hown' hgrow hown1 hB1
              go_wp2
              go_roundw
              case rel => exact ⟨k + 1, by omega, by go_num, by rw [hS.out]; exact R1, R2⟩
              case measure => simp [intOf]; omega
            | true =>
              have HC := Lib.hid hcap
              have hS : Hid ([] ++ bodyC false (sub l 0 (k + 1)) = (([] ++ bodyC false (sub l 0 k)) ++ [32]) ++ [z]) := by
                show _ = _
                rw [sub_succ (Nat.zero_le _) h2, body_snoc, hbk, oneC, hcap, hz]; simp
              obtain ⟨acc, hacc⟩ : ∃ acc, [] ++ bodyC false (sub l 0 k) = acc := ⟨_, rfl⟩
              rw [hacc] at hown hS hbl
              clear hlet hz hacc hbk hcap
              go_wp2_with fail
              refine (s_isUpper_b _ true _ HC).mono ?_
              rintro e w' ⟨rfl, rfl⟩
              go_wp2_with (at_builtin; go_loud (refine wpList_append_own _ rfl _ _ 23 rfl w.heap.size 3 i0 (.int .i64 0) 1 8 Try.underlying23 hi hz0 hz1 hz2 rfl (by decide) _ _ _ rfl (hown.alloc _) ⟨wr.heap.size, 0, none⟩ 1 1 [.int .i64 32] rfl rfl new_one one_cell (by unfold maxLen; first | omega | (simp; omega)) (by first | omega | (simp; omega)) (by first | (simp; omega) | simp) ?_))
              intro v' wA hown' hgrow _
              have hownA := OwnInts.snoc hown'
              have hbA := below_append hb hsw hown hgrow
              clear hown' hgrow hown hb
              have hswA := hbA.size
              have hblA : (acc ++ [32]).length ≤ 3 + 2 * k := by simp; omega
              obtain ⟨acc1, hacc1⟩ : ∃ acc1, acc ++ [32] = acc1 := ⟨_, rfl⟩
              rw [hacc1] at hownA hS hblA
              clear hacc1
              go_wp2_with fail
              refine (s_lowerCell _ z _ HLt HZ).mono ?_
              rintro e w1 ⟨rfl, hb1⟩
              have hown1 := hownA.below hb1
              have hB1 := hbA.trans (hb1.mono hswA)
              have hsz1 := hB1.size
              clear hownA hbA hb1
              go_wp2_with (at_builtin; go_loud (refine wpList_append_own _ rfl _ _ 23 rfl w.heap.size 3 i0 (.int .i64 0) 1 8 Try.underlying23 hi hz0 hz1 hz2 rfl (by decide) _ _ _ rfl (hown1.alloc _) ⟨w1.heap.size, 0, none⟩ 1 1 [.int .i64 z] rfl rfl new_one one_cell (by unfold maxLen; first | omega | (simp; omega)) (by first | omega | (simp; omega)) (by first | (simp; omega) | simp) ?_))
              intro v' w2 hown' hgrow _
              have R1 := OwnInts.snoc hown'
              have R2 := below_append hB1 hsz1 hown1 hgrow
              clear hown' hgrow hown1 hB1
              go_wp2
              go_roundw
              case rel => exact ⟨k + 1, by omega, by go_num, by rw [hS.out]; exact R1, R2⟩
              case measure => simp [intOf]; omega
          · obtain rfl : k = s.size := by omega
            obtain ⟨_, _, _, hvv⟩ := (show ∃ a n c, _ = Value.slice a n c from (by rcases hown.2 with ⟨h, _⟩ | ⟨g, cap, _, h, _⟩ <;> exact ⟨_, _, _, h⟩))
            go_wp2
            go_ret
            exact ⟨_, rfl, by rw [HR.out]; exact hown, hb, _, _, _, hvv⟩
      | true =>
        cases hsm : smallB (s[0]).toNat with
        | false =>
          have HS : Hid (decide (97 ≤ (s[0]).toNat ∧ (s[0]).toNat ≤ 122) = false) := hsm
          have HR : Hid (runC l true = [] ++ bodyC false (sub l 0 s.size)) := by show _ = _; rw [hRC, headC, hsm]; simp
          clear hRC hT hA hh0 hsm
          have ho0 := made_alloc w
          have hb0 : Below w.heap.size w (w.alloc (.cells #[] 3)) := (Below.refl _ _).alloc (Nat.le_refl _) _
          have hs0 : w.heap.size ≤ (w.alloc (.cells #[] 3)).heap.size := hb0.size
          go_enter Try.func67, Try.ntmps67
          go_wp2_with fail
          refine (s_allUpper s l false _ HT.out (by omega) HU).mono ?_
          rintro e w' ⟨rfl, rfl⟩
          go_wp2_with fail
          refine (s_isLower_b _ false _ HS).mono ?_
          rintro e w' ⟨rfl, rfl⟩
          go_wp2_with fail
          go_loopw [5, 7] (fun v i wr => ∃ k : Nat, k ≤ s.size ∧ i = .int .i64 k ∧ OwnInts wr w.heap.size v ([] ++ bodyC false (sub l 0 k)) ∧ Below w.heap.size w wr) (fun _ i _ => s.size - (intOf i).toNat)
          case atStart => exact ⟨0, by omega, rfl, by rw [sub_self]; exact (by simpa [bodyC] using ho0), hb0⟩
          case round =>
            obtain ⟨k, hkb, rfl, hown, hb⟩ := hrel
            have hsw := hb.size
            by_cases hlt : k < s.size
            · obtain ⟨h2, hbk⟩ := HT.out.2 k hlt
              have hlet : letB (s[k]).toNat = true := HA.out k hlt
              have HLt := Lib.hid hlet
              obtain ⟨z, hz⟩ : ∃ z, letC (s[k]) = z := ⟨_, rfl⟩
              have HZ := Lib.hid hz
              have hbl : ([] ++ bodyC false (sub l 0 k)).length ≤ 2 + 2 * k := by
                rw [List.length_append]
                have h1 := body_len false (sub l 0 k)
                rw [sub_length (by have := HT.out.1; omega)] at h1
                have h3 : ([] : List Int).length ≤ 2 := by decide
                omega
              cases hcap : capB (s[k]).toNat with
              | false =>
                have HC := Lib.hid hcap
                have hS : Hid ([] ++ bodyC false (sub l 0 (k + 1)) = ([] ++ bodyC false (sub l 0 k)) ++ [z]) := by
                  show _ = _
                  rw [sub_succ (Nat.zero_le _) h2, body_snoc, hbk, oneC, hcap, hz]; simp
                obtain ⟨acc, hacc⟩ : ∃ acc, [] ++ bodyC false (sub l 0 k) = acc := ⟨_, rfl⟩
                rw [hacc] at hown hS hbl
                clear hlet hz hacc hbk hcap
                go_wp2_with fail
                refine (s_isUpper_b _ false _ HC).mono ?_
                rintro e w' ⟨rfl, rfl⟩
                go_wp2_with fail
                refine (s_lowerCell _ z _ HLt HZ).mono ?_
                rintro e w1 ⟨rfl, hb1⟩
                have hown1 := hown.below hb1
                have hB1 := hb.trans (hb1.mono hsw)
                have hsz1 := hB1.size
                clear hown hb hb1
                go_wp2_with (at_builtin; go_loud (refine wpList_append_own _ rfl _ _ 23 rfl w.heap.size 3 i0 (.int .i64 0) 1 8 Try.underlying23 hi hz0 hz1 hz2 rfl (by decide) _ _ _ rfl (hown1.alloc _) ⟨w1.heap.size, 0, none⟩ 1 1 [.int .i64 z] rfl rfl new_one one_cell (by unfold maxLen; first | omega | (simp; omega)) (by first | omega | (simp; omega)) (by first | (simp; omega) | simp) ?_))
                intro v' w2 hown' hgrow _
                have R1 := OwnInts.snoc hown'
                have R2 := below_append hB1 hsz1 hown1 hgrow
                clear hown' hgrow hown1 hB1
                go_wp2
                go_roundw
                case rel => exact ⟨k + 1, by omega, by go_num, by rw [hS.out]; exact R1, R2⟩
                case measure => simp [intOf]; omega
              | true =>
                have HC := Lib.hid hcap
                have hS : Hid ([] ++ bodyC false (sub l 0 (k + 1)) = (([] ++ bodyC false (sub l 0 k)) ++ [32]) ++ [z]) := by
                  show _ = _
                  rw [sub_succ (Nat.zero_le _) h2, body_snoc, hbk, oneC, hcap, hz]; simp
                obtain ⟨acc, hacc⟩ : ∃ acc, [] ++ bodyC false (sub l 0 k) = acc := ⟨_, rfl⟩
                rw [hacc] at hown hS hbl
                clear hlet hz hacc hbk hcap
                go_wp2_with fail
                refine (s_isUpper_b _ true _ HC).mono ?_
                rintro e w' ⟨rfl, rfl⟩
                go_wp2_with (at_builtin; go_loud (refine wpList_append_own _ rfl _ _ 23 rfl w.heap.size 3 i0 (.int .i64 0) 1 8 Try.underlying23 hi hz0 hz1 hz2 rfl (by decide) _ _ _ rfl (hown.alloc _) ⟨wr.heap.size, 0, none⟩ 1 1 [.int .i64 32] rfl rfl new_one one_cell (by unfold maxLen; first | omega | (simp; omega)) (by first | omega | (simp; omega)) (by first | (simp; omega) | simp) ?_))
                intro v' wA hown' hgrow _
                have hownA := OwnInts.snoc hown'
                have hbA := below_append hb hsw hown hgrow
                clear hown' hgrow hown hb
                have hswA := hbA.size
                have hblA : (acc ++ [32]).length ≤ 3 + 2 * k := by simp; omega
                obtain ⟨acc1, hacc1⟩ : ∃ acc1, acc ++ [32] = acc1 := ⟨_, rfl⟩
                rw [hacc1] at hownA hS hblA
                clear hacc1
                go_wp2_with fail
                refine (s_lowerCell _ z _ HLt HZ).mono ?_
                rintro e w1 ⟨rfl, hb1⟩
                have hown1 := hownA.below hb1
                have hB1 := hbA.trans (hb1.mono hswA)
                have hsz1 := hB1.size
                clear hownA hbA hb1
                go_wp2_with (at_builtin; go_loud (refine wpList_append_own _ rfl _ _ 23 rfl w.heap.size 3 i0 (.int .i64 0) 1 8 Try.underlying23 hi hz0 hz1 hz2 rfl (by decide) _ _ _ rfl (hown1.alloc _) ⟨w1.heap.size, 0, none⟩ 1 1 [.int .i64 z] rfl rfl new_one one_cell (by unfold maxLen; first | omega | (simp; omega)) (by first | omega | (simp; omega)) (by first | (simp; omega) | simp) ?_))
                intro v' w2 hown' hgrow _
                have R1 := OwnInts.snoc hown'
                have R2 := below_append hB1 hsz1 hown1 hgrow
                clear hown' hgrow hown1 hB1
                go_wp2
                go_roundw
                case rel => exact ⟨k + 1, by omega, by go_num, by rw [hS.out]; exact R1, R2⟩
                case measure => simp [intOf]; omega
            · obtain rfl : k = s.size := by omega
              obtain ⟨_, _, _, hvv⟩ := (show ∃ a n c, _ = Value.slice a n c from (by rcases hown.2 with ⟨h, _⟩ | ⟨g, cap, _, h, _⟩ <;> exact ⟨_, _, _, h⟩))
              go_wp2
              go_ret
              exact ⟨_, rfl, by rw [HR.out]; exact hown, hb, _, _, _, hvv⟩
        | true =>
          have HS : Hid (decide (97 ≤ (s[0]).toNat ∧ (s[0]).toNat ≤ 122) = true) := hsm
          by_cases h106 : (s[0]).toNat ≤ 106
          · have d106 : decide (((s[0]).toNat : Int) ≤ 106) = true := decide_eq_true (by omega)
            have hn10 := small_num hsm
            have HR : Hid (runC l true = [48] ++ bodyC false (sub l 0 s.size)) := by show _ = _; rw [hRC, headC, hsm, hn10, decide_eq_true h106]; simp
            clear hRC hT hA hh0 hsm hn10
            have ho0 := made_alloc w
            have hb0 : Below w.heap.size w (w.alloc (.cells #[] 3)) := (Below.refl _ _).alloc (Nat.le_refl _) _
            have hs0 : w.heap.size ≤ (w.alloc (.cells #[] 3)).heap.size := hb0.size
            go_enter Try.func67, Try.ntmps67
            go_wp2_with fail
            refine (s_allUpper s l false _ HT.out (by omega) HU).mono ?_
            rintro e w' ⟨rfl, rfl⟩
            go_wp2_with fail
            refine (s_isLower_b _ true _ HS).mono ?_
            rintro e w' ⟨rfl, rfl⟩
            generalize w.alloc (.cells #[] 3) = wa at ho0 hb0 hs0 ⊢
            go_wp2_with (at_builtin; go_loud (refine wpList_append_own _ rfl _ _ 23 rfl w.heap.size 3 i0 (.int .i64 0) 1 8 Try.underlying23 hi hz0 hz1 hz2 rfl (by decide) _ 0 [] rfl (ho0.alloc _) ⟨wa.heap.size, 0, none⟩ 1 1 [.int .i64 48] rfl rfl new_one one_cell (by unfold maxLen; first | omega | (simp; omega)) (by first | omega | (simp; omega)) (by first | (simp; omega) | simp) ?_))
            intro v' w1 hown' hgrow _
            have ho1 := OwnInts.snoc (zs := []) hown'
            have hb1 := below_append hb0 hs0 ho0 hgrow
            clear hown' hgrow ho0 hb0
            have hs1 := hb1.size
            go_wp2_with fail
            go_loopw [5, 7] (fun v i wr => ∃ k : Nat, k ≤ s.size ∧ i = .int .i64 k ∧ OwnInts wr w.heap.size v ([48] ++ bodyC false (sub l 0 k)) ∧ Below w.heap.size w wr) (fun _ i _ => s.size - (intOf i).toNat)
            case atStart => exact ⟨0, by omega, rfl, by rw [sub_self]; exact (by simpa [bodyC] using ho1), hb1⟩
            case round =>
              obtain ⟨k, hkb, rfl, hown, hb⟩ := hrel
              have hsw := hb.size
              by_cases hlt : k < s.size
              · obtain ⟨h2, hbk⟩ := HT.out.2 k hlt
                have hlet : letB (s[k]).toNat = true := HA.out k hlt
                have HLt := Lib.hid hlet
                obtain ⟨z, hz⟩ : ∃ z, letC (s[k]) = z := ⟨_, rfl⟩
                have HZ := Lib.hid hz
                have hbl : ([48] ++ bodyC false (sub l 0 k)).length ≤ 2 + 2 * k := by
                  rw [List.length_append]
                  have h1 := body_len false (sub l 0 k)
                  rw [sub_length (by have := HT.out.1; omega)] at h1
                  have h3 : ([48] : List Int).length ≤ 2 := by decide
                  omega
                cases hcap : capB (s[k]).toNat with
                | false =>
                  have HC := Lib.hid hcap
                  have hS : Hid ([48] ++ bodyC false (sub l 0 (k + 1)) = ([48] ++ bodyC false (sub l 0 k)) ++ [z]) := by
                    show _ = _
                    rw [sub_succ (Nat.zero_le _) h2, body_snoc, hbk, oneC, hcap, hz]; simp
                  obtain ⟨acc, hacc⟩ : ∃ acc, [48] ++ bodyC false (sub l 0 k) = acc := ⟨_, rfl⟩
                  rw [hacc] at hown hS hbl
                  clear hlet hz hacc hbk hcap
                  go_wp2_with fail
                  refine (s_isUpper_b _ false _ HC).mono ?_
                  rintro e w' ⟨rfl, rfl⟩
                  go_wp2_with fail
                  refine (s_lowerCell _ z _ HLt HZ).mono ?_
                  rintro e w1 ⟨rfl, hb1⟩
                  have hown1 := hown.below hb1
                  have hB1 := hb.trans (hb1.mono hsw)
                  have hsz1 := hB1.size
                  clear hown hb hb1
                  go_wp2_with (at_builtin; go_loud (refine wpList_append_own _ rfl _ _ 23 rfl w.heap.size 3 i0 (.int .i64 0) 1 8 Try.underlying23 hi hz0 hz1 hz2 rfl (by decide) _ _ _ rfl (hown1.alloc _) ⟨w1.heap.size, 0, none⟩ 1 1 [.int .i64 z] rfl rfl new_one one_cell (by unfold maxLen; first | omega | (simp; omega)) (by first | omega | (simp; omega)) (by first | (simp; omega) | simp) ?_))
                  intro v' w2 hown' hgrow _
                  have R1 := OwnInts.snoc hown'
                  have R2 := below_append hB1 hsz1 hown1 hgrow
                  clear hown' hgrow hown1 hB1
                  go_wp2
                  go_roundw
                  case rel => exact ⟨k + 1, by omega, by go_num, by rw [hS.out]; exact R1, R2⟩
                  case measure => simp [intOf]; omega
                | true =>
                  have HC := Lib.hid hcap
                  have hS : Hid ([48] ++ bodyC false (sub l 0 (k + 1)) = (([48] ++ bodyC false (sub l 0 k)) ++ [32]) ++ [z]) := by
                    show _ = _
                    rw [sub_succ (Nat.zero_le _) h2, body_snoc, hbk, oneC, hcap, hz]; simp
                  obtain ⟨acc, hacc⟩ : ∃ acc, [48] ++ bodyC false (sub l 0 k) = acc := ⟨_, rfl⟩
                  rw [hacc] at hown hS hbl
                  clear hlet hz hacc hbk hcap
                  go_wp2_with fail
                  refine (s_isUpper_b _ true _ HC).mono ?_
                  rintro e w' ⟨rfl, rfl⟩
                  go_wp2_with (at_builtin; go_loud (refine wpList_append_own _ rfl _ _ 23 rfl w.heap.size 3 i0 (.int .i64 0) 1 8 Try.underlying23 hi hz0 hz1 hz2 rfl (by decide) _ _ _ rfl (hown.alloc _) ⟨wr.heap.size, 0, none⟩ 1 1 [.int .i64 32] rfl rfl new_one one_cell (by unfold maxLen; first | omega | (simp; omega)) (by first | omega | (simp; omega)) (by first | (simp; omega) | simp) ?_))
                  intro v' wA hown' hgrow _
                  have hownA := OwnInts.snoc hown'
                  have hbA := below_append hb hsw hown hgrow
                  clear hown' hgrow hown hb
                  have hswA := hbA.size
                  have hblA : (acc ++ [32]).length ≤ 3 + 2 * k := by simp; omega
                  obtain ⟨acc1, hacc1⟩ : ∃ acc1, acc ++ [32] = acc1 := ⟨_, rfl⟩
                  rw [hacc1] at hownA hS hblA
                  clear hacc1
                  go_wp2_with fail
                  refine (s_lowerCell _ z _ HLt HZ).mono ?_
                  rintro e w1 ⟨rfl, hb1⟩
                  have hown1 := hownA.below hb1
                  have hB1 := hbA.trans (hb1.mono hswA)
                  have hsz1 := hB1.size
                  clear hownA hbA hb1
                  go_wp2_with (at_builtin; go_loud (refine wpList_append_own _ rfl _ _ 23 rfl w.heap.size 3 i0 (.int .i64 0) 1 8 Try.underlying23 hi hz0 hz1 hz2 rfl (by decide) _ _ _ rfl (hown1.alloc _) ⟨w1.heap.size, 0, none⟩ 1 1 [.int .i64 z] rfl rfl new_one one_cell (by unfold maxLen; first | omega | (simp; omega)) (by first | omega | (simp; omega)) (by first | (simp; omega) | simp) ?_))
                  intro v' w2 hown' hgrow _
                  have R1 := OwnInts.snoc hown'
                  have R2 := below_append hB1 hsz1 hown1 hgrow
                  clear hown' hgrow hown1 hB1
                  go_wp2
                  go_roundw
                  case rel => exact ⟨k + 1, by omega, by go_num, by rw [hS.out]; exact R1, R2⟩
                  case measure => simp [intOf]; omega
              · obtain rfl : k = s.size := by omega
                obtain ⟨_, _, _, hvv⟩ := (show ∃ a n c, _ = Value.slice a n c from (by rcases hown.2 with ⟨h, _⟩ | ⟨g, cap, _, h, _⟩ <;> exact ⟨_, _, _, h⟩))
                go_wp2
                go_ret
                exact ⟨_, rfl, by rw [HR.out]; exact hown, hb, _, _, _, hvv⟩
          · have d106 : decide (((s[0]).toNat : Int) ≤ 106) = false := decide_eq_false (by omega)
            have hn10 := small_num hsm
            have HR : Hid (runC l true = [] ++ bodyC false (sub l 0 s.size)) := by show _ = _; rw [hRC, headC, hsm, hn10, decide_eq_false h106]; simp
            clear hRC hT hA hh0 hsm hn10
            have ho0 := made_alloc w
            have hb0 : Below w.heap.size w (w.alloc (.cells #[] 3)) := (Below.refl _ _).alloc (Nat.le_refl _) _
            have hs0 : w.heap.size ≤ (w.alloc (.cells #[] 3)).heap.size := hb0.size
            go_enter Try.func67, Try.ntmps67
            go_wp2_with fail
            refine (s_allUpper s l false _ HT.out (by omega) HU).mono ?_
            rintro e w' ⟨rfl, rfl⟩
            go_wp2_with fail
            refine (s_isLower_b _ true _ HS).mono ?_
            rintro e w' ⟨rfl, rfl⟩
            go_wp2_with fail
            go_loopw [5, 7] (fun v i wr => ∃ k : Nat, k ≤ s.size ∧ i = .int .i64 k ∧ OwnInts wr w.heap.size v ([] ++ bodyC false (sub l 0 k)) ∧ Below w.heap.size w wr) (fun _ i _ => s.size - (intOf i).toNat)
            case atStart => exact ⟨0, by omega, rfl, by rw [sub_self]; exact (by simpa [bodyC] using ho0), hb0⟩
            case round =>
              obtain ⟨k, hkb, rfl, hown, hb⟩ := hrel
              have hsw := hb.size
              by_cases hlt : k < s.size
              · obtain ⟨h2, hbk⟩ := HT.out.2 k hlt
                have hlet : letB (s[k]).toNat = true := HA.out k hlt
                have HLt := Lib.hid hlet
                obtain ⟨z, hz⟩ : ∃ z, letC (s[k]) = z := ⟨_, rfl⟩
                have HZ := Lib.hid hz
                have hbl : ([] ++ bodyC false (sub l 0 k)).length ≤ 2 + 2 * k := by
                  rw [List.length_append]
                  have h1 := body_len false (sub l 0 k)
                  rw [sub_length (by have := HT.out.1; omega)] at h1
                  have h3 : ([] : List Int).length ≤ 2 := by decide
                  omega
                cases hcap : capB (s[k]).toNat with
                | false =>
                  have HC := Lib.hid hcap
                  have hS : Hid ([] ++ bodyC false (sub l 0 (k + 1)) = ([] ++ bodyC false (sub l 0 k)) ++ [z]) := by
                    show _ = _
                    rw [sub_succ (Nat.zero_le _) h2, body_snoc, hbk, oneC, hcap, hz]; simp
                  obtain ⟨acc, hacc⟩ : ∃ acc, [] ++ bodyC false (sub l 0 k) = acc := ⟨_, rfl⟩
                  rw [hacc] at hown hS hbl
                  clear hlet hz hacc hbk hcap
                  go_wp2_with fail
                  refine (s_isUpper_b _ false _ HC).mono ?_
                  rintro e w' ⟨rfl, rfl⟩
                  go_wp2_with fail
                  refine (s_lowerCell _ z _ HLt HZ).mono ?_
                  rintro e w1 ⟨rfl, hb1⟩
                  have hown1 := hown.below hb1
                  have hB1 := hb.trans (hb1.mono hsw)
                  have hsz1 := hB1.size
                  clear hown hb hb1
                  go_wp2_with (at_builtin; go_loud (refine wpList_append_own _ rfl _ _ 23 rfl w.heap.size 3 i0 (.int .i64 0) 1 8 Try.underlying23 hi hz0 hz1 hz2 rfl (by decide) _ _ _ rfl (hown1.alloc _) ⟨w1.heap.size, 0, none⟩ 1 1 [.int .i64 z] rfl rfl new_one one_cell (by unfold maxLen; first | omega | (simp; omega)) (by first | omega | (simp; omega)) (by first | (simp; omega) | simp) ?_))
                  intro v' w2 hown' hgrow _
                  have R1 := OwnInts.snoc hown'
                  have R2 := below_append hB1 hsz1 hown1 hgrow
                  clear hown' hgrow hown1 hB1
                  go_wp2
                  go_roundw
                  case rel => exact ⟨k + 1, by omega, by go_num, by rw [hS.out]; exact R1, R2⟩
                  case measure => simp [intOf]; omega
                | true =>
                  have HC := Lib.hid hcap
                  have hS : Hid ([] ++ bodyC false (sub l 0 (k + 1)) = (([] ++ bodyC false (sub l 0 k)) ++ [32]) ++ [z]) := by
                    show _ = _
                    rw [sub_succ (Nat.zero_le _) h2, body_snoc, hbk, oneC, hcap, hz]; simp
                  obtain ⟨acc, hacc⟩ : ∃ acc, [] ++ bodyC false (sub l 0 k) = acc := ⟨_, rfl⟩
                  rw [hacc] at hown hS hbl
                  clear hlet hz hacc hbk hcap
                  go_wp2_with fail
                  refine (s_isUpper_b _ true _ HC).mono ?_
                  rintro e w' ⟨rfl, rfl⟩
                  go_wp2_with (at_builtin; go_loud (refine wpList_append_own _ rfl _ _ 23 rfl w.heap.size 3 i0 (.int .i64 0) 1 8 Try.underlying23 hi hz0 hz1 hz2 rfl (by decide) _ _ _ rfl (hown.alloc _) ⟨wr.heap.size, 0, none⟩ 1 1 [.int .i64 32] rfl rfl new_one one_cell (by unfold maxLen; first | omega | (simp; omega)) (by first | omega | (simp; omega)) (by first | (simp; omega) | simp) ?_))
                  intro v' wA hown' hgrow _
                  have hownA := OwnInts.snoc hown'
                  have hbA := below_append hb hsw hown hgrow
                  clear hown' hgrow hown hb
                  have hswA := hbA.size
                  have hblA : (acc ++ [32]).length ≤ 3 + 2 * k := by simp; omega
                  obtain ⟨acc1, hacc1⟩ : ∃ acc1, acc ++ [32] = acc1 := ⟨_, rfl⟩
                  rw [hacc1] at hownA hS hblA
                  clear hacc1
                  go_wp2_with fail
                  refine (s_lowerCell _ z _ HLt HZ).mono ?_
                  rintro e w1 ⟨rfl, hb1⟩
                  have hown1 := hownA.below hb1
                  have hB1 := hbA.trans (hb1.mono hswA)
                  have hsz1 := hB1.size
                  clear hownA hbA hb1
                  go_wp2_with (at_builtin; go_loud (refine wpList_append_own _ rfl _ _ 23 rfl w.heap.size 3 i0 (.int .i64 0) 1 8 Try.underlying23 hi hz0 hz1 hz2 rfl (by decide) _ _ _ rfl (hown1.alloc _) ⟨w1.heap.size, 0, none⟩ 1 1 [.int .i64 z] rfl rfl new_one one_cell (by unfold maxLen; first | omega | (simp; omega)) (by first | omega | (simp; omega)) (by first | (simp; omega) | simp) ?_))
                  intro v' w2 hown' hgrow _
                  have R1 := OwnInts.snoc hown'
                  have R2 := below_append hB1 hsz1 hown1 hgrow
                  clear hown' hgrow hown1 hB1
                  go_wp2
                  go_roundw
                  case rel => exact ⟨k + 1, by omega, by go_num, by rw [hS.out]; exact R1, R2⟩
                  case measure => simp [intOf]; omega
              · obtain rfl : k = s.size := by omega
                obtain ⟨_, _, _, hvv⟩ := (show ∃ a n c, _ = Value.slice a n c from (by rcases hown.2 with ⟨h, _⟩ | ⟨g, cap, _, h, _⟩ <;> exact ⟨_, _, _, h⟩))
                go_wp2
                go_ret
                exact ⟨_, rfl, by rw [HR.out]; exact hown, hb, _, _, _, hvv⟩
    · have d1 : decide ((1 : Int) < (s.size : Int)) = false := decide_eq_false (by omega)
      cases d with
      | false =>
        have HR : Hid (runC l false = [] ++ bodyC false (sub l 0 s.size)) := by show _ = _; rw [hRC, headC]; simp
        clear hRC hT hA hh0
        have ho0 := made_alloc w
        have hb0 : Below w.heap.size w (w.alloc (.cells #[] 3)) := (Below.refl _ _).alloc (Nat.le_refl _) _
        have hs0 : w.heap.size ≤ (w.alloc (.cells #[] 3)).heap.size := hb0.size
        go_enter Try.func67, Try.ntmps67
        go_wp2_with fail
        go_loopw [5, 7] (fun v i wr => ∃ k : Nat, k ≤ s.size ∧ i = .int .i64 k ∧ OwnInts wr w.heap.size v ([] ++ bodyC false (sub l 0 k)) ∧ Below w.heap.size w wr) (fun _ i _ => s.size - (intOf i).toNat)
        case atStart => exact ⟨0, by omega, rfl, by rw [sub_self]; exact (by simpa [bodyC] using ho0), hb0⟩
        case round =>
          obtain ⟨k, hkb, rfl, hown, hb⟩ := hrel
          have hsw := hb.size
          by_cases hlt : k < s.size
          · obtain ⟨h2, hbk⟩ := HT.out.2 k hlt
            have hlet : letB (s[k]).toNat = true := HA.out k hlt
            have HLt := Lib.hid hlet
            obtain ⟨z, hz⟩ : ∃ z, letC (s[k]) = z := ⟨_, rfl⟩
            have HZ := Lib.hid hz
            have hbl : ([] ++ bodyC false (sub l 0 k)).length ≤ 2 + 2 * k := by
              rw [List.length_append]
              have h1 := body_len false (sub l 0 k)
              rw [sub_length (by have := HT.out.1; omega)] at h1
              have h3 : ([] : List Int).length ≤ 2 := by decide
              omega
            cases hcap : capB (s[k]).toNat with
            | false =>
              have HC := Lib.hid hcap
              have hS : Hid ([] ++ bodyC false (sub l 0 (k + 1)) = ([] ++ bodyC false (sub l 0 k)) ++ [z]) := by
                show _ = _
                rw [sub_succ (Nat.zero_le _) h2, body_snoc, hbk, oneC, hcap, hz]; simp
              obtain ⟨acc, hacc⟩ : ∃ acc, [] ++ bodyC false (sub l 0 k) = acc := ⟨_, rfl⟩
              rw [hacc] at hown hS hbl
              clear hlet hz hacc hbk hcap
              go_wp2_with fail
              refine (s_isUpper_b _ false _ HC).mono ?_
              rintro e w' ⟨rfl, rfl⟩
              go_wp2_with fail
              refine (s_lowerCell _ z _ HLt HZ).mono ?_
              rintro e w1 ⟨rfl, hb1⟩
              have hown1 := hown.below hb1
              have hB1 := hb.trans (hb1.mono hsw)
              have hsz1 := hB1.size
              clear hown hb hb1
              go_wp2_with (at_builtin; go_loud (refine wpList_append_own _ rfl _ _ 23 rfl w.heap.size 3 i0 (.int .i64 0) 1 8 Try.underlying23 hi hz0 hz1 hz2 rfl (by decide) _ _ _ rfl (hown1.alloc _) ⟨w1.heap.size, 0, none⟩ 1 1 [.int .i64 z] rfl rfl new_one one_cell (by unfold maxLen; first | omega | (simp; omega)) (by first | omega | (simp; omega)) (by first | (simp; omega) | simp) ?_))
              intro v' w2 hown' hgrow _
              have R1 := OwnInts.snoc hown'
              have R2 := below_append hB1 hsz1 hown1 hgrow
              clear hown' hgrow hown1 hB1
              go_wp2
              go_roundw
              case rel => exact ⟨k + 1, by omega, by go_num, by rw [hS.out]; exact R1, R2⟩
              case measure => simp [intOf]; omega
            | true =>
              have HC := Lib.hid hcap
              have hS : Hid ([] ++ bodyC false (sub l 0 (k + 1)) = (([] ++ bodyC false (sub l 0 k)) ++ [32]) ++ [z]) := by
                show _ = _
                rw [sub_succ (Nat.zero_le _) h2, body_snoc, hbk, oneC, hcap, hz]; simp
              obtain ⟨acc, hacc⟩ : ∃ acc, [] ++ bodyC false (sub l 0 k) = acc := ⟨_, rfl⟩
              rw [hacc] at hown hS hbl
              clear hlet hz hacc hbk hcap
              go_wp2_with fail
              refine (s_isUpper_b _ true _ HC).mono ?_
              rintro e w' ⟨rfl, rfl⟩
              go_wp2_with (at_builtin; go_loud (refine wpList_append_own _ rfl _ _ 23 rfl w.heap.size 3 i0 (.int .i64 0) 1 8 Try.underlying23 hi hz0 hz1 hz2 rfl (by decide) _ _ _ rfl (hown.alloc _) ⟨wr.heap.size, 0, none⟩ 1 1 [.int .i64 32] rfl rfl new_one one_cell (by unfold maxLen; first | omega | (simp; omega)) (by first | omega | (simp; omega)) (by first | (simp; omega) | simp) ?_))
              intro v' wA hown' hgrow _
              have hownA := OwnInts.snoc hown'
              have hbA := below_append hb hsw hown hgrow
              clear hown' hgrow hown hb
              have hswA := hbA.size
              have hblA : (acc ++ [32]).length ≤ 3 + 2 * k := by simp; omega
              obtain ⟨acc1, hacc1⟩ : ∃ acc1, acc ++ [32] = acc1 := ⟨_, rfl⟩
              rw [hacc1] at hownA hS hblA
              clear hacc1
              go_wp2_with fail
              refine (s_lowerCell _ z _ HLt HZ).mono ?_
              rintro e w1 ⟨rfl, hb1⟩
              have hown1 := hownA.below hb1
              have hB1 := hbA.trans (hb1.mono hswA)
              have hsz1 := hB1.size
              clear hownA hbA hb1
              go_wp2_with (at_builtin; go_loud (refine wpList_append_own _ rfl _ _ 23 rfl w.heap.size 3 i0 (.int .i64 0) 1 8 Try.underlying23 hi hz0 hz1 hz2 rfl (by decide) _ _ _ rfl (hown1.alloc _) ⟨w1.heap.size, 0, none⟩ 1 1 [.int .i64 z] rfl rfl new_one one_cell (by unfold maxLen; first | omega | (simp; omega)) (by first | omega | (simp; omega)) (by first | (simp; omega) | simp) ?_))
              intro v' w2 hown' hgrow _
              have R1 := OwnInts.snoc hown'
              have R2 := below_append hB1 hsz1 hown1 hgrow
              clear hown' hgrow hown1 hB1
              go_wp2
              go_roundw
              case rel => exact ⟨k + 1, by omega, by go_num, by rw [hS.out]; exact R1, R2⟩
              case measure => simp [intOf]; omega
          · obtain rfl : k = s.size := by omega
            obtain ⟨_, _, _, hvv⟩ := (show ∃ a n c, _ = Value.slice a n c from (by rcases hown.2 with ⟨h, _⟩ | ⟨g, cap, _, h, _⟩ <;> exact ⟨_, _, _, h⟩))
            go_wp2
            go_ret
            exact ⟨_, rfl, by rw [HR.out]; exact hown, hb, _, _, _, hvv⟩
      | true =>
        cases hsm : smallB (s[0]).toNat with
        | false =>
          have HS : Hid (decide (97 ≤ (s[0]).toNat ∧ (s[0]).toNat ≤ 122) = false) := hsm
          have HR : Hid (runC l true = [] ++ bodyC false (sub l 0 s.size)) := by show _ = _; rw [hRC, headC, hsm]; simp
          clear hRC hT hA hh0 hsm
          have ho0 := made_alloc w
          have hb0 : Below w.heap.size w (w.alloc (.cells #[] 3)) := (Below.refl _ _).alloc (Nat.le_refl _) _
          have hs0 : w.heap.size ≤ (w.alloc (.cells #[] 3)).heap.size := hb0.size
          go_enter Try.func67, Try.ntmps67
          go_wp2_with fail
          refine (s_isLower_b _ false _ HS).mono ?_
          rintro e w' ⟨rfl, rfl⟩
          go_wp2_with fail
          go_loopw [5, 7] (fun v i wr => ∃ k : Nat, k ≤ s.size ∧ i = .int .i64 k ∧ OwnInts wr w.heap.size v ([] ++ bodyC false (sub l 0 k)) ∧ Below w.heap.size w wr) (fun _ i _ => s.size - (intOf i).toNat)
          case atStart => exact ⟨0, by omega, rfl, by rw [sub_self]; exact (by simpa [bodyC] using ho0), hb0⟩
          case round =>
            obtain ⟨k, hkb, rfl, hown, hb⟩ := hrel
            have hsw := hb.size
            by_cases hlt : k < s.size
            · obtain ⟨h2, hbk⟩ := HT.out.2 k hlt
              have hlet : letB (s[k]).toNat = true := HA.out k hlt
              have HLt := Lib.hid hlet
              obtain ⟨z, hz⟩ : ∃ z, letC (s[k]) = z := ⟨_, rfl⟩
              have HZ := Lib.hid hz
              have hbl : ([] ++ bodyC false (sub l 0 k)).length ≤ 2 + 2 * k := by
                rw [List.length_append]
                have h1 := body_len false (sub l 0 k)
                rw [sub_length (by have := HT.out.1; omega)] at h1
                have h3 : ([] : List Int).length ≤ 2 := by decide
                omega
              cases hcap : capB (s[k]).toNat with
              | false =>
                have HC := Lib.hid hcap
                have hS : Hid ([] ++ bodyC false (sub l 0 (k + 1)) = ([] ++ bodyC false (sub l 0 k)) ++ [z]) := by
                  show _ = _
                  rw [sub_succ (Nat.zero_le _) h2, body_snoc, hbk, oneC, hcap, hz]; simp
                obtain ⟨acc, hacc⟩ : ∃ acc, [] ++ bodyC false (sub l 0 k) = acc := ⟨_, rfl⟩
                rw [hacc] at hown hS hbl
                clear hlet hz hacc hbk hcap
                go_wp2_with fail
                refine (s_isUpper_b _ false _ HC).mono ?_
                rintro e w' ⟨rfl, rfl⟩
                go_wp2_with fail
                refine (s_lowerCell _ z _ HLt HZ).mono ?_
                rintro e w1 ⟨rfl, hb1⟩
                have hown1 := hown.below hb1
                have hB1 := hb.trans (hb1.mono hsw)
                have hsz1 := hB1.size
                clear hown hb hb1
                go_wp2_with (at_builtin; go_loud (refine wpList_append_own _ rfl _ _ 23 rfl w.heap.size 3 i0 (.int .i64 0) 1 8 Try.underlying23 hi hz0 hz1 hz2 rfl (by decide) _ _ _ rfl (hown1.alloc _) ⟨w1.heap.size, 0, none⟩ 1 1 [.int .i64 z] rfl rfl new_one one_cell (by unfold maxLen; first | omega | (simp; omega)) (by first | omega | (simp; omega)) (by first | (simp; omega) | simp) ?_))
                intro v' w2 hown' hgrow _
                have R1 := OwnInts.snoc hown'
                have R2 := below_append hB1 hsz1 hown1 hgrow
                clear hown' hgrow hown1 hB1
                go_wp2
                go_roundw
                case rel => exact ⟨k + 1, by omega, by go_num, by rw [hS.out]; exact R1, R2⟩
                case measure => simp [intOf]; omega
              | true =>
                have HC := Lib.hid hcap
                have hS : Hid ([] ++ bodyC false (sub l 0 (k + 1)) = (([] ++ bodyC false (sub l 0 k)) ++ [32]) ++ [z]) := by
                  show _ = _
                  rw [sub_succ (Nat.zero_le _) h2, body_snoc, hbk, oneC, hcap, hz]; simp
                obtain ⟨acc, hacc⟩ : ∃ acc, [] ++ bodyC false (sub l 0 k) = acc := ⟨_, rfl⟩
                rw [hacc] at hown hS hbl
                clear hlet hz hacc hbk hcap
                go_wp2_with fail
                refine (s_isUpper_b _ true _ HC).mono ?_
                rintro e w' ⟨rfl, rfl⟩
                go_wp2_with (at_builtin; go_loud (refine wpList_append_own _ rfl _ _ 23 rfl w.heap.size 3 i0 (.int .i64 0) 1 8 Try.underlying23 hi hz0 hz1 hz2 rfl (by decide) _ _ _ rfl (hown.alloc _) ⟨wr.heap.size, 0, none⟩ 1 1 [.int .i64 32] rfl rfl new_one one_cell (by unfold maxLen; first | omega | (simp; omega)) (by first | omega | (simp; omega)) (by first | (simp; omega) | simp) ?_))
                intro v' wA hown' hgrow _
                have hownA := OwnInts.snoc hown'
                have hbA := below_append hb hsw hown hgrow
                clear hown' hgrow hown hb
                have hswA := hbA.size
                have hblA : (acc ++ [32]).length ≤ 3 + 2 * k := by simp; omega
                obtain ⟨acc1, hacc1⟩ : ∃ acc1, acc ++ [32] = acc1 := ⟨_, rfl⟩
                rw [hacc1] at hownA hS hblA
                clear hacc1
                go_wp2_with fail
                refine (s_lowerCell _ z _ HLt HZ).mono ?_
                rintro e w1 ⟨rfl, hb1⟩
                have hown1 := hownA.below hb1
                have hB1 := hbA.trans (hb1.mono hswA)
                have hsz1 := hB1.size
                clear hownA hbA hb1
                go_wp2_with (at_builtin; go_loud (refine wpList_append_own _ rfl _ _ 23 rfl w.heap.size 3 i0 (.int .i64 0) 1 8 Try.underlying23 hi hz0 hz1 hz2 rfl (by decide) _ _ _ rfl (hown1.alloc _) ⟨w1.heap.size, 0, none⟩ 1 1 [.int .i64 z] rfl rfl new_one one_cell (by unfold maxLen; first | omega | (simp; omega)) (by first | omega | (simp; omega)) (by first | (simp; omega) | simp) ?_))
                intro v' w2 hown' hgrow _
                have R1 := OwnInts.snoc hown'
                have R2 := below_append hB1 hsz1 hown1 hgrow
                clear hown' hgrow hown1 hB1
                go_wp2
                go_roundw
                case rel => exact ⟨k + 1, by omega, by go_num, by rw [hS.out]; exact R1, R2⟩
                case measure => simp [intOf]; omega
            · obtain rfl : k = s.size := by omega
              obtain ⟨_, _, _, hvv⟩ := (show ∃ a n c, _ = Value.slice a n c from (by rcases hown.2 with ⟨h, _⟩ | ⟨g, cap, _, h, _⟩ <;> exact ⟨_, _, _, h⟩))
              go_wp2
              go_ret
              exact ⟨_, rfl, by rw [HR.out]; exact hown, hb, _, _, _, hvv⟩
        | true =>
          have HS : Hid (decide (97 ≤ (s[0]).toNat ∧ (s[0]).toNat ≤ 122) = true) := hsm
          by_cases h106 : (s[0]).toNat ≤ 106
          · have d106 : decide (((s[0]).toNat : Int) ≤ 106) = true := decide_eq_true (by omega)
            have hn10 := small_num hsm
            have HR : Hid (runC l true = [48] ++ bodyC false (sub l 0 s.size)) := by show _ = _; rw [hRC, headC, hsm, hn10, decide_eq_true h106]; simp
            clear hRC hT hA hh0 hsm hn10
            have ho0 := made_alloc w
            have hb0 : Below w.heap.size w (w.alloc (.cells #[] 3)) := (Below.refl _ _).alloc (Nat.le_refl _) _
            have hs0 : w.heap.size ≤ (w.alloc (.cells #[] 3)).heap.size := hb0.size
            go_enter Try.func67, Try.ntmps67
            go_wp2_with fail
            refine (s_isLower_b _ true _ HS).mono ?_
            rintro e w' ⟨rfl, rfl⟩
            generalize w.alloc (.cells #[] 3) = wa at ho0 hb0 hs0 ⊢
            go_wp2_with (at_builtin; go_loud (refine wpList_append_own _ rfl _ _ 23 rfl w.heap.size 3 i0 (.int .i64 0) 1 8 Try.underlying23 hi hz0 hz1 hz2 rfl (by decide) _ 0 [] rfl (ho0.alloc _) ⟨wa.heap.size, 0, none⟩ 1 1 [.int .i64 48] rfl rfl new_one one_cell (by unfold maxLen; first | omega | (simp; omega)) (by first | omega | (simp; omega)) (by first | (simp; omega) | simp) ?_))
            intro v' w1 hown' hgrow _
            have ho1 := OwnInts.snoc (zs := []) hown'
            have hb1 := below_append hb0 hs0 ho0 hgrow
            clear hown' hgrow ho0 hb0
            have hs1 := hb1.size
            go_wp2_with fail
            go_loopw [5, 7] (fun v i wr => ∃ k : Nat, k ≤ s.size ∧ i = .int .i64 k ∧ OwnInts wr w.heap.size v ([48] ++ bodyC false (sub l 0 k)) ∧ Below w.heap.size w wr) (fun _ i _ => s.size - (intOf i).toNat)
            case atStart => exact ⟨0, by omega, rfl, by rw [sub_self]; exact (by simpa [bodyC] using ho1), hb1⟩
            case round =>
              obtain ⟨k, hkb, rfl, hown, hb⟩ := hrel
              have hsw := hb.size
              by_cases hlt : k < s.size
              · obtain ⟨h2, hbk⟩ := HT.out.2 k hlt
                have hlet : letB (s[k]).toNat = true := HA.out k hlt
                have HLt := Lib.hid hlet
                obtain ⟨z, hz⟩ : ∃ z, letC (s[k]) = z := ⟨_, rfl⟩
                have HZ := Lib.hid hz
                have hbl : ([48] ++ bodyC false (sub l 0 k)).length ≤ 2 + 2 * k := by
                  rw [List.length_append]
                  have h1 := body_len false (sub l 0 k)
                  rw [sub_length (by have := HT.out.1; omega)] at h1
                  have h3 : ([48] : List Int).length ≤ 2 := by decide
                  omega
                cases hcap : capB (s[k]).toNat with
                | false =>
                  have HC := Lib.hid hcap
                  have hS : Hid ([48] ++ bodyC false (sub l 0 (k + 1)) = ([48] ++ bodyC false (sub l 0 k)) ++ [z]) := by
                    show _ = _
                    rw [sub_succ (Nat.zero_le _) h2, body_snoc, hbk, oneC, hcap, hz]; simp
                  obtain ⟨acc, hacc⟩ : ∃ acc, [48] ++ bodyC false (sub l 0 k) = acc := ⟨_, rfl⟩
                  rw [hacc] at hown hS hbl
                  clear hlet hz hacc hbk hcap
                  go_wp2_with fail
                  refine (s_isUpper_b _ false _ HC).mono ?_
                  rintro e w' ⟨rfl, rfl⟩
                  go_wp2_with fail
                  refine (s_lowerCell _ z _ HLt HZ).mono ?_
                  rintro e w1 ⟨rfl, hb1⟩
                  have hown1 := hown.below hb1
                  have hB1 := hb.trans (hb1.mono hsw)
                  have hsz1 := hB1.size
                  clear hown hb hb1
                  go_wp2_with (at_builtin; go_loud (refine wpList_append_own _ rfl _ _ 23 rfl w.heap.size 3 i0 (.int .i64 0) 1 8 Try.underlying23 hi hz0 hz1 hz2 rfl (by decide) _ _ _ rfl (hown1.alloc _) ⟨w1.heap.size, 0, none⟩ 1 1 [.int .i64 z] rfl rfl new_one one_cell (by unfold maxLen; first | omega | (simp; omega)) (by first | omega | (simp; omega)) (by first | (simp; omega) | simp) ?_))
                  intro v' w2 hown' hgrow _
                  have R1 := OwnInts.snoc hown'
                  have R2 := below_append hB1 hsz1 hown1 hgrow
                  clear hown' hgrow hown1 hB1
                  go_wp2
                  go_roundw
                  case rel => exact ⟨k + 1, by omega, by go_num, by rw [hS.out]; exact R1, R2⟩
                  case measure => simp [intOf]; omega
                | true =>
                  have HC := Lib.hid hcap
                  have hS : Hid ([48] ++ bodyC false (sub l 0 (k + 1)) = (([48] ++ bodyC false (sub l 0 k)) ++ [32]) ++ [z]) := by
                    show _ = _
                    rw [sub_succ (Nat.zero_le _) h2, body_snoc, hbk, oneC, hcap, hz]; simp
                  obtain ⟨acc, hacc⟩ : ∃ acc, [48] ++ bodyC false (sub l 0 k) = acc := ⟨_, rfl⟩
                  rw [hacc] at hown hS hbl
                  clear hlet hz hacc hbk hcap
                  go_wp2_with fail
                  refine (s_isUpper_b _ true _ HC).mono ?_
                  rintro e w' ⟨rfl, rfl⟩
                  go_wp2_with (at_builtin; go_loud (refine wpList_append_own _ rfl _ _ 23 rfl w.heap.size 3 i0 (.int .i64 0) 1 8 Try.underlying23 hi hz0 hz1 hz2 rfl (by decide) _ _ _ rfl (hown.alloc _) ⟨wr.heap.size, 0, none⟩ 1 1 [.int .i64 32] rfl rfl new_one one_cell (by unfold maxLen; first | omega | (simp; omega)) (by first | omega | (simp; omega)) (by first | (simp; omega) | simp) ?_))
                  intro v' wA hown' hgrow _
                  have hownA := OwnInts.snoc hown'
                  have hbA := below_append hb hsw hown hgrow
                  clear hown' hgrow hown hb
                  have hswA := hbA.size
                  have hblA : (acc ++ [32]).length ≤ 3 + 2 * k := by simp; omega
                  obtain ⟨acc1, hacc1⟩ : ∃ acc1, acc ++ [32] = acc1 := ⟨_, rfl⟩
                  rw [hacc1] at hownA hS hblA
                  clear hacc1
                  go_wp2_with fail
                  refine (s_lowerCell _ z _ HLt HZ).mono ?_
                  rintro e w1 ⟨rfl, hb1⟩
                  have hown1 := hownA.below hb1
                  have hB1 := hbA.trans (hb1.mono hswA)
                  have hsz1 := hB1.size
                  clear hownA hbA hb1
                  go_wp2_with (at_builtin; go_loud (refine wpList_append_own _ rfl _ _ 23 rfl w.heap.size 3 i0 (.int .i64 0) 1 8 Try.underlying23 hi hz0 hz1 hz2 rfl (by decide) _ _ _ rfl (hown1.alloc _) ⟨w1.heap.size, 0, none⟩ 1 1 [.int .i64 z] rfl rfl new_one one_cell (by unfold maxLen; first | omega | (simp; omega)) (by first | omega | (simp; omega)) (by first | (simp; omega) | simp) ?_))
                  intro v' w2 hown' hgrow _
                  have R1 := OwnInts.snoc hown'
                  have R2 := below_append hB1 hsz1 hown1 hgrow
                  clear hown' hgrow hown1 hB1
                  go_wp2
                  go_roundw
                  case rel => exact ⟨k + 1, by omega, by go_num, by rw [hS.out]; exact R1, R2⟩
                  case measure => simp [intOf]; omega
              · obtain rfl : k = s.size := by omega
                obtain ⟨_, _, _, hvv⟩ := (show ∃ a n c, _ = Value.slice a n c from (by rcases hown.2 with ⟨h, _⟩ | ⟨g, cap, _, h, _⟩ <;> exact ⟨_, _, _, h⟩))
                go_wp2
                go_ret
                exact ⟨_, rfl, by rw [HR.out]; exact hown, hb, _, _, _, hvv⟩
          · have d106 : decide (((s[0]).toNat : Int) ≤ 106) = false := decide_eq_false (by omega)
            have hn10 := small_num hsm
            have HR : Hid (runC l true = [] ++ bodyC false (sub l 0 s.size)) := by show _ = _; rw [hRC, headC, hsm, hn10, decide_eq_false h106]; simp
            clear hRC hT hA hh0 hsm hn10
            have ho0 := made_alloc w
            have hb0 : Below w.heap.size w (w.alloc (.cells #[] 3)) := (Below.refl _ _).alloc (Nat.le_refl _) _
            have hs0 : w.heap.size ≤ (w.alloc (.cells #[] 3)).heap.size := hb0.size
            go_enter Try.func67, Try.ntmps67
            go_wp2_with fail
            refine (s_isLower_b _ true _ HS).mono ?_
            rintro e w' ⟨rfl, rfl⟩
            go_wp2_with fail
            go_loopw [5, 7] (fun v i wr => ∃ k : Nat, k ≤ s.size ∧ i = .int .i64 k ∧ OwnInts wr w.heap.size v ([] ++ bodyC false (sub l 0 k)) ∧ Below w.heap.size w wr) (fun _ i _ => s.size - (intOf i).toNat)
            case atStart => exact ⟨0, by omega, rfl, by rw [sub_self]; exact (by simpa [bodyC] using ho0), hb0⟩
            case round =>
              obtain ⟨k, hkb, rfl, hown, hb⟩ := hrel
              have hsw := hb.size
              by_cases hlt : k < s.size
              · obtain ⟨h2, hbk⟩ := HT.out.2 k hlt
                have hlet : letB (s[k]).toNat = true := HA.out k hlt
                have HLt := Lib.hid hlet
                obtain ⟨z, hz⟩ : ∃ z, letC (s[k]) = z := ⟨_, rfl⟩
                have HZ := Lib.hid hz
                have hbl : ([] ++ bodyC false (sub l 0 k)).length ≤ 2 + 2 * k := by
                  rw [List.length_append]
                  have h1 := body_len false (sub l 0 k)
                  rw [sub_length (by have := HT.out.1; omega)] at h1
                  have h3 : ([] : List Int).length ≤ 2 := by decide
                  omega
                cases hcap : capB (s[k]).toNat with
                | false =>
                  have HC := Lib.hid hcap
                  have hS : Hid ([] ++ bodyC false (sub l 0 (k + 1)) = ([] ++ bodyC false (sub l 0 k)) ++ [z]) := by
                    show _ = _
                    rw [sub_succ (Nat.zero_le _) h2, body_snoc, hbk, oneC, hcap, hz]; simp
                  obtain ⟨acc, hacc⟩ : ∃ acc, [] ++ bodyC false (sub l 0 k) = acc := ⟨_, rfl⟩
                  rw [hacc] at hown hS hbl
                  clear hlet hz hacc hbk hcap
                  go_wp2_with fail
                  refine (s_isUpper_b _ false _ HC).mono ?_
                  rintro e w' ⟨rfl, rfl⟩
                  go_wp2_with fail
                  refine (s_lowerCell _ z _ HLt HZ).mono ?_
                  rintro e w1 ⟨rfl, hb1⟩
                  have hown1 := hown.below hb1
                  have hB1 := hb.trans (hb1.mono hsw)
                  have hsz1 := hB1.size
                  clear hown hb hb1
                  go_wp2_with (at_builtin; go_loud (refine wpList_append_own _ rfl _ _ 23 rfl w.heap.size 3 i0 (.int .i64 0) 1 8 Try.underlying23 hi hz0 hz1 hz2 rfl (by decide) _ _ _ rfl (hown1.alloc _) ⟨w1.heap.size, 0, none⟩ 1 1 [.int .i64 z] rfl rfl new_one one_cell (by unfold maxLen; first | omega | (simp; omega)) (by first | omega | (simp; omega)) (by first | (simp; omega) | simp) ?_))
                  intro v' w2 hown' hgrow _
                  have R1 := OwnInts.snoc hown'
                  have R2 := below_append hB1 hsz1 hown1 hgrow
                  clear hown' hgrow hown1 hB1
                  go_wp2
                  go_roundw
                  case rel => exact ⟨k + 1, by omega, by go_num, by rw [hS.out]; exact R1, R2⟩
                  case measure => simp [intOf]; omega
                | true =>
                  have HC := Lib.hid hcap
                  have hS : Hid ([] ++ bodyC false (sub l 0 (k + 1)) = (([] ++ bodyC false (sub l 0 k)) ++ [32]) ++ [z]) := by
                    show _ = _
                    rw [sub_succ (Nat.zero_le _) h2, body_snoc, hbk, oneC, hcap, hz]; simp
                  obtain ⟨acc, hacc⟩ : ∃ acc, [] ++ bodyC false (sub l 0 k) = acc := ⟨_, rfl⟩
                  rw [hacc] at hown hS hbl
                  clear hlet hz hacc hbk hcap
                  go_wp2_with fail
                  refine (s_isUpper_b _ true _ HC).mono ?_
                  rintro e w' ⟨rfl, rfl⟩
                  go_wp2_with (at_builtin; go_loud (refine wpList_append_own _ rfl _ _ 23 rfl w.heap.size 3 i0 (.int .i64 0) 1 8 Try.underlying23 hi hz0 hz1 hz2 rfl (by decide) _ _ _ rfl (hown.alloc _) ⟨wr.heap.size, 0, none⟩ 1 1 [.int .i64 32] rfl rfl new_one one_cell (by unfold maxLen; first | omega | (simp; omega)) (by first | omega | (simp; omega)) (by first | (simp; omega) | simp) ?_))
                  intro v' wA hown' hgrow _
                  have hownA := OwnInts.snoc hown'
                  have hbA := below_append hb hsw hown hgrow
                  clear hown' hgrow hown hb
                  have hswA := hbA.size
                  have hblA : (acc ++ [32]).length ≤ 3 + 2 * k := by simp; omega
                  obtain ⟨acc1, hacc1⟩ : ∃ acc1, acc ++ [32] = acc1 := ⟨_, rfl⟩
                  rw [hacc1] at hownA hS hblA
                  clear hacc1
                  go_wp2_with fail
                  refine (s_lowerCell _ z _ HLt HZ).mono ?_
                  rintro e w1 ⟨rfl, hb1⟩
                  have hown1 := hownA.below hb1
                  have hB1 := hbA.trans (hb1.mono hswA)
                  have hsz1 := hB1.size
                  clear hownA hbA hb1
                  go_wp2_with (at_builtin; go_loud (refine wpList_append_own _ rfl _ _ 23 rfl w.heap.size 3 i0 (.int .i64 0) 1 8 Try.underlying23 hi hz0 hz1 hz2 rfl (by decide) _ _ _ rfl (hown1.alloc _) ⟨w1.heap.size, 0, none⟩ 1 1 [.int .i64 z] rfl rfl new_one one_cell (by unfold maxLen; first | omega | (simp; omega)) (by first | omega | (simp; omega)) (by first | (simp; omega) | simp) ?_))
                  intro v' w2 hown' hgrow _
                  have R1 := OwnInts.snoc hown'
                  have R2 := below_append hB1 hsz1 hown1 hgrow
                  clear hown' hgrow hown1 hB1
                  go_wp2
                  go_roundw
                  case rel => exact ⟨k + 1, by omega, by go_num, by rw [hS.out]; exact R1, R2⟩
                  case measure => simp [intOf]; omega
              · obtain rfl : k = s.size := by omega
                obtain ⟨_, _, _, hvv⟩ := (show ∃ a n c, _ = Value.slice a n c from (by rcases hown.2 with ⟨h, _⟩ | ⟨g, cap, _, h, _⟩ <;> exact ⟨_, _, _, h⟩))
                go_wp2
                go_ret
                exact ⟨_, rfl, by rw [HR.out]; exact hown, hb, _, _, _, hvv⟩
end Go.Proofs.Ytjedkmhmkipkdaa
