
/- The words of a text that are contracted, in the model. -/
import Derived.Test.YtdjgodemeaneeaaWc
import Derived.Test.YtdjgodemeaneeaaTbJ
namespace Go.Proofs.Ytdjgodemeaneeaa
open Go.RowKit

theorem isC_not {l : List UInt8} {k : Nat} (h : k < l.length) (hb : letB (l[k]).toNat = false) : isC l k = false ∧ ce l k = k + 1 := by
  have he : ce l k = k + 1 := by rw [ce, getD_at h, hb, if_neg (by simp)]
  refine ⟨?_, he⟩
  have hn : ¬ WordB 16 (sub l k (k + 1)) := by
    intro hw
    have h1 := hw.2.2 l[k] (by rw [sub_succ (Nat.le_refl k) h, sub_self]; simp)
    simp only [smallN, decide_eq_true_eq] at h1
    simp only [letB, Bool.or_eq_false_iff, decide_eq_false_iff_not] at hb
    omega
  rw [isC, he, decide_eq_false hn]; rfl
theorem ce_let {l : List UInt8} {k : Nat} (h : k < l.length) (hb : letB (l[k]).toNat = true) : ce l k = re l k := by
  rw [ce, getD_at h, hb, if_pos rfl]
theorem wrst_len (l : List UInt8) : ∀ (m k : Nat), l.length - k ≤ m → (wrst l k).length ≤ m := by
  intro m
  induction m with
  | zero => intro k h; rw [wrst_end (by omega)]; simp
  | succ m ih =>
    intro k h
    by_cases hlt : k < l.length
    · have h2 := ih (ce l k) (by have := ce_gt hlt; omega)
      rw [wrst_go hlt, List.length_append]
      split
      · simp; omega
      · simp; omega
    · rw [wrst_end (by omega)]; simp
theorem wordsL_len (l : List UInt8) : (wordsL l).length ≤ 60 := by
  unfold wordsL
  split
  · next h => exact wrst_len l 60 0 (by have := h.1; omega)
  · simp

section SXWd
set_option maxHeartbeats 1000000 in
theorem s_runEnd_w (s : ByteArray) (l : List UInt8) (k0 e : Nat) (w : World) (hT : Txt s l) (hs : s.size ≤ 9223372036854775000) (h0 : k0 ≤ s.size) (he : Hid (re l k0 = e)) :
    Calls Try.prog 80 #[.string s, .int .i64 k0] w fun e' w' => e' = .returned (.int .i64 e) ∧ w = w' := by
  have HT := Lib.hid hT
  clear hT
  go_enter Try.func80, Try.ntmps80
  go_wp2
  go_loop [5] (fun i => ∃ k : Nat, k ≤ s.size ∧ i = .int .i64 k ∧ Hid (re l k = e)) (fun i => s.size - (intOf i).toNat)
  case atStart => exact ⟨k0, h0, rfl, he⟩
  case round =>
    obtain ⟨k, hk, rfl, hr⟩ := hrel
    by_cases hlt : k < s.size
    · obtain ⟨h2, hbk⟩ := HT.out.2 k hlt
      cases hlet : letB (s[k]).toNat with
      | true =>
        have HL := Lib.hid hlet
        have hr' : Hid (re l (k + 1) = e) := by show _ = _; rw [← hr.out, re_go h2 (by rw [hbk]; exact hlet)]
        clear hlet hbk hr
        go_wp2_with (go_at_call 77; refine (s_isLetter_b _ true _ HL).mono ?_; rintro e w' ⟨rfl, rfl⟩)
        go_round
        case rel => exact ⟨k + 1, by omega, by go_num, hr'⟩
        case measure => simp [intOf]; omega
      | false =>
        have HL := Lib.hid hlet
        have hr' : Hid (k = e) := by show _ = _; rw [← hr.out, re_stop h2 (by rw [hbk]; exact hlet)]
        clear hlet hbk hr
        go_wp2_with (go_at_call 77; refine (s_isLetter_b _ false _ HL).mono ?_; rintro e w' ⟨rfl, rfl⟩)
        go_ret
        exact ⟨ret_i64' (by rw [hr'.out]), rfl⟩
    · have hr' : Hid (k = e) := by show _ = _; rw [← hr.out, re_end (by have := HT.out.1; omega)]
      clear hr
      go_wp2
      go_ret
      exact ⟨ret_i64' (by rw [hr'.out]), rfl⟩
theorem s_validWord_w (s : ByteArray) (b : Bool) (w : World) (hs : s.size ≤ 9223372036854775807) (hb : Hid (decide (WordB 16 s.data.toList) = b)) :
    Calls Try.prog 45 #[.string s] w fun e w' => e = .returned (.bool b) ∧ w = w' := by
  have := s_validWord s w hs
  rw [hb.out] at this
  exact this
set_option maxHeartbeats 1000000 in
theorem s_contracts (s : ByteArray) (l : List UInt8) (k e : Nat) (b : Bool) (w : World) (hT : Txt s l) (hL : s.data.toList = l) (hs : s.size ≤ 1000000) (h0 : k < e) (h1 : e ≤ s.size) (hb : Hid ((decide (WordB 16 (sub l k e)) && !dB l k) = b)) :
    Calls Try.prog 81 #[.string s, .int .i64 k, .int .i64 e] w fun e' w' => e' = .returned (.bool b) ∧ w = w' := by
  have hx : (s.extract k e).data.toList = sub l k e := by rw [extract_list, hL]
  have hxs : (s.extract k e).size ≤ 1000000 := ext_le hs
  have b1 : (0 : Int) ≤ (k : Int) := by omega
  have b2 : (k : Int) ≤ (e : Int) := by omega
  have b3 : (e : Int) ≤ (s.size : Int) := by omega
  cases hw : decide (WordB 16 (sub l k e)) with
  | false =>
    have HW : Hid (decide (WordB 16 (s.extract k e).data.toList) = false) := by show _ = _; rw [hx]; exact hw
    have HB : Hid (b = false) := by show _ = _; rw [← hb.out, hw]; rfl
    clear hx hw hb hT hL
    go_enter Try.func81, Try.ntmps81
    go_wp2_with fail
    refine (s_validWord_w _ false _ (by omega) HW).mono ?_
    rintro e w' ⟨rfl, rfl⟩
    go_wp2
    go_ret
    exact ⟨by rw [HB.out]; rfl, rfl⟩
  | true =>
    have HW : Hid (decide (WordB 16 (s.extract k e).data.toList) = true) := by show _ = _; rw [hx]; exact hw
    cases k with
    | zero =>
      have HB : Hid (b = true) := by show _ = _; rw [← hb.out, hw]; rfl
      clear hx hw hb hT hL
      go_enter Try.func81, Try.ntmps81
      go_wp2_with fail
      refine (s_validWord_w _ true _ (by omega) HW).mono ?_
      rintro e w' ⟨rfl, rfl⟩
      go_wp2
      go_ret
      exact ⟨by rw [HB.out]; rfl, rfl⟩
    | succ k =>
      have hls : k < s.size := by omega
      obtain ⟨h2, hbk⟩ := hT.2 k hls
      obtain ⟨d, hd⟩ : ∃ d, decide (48 ≤ (s[k]).toNat ∧ (s[k]).toNat ≤ 57) = d := ⟨_, rfl⟩
      have HD := Lib.hid hd
      have HB : Hid (b = !d) := by show _ = _; rw [← hb.out, hw, dB, getD_at h2, hbk, ← hd]; rfl
      have d0 : decide (((k + 1 : Nat) : Int) = 0) = false := decide_eq_false (by omega)
      have hkk : ((k + 1 : Nat) : Int) - 1 = (k : Int) := by omega
      clear hx hw hb hT hL hd hbk h2
      go_enter Try.func81, Try.ntmps81
      go_wp2_with fail
      refine (s_validWord_w _ true _ (by omega) HW).mono ?_
      rintro e w' ⟨rfl, rfl⟩
      go_wp2_with fail
      refine (s_isDigit_b _ d _ HD).mono ?_
      rintro e w' ⟨rfl, rfl⟩
      go_wp2
      go_ret
      exact ⟨by rw [HB.out]; rfl, rfl⟩
set_option maxHeartbeats 2000000 in
theorem s_wordsIn (s : ByteArray) (l : List UInt8) (w : World) (hL : s.data.toList = l) (hs60 : s.size ≤ 60) :
    Calls Try.prog 49 #[.string s] w fun e w' => TextsMade (wrst l 0) w e w' := by
  have HL := Lib.hid hL
  have HT : Hid (Txt s l) := by have := Txt.of s; rw [hL] at this; exact this
  obtain ⟨R, hR⟩ : ∃ R, wrst l 0 = R := ⟨_, rfl⟩
  have HR : Hid (R = [] ++ wrst l 0) := hR.symm
  rw [hR]
  have HO0 := keptS (OwnSt.made w w.heap.size (Nat.le_refl _))
  have HB0 : Hid (Below w.heap.size w (w.alloc (.cells #[] 9))) := (Below.refl _ _).alloc (Nat.le_refl _) _
  clear hL hR
  go_enter Try.func49, Try.ntmps49
  go_wp2
  go_loopw [3, 4] (fun v i wr => ∃ (k : Nat) (P : List ByteArray), k ≤ s.size ∧ i = .int .i64 k ∧ P.length ≤ k ∧ OwnSt wr w.heap.size v P ∧ Hid (R = P ++ wrst l k) ∧ Below w.heap.size w wr) (fun _ i _ => s.size - (intOf i).toNat)
  case atStart => exact ⟨0, [], by omega, rfl, by simp, HO0.out, HR, HB0.out⟩
  case round =>
    obtain ⟨k, P, hk, rfl, hPk, hO, hRk, hB⟩ := hrel
    obtain ⟨wo, rfl⟩ : ∃ wo, wo = wr := ⟨wr, rfl⟩
    by_cases hlt : k < s.size
    · obtain ⟨hll, hbk⟩ := HT.out.2 k hlt
      have hgo := wrst_go hll
      have HO := keptS hO
      have HB := keptS hB
      have hsz := hB.size
      clear hO hB
      cases hlet : letB (s[k]).toNat with
      | false =>
        have HLT := Lib.hid hlet
        obtain ⟨e1, e2⟩ := isC_not hll (by rw [hbk]; exact hlet)
        have HRn : Hid (R = P ++ wrst l (k + 1)) := by show _ = _; rw [hRk.out, hgo, e1, e2]; simp
        clear hgo hRk hlet hbk e1 e2
        go_wp2_with fail
        refine (s_isLetter_b _ false _ HLT).mono ?_
        rintro e' w' ⟨rfl, rfl⟩
        go_wp2
        go_roundw
        case rel => exact ⟨k + 1, P, by omega, by go_num, by omega, HO.out, HRn, HB.out⟩
        case measure => simp [intOf]; omega
      | true =>
        have HLT := Lib.hid hlet
        have hcr := ce_let hll (by rw [hbk]; exact hlet)
        obtain ⟨e, he⟩ : ∃ e, ce l k = e := ⟨_, rfl⟩
        have HE : Hid (re l k = e) := by show _ = _; rw [← hcr, he]
        have hke : k < e := by rw [← he]; exact ce_gt hll
        have hes : e ≤ s.size := by rw [← he, ← HT.out.1]; exact ce_le hll
        obtain ⟨b, hb⟩ : ∃ b, isC l k = b := ⟨_, rfl⟩
        have hb' := hb
        rw [isC, he] at hb'
        have HBC := Lib.hid hb'
        rw [he, hb] at hgo
        clear hb hb' he hll hcr hbk hlet
        cases b with
        | false =>
          have HRn : Hid (R = P ++ wrst l e) := by show _ = _; rw [hRk.out, hgo]; simp
          clear hgo hRk
          go_wp2_with fail
          refine (s_isLetter_b _ true _ HLT).mono ?_
          rintro e' w' ⟨rfl, rfl⟩
          go_wp2_with fail
          refine (s_runEnd_w s l k e _ HT.out (by omega) (by omega) HE).mono ?_
          rintro e' w' ⟨rfl, rfl⟩
          go_wp2_with fail
          refine (s_contracts s l k e false _ HT.out HL.out (by omega) hke hes HBC).mono ?_
          rintro e' w' ⟨rfl, rfl⟩
          go_wp2
          go_roundw
          case rel => exact ⟨e, P, hes, rfl, by omega, HO.out, HRn, HB.out⟩
          case measure => simp [intOf]; omega
        | true =>
          have HX : Hid (s.extract k e = bs (sub l k e)) := ext_bs HL.out k e
          have HRn : Hid (R = (P ++ [s.extract k e]) ++ wrst l e) := by show _ = _; rw [hRk.out, hgo, HX.out]; simp
          have b1 : (0 : Int) ≤ (k : Int) := by omega
          have b2 : (k : Int) ≤ (e : Int) := by omega
          have b3 : (e : Int) ≤ (s.size : Int) := by omega
          clear hgo hRk
          go_wp2_with fail
          refine (s_isLetter_b _ true _ HLT).mono ?_
          rintro e' w' ⟨rfl, rfl⟩
          go_wp2_with fail
          refine (s_runEnd_w s l k e _ HT.out (by omega) (by omega) HE).mono ?_
          rintro e' w' ⟨rfl, rfl⟩
          go_wp2_with fail
          refine (s_contracts s l k e true _ HT.out HL.out (by omega) hke hes HBC).mono ?_
          rintro e' w' ⟨rfl, rfl⟩
          go_wp2_with (at_builtin; go_loud (refine wpList_append_st rfl _ _ rfl w.heap.size wo.heap.size (s.extract k e) rfl rfl (HO.out.below ((Below.refl _ _).alloc (Nat.le_refl _) _)) (by first | exact new_st | simp) (by omega) (by first | (rw [World.size_alloc]; omega) | omega) ?_))
          intro v' w3 hO3 hg3
          have hB3 := grown_st HB.out hsz HO.out hg3
          have NXT := keptS (And.intro hO3 hB3)
          clear hO3 hB3 hg3
          go_wp2
          go_roundw
          case rel => exact ⟨e, P ++ [s.extract k e], hes, rfl, by rw [List.length_append]; simp; omega, NXT.out.1, HRn, NXT.out.2⟩
          case measure => simp [intOf]; omega
    · have HRn : Hid (R = P) := by show _ = _; rw [hRk.out, wrst_end (by have := HT.out.1; omega)]; simp
      have FIN := keptS (And.intro hO hB)
      clear hO hB hRk
      go_wp2
      go_ret
      exact ⟨_, rfl, by rw [HRn.out]; exact FIN.out.1, FIN.out.2⟩
theorem s_WordsIn (s : ByteArray) (l : List UInt8) (w : World) (hL : s.data.toList = l) (hs : s.size ≤ 1048576) :
    Calls Try.prog 18 #[.string s] w fun e w' => TextsMade (wordsL l) w e w' := by
  have HL := Lib.hid hL
  cases hv : decide (ValidT l) with
  | false =>
    have HV : Hid (decide (ValidT s.data.toList) = false) := by show _ = _; rw [hL]; exact hv
    have HR : Hid (wordsL l = []) := by show _ = _; rw [wordsL, if_neg (of_decide_eq_false hv)]
    clear hL hv
    go_enter Try.func18, Try.ntmps18
    go_wp2_with fail
    refine (s_validText_v s false _ (by omega) HV).mono ?_
    rintro e w2 ⟨rfl, rfl⟩
    go_wp2
    go_ret
    exact ⟨_, rfl, by rw [HR.out]; exact OwnSt.nil _ _, Below.refl _ _⟩
  | true =>
    have hval : ValidT l := of_decide_eq_true hv
    have HV : Hid (decide (ValidT s.data.toList) = true) := by show _ = _; rw [hL]; exact hv
    have hs60 : s.size ≤ 60 := by have := hval.1; rw [← hL, size_data] at this; exact this
    have HR : Hid (wordsL l = wrst l 0) := by show _ = _; rw [wordsL, if_pos hval]; rfl
    clear hL hv hval
    go_enter Try.func18, Try.ntmps18
    go_wp2_with fail
    refine (s_validText_v s true _ (by omega) HV).mono ?_
    rintro e w2 ⟨rfl, rfl⟩
    go_wp2_with fail
    refine (s_wordsIn s l _ HL.out hs60).mono ?_
    rintro e w3 ⟨v, rfl, hO, hB⟩
    obtain ⟨a, n, c, rfl⟩ := hO.isSlice
    have FIN := keptS (And.intro hO hB)
    clear hO hB
    go_wp2
    go_ret
    exact ⟨_, rfl, by rw [HR.out]; exact FIN.out.1, FIN.out.2⟩
end SXWd
end Go.Proofs.Ytdjgodemeaneeaa
