
/- runCells in the program: the cells of a run of letters. -/
import Derived.Test.YtjedkmhmkipkdaaPl
namespace Go.Proofs.Ytjedkmhmkipkdaa
open Go.RowKit

theorem letNum_lt {c : Nat} (h : letB c = true) : letNum c < 26 := by
  unfold letNum capB
  simp only [letB, Bool.or_eq_true, decide_eq_true_eq] at h
  by_cases h2 : 65 ≤ c ∧ c ≤ 90
  · rw [if_pos (decide_eq_true h2)]; omega
  · rw [if_neg (by simp; omega)]; omega
theorem body_len (wh : Bool) : ∀ (p : List UInt8), (bodyC wh p).length ≤ 2 * p.length := by
  intro p
  induction p with
  | nil => simp [bodyC]
  | cons b p ih =>
    have h1 : (oneC wh b).length ≤ 2 := by unfold oneC; split <;> simp
    have h2 : bodyC wh (b :: p) = oneC wh b ++ bodyC wh p := by simp [bodyC]
    rw [h2, List.length_append, List.length_cons]; omega
theorem new_two {w : World} {t : TypeId} {y z : Int} : ∀ j u, [Value.int .i64 y, Value.int .i64 z][j]? = some u → (w.alloc (.cells #[.int .i64 y, .int .i64 z] t)).cell? ((⟨w.heap.size, 0, none⟩ : Addr).add j) = some u := by
  intro j u hj
  match j, hj with
  | 0, hj => simp at hj; subst hj; simp [Addr.add]
  | 1, hj => simp at hj; subst hj; simp [Addr.add]
theorem two_cell {y z : Int} : ∀ u ∈ [Value.int .i64 y, Value.int .i64 z], u.oneCell' = true := by
  intro u hu
  simp at hu
  rcases hu with rfl | rfl <;> rfl
theorem OwnInts.snoc2 {w : World} {base : Nat} {v : Value} {zs : List Int} {y z : Int} (h : w.ownsRow base 3 1 v (zs.length + 2) (ints zs ++ [.int .i64 y, .int .i64 z])) : OwnInts w base v (zs ++ [y, z]) := by
  unfold OwnInts
  rw [show ints (zs ++ [y, z]) = ints zs ++ [.int .i64 y, .int .i64 z] from by simp [ints], List.length_append]
  exact h
def CellsMade (zs : List Int) (w : World) (e : Ending) (w' : World) : Prop :=
  ∃ v, e = .returned v ∧ OwnInts w' w.heap.size v zs ∧ Below w.heap.size w w' ∧ ∃ a n c, v = .slice a n c
theorem cap_not_small {c : Nat} (h : capB c = true) : smallB c = false := by
  simp [capB, smallB] at h ⊢; omega
theorem whole_head {p : List UInt8} (h : wholeB p = true) : capB (p.headD 0).toNat = true := by
  rw [wholeB, Bool.and_eq_true] at h
  cases p with
  | nil => simp at h
  | cons b p => have := h.1; rw [List.all_cons, Bool.and_eq_true] at this; exact this.1

set_option maxRecDepth 20000 in
set_option maxHeartbeats 8000000 in
theorem i_runCells (s : ByteArray) (l : List UInt8) (a b : Nat) (w : World) (hT : Txt s l) (hs : s.size ≤ 1000000) (h0 : a < b) (h1 : b ≤ s.size) (hA : ∀ k (h : k < s.size), a ≤ k → k < b → letB (s[k]).toNat = true) :
    Calls Try.prog 60 #[.string s, .int .i64 a, .int .i64 b] w fun e w' => CellsMade (runC (sub l a b) (dB l a)) w e w' := by
  obtain ⟨i0, hi, hz0, hz1, hz2⟩ := info_parts infoInt
  have HT := Lib.hid hT
  have HA := Lib.hid hA
  have has : a < s.size := by omega
  obtain ⟨ha2, hba⟩ := hT.2 a has
  have hhd : (sub l a b).headD 0 = s[a] := by rw [sub_head h0 (by have := hT.1; omega), hba]
  have hla : letB (s[a]).toNat = true := hA a has (Nat.le_refl _) h0
  have HLa := Lib.hid hla
  obtain ⟨na, hna⟩ : ∃ n, letNum (s[a]).toNat = n := ⟨_, rfl⟩
  have HNa := Lib.hid hna
  have hRC : runC (sub l a b) (dB l a) = headC (wholeB (sub l a b)) (dB l a) (s[a]).toNat ++ bodyC (wholeB (sub l a b)) (sub l a b) := by rw [runC, hhd]
  cases hW : wholeB (sub l a b) with
  | true =>
    have hcs : smallB (s[a]).toNat = false := cap_not_small (by rw [← hhd]; exact whole_head hW)
    have HR : Hid (runC (sub l a b) (dB l a) = [32, 32] ++ bodyC true (sub l a b)) := by show _ = _; rw [hRC, hW, headC, hcs]; simp
    have HW := Lib.hid hW
    have HS := Lib.hid hcs
    clear hT hA hba hhd hla hna hRC hcs hW
    have ho0 := OwnInts.nil w w.heap.size
    have hb0 := Below.refl w.heap.size w
    go_enter Try.func60, Try.ntmps60
    go_wp2_with fail
    refine (i_allCapital s l a b true _ HT.out (by omega) (by omega) h1 HW).mono ?_
    rintro e w' ⟨rfl, rfl⟩
    go_wp2_with (at_builtin; go_loud (refine wpList_append_own _ rfl _ _ 23 rfl w.heap.size 3 i0 (.int .i64 0) 1 8 Try.underlying23 hi hz0 hz1 hz2 rfl (by decide) (.slice none 0 0) 0 [] rfl (ho0.alloc _) ⟨w.heap.size, 0, none⟩ 2 2 [.int .i64 32, .int .i64 32] rfl rfl new_two two_cell (by unfold maxLen; first | omega | (simp; omega)) (by first | omega | (simp; omega)) (by first | (simp; omega) | simp) ?_))
    intro v' w1 hown' hgrow _
    have ho1 := OwnInts.snoc2 (zs := []) hown'
    have hb1 := below_append hb0 (Nat.le_refl _) ho0 hgrow
    clear hown' hgrow ho0 hb0
    have hs1 := hb1.size
    go_wp2_with fail
    refine (i_isSmall_b _ false _ HS).mono ?_
    rintro e w' ⟨rfl, rfl⟩
    go_wp2_with fail
    go_loopw [7, 9] (fun v i wr => ∃ k : Nat, a ≤ k ∧ k ≤ b ∧ i = .int .i64 k ∧ OwnInts wr w.heap.size v ([32, 32] ++ bodyC true (sub l a k)) ∧ Below w.heap.size w wr) (fun _ i _ => b - (intOf i).toNat)
    case atStart => exact ⟨a, Nat.le_refl _, by omega, rfl, by rw [sub_self]; exact (by simpa [bodyC] using ho1), hb1⟩
    case round =>
      obtain ⟨k, hka, hkb, rfl, hown, hb⟩ := hrel
      have hsw := hb.size
      by_cases hlt : k < b
      · have hls : k < s.size := by omega
        obtain ⟨h2, hbk⟩ := HT.out.2 k hls
        have hlet : letB (s[k]).toNat = true := HA.out k hls hka hlt
        have HLt := Lib.hid hlet
        have hn26 := letNum_lt hlet
        obtain ⟨n, hn⟩ : ∃ n, letNum (s[k]).toNat = n := ⟨_, rfl⟩
        rw [hn] at hn26
        have HN := Lib.hid hn
        obtain ⟨z, hz⟩ : ∃ z, letL.getD n 0 = z := ⟨_, rfl⟩
        have HZ := Lib.hid hz
        have hlc : letC (s[k]) = z := by rw [letC, hn, hz]
        have hbl : ([32, 32] ++ bodyC true (sub l a k)).length ≤ 2 + 2 * (k - a) := by
          rw [List.length_append]
          have h1 := body_len true (sub l a k)
          rw [sub_length (by have := HT.out.1; omega)] at h1
          have h3 : ([32, 32] : List Int).length ≤ 2 := by decide
          omega
        cases hcap : capB (s[k]).toNat with
        | false =>
          have HC := Lib.hid hcap
          have hS : Hid ([32, 32] ++ bodyC true (sub l a (k + 1)) = ([32, 32] ++ bodyC true (sub l a k)) ++ [z]) := by
            show _ = _
            rw [sub_succ hka h2, body_snoc, hbk, oneC, hcap, hlc]; simp
          obtain ⟨acc, hacc⟩ : ∃ acc, [32, 32] ++ bodyC true (sub l a k) = acc := ⟨_, rfl⟩
          rw [hacc] at hown hS hbl
          clear hlet hn hz hlc hcap hacc hbk
          go_wp2_with fail
          refine (i_isCapital_b _ false _ HC).mono ?_
          rintro e w' ⟨rfl, rfl⟩
          go_wp2_with fail
          refine (i_letterNumber _ n _ HLt HN).mono ?_
          rintro e w' ⟨rfl, rfl⟩
          go_wp2_with fail
          refine (i_letterCell_at n z _ hn26 HZ).mono ?_
          rintro e w' ⟨rfl, rfl⟩
          go_wp2_with (at_builtin; go_loud (refine wpList_append_own _ rfl _ _ 23 rfl w.heap.size 3 i0 (.int .i64 0) 1 8 Try.underlying23 hi hz0 hz1 hz2 rfl (by decide) _ _ _ rfl (hown.alloc _) ⟨wr.heap.size, 0, none⟩ 1 1 [.int .i64 z] rfl rfl new_one one_cell (by unfold maxLen; first | omega | (simp; omega)) (by first | omega | (simp; omega)) (by first | (simp; omega) | simp) ?_))
          intro v' w1 hown' hgrow _
          have R1 := OwnInts.snoc hown'
          have R2 := below_append hb hsw hown hgrow
          clear hown' hgrow hown hb
          go_wp2
          go_roundw
          case rel => exact ⟨k + 1, by omega, by omega, by go_num, by rw [hS.out]; exact R1, R2⟩
          case measure => simp [intOf]; omega
        | true =>
          have HC := Lib.hid hcap
          have hS : Hid ([32, 32] ++ bodyC true (sub l a (k + 1)) = ([32, 32] ++ bodyC true (sub l a k)) ++ [z]) := by
            show _ = _
            rw [sub_succ hka h2, body_snoc, hbk, oneC, hcap, hlc]; simp
          obtain ⟨acc, hacc⟩ : ∃ acc, [32, 32] ++ bodyC true (sub l a k) = acc := ⟨_, rfl⟩
          rw [hacc] at hown hS hbl
          clear hlet hn hz hlc hcap hacc hbk
          go_wp2_with fail
          refine (i_isCapital_b _ true _ HC).mono ?_
          rintro e w' ⟨rfl, rfl⟩
          go_wp2_with fail
          refine (i_letterNumber _ n _ HLt HN).mono ?_
          rintro e w' ⟨rfl, rfl⟩
          go_wp2_with fail
          refine (i_letterCell_at n z _ hn26 HZ).mono ?_
          rintro e w' ⟨rfl, rfl⟩
          go_wp2_with (at_builtin; go_loud (refine wpList_append_own _ rfl _ _ 23 rfl w.heap.size 3 i0 (.int .i64 0) 1 8 Try.underlying23 hi hz0 hz1 hz2 rfl (by decide) _ _ _ rfl (hown.alloc _) ⟨wr.heap.size, 0, none⟩ 1 1 [.int .i64 z] rfl rfl new_one one_cell (by unfold maxLen; first | omega | (simp; omega)) (by first | omega | (simp; omega)) (by first | (simp; omega) | simp) ?_))
          intro v' w1 hown' hgrow _
          have R1 := OwnInts.snoc hown'
          have R2 := below_append hb hsw hown hgrow
          clear hown' hgrow hown hb
          go_wp2
          go_roundw
          case rel => exact ⟨k + 1, by omega, by omega, by go_num, by rw [hS.out]; exact R1, R2⟩
          case measure => simp [intOf]; omega
      · go_wp2
        obtain rfl : k = b := by omega
        obtain ⟨_, _, _, hvv⟩ := (show ∃ a n c, _ = Value.slice a n c from (by rcases hown.2 with ⟨h, _⟩ | ⟨g, cap, _, h, _⟩ <;> exact ⟨_, _, _, h⟩))
        go_ret
        exact ⟨_, rfl, by rw [HR.out]; exact hown, hb, _, _, _, hvv⟩
  | false =>
    have HW := Lib.hid hW
    cases hsm : smallB (s[a]).toNat with
    | false =>
      have HR : Hid (runC (sub l a b) (dB l a) = [] ++ bodyC false (sub l a b)) := by show _ = _; rw [hRC, hW, headC, hsm]; simp
      have HS := Lib.hid hsm
      clear hT hA hba hhd hla hna hRC hsm hW
      have ho0 := OwnInts.nil w w.heap.size
      have hb0 := Below.refl w.heap.size w
      go_enter Try.func60, Try.ntmps60
      go_wp2_with fail
      refine (i_allCapital s l a b false _ HT.out (by omega) (by omega) h1 HW).mono ?_
      rintro e w' ⟨rfl, rfl⟩
      go_wp2_with fail
      refine (i_isSmall_b _ false _ HS).mono ?_
      rintro e w' ⟨rfl, rfl⟩
      go_wp2_with fail
      go_loopw [7, 9] (fun v i wr => ∃ k : Nat, a ≤ k ∧ k ≤ b ∧ i = .int .i64 k ∧ OwnInts wr w.heap.size v ([] ++ bodyC false (sub l a k)) ∧ Below w.heap.size w wr) (fun _ i _ => b - (intOf i).toNat)
      case atStart => exact ⟨a, Nat.le_refl _, by omega, rfl, by rw [sub_self]; exact (by simpa [bodyC] using ho0), hb0⟩
      case round =>
        obtain ⟨k, hka, hkb, rfl, hown, hb⟩ := hrel
        have hsw := hb.size
        by_cases hlt : k < b
        · have hls : k < s.size := by omega
          obtain ⟨h2, hbk⟩ := HT.out.2 k hls
          have hlet : letB (s[k]).toNat = true := HA.out k hls hka hlt
          have HLt := Lib.hid hlet
          have hn26 := letNum_lt hlet
          obtain ⟨n, hn⟩ : ∃ n, letNum (s[k]).toNat = n := ⟨_, rfl⟩
          rw [hn] at hn26
          have HN := Lib.hid hn
          obtain ⟨z, hz⟩ : ∃ z, letL.getD n 0 = z := ⟨_, rfl⟩
          have HZ := Lib.hid hz
          have hlc : letC (s[k]) = z := by rw [letC, hn, hz]
          have hbl : ([] ++ bodyC false (sub l a k)).length ≤ 2 + 2 * (k - a) := by
            rw [List.length_append]
            have h1 := body_len false (sub l a k)
            rw [sub_length (by have := HT.out.1; omega)] at h1
            have h3 : ([] : List Int).length ≤ 2 := by decide
            omega
          cases hcap : capB (s[k]).toNat with
          | false =>
            have HC := Lib.hid hcap
            have hS : Hid ([] ++ bodyC false (sub l a (k + 1)) = ([] ++ bodyC false (sub l a k)) ++ [z]) := by
              show _ = _
              rw [sub_succ hka h2, body_snoc, hbk, oneC, hcap, hlc]; simp
            obtain ⟨acc, hacc⟩ : ∃ acc, [] ++ bodyC false (sub l a k) = acc := ⟨_, rfl⟩
            rw [hacc] at hown hS hbl
            clear hlet hn hz hlc hcap hacc hbk
            go_wp2_with fail
            refine (i_isCapital_b _ false _ HC).mono ?_
            rintro e w' ⟨rfl, rfl⟩
            go_wp2_with fail
            refine (i_letterNumber _ n _ HLt HN).mono ?_
            rintro e w' ⟨rfl, rfl⟩
            go_wp2_with fail
            refine (i_letterCell_at n z _ hn26 HZ).mono ?_
            rintro e w' ⟨rfl, rfl⟩
            go_wp2_with (at_builtin; go_loud (refine wpList_append_own _ rfl _ _ 23 rfl w.heap.size 3 i0 (.int .i64 0) 1 8 Try.underlying23 hi hz0 hz1 hz2 rfl (by decide) _ _ _ rfl (hown.alloc _) ⟨wr.heap.size, 0, none⟩ 1 1 [.int .i64 z] rfl rfl new_one one_cell (by unfold maxLen; first | omega | (simp; omega)) (by first | omega | (simp; omega)) (by first | (simp; omega) | simp) ?_))
            intro v' w1 hown' hgrow _
            have R1 := OwnInts.snoc hown'
            have R2 := below_append hb hsw hown hgrow
            clear hown' hgrow hown hb
            go_wp2
            go_roundw
            case rel => exact ⟨k + 1, by omega, by omega, by go_num, by rw [hS.out]; exact R1, R2⟩
            case measure => simp [intOf]; omega
          | true =>
            have HC := Lib.hid hcap
            have hS : Hid ([] ++ bodyC false (sub l a (k + 1)) = (([] ++ bodyC false (sub l a k)) ++ [32]) ++ [z]) := by
              show _ = _
              rw [sub_succ hka h2, body_snoc, hbk, oneC, hcap, hlc]; simp
            obtain ⟨acc, hacc⟩ : ∃ acc, [] ++ bodyC false (sub l a k) = acc := ⟨_, rfl⟩
            rw [hacc] at hown hS hbl
            clear hlet hn hz hlc hcap hacc hbk
            go_wp2_with fail
            refine (i_isCapital_b _ true _ HC).mono ?_
            rintro e w' ⟨rfl, rfl⟩
            go_wp2_with (at_builtin; go_loud (refine wpList_append_own _ rfl _ _ 23 rfl w.heap.size 3 i0 (.int .i64 0) 1 8 Try.underlying23 hi hz0 hz1 hz2 rfl (by decide) _ _ _ rfl (hown.alloc _) ⟨wr.heap.size, 0, none⟩ 1 1 [.int .i64 32] rfl rfl new_one one_cell (by unfold maxLen; first | omega | (simp; omega)) (by first | omega | (simp; omega)) (by first | (simp; omega) | simp) ?_))
            intro v' w1 hown' hgrow _
            have hown1 := OwnInts.snoc hown'
            have hb1 := below_append hb hsw hown hgrow
            clear hown' hgrow hown hb
            have hsw1 := hb1.size
            have hbl1 : (acc ++ [32]).length ≤ 3 + 2 * (k - a) := by simp; omega
            obtain ⟨acc1, hacc1⟩ : ∃ acc1, acc ++ [32] = acc1 := ⟨_, rfl⟩
            rw [hacc1] at hown1 hS hbl1
            clear hacc1
            go_wp2_with fail
            refine (i_letterNumber _ n _ HLt HN).mono ?_
            rintro e w' ⟨rfl, rfl⟩
            go_wp2_with fail
            refine (i_letterCell_at n z _ hn26 HZ).mono ?_
            rintro e w' ⟨rfl, rfl⟩
            go_wp2_with (at_builtin; go_loud (refine wpList_append_own _ rfl _ _ 23 rfl w.heap.size 3 i0 (.int .i64 0) 1 8 Try.underlying23 hi hz0 hz1 hz2 rfl (by decide) _ _ _ rfl (hown1.alloc _) ⟨w1.heap.size, 0, none⟩ 1 1 [.int .i64 z] rfl rfl new_one one_cell (by unfold maxLen; first | omega | (simp; omega)) (by first | omega | (simp; omega)) (by first | (simp; omega) | simp) ?_))
            intro v' w2 hown' hgrow _
            have R1 := OwnInts.snoc hown'
            have R2 := below_append hb1 hsw1 hown1 hgrow
            clear hown' hgrow hown1 hb1
            go_wp2
            go_roundw
            case rel => exact ⟨k + 1, by omega, by omega, by go_num, by rw [hS.out]; exact R1, R2⟩
            case measure => simp [intOf]; omega
        · go_wp2
          obtain rfl : k = b := by omega
          obtain ⟨_, _, _, hvv⟩ := (show ∃ a n c, _ = Value.slice a n c from (by rcases hown.2 with ⟨h, _⟩ | ⟨g, cap, _, h, _⟩ <;> exact ⟨_, _, _, h⟩))
          go_ret
          exact ⟨_, rfl, by rw [HR.out]; exact hown, hb, _, _, _, hvv⟩
    | true =>
      have HS := Lib.hid hsm
      by_cases hn10 : na < 10
      · cases hd : dB l a with
        | true =>
          have HR : Hid (runC (sub l a b) true = [48] ++ bodyC false (sub l a b)) := by show _ = _; rw [← hd, hRC, hW, headC, hsm, hna, decide_eq_true hn10, hd]; simp
          have HD := Lib.hid hd
          clear hT hA hba hhd hla hna hRC hsm hW hd
          have ho0 := OwnInts.nil w w.heap.size
          have hb0 := Below.refl w.heap.size w
          go_enter Try.func60, Try.ntmps60
          go_wp2_with fail
          refine (i_allCapital s l a b false _ HT.out (by omega) (by omega) h1 HW).mono ?_
          rintro e w' ⟨rfl, rfl⟩
          go_wp2_with fail
          refine (i_isSmall_b _ true _ HS).mono ?_
          rintro e w' ⟨rfl, rfl⟩
          go_wp2_with fail
          refine (i_letterNumber _ na _ HLa HNa).mono ?_
          rintro e w' ⟨rfl, rfl⟩
          go_wp2_with fail
          refine (i_digitBefore s l a true _ HT.out (by omega) (by omega) HD).mono ?_
          rintro e w' ⟨rfl, rfl⟩
          go_wp2_with (at_builtin; go_loud (refine wpList_append_own _ rfl _ _ 23 rfl w.heap.size 3 i0 (.int .i64 0) 1 8 Try.underlying23 hi hz0 hz1 hz2 rfl (by decide) (.slice none 0 0) 0 [] rfl (ho0.alloc _) ⟨w.heap.size, 0, none⟩ 1 1 [.int .i64 48] rfl rfl new_one one_cell (by unfold maxLen; first | omega | (simp; omega)) (by first | omega | (simp; omega)) (by first | (simp; omega) | simp) ?_))
          intro v' w1 hown' hgrow _
          have ho1 := OwnInts.snoc (zs := []) hown'
          have hb1 := below_append hb0 (Nat.le_refl _) ho0 hgrow
          clear hown' hgrow ho0 hb0
          have hs1 := hb1.size
          go_wp2_with fail
          go_loopw [7, 9] (fun v i wr => ∃ k : Nat, a ≤ k ∧ k ≤ b ∧ i = .int .i64 k ∧ OwnInts wr w.heap.size v ([48] ++ bodyC false (sub l a k)) ∧ Below w.heap.size w wr) (fun _ i _ => b - (intOf i).toNat)
          case atStart => exact ⟨a, Nat.le_refl _, by omega, rfl, by rw [sub_self]; exact (by simpa [bodyC] using ho1), hb1⟩
          case round =>
            obtain ⟨k, hka, hkb, rfl, hown, hb⟩ := hrel
            have hsw := hb.size
            by_cases hlt : k < b
            · have hls : k < s.size := by omega
              obtain ⟨h2, hbk⟩ := HT.out.2 k hls
              have hlet : letB (s[k]).toNat = true := HA.out k hls hka hlt
              have HLt := Lib.hid hlet
              have hn26 := letNum_lt hlet
              obtain ⟨n, hn⟩ : ∃ n, letNum (s[k]).toNat = n := ⟨_, rfl⟩
              rw [hn] at hn26
              have HN := Lib.hid hn
              obtain ⟨z, hz⟩ : ∃ z, letL.getD n 0 = z := ⟨_, rfl⟩
              have HZ := Lib.hid hz
              have hlc : letC (s[k]) = z := by rw [letC, hn, hz]
              have hbl : ([48] ++ bodyC false (sub l a k)).length ≤ 2 + 2 * (k - a) := by
                rw [List.length_append]
                have h1 := body_len false (sub l a k)
                rw [sub_length (by have := HT.out.1; omega)] at h1
                have h3 : ([48] : List Int).length ≤ 2 := by decide
                omega
              cases hcap : capB (s[k]).toNat with
              | false =>
                have HC := Lib.hid hcap
                have hS : Hid ([48] ++ bodyC false (sub l a (k + 1)) = ([48] ++ bodyC false (sub l a k)) ++ [z]) := by
                  show _ = _
                  rw [sub_succ hka h2, body_snoc, hbk, oneC, hcap, hlc]; simp
                obtain ⟨acc, hacc⟩ : ∃ acc, [48] ++ bodyC false (sub l a k) = acc := ⟨_, rfl⟩
                rw [hacc] at hown hS hbl
                clear hlet hn hz hlc hcap hacc hbk
                go_wp2_with fail
                refine (i_isCapital_b _ false _ HC).mono ?_
                rintro e w' ⟨rfl, rfl⟩
                go_wp2_with fail
                refine (i_letterNumber _ n _ HLt HN).mono ?_
                rintro e w' ⟨rfl, rfl⟩
                go_wp2_with fail
                refine (i_letterCell_at n z _ hn26 HZ).mono ?_
                rintro e w' ⟨rfl, rfl⟩
                go_wp2_with (at_builtin; go_loud (refine wpList_append_own _ rfl _ _ 23 rfl w.heap.size 3 i0 (.int .i64 0) 1 8 Try.underlying23 hi hz0 hz1 hz2 rfl (by decide) _ _ _ rfl (hown.alloc _) ⟨wr.heap.size, 0, none⟩ 1 1 [.int .i64 z] rfl rfl new_one one_cell (by unfold maxLen; first | omega | (simp; omega)) (by first | omega | (simp; omega)) (by first | (simp; omega) | simp) ?_))
                intro v' w1 hown' hgrow _
                have R1 := OwnInts.snoc hown'
                have R2 := below_append hb hsw hown hgrow
                clear hown' hgrow hown hb
                go_wp2
                go_roundw
                case rel => exact ⟨k + 1, by omega, by omega, by go_num, by rw [hS.out]; exact R1, R2⟩
                case measure => simp [intOf]; omega
              | true =>
                have HC := Lib.hid hcap
                have hS : Hid ([48] ++ bodyC false (sub l a (k + 1)) = (([48] ++ bodyC false (sub l a k)) ++ [32]) ++ [z]) := by
                  show _ = _
                  rw [sub_succ hka h2, body_snoc, hbk, oneC, hcap, hlc]; simp
                obtain ⟨acc, hacc⟩ : ∃ acc, [48] ++ bodyC false (sub l a k) = acc := ⟨_, rfl⟩
                rw [hacc] at hown hS hbl
                clear hlet hn hz hlc hcap hacc hbk
                go_wp2_with fail
                refine (i_isCapital_b _ true _ HC).mono ?_
                rintro e w' ⟨rfl, rfl⟩
                go_wp2_with (at_builtin; go_loud (refine wpList_append_own _ rfl _ _ 23 rfl w.heap.size 3 i0 (.int .i64 0) 1 8 Try.underlying23 hi hz0 hz1 hz2 rfl (by decide) _ _ _ rfl (hown.alloc _) ⟨wr.heap.size, 0, none⟩ 1 1 [.int .i64 32] rfl rfl new_one one_cell (by unfold maxLen; first | omega | (simp; omega)) (by first | omega | (simp; omega)) (by first | (simp; omega) | simp) ?_))
                intro v' w1 hown' hgrow _
                have hown1 := OwnInts.snoc hown'
                have hb1 := below_append hb hsw hown hgrow
                clear hown' hgrow hown hb
                have hsw1 := hb1.size
                have hbl1 : (acc ++ [32]).length ≤ 3 + 2 * (k - a) := by simp; omega
                obtain ⟨acc1, hacc1⟩ : ∃ acc1, acc ++ [32] = acc1 := ⟨_, rfl⟩
                rw [hacc1] at hown1 hS hbl1
                clear hacc1
                go_wp2_with fail
                refine (i_letterNumber _ n _ HLt HN).mono ?_
                rintro e w' ⟨rfl, rfl⟩
                go_wp2_with fail
                refine (i_letterCell_at n z _ hn26 HZ).mono ?_
                rintro e w' ⟨rfl, rfl⟩
                go_wp2_with (at_builtin; go_loud (refine wpList_append_own _ rfl _ _ 23 rfl w.heap.size 3 i0 (.int .i64 0) 1 8 Try.underlying23 hi hz0 hz1 hz2 rfl (by decide) _ _ _ rfl (hown1.alloc _) ⟨w1.heap.size, 0, none⟩ 1 1 [.int .i64 z] rfl rfl new_one one_cell (by unfold maxLen; first | omega | (simp; omega)) (by first | omega | (simp; omega)) (by first | (simp; omega) | simp) ?_))
                intro v' w2 hown' hgrow _
                have R1 := OwnInts.snoc hown'
                have R2 := below_append hb1 hsw1 hown1 hgrow
                clear hown' hgrow hown1 hb1
                go_wp2
                go_roundw
                case rel => exact ⟨k + 1, by omega, by omega, by go_num, by rw [hS.out]; exact R1, R2⟩
                case measure => simp [intOf]; omega
            · go_wp2
              obtain rfl : k = b := by omega
              obtain ⟨_, _, _, hvv⟩ := (show ∃ a n c, _ = Value.slice a n c from (by rcases hown.2 with ⟨h, _⟩ | ⟨g, cap, _, h, _⟩ <;> exact ⟨_, _, _, h⟩))
              go_ret
              exact ⟨_, rfl, by rw [HR.out]; exact hown, hb, _, _, _, hvv⟩
        | false =>
          have HR : Hid (runC (sub l a b) false = [] ++ bodyC false (sub l a b)) := by show _ = _; rw [← hd, hRC, hW, headC, hd]; simp
          have HD := Lib.hid hd
          clear hT hA hba hhd hla hna hRC hsm hW hd
          have ho0 := OwnInts.nil w w.heap.size
          have hb0 := Below.refl w.heap.size w
          go_enter Try.func60, Try.ntmps60
          go_wp2_with fail
          refine (i_allCapital s l a b false _ HT.out (by omega) (by omega) h1 HW).mono ?_
          rintro e w' ⟨rfl, rfl⟩
          go_wp2_with fail
          refine (i_isSmall_b _ true _ HS).mono ?_
          rintro e w' ⟨rfl, rfl⟩
          go_wp2_with fail
          refine (i_letterNumber _ na _ HLa HNa).mono ?_
          rintro e w' ⟨rfl, rfl⟩
          go_wp2_with fail
          refine (i_digitBefore s l a false _ HT.out (by omega) (by omega) HD).mono ?_
          rintro e w' ⟨rfl, rfl⟩
          go_wp2_with fail
          go_loopw [7, 9] (fun v i wr => ∃ k : Nat, a ≤ k ∧ k ≤ b ∧ i = .int .i64 k ∧ OwnInts wr w.heap.size v ([] ++ bodyC false (sub l a k)) ∧ Below w.heap.size w wr) (fun _ i _ => b - (intOf i).toNat)
          case atStart => exact ⟨a, Nat.le_refl _, by omega, rfl, by rw [sub_self]; exact (by simpa [bodyC] using ho0), hb0⟩
          case round =>
            obtain ⟨k, hka, hkb, rfl, hown, hb⟩ := hrel
            have hsw := hb.size
            by_cases hlt : k < b
            · have hls : k < s.size := by omega
              obtain ⟨h2, hbk⟩ := HT.out.2 k hls
              have hlet : letB (s[k]).toNat = true := HA.out k hls hka hlt
              have HLt := Lib.hid hlet
              have hn26 := letNum_lt hlet
              obtain ⟨n, hn⟩ : ∃ n, letNum (s[k]).toNat = n := ⟨_, rfl⟩
              rw [hn] at hn26
              have HN := Lib.hid hn
              obtain ⟨z, hz⟩ : ∃ z, letL.getD n 0 = z := ⟨_, rfl⟩
              have HZ := Lib.hid hz
              have hlc : letC (s[k]) = z := by rw [letC, hn, hz]
              have hbl : ([] ++ bodyC false (sub l a k)).length ≤ 2 + 2 * (k - a) := by
                rw [List.length_append]
                have h1 := body_len false (sub l a k)
                rw [sub_length (by have := HT.out.1; omega)] at h1
                have h3 : ([] : List Int).length ≤ 2 := by decide
                omega
              cases hcap : capB (s[k]).toNat with
              | false =>
                have HC := Lib.hid hcap
                have hS : Hid ([] ++ bodyC false (sub l a (k + 1)) = ([] ++ bodyC false (sub l a k)) ++ [z]) := by
                  show _ = _
                  rw [sub_succ hka h2, body_snoc, hbk, oneC, hcap, hlc]; simp
                obtain ⟨acc, hacc⟩ : ∃ acc, [] ++ bodyC false (sub l a k) = acc := ⟨_, rfl⟩
                rw [hacc] at hown hS hbl
                clear hlet hn hz hlc hcap hacc hbk
                go_wp2_with fail
                refine (i_isCapital_b _ false _ HC).mono ?_
                rintro e w' ⟨rfl, rfl⟩
                go_wp2_with fail
                refine (i_letterNumber _ n _ HLt HN).mono ?_
                rintro e w' ⟨rfl, rfl⟩
                go_wp2_with fail
                refine (i_letterCell_at n z _ hn26 HZ).mono ?_
                rintro e w' ⟨rfl, rfl⟩
                go_wp2_with (at_builtin; go_loud (refine wpList_append_own _ rfl _ _ 23 rfl w.heap.size 3 i0 (.int .i64 0) 1 8 Try.underlying23 hi hz0 hz1 hz2 rfl (by decide) _ _ _ rfl (hown.alloc _) ⟨wr.heap.size, 0, none⟩ 1 1 [.int .i64 z] rfl rfl new_one one_cell (by unfold maxLen; first | omega | (simp; omega)) (by first | omega | (simp; omega)) (by first | (simp; omega) | simp) ?_))
                intro v' w1 hown' hgrow _
                have R1 := OwnInts.snoc hown'
                have R2 := below_append hb hsw hown hgrow
                clear hown' hgrow hown hb
                go_wp2
                go_roundw
                case rel => exact ⟨k + 1, by omega, by omega, by go_num, by rw [hS.out]; exact R1, R2⟩
                case measure => simp [intOf]; omega
              | true =>
                have HC := Lib.hid hcap
                have hS : Hid ([] ++ bodyC false (sub l a (k + 1)) = (([] ++ bodyC false (sub l a k)) ++ [32]) ++ [z]) := by
                  show _ = _
                  rw [sub_succ hka h2, body_snoc, hbk, oneC, hcap, hlc]; simp
                obtain ⟨acc, hacc⟩ : ∃ acc, [] ++ bodyC false (sub l a k) = acc := ⟨_, rfl⟩
                rw [hacc] at hown hS hbl
                clear hlet hn hz hlc hcap hacc hbk
                go_wp2_with fail
                refine (i_isCapital_b _ true _ HC).mono ?_
                rintro e w' ⟨rfl, rfl⟩
                go_wp2_with (at_builtin; go_loud (refine wpList_append_own _ rfl _ _ 23 rfl w.heap.size 3 i0 (.int .i64 0) 1 8 Try.underlying23 hi hz0 hz1 hz2 rfl (by decide) _ _ _ rfl (hown.alloc _) ⟨wr.heap.size, 0, none⟩ 1 1 [.int .i64 32] rfl rfl new_one one_cell (by unfold maxLen; first | omega | (simp; omega)) (by first | omega | (simp; omega)) (by first | (simp; omega) | simp) ?_))
                intro v' w1 hown' hgrow _
                have hown1 := OwnInts.snoc hown'
                have hb1 := below_append hb hsw hown hgrow
                clear hown' hgrow hown hb
                have hsw1 := hb1.size
                have hbl1 : (acc ++ [32]).length ≤ 3 + 2 * (k - a) := by simp; omega
                obtain ⟨acc1, hacc1⟩ : ∃ acc1, acc ++ [32] = acc1 := ⟨_, rfl⟩
                rw [hacc1] at hown1 hS hbl1
                clear hacc1
                go_wp2_with fail
                refine (i_letterNumber _ n _ HLt HN).mono ?_
                rintro e w' ⟨rfl, rfl⟩
                go_wp2_with fail
                refine (i_letterCell_at n z _ hn26 HZ).mono ?_
                rintro e w' ⟨rfl, rfl⟩
                go_wp2_with (at_builtin; go_loud (refine wpList_append_own _ rfl _ _ 23 rfl w.heap.size 3 i0 (.int .i64 0) 1 8 Try.underlying23 hi hz0 hz1 hz2 rfl (by decide) _ _ _ rfl (hown1.alloc _) ⟨w1.heap.size, 0, none⟩ 1 1 [.int .i64 z] rfl rfl new_one one_cell (by unfold maxLen; first | omega | (simp; omega)) (by first | omega | (simp; omega)) (by first | (simp; omega) | simp) ?_))
                intro v' w2 hown' hgrow _
                have R1 := OwnInts.snoc hown'
                have R2 := below_append hb1 hsw1 hown1 hgrow
                clear hown' hgrow hown1 hb1
                go_wp2
                go_roundw
                case rel => exact ⟨k + 1, by omega, by omega, by go_num, by rw [hS.out]; exact R1, R2⟩
                case measure => simp [intOf]; omega
            · go_wp2
              obtain rfl : k = b := by omega
              obtain ⟨_, _, _, hvv⟩ := (show ∃ a n c, _ = Value.slice a n c from (by rcases hown.2 with ⟨h, _⟩ | ⟨g, cap, _, h, _⟩ <;> exact ⟨_, _, _, h⟩))
              go_ret
              exact ⟨_, rfl, by rw [HR.out]; exact hown, hb, _, _, _, hvv⟩
      · have HR : Hid (runC (sub l a b) (dB l a) = [] ++ bodyC false (sub l a b)) := by show _ = _; rw [hRC, hW, headC, hna, decide_eq_false hn10]; simp
        have d10 : decide ((na : Int) < 10) = false := decide_eq_false (by omega)
        clear hT hA hba hhd hla hna hRC hsm hW
        have ho0 := OwnInts.nil w w.heap.size
        have hb0 := Below.refl w.heap.size w
        go_enter Try.func60, Try.ntmps60
        go_wp2_with fail
        refine (i_allCapital s l a b false _ HT.out (by omega) (by omega) h1 HW).mono ?_
        rintro e w' ⟨rfl, rfl⟩
        go_wp2_with fail
        refine (i_isSmall_b _ true _ HS).mono ?_
        rintro e w' ⟨rfl, rfl⟩
        go_wp2_with fail
        refine (i_letterNumber _ na _ HLa HNa).mono ?_
        rintro e w' ⟨rfl, rfl⟩
        go_wp2_with fail
        go_loopw [7, 9] (fun v i wr => ∃ k : Nat, a ≤ k ∧ k ≤ b ∧ i = .int .i64 k ∧ OwnInts wr w.heap.size v ([] ++ bodyC false (sub l a k)) ∧ Below w.heap.size w wr) (fun _ i _ => b - (intOf i).toNat)
        case atStart => exact ⟨a, Nat.le_refl _, by omega, rfl, by rw [sub_self]; exact (by simpa [bodyC] using ho0), hb0⟩
        case round =>
          obtain ⟨k, hka, hkb, rfl, hown, hb⟩ := hrel
          have hsw := hb.size
          by_cases hlt : k < b
          · have hls : k < s.size := by omega
            obtain ⟨h2, hbk⟩ := HT.out.2 k hls
            have hlet : letB (s[k]).toNat = true := HA.out k hls hka hlt
            have HLt := Lib.hid hlet
            have hn26 := letNum_lt hlet
            obtain ⟨n, hn⟩ : ∃ n, letNum (s[k]).toNat = n := ⟨_, rfl⟩
            rw [hn] at hn26
            have HN := Lib.hid hn
            obtain ⟨z, hz⟩ : ∃ z, letL.getD n 0 = z := ⟨_, rfl⟩
            have HZ := Lib.hid hz
            have hlc : letC (s[k]) = z := by rw [letC, hn, hz]
            have hbl : ([] ++ bodyC false (sub l a k)).length ≤ 2 + 2 * (k - a) := by
              rw [List.length_append]
              have h1 := body_len false (sub l a k)
              rw [sub_length (by have := HT.out.1; omega)] at h1
              have h3 : ([] : List Int).length ≤ 2 := by decide
              omega
            cases hcap : capB (s[k]).toNat with
            | false =>
              have HC := Lib.hid hcap
              have hS : Hid ([] ++ bodyC false (sub l a (k + 1)) = ([] ++ bodyC false (sub l a k)) ++ [z]) := by
                show _ = _
                rw [sub_succ hka h2, body_snoc, hbk, oneC, hcap, hlc]; simp
              obtain ⟨acc, hacc⟩ : ∃ acc, [] ++ bodyC false (sub l a k) = acc := ⟨_, rfl⟩
              rw [hacc] at hown hS hbl
              clear hlet hn hz hlc hcap hacc hbk
              go_wp2_with fail
              refine (i_isCapital_b _ false _ HC).mono ?_
              rintro e w' ⟨rfl, rfl⟩
              go_wp2_with fail
              refine (i_letterNumber _ n _ HLt HN).mono ?_
              rintro e w' ⟨rfl, rfl⟩
              go_wp2_with fail
              refine (i_letterCell_at n z _ hn26 HZ).mono ?_
              rintro e w' ⟨rfl, rfl⟩
              go_wp2_with (at_builtin; go_loud (refine wpList_append_own _ rfl _ _ 23 rfl w.heap.size 3 i0 (.int .i64 0) 1 8 Try.underlying23 hi hz0 hz1 hz2 rfl (by decide) _ _ _ rfl (hown.alloc _) ⟨wr.heap.size, 0, none⟩ 1 1 [.int .i64 z] rfl rfl new_one one_cell (by unfold maxLen; first | omega | (simp; omega)) (by first | omega | (simp; omega)) (by first | (simp; omega) | simp) ?_))
              intro v' w1 hown' hgrow _
              have R1 := OwnInts.snoc hown'
              have R2 := below_append hb hsw hown hgrow
              clear hown' hgrow hown hb
              go_wp2
              go_roundw
              case rel => exact ⟨k + 1, by omega, by omega, by go_num, by rw [hS.out]; exact R1, R2⟩
              case measure => simp [intOf]; omega
            | true =>
              have HC := Lib.hid hcap
              have hS : Hid ([] ++ bodyC false (sub l a (k + 1)) = (([] ++ bodyC false (sub l a k)) ++ [32]) ++ [z]) := by
                show _ = _
                rw [sub_succ hka h2, body_snoc, hbk, oneC, hcap, hlc]; simp
              obtain ⟨acc, hacc⟩ : ∃ acc, [] ++ bodyC false (sub l a k) = acc := ⟨_, rfl⟩
              rw [hacc] at hown hS hbl
              clear hlet hn hz hlc hcap hacc hbk
              go_wp2_with fail
              refine (i_isCapital_b _ true _ HC).mono ?_
              rintro e w' ⟨rfl, rfl⟩
              go_wp2_with (at_builtin; go_loud (refine wpList_append_own _ rfl _ _ 23 rfl w.heap.size 3 i0 (.int .i64 0) 1 8 Try.underlying23 hi hz0 hz1 hz2 rfl (by decide) _ _ _ rfl (hown.alloc _) ⟨wr.heap.size, 0, none⟩ 1 1 [.int .i64 32] rfl rfl new_one one_cell (by unfold maxLen; first | omega | (simp; omega)) (by first | omega | (simp; omega)) (by first | (simp; omega) | simp) ?_))
              intro v' w1 hown' hgrow _
              have hown1 := OwnInts.snoc hown'
              have hb1 := below_append hb hsw hown hgrow
              clear hown' hgrow hown hb
              have hsw1 := hb1.size
              have hbl1 : (acc ++ [32]).length ≤ 3 + 2 * (k - a) := by simp; omega
              obtain ⟨acc1, hacc1⟩ : ∃ acc1, acc ++ [32] = acc1 := ⟨_, rfl⟩
              rw [hacc1] at hown1 hS hbl1
              clear hacc1
              go_wp2_with fail
              refine (i_letterNumber _ n _ HLt HN).mono ?_
              rintro e w' ⟨rfl, rfl⟩
              go_wp2_with fail
              refine (i_letterCell_at n z _ hn26 HZ).mono ?_
              rintro e w' ⟨rfl, rfl⟩
              go_wp2_with (at_builtin; go_loud (refine wpList_append_own _ rfl _ _ 23 rfl w.heap.size 3 i0 (.int .i64 0) 1 8 Try.underlying23 hi hz0 hz1 hz2 rfl (by decide) _ _ _ rfl (hown1.alloc _) ⟨w1.heap.size, 0, none⟩ 1 1 [.int .i64 z] rfl rfl new_one one_cell (by unfold maxLen; first | omega | (simp; omega)) (by first | omega | (simp; omega)) (by first | (simp; omega) | simp) ?_))
              intro v' w2 hown' hgrow _
              have R1 := OwnInts.snoc hown'
              have R2 := below_append hb1 hsw1 hown1 hgrow
              clear hown' hgrow hown1 hb1
              go_wp2
              go_roundw
              case rel => exact ⟨k + 1, by omega, by omega, by go_num, by rw [hS.out]; exact R1, R2⟩
              case measure => simp [intOf]; omega
          · go_wp2
            obtain rfl : k = b := by omega
            obtain ⟨_, _, _, hvv⟩ := (show ∃ a n c, _ = Value.slice a n c from (by rcases hown.2 with ⟨h, _⟩ | ⟨g, cap, _, h, _⟩ <;> exact ⟨_, _, _, h⟩))
            go_ret
            exact ⟨_, rfl, by rw [HR.out]; exact hown, hb, _, _, _, hvv⟩
end Go.Proofs.Ytjedkmhmkipkdaa
