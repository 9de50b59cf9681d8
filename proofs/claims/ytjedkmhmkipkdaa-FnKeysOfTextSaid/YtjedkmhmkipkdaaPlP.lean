
/- PlainCells in the program. -/
import Derived.Test.YtjedkmhmkipkdaaPlR
import Derived.Test.YtjedkmhmkipkdaaPlC
import Derived.Test.YtjedkmhmkipkdaaVTB
namespace Go.Proofs.Ytjedkmhmkipkdaa
open Go.RowKit

theorem oneC_len (wh : Bool) (b : UInt8) : 1 ≤ (oneC wh b).length := by unfold oneC; split <;> simp
theorem runC_len {l : List UInt8} {a b : Nat} (d : Bool) (h : a < b) (hb : b ≤ l.length) : 1 ≤ (runC (sub l a b) d).length ∧ (runC (sub l a b) d).length ≤ 4 * (b - a) := by
  have h1 := body_len (wholeB (sub l a b)) (sub l a b)
  rw [sub_length hb] at h1
  have h2 : (headC (wholeB (sub l a b)) d ((sub l a b).headD 0).toNat).length ≤ 3 := by unfold headC; split <;> split <;> simp
  have h3 : 1 ≤ (bodyC (wholeB (sub l a b)) (sub l a b)).length := by
    cases hp : sub l a b with
    | nil => have := sub_length hb (a := a); rw [hp] at this; simp at this; omega
    | cons x p =>
      have := oneC_len (wholeB (x :: p)) x
      simp [bodyC]; omega
  rw [runC, List.length_append]
  refine ⟨by omega, ?_⟩
  by_cases hw : wholeB (sub l a b) = true
  · have h4 : 2 ≤ b - a := by
      have := hw
      rw [wholeB, Bool.and_eq_true, sub_length hb] at this
      exact of_decide_eq_true this.2
    omega
  · have h5 : (headC (wholeB (sub l a b)) d ((sub l a b).headD 0).toNat).length ≤ 1 := by
      rw [Bool.not_eq_true] at hw
      rw [hw]
      unfold headC
      rw [if_neg (by simp), List.nil_append]
      split <;> simp
    omega
theorem OwnInts.addAll {w : World} {base N : Nat} {v : Value} {xs ys : List Int} (h : w.ownsRow base 3 1 v N (ints xs ++ ints ys)) (hN : N = xs.length + ys.length) : OwnInts w base v (xs ++ ys) := by
  subst hN
  unfold OwnInts
  rw [show ints (xs ++ ys) = ints xs ++ ints ys from by simp [ints], List.length_append]
  exact h
theorem ints_oneCell2 : ∀ (zs : List Int), ∀ u ∈ ints zs, u.oneCell' = true := by
  intro zs u hu
  simp [ints] at hu
  obtain ⟨z, _, rfl⟩ := hu
  rfl
def CellsNil (w : World) (e : Ending) (w' : World) : Prop := e = .returned (.slice none 0 0) ∧ Below w.heap.size w w'

theorem keptP {p : Prop} (h : p) : Hid p := h
/-- the cells of the chunk from k on -/
def ck (l : List UInt8) (k : Nat) : List Int := if letB (l.getD k 0).toNat then runC (sub l k (re l k)) (dB l k) else othC (l.getD k 0) (dB l k)
theorem ck_let {l : List UInt8} {k : Nat} (h : k < l.length) (hb : letB (l[k]).toNat = true) : ce l k = re l k ∧ ck l k = runC (sub l k (re l k)) (dB l k) := by
  rw [ce, ck, getD_at h, hb, if_pos rfl, if_pos rfl]; exact ⟨rfl, rfl⟩
theorem ck_oth {l : List UInt8} {k : Nat} (h : k < l.length) (hb : letB (l[k]).toNat = false) : ce l k = k + 1 ∧ ck l k = othC l[k] (dB l k) := by
  rw [ce, ck, getD_at h, hb, if_neg (by simp), if_neg (by simp)]; exact ⟨rfl, rfl⟩
theorem rest_ck {l : List UInt8} {k : Nat} (h : k < l.length) : restC l k = ck l k ++ restC l (ce l k) ∧ 1 ≤ (ck l k).length ∧ (ck l k).length ≤ 4 * (ce l k - k) := by
  cases hb : letB (l[k]).toNat with
  | true =>
    obtain ⟨e1, e2⟩ := ck_let h hb
    have hg := re_gt h hb
    have hl := re_le (l := l) (k := k) (by omega)
    obtain ⟨h1, h2⟩ := runC_len (l := l) (dB l k) hg hl
    rw [e1, e2]
    exact ⟨rest_run h hb, h1, h2⟩
  | false =>
    obtain ⟨e1, e2⟩ := ck_oth h hb
    have h3 : 1 ≤ (othC l[k] (dB l k)).length ∧ (othC l[k] (dB l k)).length ≤ 2 := by unfold othC; split <;> simp
    rw [e1, e2]
    exact ⟨rest_oth h hb, h3.1, by omega⟩

set_option maxRecDepth 20000 in
set_option maxHeartbeats 4000000 in
theorem i_chunkCells (s : ByteArray) (l : List UInt8) (k e : Nat) (R : List Int) (w : World) (hT : Txt s l) (hs : s.size ≤ 60) (h0 : k < s.size) (he : Hid (ce l k = e)) (hC : Hid (ck l k = R)) :
    Calls Try.prog 48 #[.string s, .int .i64 k, .int .i64 e] w fun e' w' => CellsMade R w e' w' := by
  obtain ⟨i0, hi, hz0, hz1, hz2⟩ := info_parts infoInt
  have HT := Lib.hid hT
  obtain ⟨h2, hbk⟩ := hT.2 k h0
  have hll := hT.1
  cases hlet : letB (s[k]).toNat with
  | true =>
    have HLt := Lib.hid hlet
    have hle : letB (l[k]).toNat = true := by rw [hbk]; exact hlet
    obtain ⟨e1, e2⟩ := ck_let h2 hle
    have her : re l k = e := by rw [← he.out, e1]
    have hke : k < e := by rw [← her]; exact re_gt h2 hle
    have hes : e ≤ s.size := by rw [← her, ← hll]; exact re_le (by omega)
    have HA : Hid (∀ q (h : q < s.size), k ≤ q → q < e → letB (s[q]).toNat = true) := by
      intro q h h3 h4
      obtain ⟨hq2, hq3⟩ := HT.out.2 q h
      rw [← hq3]
      exact re_let hq2 h3 (by rw [her]; exact h4)
    have HR : Hid (runC (sub l k e) (dB l k) = R) := by show _ = _; rw [← hC.out, e2, her]
    clear hlet hbk hle e1 e2 her hll hT h2
    go_enter Try.func48, Try.ntmps48
    go_wp2_with fail
    refine (i_isLetter_b _ true _ HLt).mono ?_
    rintro e' w' ⟨rfl, rfl⟩
    go_wp2_with fail
    refine (i_runCells s l k e _ HT.out (by omega) hke hes HA.out).mono ?_
    rintro e' w1 ⟨v1, rfl, ho1, hb1, a1, n1, c1, rfl⟩
    rw [HR.out] at ho1
    have FIN := keptP (And.intro ho1 hb1)
    clear ho1 hb1
    go_wp2
    go_ret
    exact ⟨_, rfl, FIN.out.1, FIN.out.2, _, _, _, rfl⟩
  | false =>
    have HLt := Lib.hid hlet
    obtain ⟨_, e2⟩ := ck_oth h2 (by rw [hbk]; exact hlet)
    rw [hbk] at e2
    obtain ⟨z, hz⟩ : ∃ z, charZ (s[k]).toNat = z := ⟨_, rfl⟩
    have HZ := Lib.hid hz
    have hown0 := OwnInts.nil w w.heap.size
    have hb0 := Below.refl w.heap.size w
    have hsw0 := Nat.le_refl w.heap.size
    cases hdg : digBt (s[k]).toNat with
    | false =>
      have HD : Hid (decide (48 ≤ (s[k]).toNat ∧ (s[k]).toNat ≤ 57) = false) := hdg
      have HO : Hid (R = [] ++ [z]) := by show _ = _; rw [← hC.out, e2, othC, hdg, hz]; rfl
      clear hlet hbk e2 hz hdg hll hT h2
      go_enter Try.func48, Try.ntmps48
      go_wp2_with fail
      refine (i_isLetter_b _ false _ HLt).mono ?_
      rintro e' w' ⟨rfl, rfl⟩
      go_wp2_with fail
      refine (i_isDigit_b _ false _ HD).mono ?_
      rintro e' w' ⟨rfl, rfl⟩
      go_wp2_with fail
      refine (i_charCell _ z _ HZ).mono ?_
      rintro e' w1 ⟨rfl, hb1⟩
      have hown1 := hown0.below hb1
      have hB1 := hb0.trans (hb1.mono hsw0)
      have hsz1 := hB1.size
      clear hown0 hb0 hb1
      go_wp2_with (at_builtin; go_loud (refine wpList_append_own _ rfl _ _ 23 rfl w.heap.size 3 i0 (.int .i64 0) 1 8 Try.underlying23 hi hz0 hz1 hz2 rfl (by decide) (.slice none 0 0) 0 [] rfl (hown1.alloc _) ⟨w1.heap.size, 0, none⟩ 1 1 [.int .i64 z] rfl rfl new_one one_cell (by unfold maxLen; first | omega | (simp; omega)) (by first | omega | (simp; omega)) (by first | (simp; omega) | simp) ?_))
      intro v' w2 hown' hgrow _
      have R1 := OwnInts.snoc (zs := []) hown'
      have R2 := below_append hB1 hsz1 hown1 hgrow
      clear hown' hgrow hown1 hB1
      obtain ⟨_, _, _, hvv⟩ := (show ∃ a n c, v' = Value.slice a n c from (by rcases R1.2 with ⟨h, _⟩ | ⟨g, cap, _, h, _⟩ <;> exact ⟨_, _, _, h⟩))
      have FIN := keptP (And.intro R1 (And.intro R2 hvv))
      clear R1 R2 hvv
      go_wp2
      go_ret
      exact ⟨_, rfl, by rw [HO.out]; exact FIN.out.1, FIN.out.2.1, _, _, _, FIN.out.2.2⟩
    | true =>
      have HD : Hid (decide (48 ≤ (s[k]).toNat ∧ (s[k]).toNat ≤ 57) = true) := hdg
      cases hd : dB l k with
      | true =>
        have HDB := Lib.hid hd
        have HO : Hid (R = [] ++ [z]) := by show _ = _; rw [← hC.out, e2, othC, hdg, hz, hd]; rfl
        clear hlet hbk e2 hz hdg hll hT h2 hd
        go_enter Try.func48, Try.ntmps48
        go_wp2_with fail
        refine (i_isLetter_b _ false _ HLt).mono ?_
        rintro e' w' ⟨rfl, rfl⟩
        go_wp2_with fail
        refine (i_isDigit_b _ true _ HD).mono ?_
        rintro e' w' ⟨rfl, rfl⟩
        go_wp2_with fail
        refine (i_digitBefore s l k true _ HT.out (by omega) (by omega) HDB).mono ?_
        rintro e' w' ⟨rfl, rfl⟩
        go_wp2_with fail
        refine (i_charCell _ z _ HZ).mono ?_
        rintro e' w1 ⟨rfl, hb1⟩
        have hown1 := hown0.below hb1
        have hB1 := hb0.trans (hb1.mono hsw0)
        have hsz1 := hB1.size
        clear hown0 hb0 hb1
        go_wp2_with (at_builtin; go_loud (refine wpList_append_own _ rfl _ _ 23 rfl w.heap.size 3 i0 (.int .i64 0) 1 8 Try.underlying23 hi hz0 hz1 hz2 rfl (by decide) (.slice none 0 0) 0 [] rfl (hown1.alloc _) ⟨w1.heap.size, 0, none⟩ 1 1 [.int .i64 z] rfl rfl new_one one_cell (by unfold maxLen; first | omega | (simp; omega)) (by first | omega | (simp; omega)) (by first | (simp; omega) | simp) ?_))
        intro v' w2 hown' hgrow _
        have R1 := OwnInts.snoc (zs := []) hown'
        have R2 := below_append hB1 hsz1 hown1 hgrow
        clear hown' hgrow hown1 hB1
        obtain ⟨_, _, _, hvv⟩ := (show ∃ a n c, v' = Value.slice a n c from (by rcases R1.2 with ⟨h, _⟩ | ⟨g, cap, _, h, _⟩ <;> exact ⟨_, _, _, h⟩))
        have FIN := keptP (And.intro R1 (And.intro R2 hvv))
        clear R1 R2 hvv
        go_wp2
        go_ret
        exact ⟨_, rfl, by rw [HO.out]; exact FIN.out.1, FIN.out.2.1, _, _, _, FIN.out.2.2⟩
      | false =>
        have HDB := Lib.hid hd
        have HO : Hid (R = ([] ++ [60]) ++ [z]) := by show _ = _; rw [← hC.out, e2, othC, hdg, hz, hd]; rfl
        clear hlet hbk e2 hz hdg hll hT h2 hd
        go_enter Try.func48, Try.ntmps48
        go_wp2_with fail
        refine (i_isLetter_b _ false _ HLt).mono ?_
        rintro e' w' ⟨rfl, rfl⟩
        go_wp2_with fail
        refine (i_isDigit_b _ true _ HD).mono ?_
        rintro e' w' ⟨rfl, rfl⟩
        go_wp2_with fail
        refine (i_digitBefore s l k false _ HT.out (by omega) (by omega) HDB).mono ?_
        rintro e' w' ⟨rfl, rfl⟩
        go_wp2_with (at_builtin; go_loud (refine wpList_append_own _ rfl _ _ 23 rfl w.heap.size 3 i0 (.int .i64 0) 1 8 Try.underlying23 hi hz0 hz1 hz2 rfl (by decide) (.slice none 0 0) 0 [] rfl (hown0.alloc _) ⟨w.heap.size, 0, none⟩ 1 1 [.int .i64 60] rfl rfl new_one one_cell (by unfold maxLen; first | omega | (simp; omega)) (by first | omega | (simp; omega)) (by first | (simp; omega) | simp) ?_))
        intro v0 w0 hownq hgrowq _
        have hownn := OwnInts.snoc (zs := []) hownq
        have hbb := below_append hb0 hsw0 hown0 hgrowq
        clear hownq hgrowq hown0 hb0 hsw0
        have hsw0 := hbb.size
        have hb0 := hbb
        obtain ⟨av, nv, cv, hvv⟩ := (show ∃ a n c, v0 = Value.slice a n c from (by rcases hownn.2 with ⟨h, _⟩ | ⟨g, cap, _, h, _⟩ <;> exact ⟨_, _, _, h⟩))
        subst hvv
        obtain ⟨acc0, ha0⟩ : ∃ acc0 : List Int, [] ++ [60] = acc0 := ⟨_, rfl⟩
        have hal0 : acc0.length ≤ 1 := by rw [← ha0]; simp
        have HO : Hid (R = acc0 ++ [z]) := by show _ = _; rw [← ha0]; exact HO.out
        rw [ha0] at hownn
        have hown0 := hownn
        clear hownn hbb ha0
        go_wp2_with fail
        refine (i_charCell _ z _ HZ).mono ?_
        rintro e' w1 ⟨rfl, hb1⟩
        have hown1 := hown0.below hb1
        have hB1 := hb0.trans (hb1.mono hsw0)
        have hsz1 := hB1.size
        clear hown0 hb0 hb1
        go_wp2_with (at_builtin; go_loud (refine wpList_append_own _ rfl _ _ 23 rfl w.heap.size 3 i0 (.int .i64 0) 1 8 Try.underlying23 hi hz0 hz1 hz2 rfl (by decide) _ _ _ rfl (hown1.alloc _) ⟨w1.heap.size, 0, none⟩ 1 1 [.int .i64 z] rfl rfl new_one one_cell (by unfold maxLen; first | omega | (simp; omega)) (by first | omega | (simp; omega)) (by first | (simp; omega) | simp) ?_))
        intro v' w2 hown' hgrow _
        have R1 := OwnInts.snoc  hown'
        have R2 := below_append hB1 hsz1 hown1 hgrow
        clear hown' hgrow hown1 hB1
        obtain ⟨_, _, _, hvv⟩ := (show ∃ a n c, v' = Value.slice a n c from (by rcases R1.2 with ⟨h, _⟩ | ⟨g, cap, _, h, _⟩ <;> exact ⟨_, _, _, h⟩))
        have FIN := keptP (And.intro R1 (And.intro R2 hvv))
        clear R1 R2 hvv
        go_wp2
        go_ret
        exact ⟨_, rfl, by rw [HO.out]; exact FIN.out.1, FIN.out.2.1, _, _, _, FIN.out.2.2⟩

set_option maxRecDepth 20000 in
set_option maxHeartbeats 4000000 in
theorem i_PlainCells (s : ByteArray) (l : List UInt8) (w : World) (hT : Txt s l) (hL : s.data.toList = l) (hv : ValidT l) :
    Calls Try.prog 28 #[.string s] w fun e w' => CellsMade (plainC l) w e w' := by
  obtain ⟨i0, hi, hz0, hz1, hz2⟩ := info_parts infoInt
  have HT := Lib.hid hT
  have hs60 : s.size ≤ 60 := by have := hv.1; have := hT.1; omega
  have HB : Hid (decide (ValidT s.data.toList) = true) := by show _ = _; rw [hL]; exact decide_eq_true hv
  clear hT hL hv
  go_enter Try.func28, Try.ntmps28
  go_wp2_with fail
  refine (i_ValidText_v s true _ (by omega) HB).mono ?_
  rintro e w0 ⟨rfl, hb0⟩
  go_wp2_with fail
  go_loopw [3, 4] (fun v i wr => ∃ (k : Nat) (acc : List Int), k ≤ s.size ∧ i = .int .i64 k ∧ OwnInts wr w.heap.size v acc ∧ acc.length ≤ 4 * k ∧ Hid (acc ++ restC l k = plainC l) ∧ Below w.heap.size w wr) (fun _ i _ => s.size - (intOf i).toNat)
  case atStart => exact ⟨0, [], by omega, rfl, OwnInts.nil _ _, by simp, rfl, hb0⟩
  case round =>
    clear hb0
    obtain ⟨k, acc, hk, rfl, hown, hal, hac, hb⟩ := hrel
    have hsw := hb.size
    by_cases hlt : k < s.size
    · have h2 : k < l.length := by rw [HT.out.1]; exact hlt
      have hll := HT.out.1
      obtain ⟨hrest, hr1, hr2⟩ := rest_ck h2
      obtain ⟨e, he⟩ : ∃ e, ce l k = e := ⟨_, rfl⟩
      obtain ⟨R, hR⟩ : ∃ R, ck l k = R := ⟨_, rfl⟩
      have hke : k < e := by rw [← he]; exact ce_gt h2
      have hes : e ≤ s.size := by rw [← he, ← hll]; exact ce_le h2
      have HE := Lib.hid he
      have HR := Lib.hid hR
      rw [he, hR] at hrest hr2
      rw [hR] at hr1
      have hac' : Hid ((acc ++ R) ++ restC l e = plainC l) := by show _ = _; rw [← hac.out, hrest]; simp
      clear he hrest hR hac hll h2
      go_wp2_with fail
      refine (i_chunkEnd s l k e _ HT.out (by omega) hlt HE).mono ?_
      rintro e' w' ⟨rfl, rfl⟩
      go_wp2_with fail
      refine (i_chunkCells s l k e R _ HT.out hs60 hlt HE HR).mono ?_
      rintro e' w1 ⟨v1, rfl, ho1, hb1, a1, n1, c1, rfl⟩
      have hn1 : Hid (R.length = n1) := by obtain ⟨_, _, h, _⟩ := ho1.at; injection h with _ h2; exact h2.symm
      have hsh : ∃ g, a1 = some ⟨g, 0, none⟩ := by
        rcases ho1.2 with ⟨_, hn⟩ | ⟨g, cap, cur, hv, _⟩
        · omega
        · injection hv with h1; exact ⟨g, h1⟩
      obtain ⟨g, rfl⟩ := hsh
      have hcells := ho1.cells (g := g) rfl
      have hown1 := hown.below hb1
      have hB1 := hb.trans (hb1.mono hsw)
      have hsz1 := hB1.size
      have hrl : Hid ((ints R).length = n1 * 1) := by show _ = _; rw [ints_length, hn1.out, Nat.mul_one]
      have hn1b : n1 ≤ 240 := by have := hn1.out; omega
      clear hown hb hb1 ho1
      go_wp2_with (at_builtin; go_loud (refine wpList_append_own _ rfl _ _ 23 rfl w.heap.size 3 i0 (.int .i64 0) 1 8 Try.underlying23 hi hz0 hz1 hz2 rfl (by decide) _ _ _ rfl hown1 ⟨g, 0, none⟩ n1 c1 (ints R) rfl hrl.out hcells (ints_oneCell2 R) (by unfold maxLen; omega) (by omega) (by omega) ?_))
      intro v' w2 hown' hgrow _
      have R1 := OwnInts.addAll hown' (by rw [hn1.out])
      have R2 : Below w.heap.size w w2 := hB1.grown hgrow hsz1 (fun q hq => (hown1.lt q hq).1)
      have hal' : (acc ++ R).length ≤ 4 * e := by rw [List.length_append]; omega
      clear hown' hgrow hown1 hB1 hcells
      go_wp2
      go_roundw
      case rel => exact ⟨e, acc ++ R, hes, rfl, R1, hal', hac', R2⟩
      case measure => simp [intOf]; omega
    · have hfin : Hid (acc = plainC l) := by show _ = _; rw [← hac.out, rest_end (by have := HT.out.1; omega)]; simp
      obtain ⟨_, _, _, hvv⟩ := (show ∃ a n c, _ = Value.slice a n c from (by rcases hown.2 with ⟨h, _⟩ | ⟨g, cap, _, h, _⟩ <;> exact ⟨_, _, _, h⟩))
      rw [hfin.out] at hown
      go_wp2
      go_ret
      exact ⟨_, rfl, hown, hb, _, _, _, hvv⟩
theorem i_PlainCells_no (s : ByteArray) (w : World) (hs : s.size ≤ 9223372036854775000) (hv : ¬ ValidT s.data.toList) :
    Calls Try.prog 28 #[.string s] w fun e w' => CellsNil w e w' := by
  have HB := Lib.hid (decide_eq_false hv)
  clear hv
  go_enter Try.func28, Try.ntmps28
  go_wp2_with fail
  refine (i_ValidText_v s false _ (by omega) HB).mono ?_
  rintro e w0 ⟨rfl, hb0⟩
  go_wp2
  go_ret
  exact ⟨rfl, hb0⟩
end Go.Proofs.Ytjedkmhmkipkdaa
