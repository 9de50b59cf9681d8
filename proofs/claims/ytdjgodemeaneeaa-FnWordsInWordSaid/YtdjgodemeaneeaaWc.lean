
/- The words of a text that are contracted: the list, and the program. -/
import Derived.Test.YtdjgodemeaneeaaWb
import Derived.Test.YtdjgodemeaneeaaPl
import Derived.Test.YtdjgodemeaneeaaVTB
import Derived.Test.YtdjgodemeaneeaaTbA
namespace Go.Proofs.Ytdjgodemeaneeaa
open Go.RowKit

/-- where the chunk from k on ends -/
def ce (l : List UInt8) (k : Nat) : Nat := if letB (l.getD k 0).toNat then re l k else k + 1
def isC (l : List UInt8) (k : Nat) : Bool := decide (WordB 16 (sub l k (ce l k))) && !dB l k
def wl : Nat → List UInt8 → Nat → List ByteArray
  | 0, _, _ => []
  | n + 1, l, k => if k < l.length then (if isC l k then [bs (sub l k (ce l k))] else []) ++ wl n l (ce l k) else []
def wordsL (l : List UInt8) : List ByteArray := if ValidT l then wl (l.length + 1) l 0 else []
theorem ce_gt {l : List UInt8} {k : Nat} (h : k < l.length) : k < ce l k := by
  unfold ce
  split
  · next hb =>
    rw [getD_at h] at hb
    exact re_gt h hb
  · omega
theorem ce_le {l : List UInt8} {k : Nat} (h : k < l.length) : ce l k ≤ l.length := by
  unfold ce
  split
  · exact re_le (by omega)
  · omega
theorem wl_any : ∀ (n m : Nat) (l : List UInt8) (k : Nat), l.length < n + k → l.length < m + k → wl n l k = wl m l k := by
  intro n
  induction n with
  | zero =>
    intro m l k h1 h2
    cases m with
    | zero => rfl
    | succ m => show [] = if k < l.length then _ else _; rw [if_neg (by omega)]
  | succ n ih =>
    intro m l k h1 h2
    cases m with
    | zero => show (if k < l.length then _ else _) = _; rw [if_neg (by omega)]; rfl
    | succ m =>
      show (if k < l.length then _ else _) = if k < l.length then _ else _
      by_cases h : k < l.length
      · rw [if_pos h, if_pos h]
        have := ce_gt h
        rw [ih m l (ce l k) (by omega) (by omega)]
      · rw [if_neg h, if_neg h]
/-- what is left from k on -/
def wrst (l : List UInt8) (k : Nat) : List ByteArray := wl (l.length + 1) l k
theorem wrst_end {l : List UInt8} {k : Nat} (h : l.length ≤ k) : wrst l k = [] := by
  show (if k < l.length then _ else _) = _
  rw [if_neg (by omega)]
theorem wrst_go {l : List UInt8} {k : Nat} (h : k < l.length) : wrst l k = (if isC l k then [bs (sub l k (ce l k))] else []) ++ wrst l (ce l k) := by
  show (if k < l.length then _ else _) = _
  rw [if_pos h]
  have := ce_gt h
  rw [wrst, wl_any l.length (l.length + 1) l (ce l k) (by omega) (by omega)]
theorem ext_bs {s : ByteArray} {l : List UInt8} (hL : s.data.toList = l) (a b : Nat) : s.extract a b = bs (sub l a b) := by
  rw [← bs_of (s.extract a b), extract_list, hL]

section SXWc
theorem i_chunkEnd (s : ByteArray) (l : List UInt8) (k e : Nat) (w : World) (hT : Txt s l) (hs : s.size ≤ 1000000) (h0 : k < s.size) (he : Hid (ce l k = e)) :
    Calls Try.prog 50 #[.string s, .int .i64 k] w fun e' w' => e' = .returned (.int .i64 e) ∧ w = w' := by
  have HT := Lib.hid hT
  obtain ⟨h2, hbk⟩ := hT.2 k h0
  have hd := getD_at h2
  rw [hbk] at hd
  cases hlet : letB (s[k]).toNat with
  | true =>
    have HL := Lib.hid hlet
    have HE : Hid (re l k = e) := by show _ = _; rw [← he.out, ce, hd, hlet, if_pos rfl]
    clear hlet hbk hd hT he
    go_enter Try.func50, Try.ntmps50
    go_wp2_with fail
    refine (i_isLetter_b _ true _ HL).mono ?_
    rintro e w' ⟨rfl, rfl⟩
    go_wp2_with fail
    refine (i_runEnd s l k e _ HT.out (by omega) (by omega) HE).mono ?_
    rintro e w' ⟨rfl, rfl⟩
    go_wp2
    go_ret
    exact ⟨rfl, rfl⟩
  | false =>
    have HL := Lib.hid hlet
    have HE : Hid (((k : Int) + 1) = (e : Int)) := by
      show _ = _
      have : k + 1 = e := by rw [← he.out, ce, hd, hlet, if_neg (by simp)]
      omega
    clear hlet hbk hd hT he
    go_enter Try.func50, Try.ntmps50
    go_wp2_with fail
    refine (i_isLetter_b _ false _ HL).mono ?_
    rintro e w' ⟨rfl, rfl⟩
    go_wp2
    go_ret
    exact ⟨by rw [← HE.out]; rfl, rfl⟩
theorem i_isWord_b (s : ByteArray) (b : Bool) (w : World) (hs : s.size ≤ 9223372036854775807) (hb : Hid (decide (WordB 16 s.data.toList) = b)) :
    Calls Try.prog 40 #[.string s] w fun e w' => e = .returned (.bool b) ∧ w = w' := by
  have := i_isWord s w hs
  rw [hb.out] at this
  exact this
theorem ext_le {s : ByteArray} {a b n : Nat} (hs : s.size ≤ n) : (s.extract a b).size ≤ n := by
  rw [ByteArray.size_extract]; omega
theorem i_isContracted (s : ByteArray) (l : List UInt8) (k e : Nat) (b : Bool) (w : World) (hT : Txt s l) (hL : s.data.toList = l) (hs : s.size ≤ 1000000) (h0 : k ≤ e) (h1 : e ≤ s.size) (hb : Hid ((decide (WordB 16 (sub l k e)) && !dB l k) = b)) :
    Calls Try.prog 51 #[.string s, .int .i64 k, .int .i64 e] w fun e' w' => e' = .returned (.bool b) ∧ w = w' := by
  have HT := Lib.hid hT
  have hx : (s.extract k e).data.toList = sub l k e := by rw [extract_list, hL]
  have hxs : (s.extract k e).size ≤ 1000000 := ext_le hs
  have b1 : (0 : Int) ≤ (k : Int) := by omega
  have b2 : (k : Int) ≤ (e : Int) := by omega
  have b3 : (e : Int) ≤ (s.size : Int) := by omega
  cases hw : decide (WordB 16 (sub l k e)) with
  | false =>
    have HW : Hid (decide (WordB 16 (s.extract k e).data.toList) = false) := by show _ = _; rw [hx]; exact hw
    have HB : Hid (b = false) := by show _ = _; rw [← hb.out, hw]; rfl
    clear hx hw hb hT hL
    go_enter Try.func51, Try.ntmps51
    go_wp2_with fail
    refine (i_isWord_b _ false _ (by omega) HW).mono ?_
    rintro e w' ⟨rfl, rfl⟩
    go_wp2
    go_ret
    exact ⟨by rw [HB.out]; rfl, rfl⟩
  | true =>
    have HW : Hid (decide (WordB 16 (s.extract k e).data.toList) = true) := by show _ = _; rw [hx]; exact hw
    obtain ⟨d, hd⟩ : ∃ d, dB l k = d := ⟨_, rfl⟩
    have HD := Lib.hid hd
    have HB : Hid (b = !d) := by show _ = _; rw [← hb.out, hw, hd]; rfl
    clear hx hw hb hT hL hd
    go_enter Try.func51, Try.ntmps51
    go_wp2_with fail
    refine (i_isWord_b _ true _ (by omega) HW).mono ?_
    rintro e w' ⟨rfl, rfl⟩
    go_wp2_with fail
    refine (i_digitBefore s l k d _ HT.out (by omega) (by omega) HD).mono ?_
    rintro e w' ⟨rfl, rfl⟩
    go_wp2
    go_ret
    exact ⟨by rw [HB.out]; rfl, rfl⟩
theorem new_st {w : World} {t : TypeId} {x : ByteArray} : (w.alloc (.cells #[.string x] t)).cell? ⟨w.heap.size, 0, none⟩ = some (.string x) := by simp
def TextsMade (P : List ByteArray) (w : World) (e : Ending) (w' : World) : Prop := ∃ v, e = .returned v ∧ OwnSt w' w.heap.size v P ∧ Below w.heap.size w w'
set_option maxHeartbeats 2000000 in
theorem i_WordsIn (s : ByteArray) (l : List UInt8) (w : World) (hL : s.data.toList = l) (hs : s.size ≤ 1048576) :
    Calls Try.prog 19 #[.string s] w fun e w' => TextsMade (wordsL l) w e w' := by
  have HL := Lib.hid hL
  have HT : Hid (Txt s l) := by have := Txt.of s; rw [hL] at this; exact this
  cases hv : decide (ValidT l) with
  | false =>
    have HV : Hid (decide (ValidT s.data.toList) = false) := by show _ = _; rw [hL]; exact hv
    have HR : Hid (wordsL l = []) := by show _ = _; rw [wordsL, if_neg (of_decide_eq_false hv)]
    clear hL hv
    go_enter Try.func19, Try.ntmps19
    go_wp2_with fail
    refine (i_ValidText_v s false _ (by omega) HV).mono ?_
    rintro e w2 ⟨rfl, hb2⟩
    go_wp2
    go_ret
    exact ⟨_, rfl, by rw [HR.out]; exact OwnSt.nil _ _, hb2⟩
  | true =>
    have hval : ValidT l := of_decide_eq_true hv
    have HV : Hid (decide (ValidT s.data.toList) = true) := by show _ = _; rw [hL]; exact hv
    have hs60 : s.size ≤ 60 := by have := hval.1; have := HT.out.1; omega
    have HR : Hid (wordsL l = [] ++ wrst l 0) := by show _ = _; rw [wordsL, if_pos hval]; rfl
    obtain ⟨R, hR⟩ : ∃ R, wordsL l = R := ⟨_, rfl⟩
    rw [hR] at HR
    rw [hR]
    clear hL hv hval hR
    go_enter Try.func19, Try.ntmps19
    go_wp2_with fail
    refine (i_ValidText_v s true _ (by omega) HV).mono ?_
    rintro e w2 ⟨rfl, hb2⟩
    go_wp2
    go_loopw [3, 4] (fun v i wr => ∃ (k : Nat) (P : List ByteArray), k ≤ s.size ∧ i = .int .i64 k ∧ P.length ≤ k ∧ OwnSt wr w.heap.size v P ∧ Hid (R = P ++ wrst l k) ∧ Below w.heap.size w wr) (fun _ i _ => s.size - (intOf i).toNat)
    case atStart => exact ⟨0, [], by omega, rfl, by simp, OwnSt.nil _ _, HR, hb2⟩
    case round =>
      obtain ⟨k, P, hk, rfl, hPk, hO, hRk, hB⟩ := hrel
      obtain ⟨wo, rfl⟩ : ∃ wo, wo = wr := ⟨wr, rfl⟩
      by_cases hlt : k < s.size
      · have hll : k < l.length := by have := HT.out.1; omega
        obtain ⟨e, he⟩ : ∃ e, ce l k = e := ⟨_, rfl⟩
        have HE := Lib.hid he
        have hke : k < e := by rw [← he]; exact ce_gt hll
        have hes : e ≤ s.size := by rw [← he, ← HT.out.1]; exact ce_le hll
        obtain ⟨b, hb⟩ : ∃ b, isC l k = b := ⟨_, rfl⟩
        have hb' := hb
        rw [isC, he] at hb'
        have HBC := Lib.hid hb'
        have hgo := wrst_go hll
        rw [he, hb] at hgo
        clear hb hb' he hll
        have HO := keptS hO
        have HB := keptS hB
        have hsz := hB.size
        clear hO hB
        cases b with
        | false =>
          have HRn : Hid (R = P ++ wrst l e) := by show _ = _; rw [hRk.out, hgo]; simp
          clear hgo hRk
          go_wp2_with fail
          refine (i_chunkEnd s l k e _ HT.out (by omega) hlt HE).mono ?_
          rintro e' w' ⟨rfl, rfl⟩
          go_wp2_with fail
          refine (i_isContracted s l k e false _ HT.out HL.out (by omega) (by omega) hes HBC).mono ?_
          rintro e' w' ⟨rfl, rfl⟩
          go_wp2
          go_roundw
          case rel => exact ⟨e, P, hes, rfl, by omega, HO.out, HRn, HB.out⟩
          case measure => simp [intOf]; omega
        | true =>
          have HX : Hid (s.extract k e = bs (sub l k e)) := ext_bs HL.out k e
          have HRn : Hid (R = (P ++ [s.extract k e]) ++ wrst l e) := by show _ = _; rw [hRk.out, hgo, HX.out]; simp
          have b1 : (0 : Int) ≤ (k : Int) := by omega
          have b2 : (k : Int) ≤ (e : Int) := by omega
          have b3 : (e : Int) ≤ (s.size : Int) := by omega
          clear hgo hRk
          go_wp2_with fail
          refine (i_chunkEnd s l k e _ HT.out (by omega) hlt HE).mono ?_
          rintro e' w' ⟨rfl, rfl⟩
          go_wp2_with fail
          refine (i_isContracted s l k e true _ HT.out HL.out (by omega) (by omega) hes HBC).mono ?_
          rintro e' w' ⟨rfl, rfl⟩
          go_wp2_with (at_builtin; go_loud (refine wpList_append_st rfl _ _ rfl w.heap.size wo.heap.size (s.extract k e) rfl rfl (HO.out.below ((Below.refl _ _).alloc (Nat.le_refl _) _)) (by first | exact new_st | simp) (by omega) (by first | (rw [World.size_alloc]; omega) | omega) ?_))
          intro v' w3 hO3 hg3
          have hB3 := grown_st HB.out hsz HO.out hg3
          have NXT := keptS (And.intro hO3 hB3)
          clear hO3 hB3 hg3
          go_wp2
          go_roundw
          case rel => exact ⟨e, P ++ [s.extract k e], hes, rfl, by rw [List.length_append]; simp; omega, NXT.out.1, HRn, NXT.out.2⟩
          case measure => simp [intOf]; omega
      · have HRn : Hid (R = P) := by show _ = _; rw [hRk.out, wrst_end (by have := HT.out.1; omega)]; simp
        have FIN := keptS (And.intro hO hB)
        clear hO hB hRk
        go_wp2
        go_ret
        exact ⟨_, rfl, by rw [HRn.out]; exact FIN.out.1, FIN.out.2⟩
end SXWc
end Go.Proofs.Ytdjgodemeaneeaa
