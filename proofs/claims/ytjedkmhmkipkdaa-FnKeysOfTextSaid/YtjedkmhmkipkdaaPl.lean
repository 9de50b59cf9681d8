
/- Plain texts: the lists, and the small functions of the program. -/
import Derived.Test.YtjedkmhmkipkdaaVT
namespace Go.Proofs.Ytjedkmhmkipkdaa
open Go.RowKit

def capB (c : Nat) : Bool := decide (65 ≤ c ∧ c ≤ 90)
def smallB (c : Nat) : Bool := decide (97 ≤ c ∧ c ≤ 122)
def digBt (c : Nat) : Bool := decide (48 ≤ c ∧ c ≤ 57)
def letNum (c : Nat) : Nat := if capB c then c - 65 else c - 97
def letC (b : UInt8) : Int := letL.getD (letNum b.toNat) 0
def isLt (b : UInt8) : Bool := letB b.toNat
/-- the end of the run of letters from k on -/
def re (l : List UInt8) (k : Nat) : Nat := k + ((l.drop k).takeWhile isLt).length
theorem re_go {l : List UInt8} {k : Nat} (h : k < l.length) (hb : letB (l[k]).toNat = true) : re l k = re l (k + 1) := by
  unfold re
  rw [drop_at h, List.takeWhile_cons, if_pos (show isLt l[k] = true from hb)]
  simp; omega
theorem re_stop {l : List UInt8} {k : Nat} (h : k < l.length) (hb : letB (l[k]).toNat = false) : re l k = k := by
  unfold re
  rw [drop_at h, List.takeWhile_cons, if_neg (by simp [isLt, hb])]
  simp
theorem re_end {l : List UInt8} {k : Nat} (h : l.length ≤ k) : re l k = k := by
  unfold re
  rw [List.drop_of_length_le h]; simp
theorem re_ge (l : List UInt8) (k : Nat) : k ≤ re l k := by unfold re; omega
theorem re_gt {l : List UInt8} {k : Nat} (h : k < l.length) (hb : letB (l[k]).toNat = true) : k < re l k := by
  rw [re_go h hb]; have := re_ge l (k + 1); omega
theorem re_le {l : List UInt8} {k : Nat} (h : k ≤ l.length) : re l k ≤ l.length := by
  unfold re
  have := (List.takeWhile_sublist isLt (l := l.drop k)).length_le
  simp at this
  omega
theorem re_let {l : List UInt8} {k i : Nat} (hi : i < l.length) (h1 : k ≤ i) (h2 : i < re l k) : letB (l[i]).toNat = true := by
  unfold re at h2
  have hm : i - k < ((l.drop k).takeWhile isLt).length := by omega
  have hp := List.takeWhile_prefix isLt (l := l.drop k)
  have hg : ((l.drop k).takeWhile isLt)[i - k] = (l.drop k)[i - k]'(by simp; omega) := hp.getElem hm
  have hall : isLt (((l.drop k).takeWhile isLt)[i - k]) = true := by
    have := List.all_takeWhile (p := isLt) (l := l.drop k)
    rw [List.all_eq_true] at this
    exact this _ (List.getElem_mem _)
  rw [hg] at hall
  simp only [List.getElem_drop] at hall
  simpa [isLt, show k + (i - k) = i from by omega] using hall
/-- there is a digit directly before k -/
def dB (l : List UInt8) : Nat → Bool
  | 0 => false
  | k + 1 => digBt (l.getD k 0).toNat
def wholeB (p : List UInt8) : Bool := p.all (fun b => capB b.toNat) && decide (2 ≤ p.length)
def oneC (whole : Bool) (b : UInt8) : List Int := if capB b.toNat && !whole then [32, letC b] else [letC b]
def headC (whole d : Bool) (c : Nat) : List Int := (if whole then [32, 32] else []) ++ (if smallB c && decide (letNum c < 10) && d then [48] else [])
def bodyC (whole : Bool) (p : List UInt8) : List Int := p.flatMap (oneC whole)
def runC (p : List UInt8) (d : Bool) : List Int := headC (wholeB p) d (p.headD 0).toNat ++ bodyC (wholeB p) p
def othC (b : UInt8) (d : Bool) : List Int := if digBt b.toNat && !d then [60, charZ b.toNat] else [charZ b.toNat]
def pf : Nat → List UInt8 → Nat → List Int
  | 0, _, _ => []
  | n + 1, l, k => if k < l.length then (if letB (l.getD k 0).toNat then runC (sub l k (re l k)) (dB l k) ++ pf n l (re l k) else othC (l.getD k 0) (dB l k) ++ pf n l (k + 1)) else []
theorem getD_at {l : List UInt8} {k : Nat} (h : k < l.length) : l.getD k 0 = l[k] := by
  rw [List.getD_eq_getElem?_getD, List.getElem?_eq_getElem h, Option.getD_some]
theorem pf_any : ∀ (n m : Nat) (l : List UInt8) (k : Nat), l.length < n + k → l.length < m + k → pf n l k = pf m l k := by
  intro n
  induction n with
  | zero =>
    intro m l k h1 h2
    cases m with
    | zero => rfl
    | succ m => rw [pf, pf, if_neg (by omega)]
  | succ n ih =>
    intro m l k h1 h2
    cases m with
    | zero => rw [pf, pf, if_neg (by omega)]
    | succ m =>
      rw [pf, pf]
      by_cases hk : k < l.length
      · rw [if_pos hk, if_pos hk]
        by_cases hl : letB (l.getD k 0).toNat = true
        · have := re_gt hk (by rw [← getD_at hk]; exact hl)
          rw [if_pos hl, if_pos hl, ih m l (re l k) (by omega) (by omega)]
        · rw [if_neg hl, if_neg hl, ih m l (k + 1) (by omega) (by omega)]
      · rw [if_neg hk, if_neg hk]
/-- the cells of the text from k on -/
def restC (l : List UInt8) (k : Nat) : List Int := pf (l.length + 1) l k
def plainC (l : List UInt8) : List Int := restC l 0
theorem rest_run {l : List UInt8} {k : Nat} (h : k < l.length) (hl : letB (l[k]).toNat = true) : restC l k = runC (sub l k (re l k)) (dB l k) ++ restC l (re l k) := by
  unfold restC
  rw [pf, if_pos h, if_pos (by rw [getD_at h]; exact hl)]
  have := re_gt h hl
  rw [pf_any (l.length) (l.length + 1) l (re l k) (by omega) (by omega)]
theorem rest_oth {l : List UInt8} {k : Nat} (h : k < l.length) (hl : letB (l[k]).toNat = false) : restC l k = othC l[k] (dB l k) ++ restC l (k + 1) := by
  unfold restC
  rw [pf, if_pos h, if_neg (by rw [getD_at h, hl]; simp), getD_at h]
  rw [pf_any (l.length) (l.length + 1) l (k + 1) (by omega) (by omega)]
theorem rest_end {l : List UInt8} {k : Nat} (h : l.length ≤ k) : restC l k = [] := by
  unfold restC
  rw [pf, if_neg (by omega)]
theorem sub_succ {l : List UInt8} {a k : Nat} (h1 : a ≤ k) (h2 : k < l.length) : sub l a (k + 1) = sub l a k ++ [l[k]] := by
  unfold sub
  rw [show k + 1 - a = (k - a) + 1 from by omega, List.take_succ_eq_append_getElem (by simp; omega)]
  simp [show a + (k - a) = k from by omega]
theorem sub_self (l : List UInt8) (a : Nat) : sub l a a = [] := by simp [sub]
theorem sub_length {l : List UInt8} {a b : Nat} (h : b ≤ l.length) : (sub l a b).length = b - a := by simp [sub]; omega
theorem sub_head {l : List UInt8} {a b : Nat} (h : a < b) (hb : b ≤ l.length) : (sub l a b).headD 0 = l[a]'(by omega) := by
  unfold sub
  rw [drop_at (show a < l.length by omega), show b - a = (b - a - 1) + 1 from by omega, List.take_succ_cons]
  rfl
theorem body_snoc (wh : Bool) (p : List UInt8) (b : UInt8) : bodyC wh (p ++ [b]) = bodyC wh p ++ oneC wh b := by simp [bodyC]
/-- what a walk is told of a text: its bytes by their places -/
def Txt (s : ByteArray) (l : List UInt8) : Prop := l.length = s.size ∧ ∀ k (h : k < s.size), ∃ h2 : k < l.length, l[k] = s[k]
theorem Txt.of (s : ByteArray) : Txt s s.data.toList := ⟨size_data s, fun k h => ⟨by rw [size_data]; exact h, byte_eq h _⟩⟩

set_option maxHeartbeats 1000000 in
theorem i_runEnd (s : ByteArray) (l : List UInt8) (k0 e : Nat) (w : World) (hT : Txt s l) (hs : s.size ≤ 9223372036854775000) (h0 : k0 ≤ s.size) (he : Hid (re l k0 = e)) :
    Calls Try.prog 59 #[.string s, .int .i64 k0] w fun e' w' => e' = .returned (.int .i64 e) ∧ w = w' := by
  have HT := Lib.hid hT
  clear hT
  go_enter Try.func59, Try.ntmps59
  go_wp2
  go_loop [5] (fun i => ∃ k : Nat, k ≤ s.size ∧ i = .int .i64 k ∧ Hid (re l k = e)) (fun i => s.size - (intOf i).toNat)
  case atStart => exact ⟨k0, h0, rfl, he⟩
  case round =>
    obtain ⟨k, hk, rfl, hr⟩ := hrel
    by_cases hlt : k < s.size
    · obtain ⟨h2, hbk⟩ := HT.out.2 k hlt
      cases hlet : letB (s[k]).toNat with
      | true =>
        have HL := Lib.hid hlet
        have hr' : Hid (re l (k + 1) = e) := by show _ = _; rw [← hr.out, re_go h2 (by rw [hbk]; exact hlet)]
        clear hlet hbk hr
        go_wp2_with (go_at_call 57; refine (i_isLetter_b _ true _ HL).mono ?_; rintro e w' ⟨rfl, rfl⟩)
        go_round
        case rel => exact ⟨k + 1, by omega, by go_num, hr'⟩
        case measure => simp [intOf]; omega
      | false =>
        have HL := Lib.hid hlet
        have hr' : Hid (k = e) := by show _ = _; rw [← hr.out, re_stop h2 (by rw [hbk]; exact hlet)]
        clear hlet hbk hr
        go_wp2_with (go_at_call 57; refine (i_isLetter_b _ false _ HL).mono ?_; rintro e w' ⟨rfl, rfl⟩)
        go_ret
        exact ⟨ret_i64' (by rw [hr'.out]), rfl⟩
    · have hr' : Hid (k = e) := by show _ = _; rw [← hr.out, re_end (by have := HT.out.1; omega)]
      clear hr
      go_wp2
      go_ret
      exact ⟨ret_i64' (by rw [hr'.out]), rfl⟩

theorem all_snoc (p : List UInt8) (b : UInt8) : (p ++ [b]).all (fun b => capB b.toNat) = (p.all (fun b => capB b.toNat) && capB b.toNat) := by simp
set_option maxHeartbeats 1000000 in
theorem i_allCapital (s : ByteArray) (l : List UInt8) (a b : Nat) (r : Bool) (w : World) (hT : Txt s l) (hs : s.size ≤ 9223372036854775000) (h0 : a ≤ b) (h1 : b ≤ s.size) (hr : Hid (wholeB (sub l a b) = r)) :
    Calls Try.prog 74 #[.string s, .int .i64 a, .int .i64 b] w fun e' w' => e' = .returned (.bool r) ∧ w = w' := by
  have HT := Lib.hid hT
  clear hT
  go_enter Try.func74, Try.ntmps74
  go_wp2
  go_loop [7] (fun i => ∃ k : Nat, a ≤ k ∧ k ≤ b ∧ i = .int .i64 k ∧ Hid ((sub l a k).all (fun b => capB b.toNat) = true)) (fun i => b - (intOf i).toNat)
  case atStart => exact ⟨a, Nat.le_refl _, h0, rfl, by show _ = _; rw [sub_self]; rfl⟩
  case round =>
    obtain ⟨k, hk0, hk, rfl, hall⟩ := hrel
    by_cases hlt : k < b
    · have hls : k < s.size := by omega
      obtain ⟨h2, hbk⟩ := HT.out.2 k hls
      cases hcap : capB (s[k]).toNat with
      | true =>
        have HC := Lib.hid hcap
        have hall' : Hid ((sub l a (k + 1)).all (fun b => capB b.toNat) = true) := by show _ = _; rw [sub_succ hk0 h2, all_snoc, hall.out, hbk, hcap]; rfl
        clear hcap hbk hall
        go_wp2_with (go_at_call 71; refine (i_isCapital_b _ true _ HC).mono ?_; rintro e w' ⟨rfl, rfl⟩)
        go_round
        case rel => exact ⟨k + 1, by omega, by omega, by go_num, hall'⟩
        case measure => simp [intOf]; omega
      | false =>
        have HC := Lib.hid hcap
        have hr' : Hid (r = false) := by
          show _ = _
          rw [← hr.out, wholeB]
          have hm : s[k] ∈ sub l a b := by
            rw [← hbk]
            have hg : (sub l a b)[k - a]'(by rw [sub_length (by have := HT.out.1; omega)]; omega) = l[k] := by simp [sub, show a + (k - a) = k from by omega]
            rw [← hg]; exact List.getElem_mem _
          have : (sub l a b).all (fun b => capB b.toNat) = false := by
            rw [List.all_eq_false]
            exact ⟨s[k], hm, by rw [hcap]; simp⟩
          rw [this]; rfl
        clear hcap hbk hall
        go_wp2_with (go_at_call 71; refine (i_isCapital_b _ false _ HC).mono ?_; rintro e w' ⟨rfl, rfl⟩)
        go_ret
        exact ⟨by rw [hr'.out]; rfl, rfl⟩
    · obtain rfl : k = b := by omega
      have hr' : Hid (decide (2 ≤ k - a) = r) := by show _ = _; rw [← hr.out, wholeB, hall.out, sub_length (by have := HT.out.1; omega)]; rfl
      clear hall
      by_cases h2 : a + 2 ≤ k
      · have d1 : decide ((2 : Int) ≤ (k : Int) - (a : Int)) = true := decide_eq_true (by omega)
        have HR : Hid (r = true) := by show _ = _; rw [← hr'.out]; exact decide_eq_true (by omega)
        go_wp2
        go_ret
        exact ⟨by rw [HR.out]; rfl, rfl⟩
      · have d1 : decide ((2 : Int) ≤ (k : Int) - (a : Int)) = false := decide_eq_false (by omega)
        have HR : Hid (r = false) := by show _ = _; rw [← hr'.out]; exact decide_eq_false (by omega)
        go_wp2
        go_ret
        exact ⟨by rw [HR.out]; rfl, rfl⟩

theorem i_letterNumber (b : UInt8) (n : Nat) (w : World) (hl : Hid (letB b.toNat = true)) (hn : Hid (letNum b.toNat = n)) :
    Calls Try.prog 75 #[.int .u8 b.toNat] w fun e' w' => e' = .returned (.int .i64 n) ∧ w = w' := by
  have h256 := b.toNat_lt
  cases hcap : capB b.toNat with
  | true =>
    have HC := Lib.hid hcap
    have hc : 65 ≤ b.toNat ∧ b.toNat ≤ 90 := of_decide_eq_true hcap
    have HN : Hid ((b.toNat : Int) - 65 = n) := by show _ = _; have := hn.out; rw [letNum, if_pos hcap] at this; omega
    obtain ⟨c1, c2⟩ := hc
    clear hcap
    go_enter Try.func75, Try.ntmps75
    go_wp2_with (go_at_call 71; refine (i_isCapital_b _ true _ HC).mono ?_; rintro e w' ⟨rfl, rfl⟩)
    go_ret
    exact ⟨by rw [← HN.out]; rfl, rfl⟩
  | false =>
    have HC := Lib.hid hcap
    have hc : 97 ≤ b.toNat ∧ b.toNat ≤ 122 := by
      have h1 := hl.out
      rw [letB] at h1
      have h2 : decide (65 ≤ b.toNat ∧ b.toNat ≤ 90) = false := hcap
      rw [h2, Bool.or_false] at h1
      exact of_decide_eq_true h1
    have HN : Hid ((b.toNat : Int) - 97 = n) := by show _ = _; have := hn.out; rw [letNum, hcap] at this; simp at this; omega
    obtain ⟨c1, c2⟩ := hc
    clear hcap
    go_enter Try.func75, Try.ntmps75
    go_wp2_with (go_at_call 71; refine (i_isCapital_b _ false _ HC).mono ?_; rintro e w' ⟨rfl, rfl⟩)
    go_ret
    exact ⟨by rw [← HN.out]; rfl, rfl⟩

theorem i_digitBefore (s : ByteArray) (l : List UInt8) (k : Nat) (r : Bool) (w : World) (hT : Txt s l) (hs : s.size ≤ 9223372036854775000) (h0 : k ≤ s.size) (hr : Hid (dB l k = r)) :
    Calls Try.prog 62 #[.string s, .int .i64 k] w fun e' w' => e' = .returned (.bool r) ∧ w = w' := by
  cases k with
  | zero =>
    have HR : Hid (r = false) := hr.out.symm
    go_enter Try.func62, Try.ntmps62
    go_wp2
    go_ret
    exact ⟨by rw [HR.out]; rfl, rfl⟩
  | succ k =>
    have hls : k < s.size := by omega
    obtain ⟨h2, hbk⟩ := hT.2 k hls
    have HD : Hid (decide (48 ≤ (s[k]).toNat ∧ (s[k]).toNat ≤ 57) = r) := by show _ = _; rw [← hr.out, dB, getD_at h2, hbk]; rfl
    clear hT hbk h2
    go_enter Try.func62, Try.ntmps62
    go_wp2_with (go_at_call 61; refine (i_isDigit_b _ r _ HD).mono ?_; rintro e w' ⟨rfl, rfl⟩)
    go_ret
    exact ⟨rfl, rfl⟩
end Go.Proofs.Ytjedkmhmkipkdaa
