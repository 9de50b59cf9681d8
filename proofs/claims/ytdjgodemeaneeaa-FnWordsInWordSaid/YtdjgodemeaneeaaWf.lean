
/- Drawn texts and their words: the words are words, and no longer than the text without its spaces. -/
import Derived.Test.YtdjgodemeaneeaaWe
import Derived.Test.YtdjgodemeaneeaaDrT
namespace Go.Proofs.Ytdjgodemeaneeaa
open Go.RowKit

def nsp (l : List UInt8) : Nat := l.countP (fun b => decide (b.toNat ≠ 32))
def szs (P : List ByteArray) : Nat := (P.map ByteArray.size).sum
theorem nsp_append (a b : List UInt8) : nsp (a ++ b) = nsp a + nsp b := List.countP_append
theorem szs_append (a b : List ByteArray) : szs (a ++ b) = szs a + szs b := by simp [szs]
theorem szs_take (P : List ByteArray) (i : Nat) (h : i < P.length) : szs (P.take (i + 1)) = szs (P.take i) + (P.getD i ⟨#[]⟩).size := by
  rw [List.take_succ_eq_append_getElem h, szs_append, List.getD_eq_getElem?_getD, List.getElem?_eq_getElem h]
  simp [szs]
theorem szs_take_le (P : List ByteArray) (i : Nat) : szs (P.take i) ≤ szs P := by
  have h := szs_append (P.take i) (P.drop i)
  rw [List.take_append_drop] at h
  omega
theorem drop_split {l : List UInt8} {k e : Nat} (h : k ≤ e) : l.drop k = sub l k e ++ l.drop e := by
  have h1 : (l.drop k).drop (e - k) = l.drop e := by rw [List.drop_drop]; congr 1; omega
  rw [sub, ← h1, List.take_append_drop]
theorem nsp_small {l : List UInt8} (h : ∀ b ∈ l, smallN b.toNat = true) : nsp l = l.length := by
  rw [nsp, List.countP_eq_length]
  intro b hb
  have := h b hb
  simp only [smallN, decide_eq_true_eq] at this ⊢
  omega
theorem isC_word {l : List UInt8} {k : Nat} (h : isC l k = true) : WordB 16 (sub l k (ce l k)) := by
  rw [isC, Bool.and_eq_true] at h
  exact of_decide_eq_true h.1
theorem szs_wrst (l : List UInt8) : ∀ (m k : Nat), l.length - k ≤ m → szs (wrst l k) ≤ nsp (l.drop k) := by
  intro m
  induction m with
  | zero => intro k h; rw [wrst_end (by omega)]; simp [szs]
  | succ m ih =>
    intro k h
    by_cases hlt : k < l.length
    · have h1 := ce_gt hlt
      have h2 := ih (ce l k) (by omega)
      rw [wrst_go hlt, szs_append, drop_split (l := l) (show k ≤ ce l k by omega), nsp_append]
      cases hc : isC l k with
      | true =>
        have hw := isC_word hc
        rw [nsp_small hw.2.2, if_pos rfl]
        have : szs [bs (sub l k (ce l k))] = (sub l k (ce l k)).length := by simp [szs, bs_size]
        omega
      | false =>
        rw [if_neg (by simp)]
        have : szs [] = 0 := rfl
        omega
    · rw [wrst_end (by omega)]; simp [szs]
theorem mem_wrst (l : List UInt8) : ∀ (m k : Nat), l.length - k ≤ m → ∀ t ∈ wrst l k, WordB 16 t.data.toList := by
  intro m
  induction m with
  | zero => intro k h t ht; rw [wrst_end (by omega)] at ht; simp at ht
  | succ m ih =>
    intro k h t ht
    by_cases hlt : k < l.length
    · have h1 := ce_gt hlt
      rw [wrst_go hlt, List.mem_append] at ht
      rcases ht with ht | ht
      · cases hc : isC l k with
        | true =>
          rw [hc, if_pos rfl, List.mem_singleton] at ht
          subst ht
          have hw := isC_word hc
          show WordB 16 (bs (sub l k (ce l k))).data.toList
          simpa [bs] using hw
        | false => rw [hc, if_neg (by simp)] at ht; simp at ht
      · exact ih (ce l k) (by omega) t ht
    · rw [wrst_end (by omega)] at ht; simp at ht
theorem wordsL_mem {l : List UInt8} {t : ByteArray} (h : t ∈ wordsL l) : WordB 16 t.data.toList := by
  unfold wordsL at h
  split at h
  · exact mem_wrst l l.length 0 (by omega) t h
  · simp at h
theorem wordsL_szs (l : List UInt8) : szs (wordsL l) ≤ nsp l := by
  unfold wordsL
  split
  · exact szs_wrst l l.length 0 (by omega)
  · simp [szs]

section SXWf
set_option maxHeartbeats 2000000 in
theorem l_isWord_w (s : ByteArray) (w : World) (hs : s.size ≤ 9223372036854775807) :
    Calls Try.prog 26 #[.string s] w fun e w' => e = .returned (.bool (decide (WordB 16 s.data.toList))) ∧ w = w' := by
  have hl := wd_size s
  obtain ⟨l, hL⟩ : ∃ l, s.data.toList = l := ⟨_, rfl⟩
  have HE : ∀ k (h : k < s.size), ∃ h2 : k < l.length, l[k] = s[k] := fun k h => ⟨by rw [← hL, hl]; exact h, by subst hL; exact wd_byte h _⟩
  rw [hL] at hl ⊢
  have HL := Lib.hid hl
  have HHE := Lib.hid HE
  clear hl hL HE
  go_enter Try.func26, Try.ntmps26
  go_wp2
  go_loop [3] (fun i => ∃ k : Nat, k ≤ s.size ∧ i = .int .i64 k ∧ SmUp l k) (fun i => s.size - (intOf i).toNat)
  case atStart => exact ⟨0, by omega, rfl, SmUp.zero _⟩
  case round =>
    obtain ⟨k, hk, rfl, hok⟩ := hrel
    by_cases hlt : k < s.size
    · obtain ⟨h3, hbk⟩ := HHE.out k hlt
      by_cases c1 : (s[k]).toNat < 97
      · have HN : Hid (¬ WordB 16 l) := fun h => not_small h3 (by rw [hbk]; exact decide_eq_false (by omega)) h.2.2
        clear hbk hok
        go_wp2
        go_ret
        exact ⟨ret_bool (decide_eq_false HN.out).symm, rfl⟩
      · by_cases c2 : 122 < (s[k]).toNat
        · have HN : Hid (¬ WordB 16 l) := fun h => not_small h3 (by rw [hbk]; exact decide_eq_false (by omega)) h.2.2
          clear hbk hok
          go_wp2
          go_ret
          exact ⟨ret_bool (decide_eq_false HN.out).symm, rfl⟩
        · have hok' : Hid (SmUp l (k + 1)) := hok.succ h3 (by rw [hbk]; exact decide_eq_true (by omega))
          clear hbk hok
          go_wp2
          go_round
          case rel => exact ⟨k + 1, by omega, by go_num, hok'.out⟩
          case measure => simp [intOf]; omega
    · have hall : Hid (∀ b ∈ l, smallN b.toNat = true) := SmUp.all (by rw [HL.out, show s.size = k from by omega]; exact hok)
      have HY : Hid (WordB 16 l ↔ 0 < s.size ∧ s.size ≤ 16) := by
        show _ ↔ _
        have := HL.out
        exact ⟨fun h => ⟨by have := h.1; omega, by have := h.2.1; omega⟩, fun h => ⟨by omega, by omega, hall.out⟩⟩
      by_cases c1 : 0 < s.size
      · by_cases c2 : s.size ≤ 16
        · have HW : Hid (WordB 16 l) := HY.out.2 ⟨c1, c2⟩
          go_wp2
          go_ret
          exact ⟨ret_bool ((decide_eq_true (show (s.size : Int) ≤ 16 by omega)).trans (decide_eq_true HW.out).symm), rfl⟩
        · have HW : Hid (¬ WordB 16 l) := fun h => c2 (HY.out.1 h).2
          go_wp2
          go_ret
          exact ⟨ret_bool ((decide_eq_false (show ¬ (s.size : Int) ≤ 16 by omega)).trans (decide_eq_false HW.out).symm), rfl⟩
      · have HW : Hid (¬ WordB 16 l) := fun h => c1 (HY.out.1 h).1
        go_wp2
        go_ret
        exact ⟨ret_bool (decide_eq_false HW.out).symm, rfl⟩
theorem l_isWord_wb (s : ByteArray) (b : Bool) (w : World) (hs : s.size ≤ 9223372036854775807) (hb : Hid (decide (WordB 16 s.data.toList) = b)) :
    Calls Try.prog 26 #[.string s] w fun e w' => e = .returned (.bool b) ∧ w = w' := by
  have := l_isWord_w s w hs
  rw [hb.out] at this
  exact this

set_option maxHeartbeats 1000000 in
theorem equalTexts_same (w : World) (b1 b2 : Nat) (a1 a2 : Option Addr) (n1 c1 n2 c2 : Nat) (P : List ByteArray) (hx : OwnSt w b1 (.slice a1 n1 c1) P) (hy : OwnSt w b2 (.slice a2 n2 c2) P) :
    Calls Try.prog 24 #[.slice a1 n1 c1, .slice a2 n2 c2] w fun e w' => e = .returned (.bool true) ∧ Below w.heap.size w w' := by
  obtain rfl : n1 = n2 := by have := hx.len; have := hy.len; omega
  have HX := keptS hx
  have HY := keptS hy
  have hlen : n1 ≤ 9223372036854775807 := by
    rcases hx.2 with ⟨h, _⟩ | ⟨g, cap, cur, h, _, _, h4, h5, _⟩
    · injection h with _ e _; omega
    · injection h with _ e _
      unfold maxLen at h5; omega
  clear hx hy
  go_enter Try.func24, Try.ntmps24
  go_wp2
  go_loopw [5] (fun i wr => ∃ k : Nat, k ≤ n1 ∧ i = .int .i64 k ∧ Below w.heap.size w wr) (fun i _ => n1 - (intOf i).toNat)
  case atStart => exact ⟨0, Nat.zero_le _, rfl, Below.refl _ _⟩
  case round =>
    obtain ⟨k, hk, rfl, hb1⟩ := hrel
    by_cases hlt : k < n1
    · obtain ⟨g, rfl, _, _, c0⟩ := (HX.out.below hb1).nth hlt
      obtain ⟨g', rfl, _, _, d0⟩ := (HY.out.below hb1).nth hlt
      have b1 : (0 : Int) ≤ (k : Int) := by omega
      have b2 : (k : Int) < (n1 : Int) := by omega
      obtain ⟨t, ht⟩ : ∃ t, P.getD k ⟨#[]⟩ = t := ⟨_, rfl⟩
      rw [ht] at c0 d0
      clear ht
      have HB := keptS hb1
      clear hb1
      go_wp2_with fail
      go_quiet (fail)
      go_wp2
      go_roundw
      case rel => exact ⟨k + 1, by omega, by go_num, below_drewN HB.out _⟩
      case measure => simp [intOf]; omega
    · go_wp2
      go_ret
      exact ⟨rfl, hb1⟩

set_option maxHeartbeats 1000000 in
theorem l_nonSpaces (s : ByteArray) (l : List UInt8) (w : World) (hT : Txt s l) (hs : s.size ≤ 1000000) :
    Calls Try.prog 27 #[.string s] w fun e w' => e = .returned (.int .i64 (nsp l)) ∧ w = w' := by
  have HT := Lib.hid hT
  have H0 : Hid ((0 : Nat) = nsp (sub l 0 0)) := by show _ = _; rw [sub_self]; rfl
  clear hT
  go_enter Try.func27, Try.ntmps27
  go_wp2
  go_loop [3, 4] (fun n i => ∃ k m : Nat, k ≤ s.size ∧ i = .int .i64 k ∧ n = .int .i64 m ∧ m ≤ k ∧ Hid (m = nsp (sub l 0 k))) (fun _ i => s.size - (intOf i).toNat)
  case atStart => exact ⟨0, 0, by omega, rfl, rfl, by omega, H0⟩
  case round =>
    obtain ⟨k, m, hk, rfl, rfl, hmk, hm⟩ := hrel
    by_cases hlt : k < s.size
    · obtain ⟨h2, hbk⟩ := HT.out.2 k hlt
      have hst := sub_succ (Nat.zero_le k) h2
      by_cases hc : (s[k]).toNat = 32
      · have hm' : Hid (m = nsp (sub l 0 (k + 1))) := by show _ = _; rw [hst, nsp_append, ← hm.out, hbk]; simp [nsp, hc]
        have d1 : (((s[k]).toNat : Int) == 32) = true := by simp; omega
        have d2 : decide (((s[k]).toNat : Int) = 32) = true := decide_eq_true (by omega)
        clear hst hbk hm hc
        go_wp2
        go_round
        case rel => exact ⟨k + 1, m, by omega, by go_num, rfl, by omega, hm'⟩
        case measure => simp [intOf]; omega
      · have hm' : Hid (m + 1 = nsp (sub l 0 (k + 1))) := by show _ = _; rw [hst, nsp_append, ← hm.out, hbk]; simp [nsp, hc]
        have d1 : (((s[k]).toNat : Int) == 32) = false := by simp; omega
        have d2 : decide (((s[k]).toNat : Int) = 32) = false := decide_eq_false (by omega)
        clear hst hbk hm hc
        go_wp2
        go_round
        case rel => exact ⟨k + 1, m + 1, by omega, by go_num, by go_num, by omega, hm'⟩
        case measure => simp [intOf]; omega
    · have hm' : Hid (m = nsp l) := by show _ = _; rw [hm.out, show sub l 0 k = l from by rw [sub, List.drop_zero, Nat.sub_zero, List.take_of_length_le (by have := HT.out.1; omega)]]
      clear hm
      go_wp2
      go_ret
      exact ⟨by rw [← hm'.out]; rfl, rfl⟩
theorem drawWordsIn_any (w : World) (a : Option Addr) (len cap : Nat) (zs : List Int) (h : RowIn .u8 w a len cap zs) :
    Calls Try.prog 23 #[.slice a len cap] w fun e w' => StrDrawn 520 w e w' := by
  obtain ⟨h1, h2, h3⟩ := bytesAt_of_row h
  clear h zs
  go_enter Try.func23, Try.ntmps23
  go_wp2_with fail
  refine (newReader_any w _ a len cap h1 (Nat.le_refl _) h2 h3).mono ?_
  rintro e w1 ⟨L, rfl, hrd, hgr⟩
  go_wp2_with fail
  refine (anyText_any w1 w.heap.size w.heap.size L 0 hrd (by omega)).mono ?_
  rintro e w2 ⟨s, q, rfl, hs, hrd2, hq, hgr2⟩
  go_wp2
  go_ret
  exact ⟨s, rfl, hs, below_of_grown (grown_new hgr hgr2 (Nat.le_refl _))⟩
end SXWf
end Go.Proofs.Ytdjgodemeaneeaa
