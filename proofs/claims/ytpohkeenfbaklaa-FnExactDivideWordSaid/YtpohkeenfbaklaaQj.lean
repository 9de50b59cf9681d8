
/- The levels of a word, in the program; what they are the greatest of. -/
import Derived.Test.YtpohkeenfbaklaaQi
import Derived.Test.YtpohkeenfbaklaaQv
namespace Go.Proofs.Ytpohkeenfbaklaa
open Go.RowKit

def MaxOf (P : Int → Prop) (m : Int) : Prop := P m ∧ ∀ z, P z → z ≤ m
theorem MaxOf.same {P : Int → Prop} {m m' : Int} (h : MaxOf P m) (k : MaxOf P m') : m = m' := by
  have h1 := h.2 m' k.1
  have h2 := k.2 m h.1
  omega
theorem MaxOf.congr {P Q : Int → Prop} {m : Int} (h : MaxOf P m) (e : ∀ z, P z ↔ Q z) : MaxOf Q m := ⟨(e m).1 h.1, fun z hz => h.2 z ((e z).2 hz)⟩
theorem MaxOf.add {P Q : Int → Prop} {m x : Int} (h : MaxOf P m) (e : ∀ z, Q z ↔ P z ∨ z = x) : MaxOf Q (if m < x then x else m) := by
  by_cases c : m < x
  · rw [if_pos c]
    refine ⟨(e x).2 (.inr rfl), fun z hz => ?_⟩
    rcases (e z).1 hz with h1 | h1
    · have := h.2 z h1; omega
    · omega
  · rw [if_neg c]
    refine ⟨(e m).2 (.inl h.1), fun z hz => ?_⟩
    rcases (e z).1 hz with h1 | h1
    · exact h.2 z h1
    · omega
/-- nought, or the level that a pattern of those that D names has at the place q -/
def CandQ (T : List PPat) (s : ByteArray) (D : Nat → Nat → Nat → Prop) (q : Nat) (z : Int) : Prop :=
  z = 0 ∨ ∃ j a i, j < T.length ∧ D j a i ∧ i < (T.getD j noQ).c.length ∧ FitQ (T.getD j noQ) s (a : Int) ∧ a + i = q ∧ z = (T.getD j noQ).c.getD i 0
theorem CandQ.congr {T : List PPat} {s : ByteArray} {D E : Nat → Nat → Nat → Prop} {q : Nat} (h : ∀ (j a i : Nat), j < T.length → i < (T.getD j noQ).c.length → FitQ (T.getD j noQ) s (a : Int) → a + i = q → (D j a i ↔ E j a i)) (z : Int) : CandQ T s D q z ↔ CandQ T s E q z := by
  constructor
  · rintro (h0 | ⟨j, a, i, h1, h2, h3, h4, h5, h6⟩)
    · exact .inl h0
    · exact .inr ⟨j, a, i, h1, (h j a i h1 h3 h4 h5).1 h2, h3, h4, h5, h6⟩
  · rintro (h0 | ⟨j, a, i, h1, h2, h3, h4, h5, h6⟩)
    · exact .inl h0
    · exact .inr ⟨j, a, i, h1, (h j a i h1 h3 h4 h5).2 h2, h3, h4, h5, h6⟩
theorem CandQ.none {T : List PPat} {s : ByteArray} {D : Nat → Nat → Nat → Prop} {q : Nat} (h : ∀ j a i, ¬ D j a i) : MaxOf (CandQ T s D q) 0 := by
  refine ⟨.inl rfl, ?_⟩
  rintro z (h0 | ⟨j, a, i, _, h2, _⟩)
  · omega
  · exact absurd h2 (h j a i)
/-- one more candidate -/
theorem CandQ.more {T : List PPat} {s : ByteArray} {D E : Nat → Nat → Nat → Prop} {q J A I : Nat} (hJ : J < T.length) (hI : I < (T.getD J noQ).c.length) (hf : FitQ (T.getD J noQ) s (A : Int)) (hq : A + I = q)
    (h : ∀ (j a i : Nat), j < T.length → i < (T.getD j noQ).c.length → FitQ (T.getD j noQ) s (a : Int) → a + i = q → (E j a i ↔ D j a i ∨ (j = J ∧ a = A ∧ i = I))) (z : Int) : CandQ T s E q z ↔ CandQ T s D q z ∨ z = (T.getD J noQ).c.getD I 0 := by
  constructor
  · rintro (h0 | ⟨j, a, i, h1, h2, h3, h4, h5, h6⟩)
    · exact .inl (.inl h0)
    · rcases (h j a i h1 h3 h4 h5).1 h2 with h7 | ⟨rfl, rfl, rfl⟩
      · exact .inl (.inr ⟨j, a, i, h1, h7, h3, h4, h5, h6⟩)
      · exact .inr h6
  · rintro ((h0 | ⟨j, a, i, h1, h2, h3, h4, h5, h6⟩) | h0)
    · exact .inl h0
    · exact .inr ⟨j, a, i, h1, (h j a i h1 h3 h4 h5).2 (.inl h2), h3, h4, h5, h6⟩
    · exact .inr ⟨J, A, I, hJ, (h J A I hJ hI hf hq).2 (.inr ⟨rfl, rfl, rfl⟩), hI, hf, hq, h0⟩
theorem lvI_max {T : List PPat} {s : ByteArray} {q k : Nat} (hk : k < T.length) {m : Int} (h : MaxOf (CandQ T s (fun j _ _ => j < k) q) m) : ∀ I, I ≤ (T.getD k noQ).c.length → MaxOf (CandQ T s (fun j _ i => j < k ∨ (j = k ∧ i < I)) q) (lvI (T.getD k noQ) s q I m) := by
  intro I
  induction I with
  | zero => intro _; exact h.congr (CandQ.congr fun j a i _ _ _ _ => ⟨fun h => .inl h, fun h => by rcases h with h | h <;> omega⟩)
  | succ I ih =>
    intro hI
    have h1 := ih (by omega)
    have e : lvI (T.getD k noQ) s q (I + 1) m = if FitQ (T.getD k noQ) s ((q : Int) - (I : Int)) ∧ lvI (T.getD k noQ) s q I m < (T.getD k noQ).c.getD I 0 then (T.getD k noQ).c.getD I 0 else lvI (T.getD k noQ) s q I m := rfl
    rw [e]
    by_cases hf : FitQ (T.getD k noQ) s ((q : Int) - (I : Int))
    · have hq : I ≤ q := by have := hf.1; omega
      have hf2 : FitQ (T.getD k noQ) s ((q - I : Nat) : Int) := by rw [show ((q - I : Nat) : Int) = (q : Int) - (I : Int) from by omega]; exact hf
      have h2 := h1.add (x := (T.getD k noQ).c.getD I 0) (CandQ.more (E := fun j _ i => j < k ∨ (j = k ∧ i < I + 1)) hk (by omega) hf2 (by omega) fun j a i _ _ _ h5 => ⟨fun h => by
        rcases h with h | ⟨rfl, h⟩
        · exact .inl (.inl h)
        · by_cases ei : i = I
          · exact .inr ⟨rfl, by omega, ei⟩
          · exact .inl (.inr ⟨rfl, by omega⟩), fun h => by
        rcases h with (h | ⟨h, h'⟩) | ⟨h, _, h'⟩
        · exact .inl h
        · exact .inr ⟨h, by omega⟩
        · exact .inr ⟨h, by omega⟩⟩)
      by_cases c : lvI (T.getD k noQ) s q I m < (T.getD k noQ).c.getD I 0
      · rw [if_pos ⟨hf, c⟩]; rw [if_pos c] at h2; exact h2
      · rw [if_neg fun h => c h.2]; rw [if_neg c] at h2; exact h2
    · rw [if_neg fun h => hf h.1]
      refine h1.congr (CandQ.congr fun j a i _ _ h4 h5 => ⟨fun h => by
        rcases h with h | ⟨h, h'⟩
        · exact .inl h
        · exact .inr ⟨h, by omega⟩, fun h => by
        rcases h with h | ⟨rfl, h'⟩
        · exact .inl h
        · by_cases ei : i = I
          · exfalso
            apply hf
            rw [show (q : Int) - (I : Int) = (a : Int) from by omega]
            exact h4
          · exact .inr ⟨rfl, by omega⟩⟩)
theorem lvT_max {T : List PPat} {s : ByteArray} {q : Nat} : ∀ k, k ≤ T.length → MaxOf (CandQ T s (fun j _ _ => j < k) q) (lvT T s q k) := by
  intro k
  induction k with
  | zero => intro _; exact CandQ.none fun j a i h => absurd h (by omega)
  | succ k ih =>
    intro hk
    have h1 := lvI_max (by omega) (ih (by omega)) _ (Nat.le_refl _)
    exact h1.congr (CandQ.congr fun j a i _ h3 _ _ => ⟨fun h => by rcases h with h | ⟨h, _⟩ <;> omega, fun h => by
      by_cases e : j = k
      · subst e; exact .inr ⟨rfl, h3⟩
      · exact .inl (by omega)⟩)
/-- the level of a place -/
def lev (T : List PPat) (s : ByteArray) (q : Nat) : Int := lvT T s q T.length
def levL (T : List PPat) (s : ByteArray) (k : Nat) : List Int := (List.range k).map (lev T s)
theorem levL_len (T : List PPat) (s : ByteArray) (k : Nat) : (levL T s k).length = k := by simp [levL]
theorem levL_succ (T : List PPat) (s : ByteArray) (k : Nat) : levL T s (k + 1) = levL T s k ++ [lev T s k] := by simp [levL, List.range_succ]
theorem levL_at {T : List PPat} {s : ByteArray} {k q : Nat} (h : q < k) : (levL T s k).getD q 0 = lev T s q := by simp [levL, List.getD_eq_getElem?_getD, h]
theorem levL_of {T : List PPat} {s : ByteArray} {k : Nat} {zs : List Int} (hl : zs.length = k) (h : ∀ q, q < k → MaxOf (CandQ T s (fun j _ _ => j < T.length) q) (zs.getD q 0)) : zs = levL T s k := by
  apply List.ext_getElem
  · rw [hl, levL_len]
  · intro i h1 h2
    have h3 := h i (by omega)
    have h4 := (lvT_max (T := T) (s := s) (q := i) T.length (Nat.le_refl _))
    have e := h3.same h4
    have e2 := levL_at (T := T) (s := s) (k := k) (q := i) (by omega)
    rw [List.getD_eq_getElem?_getD, List.getElem?_eq_getElem h1] at e
    rw [List.getD_eq_getElem?_getD, List.getElem?_eq_getElem h2] at e2
    simp only [Option.getD_some] at e e2
    rw [e, e2]; rfl
def LM (L : List Int) (w : World) (e : Ending) (w' : World) : Prop := ∃ v, e = .returned v ∧ OwnInts w' w.heap.size v L ∧ Below w.heap.size w w' ∧ ∃ a n c, v = .slice a n c
def OkH (T : List PPat) (s : ByteArray) : Prop := ValidPs T ∧ WordB 16 s.data.toList
theorem OwnInts.sliceQ {w : World} {base : Nat} {v : Value} {zs : List Int} (h : OwnInts w base v zs) : ∃ a n c, v = .slice a n c := by
  obtain ⟨a, c, rfl, _⟩ := h.at; exact ⟨a, _, c, rfl⟩
theorem i_isWord_q (s : ByteArray) (b : Bool) (w : World) (hs : s.size ≤ 9223372036854775807) (hb : Hid (decide (WordB 16 s.data.toList) = b)) :
    Calls Try.prog 45 #[.string s] w fun e w' => e = .returned (.bool b) ∧ w = w' := by
  have := i_isWord s w hs
  rw [hb.out] at this
  exact this
theorem s_validWord_qt (s : ByteArray) (b : Bool) (w : World) (hs : s.size ≤ 9223372036854775807) (hb : Hid (decide (WordB 16 s.data.toList) = b)) :
    Calls Try.prog 47 #[.string s] w fun e w' => e = .returned (.bool b) ∧ w = w' := by
  have := s_validWord_q s w hs
  rw [hb.out] at this
  exact this
theorem iff_no {p : Prop} (h : ¬ p) : false = true ↔ p := ⟨fun e => (by cases e), fun e => absurd e h⟩
set_option maxHeartbeats 4000000 in
theorem i_HyphenLevels (w : World) (v : Value) (T : List PPat) (s : ByteArray) (hx : PatsAt w v T) (hf : PatsMid T) (hv : Hid (OkH T s)) :
    Calls Try.prog 17 #[v, .string s] w fun e w' => LM (levL T s (s.size + 1)) w e w' := by
  obtain ⟨i0, hi, hz0, hz1, hz2⟩ := info_parts infoInt
  have hsl : s.size ≤ 16 := by have h2 := hv.out.2.2.1; rw [wd_size] at h2; exact h2
  have HX := keptQ hx
  obtain ⟨a, cp, rfl, _⟩ := hx
  have HF := keptQ hf
  have HV : Hid (ValidPs T) := hv.out.1
  have HWD : Hid (decide (WordB 16 s.data.toList) = true) := decide_eq_true hv.out.2
  have HN := Lib.hid (rfl : T.length = T.length)
  obtain ⟨n, hn⟩ : ∃ n, T.length = n := ⟨_, rfl⟩
  rw [hn] at HX ⊢
  clear hf hn HN
  go_enter Try.func17, Try.ntmps17
  go_wp2_with fail
  refine (i_ValidPatterns w _ T true HX.out HF.out (show _ ↔ _ from ⟨fun _ => HV.out, fun _ => rfl⟩)).mono ?_
  rintro e w1 ⟨rfl, hb1⟩
  have HB1 := keptQ hb1
  have hs1 := hb1.size
  clear hb1
  go_wp2_with fail
  refine (i_isWord_q s true w1 (by omega) HWD).mono ?_
  rintro e w' ⟨rfl, rfl⟩
  have HO1 : Hid (OwnInts w1 w.heap.size (.slice none 0 0) (levL T s 0)) := OwnInts.nil _ _
  go_wp2
  go_loopw [5, 6] (fun o i wr => ∃ k : Nat, k ≤ s.size + 1 ∧ i = .int .i64 k ∧ Hid (OwnInts wr w.heap.size o (levL T s k)) ∧ Hid (Below w.heap.size w wr)) (fun _ i _ => s.size + 1 - (intOf i).toNat)
  case atStart => exact ⟨0, Nat.zero_le _, rfl, HO1, HB1⟩
  case round =>
    clear HO1 HB1 hs1
    obtain ⟨wo, rfl⟩ : ∃ wo, wo = wr := ⟨wr, rfl⟩
    obtain ⟨k, hk, rfl, HO, HB⟩ := hrel
    obtain ⟨ao, no, co, hoo⟩ := HO.out.sliceQ
    subst hoo
    have hsz := HB.out.size
    by_cases hlt : k ≤ s.size
    · have d1 : decide ((k : Int) ≤ (s.size : Int)) = true := decide_eq_true (by omega)
      go_wp2_with fail
      refine (i_levelAt wo _ T s k (HX.out.below HB.out) HV (by omega)).mono ?_
      rintro e w2 ⟨rfl, hb2⟩
      have hlv : lvT T s k T.length = lev T s k := rfl
      rw [hlv]
      obtain ⟨z, hz⟩ : ∃ z, lev T s k = z := ⟨_, rfl⟩
      rw [hz]
      have HSU : Hid (levL T s (k + 1) = levL T s k ++ [z]) := by show _ = _; rw [levL_succ, hz]
      have hO2 := HO.out.below hb2
      have hB2 := HB.out.trans (hb2.mono hsz)
      have hs2 := hB2.size
      have HLE : Hid ((levL T s k).length = k) := levL_len T s k
      clear hb2 hlv hz HO HB
      go_wp2_with (at_builtin; refine wpList_append_own _ rfl _ _ 26 rfl w.heap.size 3 i0 (.int .i64 0) 1 8 Try.underlying26 hi hz0 hz1 hz2 rfl (by decide) _ _ _ rfl (hO2.alloc _) ⟨w2.heap.size, 0, none⟩ 1 1 [.int .i64 z] rfl rfl new_one one_cell (by unfold maxLen; have := HLE.out; omega) (by have := HLE.out; omega) (by simp; omega) ?_)
      intro v' w3 hown' hgrow _
      have hO3 := OwnInts.snoc hown'
      have HB3 := keptQ (below_append hB2 hs2 hO2 hgrow)
      rw [← HSU.out] at hO3
      have HO3 := keptQ hO3
      clear hown' hgrow hO2 hO3 hB2
      go_wp2
      go_roundw
      case rel => exact ⟨k + 1, by omega, by go_num, HO3, HB3⟩
      case measure => simp [intOf]; omega
    · obtain rfl : k = s.size + 1 := by omega
      have d1 : decide (((s.size + 1 : Nat) : Int) ≤ (s.size : Int)) = false := decide_eq_false (by omega)
      have d2 : decide ((s.size : Int) + 1 ≤ (s.size : Int)) = false := decide_eq_false (by omega)
      go_wp2
      go_ret
      exact ⟨_, rfl, HO.out, HB.out, _, _, _, rfl⟩
end Go.Proofs.Ytpohkeenfbaklaa
