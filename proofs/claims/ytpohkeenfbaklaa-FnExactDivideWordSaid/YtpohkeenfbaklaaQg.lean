
/- ValidPatterns on both sides; its exact law. -/
import Derived.Test.YtpohkeenfbaklaaQf
namespace Go.Proofs.Ytpohkeenfbaklaa
open Go.RowKit

/-- the letters of patterns do not fill the memory -/
def PatsMid (T : List PPat) : Prop := ∀ k, (T.getD k noQ).t.size ≤ 9223372036854775000
def PtUp (T : List PPat) (k : Nat) : Prop := ∀ i, i < k → ValidPt (T.getD i noQ)
theorem PtUp.zero (T : List PPat) : PtUp T 0 := fun i h => absurd h (by omega)
theorem PtUp.succ {T : List PPat} {k : Nat} (h : PtUp T k) (e : ValidPt (T.getD k noQ)) : PtUp T (k + 1) := fun i hi => by
  by_cases hik : i = k
  · subst hik; exact e
  · exact h i (by omega)
theorem PatsSmall.mid {T : List PPat} (h : PatsSmall T) : PatsMid T := fun k => by
  by_cases hk : k < T.length
  · have := (h.2 k hk).1; omega
  · rw [List.getD_eq_getElem?_getD, List.getElem?_eq_none (by omega), Option.getD_none]
    exact Nat.zero_le _
set_option maxHeartbeats 2000000 in
theorem i_ValidPatterns (w : World) (v : Value) (T : List PPat) (b : Bool) (hx : PatsAt w v T) (hf : PatsMid T) (hb : Hid (b = true ↔ ValidPs T)) :
    Calls Try.prog 14 #[v] w fun e w' => e = .returned (.bool b) ∧ Below w.heap.size w w' := by
  obtain ⟨a, cp, rfl, x1, x2, x3⟩ := hx
  obtain ⟨n, hn⟩ : ∃ n, T.length = n := ⟨_, rfl⟩
  rw [hn] at x1 x3 ⊢
  have HN := Lib.hid hn
  have HF := keptQ hf
  have HNO : Hid (¬ ValidPs T → b = false) := fun h => by
    cases b
    · rfl
    · exact absurd (hb.out.1 rfl) h
  have HYE : Hid (ValidPs T → b = true) := fun h => hb.out.2 h
  have X3 : Hid (∀ k, k < n → ∃ g off, a = some ⟨g, off, none⟩ ∧ PatAt w g (off + k * 4) (T.getD k noQ)) := fun k hk => by
    rcases x3 with rfl | ⟨g, off, e, x3⟩
    · exact absurd HN.out (by simp; omega)
    · exact ⟨g, off, e, x3 k hk⟩
  clear hn hb hf x3
  by_cases h12 : 12 < n
  · have d1 : decide ((12 : Int) < (n : Int)) = true := decide_eq_true (by omega)
    have HFF : Hid (b = false) := HNO.out fun h => by have := h.1; rw [HN.out] at this; omega
    go_enter Try.func14, Try.ntmps14
    go_wp2
    go_ret
    exact ⟨retb HFF.out.symm, Below.refl _ _⟩
  · have d1 : decide ((12 : Int) < (n : Int)) = false := decide_eq_false (by omega)
    go_enter Try.func14, Try.ntmps14
    go_wp2
    go_loopw [10] (fun i wr => ∃ k : Nat, k ≤ n ∧ i = .int .i64 k ∧ Hid (PtUp T k) ∧ Hid (Below w.heap.size w wr)) (fun i _ => n - (intOf i).toNat)
    case atStart => exact ⟨0, Nat.zero_le _, rfl, PtUp.zero _, Below.refl _ _⟩
    case round =>
      obtain ⟨k, hk, rfl, HU, HB⟩ := hrel
      have hsz := HB.out.size
      by_cases hlt : k < n
      · obtain ⟨g, off, rfl, hra⟩ := X3.out k hlt
        have hra := hra.below HB.out
        have hrf := HF.out k
        obtain ⟨r, hr⟩ : ∃ r, T.getD k noQ = r := ⟨_, rfl⟩
        rw [hr] at hra hrf
        have HR := Lib.hid hr
        clear hr
        obtain ⟨t, p1, p2, zs⟩ := r
        obtain ⟨c0, c1, c2, ⟨u, c3, hu⟩⟩ := hra
        have HUU : Hid (IntsAt wr u zs) := hu
        obtain ⟨a2, cp2, rfl, _⟩ := hu
        simp only at c0 c1 c2 c3
        have hts : t.size ≤ 9223372036854775000 := hrf
        have q1 : (0 : Int) ≤ (k : Int) := by omega
        have q2 : (k : Int) < (n : Int) := by omega
        obtain ⟨b', HB'⟩ : ∃ b' : Bool, Hid (b' = true ↔ ValidPt ⟨t, p1, p2, zs⟩) := by
          by_cases h : ValidPt ⟨t, p1, p2, zs⟩
          · exact ⟨true, show _ ↔ _ from ⟨fun _ => h, fun _ => rfl⟩⟩
          · exact ⟨false, show _ ↔ _ from ⟨fun e => by simp at e, fun e => absurd e h⟩⟩
        have HBa : Hid (Below w.heap.size w (wr.alloc (.cells #[.string t, .bool p1, .bool p2, .slice a2 zs.length cp2] 28))) := HB.out.alloc hsz _
        have HUa : Hid (IntsAt (wr.alloc (.cells #[.string t, .bool p1, .bool p2, .slice a2 zs.length cp2] 28)) (.slice a2 zs.length cp2) zs) := HUU.out.below ((Below.refl _ _).alloc (Nat.le_refl _) _)
        go_wp2_with fail
        refine (i_isPattern (wr.alloc (.cells #[.string t, .bool p1, .bool p2, .slice a2 zs.length cp2] 28)) _ t p1 p2 zs b' HUa.out (by omega) HB').mono ?_
        rintro e w2 ⟨rfl, hb2⟩
        have HB2 := keptQ (HBa.out.trans (hb2.mono HBa.out.size))
        clear hb2 c0 c1 c2 c3 hrf HUU HUa
        cases b' with
        | true =>
          have HU' : Hid (PtUp T (k + 1)) := HU.out.succ (by rw [HR.out]; exact HB'.out.1 rfl)
          go_wp2
          go_roundw
          case rel => exact ⟨k + 1, by omega, by go_num, HU', HB2⟩
          case measure => simp [intOf]; omega
        | false =>
          have HFF : Hid (b = false) := HNO.out fun h => by
            have h9 := h.2 k (by rw [HN.out]; exact hlt)
            rw [HR.out] at h9
            have := HB'.out.2 h9
            cases this
          go_wp2
          go_ret
          exact ⟨retb HFF.out.symm, HB2.out⟩
      · obtain rfl : k = n := by omega
        have HFF : Hid (b = true) := HYE.out ⟨by rw [HN.out]; omega, fun i hi => HU.out i (by rw [HN.out] at hi; exact hi)⟩
        go_wp2
        go_ret
        exact ⟨retb HFF.out.symm, HB.out⟩
set_option maxHeartbeats 2000000 in
theorem s_validPatterns (w : World) (v : Value) (T : List PPat) (b : Bool) (hx : PatsAt w v T) (hf : PatsMid T) (hb : Hid (b = true ↔ ValidPs T)) :
    Calls Try.prog 43 #[v] w fun e w' => e = .returned (.bool b) ∧ Below w.heap.size w w' := by
  obtain ⟨a, cp, rfl, x1, x2, x3⟩ := hx
  obtain ⟨n, hn⟩ : ∃ n, T.length = n := ⟨_, rfl⟩
  rw [hn] at x1 x3 ⊢
  have HN := Lib.hid hn
  have HF := keptQ hf
  have HNO : Hid (¬ ValidPs T → b = false) := fun h => by
    cases b
    · rfl
    · exact absurd (hb.out.1 rfl) h
  have HYE : Hid (ValidPs T → b = true) := fun h => hb.out.2 h
  have X3 : Hid (∀ k, k < n → ∃ g off, a = some ⟨g, off, none⟩ ∧ PatAt w g (off + k * 4) (T.getD k noQ)) := fun k hk => by
    rcases x3 with rfl | ⟨g, off, e, x3⟩
    · exact absurd HN.out (by simp; omega)
    · exact ⟨g, off, e, x3 k hk⟩
  clear hn hb hf x3
  go_enter Try.func43, Try.ntmps43
  go_wp2
  go_loopw [3] (fun i wr => ∃ k : Nat, k ≤ n ∧ i = .int .i64 k ∧ Hid (PtUp T k) ∧ Hid (Below w.heap.size w wr)) (fun i _ => n - (intOf i).toNat)
  case atStart => exact ⟨0, Nat.zero_le _, rfl, PtUp.zero _, Below.refl _ _⟩
  case round =>
    obtain ⟨k, hk, rfl, HU, HB⟩ := hrel
    have hsz := HB.out.size
    by_cases hlt : k < n
    · obtain ⟨g, off, rfl, hra⟩ := X3.out k hlt
      have hra := hra.below HB.out
      have hrf := HF.out k
      obtain ⟨r, hr⟩ : ∃ r, T.getD k noQ = r := ⟨_, rfl⟩
      rw [hr] at hra hrf
      have HR := Lib.hid hr
      clear hr
      obtain ⟨t, p1, p2, zs⟩ := r
      obtain ⟨c0, c1, c2, ⟨u, c3, hu⟩⟩ := hra
      have HUU : Hid (IntsAt wr u zs) := hu
      obtain ⟨a2, cp2, rfl, _⟩ := hu
      simp only at c0 c1 c2 c3
      have hts : t.size ≤ 9223372036854775000 := hrf
      have q1 : (0 : Int) ≤ (k : Int) := by omega
      have q2 : (k : Int) < (n : Int) := by omega
      obtain ⟨b', HB'⟩ : ∃ b' : Bool, Hid (b' = true ↔ ValidPt ⟨t, p1, p2, zs⟩) := by
        by_cases h : ValidPt ⟨t, p1, p2, zs⟩
        · exact ⟨true, show _ ↔ _ from ⟨fun _ => h, fun _ => rfl⟩⟩
        · exact ⟨false, show _ ↔ _ from ⟨fun e => by simp at e, fun e => absurd e h⟩⟩
      have HBa : Hid (Below w.heap.size w (wr)) := HB.out
      have HUa : Hid (IntsAt (wr) (.slice a2 zs.length cp2) zs) := HUU.out
      go_wp2_with fail
      refine (s_validPattern (wr) _ t p1 p2 zs b' HUa.out hts HB').mono ?_
      rintro e w2 ⟨rfl, hb2⟩
      have HB2 := keptQ (HBa.out.trans (hb2.mono HBa.out.size))
      clear hb2 c0 c1 c2 c3 hrf HUU HUa
      cases b' with
      | true =>
        have HU' : Hid (PtUp T (k + 1)) := HU.out.succ (by rw [HR.out]; exact HB'.out.1 rfl)
        go_wp2
        go_roundw
        case rel => exact ⟨k + 1, by omega, by go_num, HU', HB2⟩
        case measure => simp [intOf]; omega
      | false =>
        have HFF : Hid (b = false) := HNO.out fun h => by
          have h9 := h.2 k (by rw [HN.out]; exact hlt)
          rw [HR.out] at h9
          have := HB'.out.2 h9
          cases this
        go_wp2
        go_ret
        exact ⟨retb HFF.out.symm, HB2.out⟩
    · obtain rfl : k = n := by omega
      by_cases h12 : k ≤ 12
      · have d1 : decide ((k : Int) ≤ 12) = true := decide_eq_true (by omega)
        have HFF : Hid (b = true) := HYE.out ⟨by rw [HN.out]; omega, fun i hi => HU.out i (by rw [HN.out] at hi; exact hi)⟩
        go_wp2
        go_ret
        exact ⟨retb HFF.out.symm, HB.out⟩
      · have d1 : decide ((k : Int) ≤ 12) = false := decide_eq_false (by omega)
        have HFF : Hid (b = false) := HNO.out fun h => by have := h.1; rw [HN.out] at this; omega
        go_wp2
        go_ret
        exact ⟨retb HFF.out.symm, HB.out⟩
set_option maxHeartbeats 1000000 in
theorem s_ValidPatterns (w : World) (v : Value) (T : List PPat) (b : Bool) (hx : PatsAt w v T) (hf : PatsMid T) (hb : Hid (b = true ↔ ValidPs T)) :
    Calls Try.prog 15 #[v] w fun e w' => e = .returned (.bool b) ∧ Below w.heap.size w w' := by
  have HX := keptQ hx
  obtain ⟨a, cp, rfl, _⟩ := hx
  go_enter Try.func15, Try.ntmps15
  go_wp2_with fail
  refine (s_validPatterns w _ T b HX.out hf hb).mono ?_
  rintro e w2 ⟨rfl, hb2⟩
  go_wp2
  go_ret
  exact ⟨rfl, hb2⟩
set_option maxHeartbeats 2000000 in
theorem exValidPatterns_walk (a : Option Addr) (len cap : Nat) (T : List PPat) (w : World) (hx : PatsAt w (.slice a len cap) T) (hn : T.length = len) (hf : PatsFit T) :
    Calls Try.prog 9 #[.slice a len cap] w fun e w' => e = .returned (.bool true) ∧ Below w.heap.size w w' := by
  have HN := Lib.hid hn
  have HX := Lib.hid hx
  have HF := Lib.hid hf
  obtain ⟨b, hb⟩ : ∃ b : Bool, b = true ↔ ValidPs T := by
    by_cases h : ValidPs T
    · exact ⟨true, by simp [h]⟩
    · exact ⟨false, by simp [h]⟩
  have HB := Lib.hid hb
  clear hb hn hx hf
  go_enter Try.func9, Try.ntmps9
  go_wp2_with fail
  refine (szPatternS_any w _ T HX.out HF.out).mono ?_
  rintro e w1 ⟨l, rfl, hb1, hl⟩
  rcases hl with rfl | ⟨hl0, hl1, hsm⟩
  · go_wp2
    go_ret
    exact ⟨rfl, hb1⟩
  · have HS := Lib.hid hsm
    have d1 : decide (l < 0) = false := decide_eq_false (by omega)
    have hx1 := HX.out.below hb1
    have hlen : len ≤ 1048576 := by have := HS.out.1; have := HN.out; omega
    clear hsm
    go_wp2_with fail
    refine (toPatternS_any w1 _ T len hx1 HS.out HN).mono ?_
    rintro e w2 ⟨rfl, ⟨_, hnew2⟩, _, hb2⟩
    have hB2 := below_next hb1 hb2
    have ht2 : PatsAt w2 _ T := PatsAt.of_new hnew2 HN.out (by omega)
    clear hnew2
    go_wp2_with fail
    refine (s_ValidPatterns w2 _ T b ht2 HS.out.mid HB).mono ?_
    rintro e w3 ⟨rfl, hb3⟩
    have hB3 := below_next hB2 hb3
    clear ht2
    go_wp2_with fail
    refine (toPatternS_any w3 _ T len (HX.out.below hB3) HS.out HN).mono ?_
    rintro e w4 ⟨rfl, ⟨_, hnew4⟩, _, hb4⟩
    have hB4 := below_next hB3 hb4
    have ht4 : PatsAt w4 _ T := PatsAt.of_new hnew4 HN.out (by omega)
    clear hnew4
    go_wp2_with fail
    refine (i_ValidPatterns w4 _ T b ht4 HS.out.mid HB).mono ?_
    rintro e w5 ⟨rfl, hb5⟩
    have hB5 := below_next hB4 hb5
    have ht5 := ht4.below hb5
    clear ht4
    go_wp2_with fail
    refine (toPatternS_any w5 _ T len (HX.out.below hB5) HS.out HN).mono ?_
    rintro e w6 ⟨rfl, ⟨_, hnew6⟩, _, hb6⟩
    have hB6 := below_next hB5 hb6
    have ht6 : PatsAt w6 _ T := PatsAt.of_new hnew6 HN.out (by omega)
    have ht56 := ht5.below hb6
    clear hnew6 ht5
    go_wp2_with fail
    refine (eqPatternS_same w6 _ _ T ht56 ht6).mono ?_
    rintro e w7 ⟨rfl, hb7⟩
    go_wp2
    go_ret
    exact ⟨rfl, below_next hB6 hb7⟩
end Go.Proofs.Ytpohkeenfbaklaa
