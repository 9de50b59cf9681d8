
/- Whether notes are valid, and their length: both sides. -/
import Derived.Test.YtfofjjfnejigaaaNtb
import Derived.Test.YtfofjjfnejigaaaRange
namespace Go.Proofs.Ytfofjjfnejigaaa
open Go.RowKit

/-- the truth value b says whether P holds -/
def BIs (b : Bool) (P : Prop) : Prop := b = true ↔ P
theorem bisY {P : Prop} (h : P) : BIs true P := ⟨fun _ => h, fun _ => rfl⟩
theorem bisN {P : Prop} (h : ¬ P) : BIs false P := ⟨fun k => by simp at k, fun k => absurd k h⟩
theorem inBN {b : Bool} {P : Prop} (h : b = true ↔ P) (n : ¬ P) : b = false := by
  cases b with
  | false => rfl
  | true => exact absurd (h.1 rfl) n
theorem boolOfN (P : Prop) : ∃ b : Bool, BIs b P := by
  by_cases h : P
  · exact ⟨true, bisY h⟩
  · exact ⟨false, bisN h⟩
theorem inRangeN (w : World) (n lo hi : Int) (b : Bool) (hb : Hid (BIs b (lo ≤ n ∧ n ≤ hi))) :
    Calls Try.prog 62 #[.int .i64 n, .int .i64 lo, .int .i64 hi] w fun e w' => e = .returned (.bool b) ∧ w = w' := by
  cases b with
  | true => have h := hb.out.1 rfl; exact inRange_yes n lo hi w h.1 h.2
  | false => exact inRange_no n lo hi w (by
      have h : ¬ (lo ≤ n ∧ n ≤ hi) := fun k => by have := hb.out.2 k; simp at this
      omega)
theorem i_isPitch_b (w : World) (p : Int) (b : Bool) (hb : Hid (BIs b (0 ≤ p ∧ p ≤ 48))) :
    Calls Try.prog 41 #[.int .i64 p] w fun e w' => e = .returned (.bool b) ∧ w = w' := by
  by_cases h1 : 0 ≤ p
  · by_cases h2 : p ≤ 48
    · have d1 : decide (0 ≤ p) = true := decide_eq_true h1
      have d2 : decide (p ≤ 48) = true := decide_eq_true h2
      have HF : Hid (b = true) := hb.out.2 ⟨h1, h2⟩
      clear h1 h2
      go_enter Try.func41, Try.ntmps41
      go_wp2
      go_ret
      exact ⟨by rw [HF.out]; rfl, rfl⟩
    · have d1 : decide (0 ≤ p) = true := decide_eq_true h1
      have d2 : decide (p ≤ 48) = false := decide_eq_false h2
      have HF : Hid (b = false) := inBN hb.out fun h => h2 h.2
      clear h1 h2
      go_enter Try.func41, Try.ntmps41
      go_wp2
      go_ret
      exact ⟨by rw [HF.out]; rfl, rfl⟩
  · have d1 : decide (0 ≤ p) = false := decide_eq_false h1
    have HF : Hid (b = false) := inBN hb.out fun h => h1 h.1
    clear h1
    go_enter Try.func41, Try.ntmps41
    go_wp2
    go_ret
    exact ⟨by rw [HF.out]; rfl, rfl⟩
def NtOk (x : PNote) : Prop := -1 ≤ x.p ∧ x.p ≤ 48 ∧ 0 ≤ x.v ∧ x.v ≤ 3
instance (x : PNote) : Decidable (NtOk x) := inferInstanceAs (Decidable (_ ∧ _))
def UpN (P : List PNote) (k : Nat) : Prop := ∀ i, i < k → NtOk (P.getD i noN)
theorem UpN.zero (P : List PNote) : UpN P 0 := fun i h => absurd h (by omega)
theorem UpN.succ {P : List PNote} {k : Nat} (h : UpN P k) (e : NtOk (P.getD k noN)) : UpN P (k + 1) := fun i hi => by
  by_cases hik : i = k
  · subst hik; exact e
  · exact h i (by omega)
def NtsOk (P : List PNote) : Prop := P.length ≤ 40 ∧ UpN P P.length
set_option maxHeartbeats 2000000 in
theorem i_areNotes_b (w : World) (v : Value) (P : List PNote) (b : Bool) (hx : NotesAt w v P) (hb : Hid (BIs b (NtsOk P))) :
    Calls Try.prog 30 #[v] w fun e w' => e = .returned (.bool b) ∧ Below w.heap.size w w' := by
  have HX := keptN hx
  obtain ⟨a, cp, rfl, x1, x2, _⟩ := hx
  obtain ⟨n, hn⟩ : ∃ n, P.length = n := ⟨_, rfl⟩
  rw [hn] at x1 HX ⊢
  have HN := Lib.hid hn
  clear hn
  by_cases hbig : n ≤ 40
  · go_enter Try.func30, Try.ntmps30
    go_wp2
    go_loopw [10] (fun i wr => ∃ k : Nat, k ≤ n ∧ i = .int .i64 k ∧ UpN P k ∧ Below w.heap.size w wr) (fun i _ => n - (intOf i).toNat)
    case atStart => exact ⟨0, Nat.zero_le _, rfl, UpN.zero _, Below.refl _ _⟩
    case round =>
      obtain ⟨k, hk, rfl, hs, hb1⟩ := hrel
      have hsz := hb1.size
      by_cases hlt : k < n
      · have hxr := HX.out.below hb1
        obtain ⟨g, off, c', hv, c0, c1⟩ := hxr.nth (k := k) (by rw [HN.out]; exact hlt)
        rw [HN.out] at hv
        injection hv with e1 e2 e3
        subst e1 e3
        obtain ⟨q, hq⟩ : ∃ q, P.getD k noN = q := ⟨_, rfl⟩
        rw [hq] at c0 c1
        have HQ := Lib.hid hq
        obtain ⟨r, f⟩ := q
        simp only at c0 c1
        have b1 : (0 : Int) ≤ (k : Int) := by omega
        have b2 : (k : Int) < (n : Int) := by omega
        have hBW := hb1.alloc hsz (.cells #[.int .i64 r, .int .i64 f] 35)
        clear hq hxr e2
        by_cases e : NtOk ⟨r, f⟩
        · have hs' := keptN (hs.succ (by rw [HQ.out]; exact e))
          obtain ⟨q1, q2, q3, q4⟩ := e
          simp only at q1 q2 q3 q4
          clear hs
          have d3 : decide (f < 0) = false := decide_eq_false (by omega)
          have d4 : decide (3 < f) = false := decide_eq_false (by omega)
          by_cases e1 : r = -1
          · have d1 : (r != -1) = false := by simpa using e1
            clear e1
            go_wp2
            go_roundw
            case rel => exact ⟨k + 1, by omega, by go_num, hs'.out, hBW⟩
            case measure => simp [intOf]; omega
          · have d1 : (r != -1) = true := by simpa using e1
            have H3 : Hid (BIs true ((0 ≤ r ∧ r ≤ 48))) := bisY (⟨by omega, q2⟩)
            clear e1
            go_wp2_with (go_at_call 41; refine (i_isPitch_b _ r true H3).mono ?_; rintro e w2 ⟨rfl, rfl⟩)
            go_roundw
            case rel => exact ⟨k + 1, by omega, by go_num, hs'.out, hBW⟩
            case measure => simp [intOf]; omega
        · have HF : Hid (b = false) := inBN hb.out fun h => e (by have := h.2 k (by rw [HN.out]; exact hlt); rw [HQ.out] at this; exact this)
          clear hs
          by_cases e1 : r = -1
          · have d1 : (r != -1) = false := by simpa using e1
            by_cases e3 : f < 0
            · have d3 : decide (f < 0) = true := decide_eq_true e3
              clear e e1
              go_wp2
              go_ret
              exact ⟨by rw [HF.out]; rfl, hBW⟩
            · have d3 : decide (f < 0) = false := decide_eq_false e3
              have d4 : decide (3 < f) = true := decide_eq_true (by
                have : ¬ f ≤ 3 := fun h => e ⟨by simp only; omega, by simp only; omega, by simp only; omega, h⟩
                omega)
              clear e e1
              go_wp2
              go_ret
              exact ⟨by rw [HF.out]; rfl, hBW⟩
          · have d1 : (r != -1) = true := by simpa using e1
            by_cases e2 : 0 ≤ r ∧ r ≤ 48
            · have H3 : Hid (BIs true ((0 ≤ r ∧ r ≤ 48))) := bisY (e2)
              by_cases e3 : f < 0
              · have d3 : decide (f < 0) = true := decide_eq_true e3
                clear e e1
                go_wp2_with (go_at_call 41; refine (i_isPitch_b _ r true H3).mono ?_; rintro e w2 ⟨rfl, rfl⟩)
                go_ret
                exact ⟨by rw [HF.out]; rfl, hBW⟩
              · have d3 : decide (f < 0) = false := decide_eq_false e3
                have d4 : decide (3 < f) = true := decide_eq_true (by
                  have : ¬ f ≤ 3 := fun h => e ⟨by simp only; omega, by simp only; omega, by simp only; omega, h⟩
                  omega)
                clear e e1
                go_wp2_with (go_at_call 41; refine (i_isPitch_b _ r true H3).mono ?_; rintro e w2 ⟨rfl, rfl⟩)
                go_ret
                exact ⟨by rw [HF.out]; rfl, hBW⟩
            · have H3 : Hid (BIs false ((0 ≤ r ∧ r ≤ 48))) := bisN e2
              clear e e1
              go_wp2_with (go_at_call 41; refine (i_isPitch_b _ r false H3).mono ?_; rintro e w2 ⟨rfl, rfl⟩)
              go_ret
              exact ⟨by rw [HF.out]; rfl, hBW⟩
      · obtain rfl : k = n := by omega
        have HF : Hid (b = true) := hb.out.2 ⟨by rw [HN.out]; exact hbig, by rw [HN.out]; exact hs⟩
        clear hs
        go_wp2
        go_ret
        exact ⟨by rw [HF.out]; rfl, hb1⟩
  · have HF : Hid (b = false) := inBN hb.out fun h => hbig (by have := h.1; rw [HN.out] at this; exact this)
    have hbig' : 40 < n := by omega
    go_enter Try.func30, Try.ntmps30
    go_wp2
    go_ret
    exact ⟨by rw [HF.out]; rfl, Below.refl _ _⟩
set_option maxHeartbeats 1000000 in
theorem s_validNote_b (w : World) (r f : Int) (b : Bool) (hb : Hid (BIs b (NtOk ⟨r, f⟩))) :
    Calls Try.prog 53 #[.agg #[.int .i64 r, .int .i64 f]] w fun e w' => e = .returned (.bool b) ∧ Below w.heap.size w w' := by
  have hB1 : Below w.heap.size w (w.alloc (.cells #[.int .i64 r, .int .i64 f] 35)) := (Below.refl _ _).alloc (Nat.le_refl _) _
  by_cases e1 : -1 ≤ r ∧ r ≤ 48
  · have H1 : Hid (BIs true ((-1 ≤ r ∧ r ≤ 48))) := bisY (e1)
    obtain ⟨b2, hb2⟩ := boolOfN (0 ≤ f ∧ f ≤ 3)
    have H2 := keptN hb2
    have HF : Hid (b = b2) := by
      show b = b2
      cases b2
      · exact inBN hb.out fun h => by have := hb2.2 ⟨h.2.2.1, h.2.2.2⟩; simp at this
      · exact hb.out.2 ⟨e1.1, e1.2, (hb2.1 rfl).1, (hb2.1 rfl).2⟩
    clear hb2 e1
    cases b2 with
    | true =>
      go_enter Try.func53, Try.ntmps53
      go_wp2_with fail
      refine (inRangeN _ r (-1) 48 true H1).mono ?_
      rintro e w2 ⟨rfl, rfl⟩
      go_wp2_with fail
      refine (inRangeN _ f 0 3 true H2).mono ?_
      rintro e w2 ⟨rfl, rfl⟩
      go_wp2
      go_ret
      exact ⟨by rw [HF.out]; rfl, hB1⟩
    | false =>
      go_enter Try.func53, Try.ntmps53
      go_wp2_with fail
      refine (inRangeN _ r (-1) 48 true H1).mono ?_
      rintro e w2 ⟨rfl, rfl⟩
      go_wp2_with fail
      refine (inRangeN _ f 0 3 false H2).mono ?_
      rintro e w2 ⟨rfl, rfl⟩
      go_wp2
      go_ret
      exact ⟨by rw [HF.out]; rfl, hB1⟩
  · have H1 : Hid (BIs false ((-1 ≤ r ∧ r ≤ 48))) := bisN e1
    have HF : Hid (b = false) := inBN hb.out fun h => e1 ⟨h.1, h.2.1⟩
    clear e1
    go_enter Try.func53, Try.ntmps53
    go_wp2_with fail
    refine (inRangeN _ r (-1) 48 false H1).mono ?_
    rintro e w2 ⟨rfl, rfl⟩
    go_wp2
    go_ret
    exact ⟨by rw [HF.out]; rfl, hB1⟩
set_option maxHeartbeats 2000000 in
theorem s_validNotes_b (w : World) (v : Value) (P : List PNote) (b : Bool) (hx : NotesAt w v P) (hb : Hid (BIs b (NtsOk P))) :
    Calls Try.prog 36 #[v] w fun e w' => e = .returned (.bool b) ∧ Below w.heap.size w w' := by
  have HX := keptN hx
  obtain ⟨a, cp, rfl, x1, x2, _⟩ := hx
  obtain ⟨n, hn⟩ : ∃ n, P.length = n := ⟨_, rfl⟩
  rw [hn] at x1 HX ⊢
  have HN := Lib.hid hn
  clear hn
  go_enter Try.func36, Try.ntmps36
  go_wp2
  go_loopw [3] (fun i wr => ∃ k : Nat, k ≤ n ∧ i = .int .i64 k ∧ UpN P k ∧ Below w.heap.size w wr) (fun i _ => n - (intOf i).toNat)
  case atStart => exact ⟨0, Nat.zero_le _, rfl, UpN.zero _, Below.refl _ _⟩
  case round =>
    obtain ⟨k, hk, rfl, hs, hb1⟩ := hrel
    have hsz := hb1.size
    by_cases hlt : k < n
    · have hxr := HX.out.below hb1
      obtain ⟨g, off, c', hv, c0, c1⟩ := hxr.nth (k := k) (by rw [HN.out]; exact hlt)
      rw [HN.out] at hv
      injection hv with e1 e2 e3
      subst e1 e3
      obtain ⟨q, hq⟩ : ∃ q, P.getD k noN = q := ⟨_, rfl⟩
      rw [hq] at c0 c1
      have HQ := Lib.hid hq
      obtain ⟨r, f⟩ := q
      simp only at c0 c1
      have b1 : (0 : Int) ≤ (k : Int) := by omega
      have b2 : (k : Int) < (n : Int) := by omega
      clear hq hxr e2
      by_cases e : NtOk ⟨r, f⟩
      · have hs' := keptN (hs.succ (by rw [HQ.out]; exact e))
        have H3 : Hid (BIs true (NtOk ⟨r, f⟩)) := bisY (e)
        clear hs e
        go_wp2_with fail
        refine (s_validNote_b _ r f true H3).mono ?_
        rintro e w2 ⟨rfl, hb2⟩
        have hB2 := hb1.trans (hb2.mono hsz)
        go_wp2
        go_roundw
        case rel => exact ⟨k + 1, by omega, by go_num, hs'.out, hB2⟩
        case measure => simp [intOf]; omega
      · have HF : Hid (b = false) := inBN hb.out fun h => e (by have := h.2 k (by rw [HN.out]; exact hlt); rw [HQ.out] at this; exact this)
        have H3 : Hid (BIs false (NtOk ⟨r, f⟩)) := bisN e
        clear hs e
        go_wp2_with fail
        refine (s_validNote_b _ r f false H3).mono ?_
        rintro e w2 ⟨rfl, hb2⟩
        have hB2 := hb1.trans (hb2.mono hsz)
        go_wp2
        go_ret
        exact ⟨by rw [HF.out]; rfl, hB2⟩
    · obtain rfl : k = n := by omega
      by_cases hbig : k ≤ 40
      · have d1 : decide ((k : Int) ≤ 40) = true := decide_eq_true (by omega)
        have HF : Hid (b = true) := hb.out.2 ⟨by rw [HN.out]; exact hbig, by rw [HN.out]; exact hs⟩
        clear hs
        go_wp2
        go_ret
        exact ⟨by rw [HF.out]; rfl, hb1⟩
      · have d1 : decide ((k : Int) ≤ 40) = false := decide_eq_false (by omega)
        have HF : Hid (b = false) := inBN hb.out fun h => hbig (by have := h.1; rw [HN.out] at this; exact this)
        clear hs
        go_wp2
        go_ret
        exact ⟨by rw [HF.out]; rfl, hb1⟩
/-- the length of a value -/
def lenV (v : Int) : Int := if v = 0 then 8 else if v = 1 then 4 else if v = 2 then 2 else 1
def lenTo (P : List PNote) : Nat → Int
  | 0 => 0
  | k + 1 => lenTo P k + lenV (P.getD k noN).v
theorem lenV_bd (v : Int) : 1 ≤ lenV v ∧ lenV v ≤ 8 := by
  unfold lenV
  split
  · omega
  · split
    · omega
    · split <;> omega
theorem lenTo_bd (P : List PNote) (k : Nat) : (k : Int) ≤ lenTo P k ∧ lenTo P k ≤ 8 * (k : Int) := by
  induction k with
  | zero => simp [lenTo]
  | succ k ih => have := lenV_bd (P.getD k noN).v; simp only [lenTo]; omega
/-- what LengthOf answers -/
noncomputable def lnOf (P : List PNote) : Int := @ite _ (NtsOk P) (Classical.propDecidable _) (lenTo P P.length) (-1)
theorem lnOf_yes {P : List PNote} (h : NtsOk P) : lnOf P = lenTo P P.length := if_pos h
theorem lnOf_no {P : List PNote} (h : ¬ NtsOk P) : lnOf P = -1 := if_neg h
end Go.Proofs.Ytfofjjfnejigaaa
