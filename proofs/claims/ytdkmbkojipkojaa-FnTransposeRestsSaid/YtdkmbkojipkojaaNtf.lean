
/- BarsOf: what it answers; both sides. -/
import Derived.Test.YtdkmbkojipkojaaNtc
namespace Go.Proofs.Ytdkmbkojipkojaa
open Go.RowKit

theorem results_twoN {fn : Func} {t u : Tmp} (h : fn.results = #[.tmp t, .tmp u]) (tmps : Array Value) (P : Program) (w : World) :
    (results fn tmps).run P w = .ok (.tuple #[tmps.getD t undef, tmps.getD u undef]) w := by
  simp [results, h]
/-- behind the first k notes the bar holds m eighths, and the bars before it end at L -/
inductive BarTo (P : List PNote) (s : Int) : Nat → Int → List Int → Prop
  | zero : BarTo P s 0 0 []
  | more {k m L} : BarTo P s k m L → m + lenV (P.getD k noN).v < s → BarTo P s (k + 1) (m + lenV (P.getD k noN).v) L
  | full {k m L} : BarTo P s k m L → m + lenV (P.getD k noN).v = s → BarTo P s (k + 1) 0 (L ++ [((k + 1 : Nat) : Int)])
theorem BarTo.bd {P : List PNote} {s : Int} (hs : 1 ≤ s) : ∀ {k m L}, BarTo P s k m L → 0 ≤ m ∧ m < s ∧ L.length ≤ k := by
  intro k m L h
  induction h with
  | zero => simp; omega
  | @more k m L h h2 ih => have := lenV_bd (P.getD k noN).v; omega
  | full h h2 ih => simp; omega
theorem BarTo.one {P : List PNote} {s : Int} (_ : 1 ≤ s) : ∀ {k m L}, BarTo P s k m L → ∀ {m' L'}, BarTo P s k m' L' → m = m' ∧ L = L' := by
  intro k m L h
  induction h with
  | zero => intro m' L' h'; cases h'; exact ⟨rfl, rfl⟩
  | @more k m L h h2 ih =>
    intro m' L' h'
    cases h' with
    | more g g2 => obtain ⟨rfl, rfl⟩ := ih g; exact ⟨rfl, rfl⟩
    | full g g2 => obtain ⟨rfl, rfl⟩ := ih g; omega
  | @full k m L h h2 ih =>
    intro m' L' h'
    cases h' with
    | more g g2 => obtain ⟨rfl, rfl⟩ := ih g; omega
    | full g g2 => obtain ⟨rfl, rfl⟩ := ih g; exact ⟨rfl, rfl⟩
theorem BarTo.back {P : List PNote} {s : Int} : ∀ {k m L}, BarTo P s k m L → ∀ j, j ≤ k → ∃ m' L', BarTo P s j m' L' := by
  intro k m L h
  induction h with
  | zero => intro j hj; obtain rfl : j = 0 := by omega
            exact ⟨_, _, .zero⟩
  | @more k m L h h2 ih =>
    intro j hj
    by_cases e : j = k + 1
    · subst e; exact ⟨_, _, .more h h2⟩
    · exact ih j (by omega)
  | @full k m L h h2 ih =>
    intro j hj
    by_cases e : j = k + 1
    · subst e; exact ⟨_, _, .full h h2⟩
    · exact ih j (by omega)
/-- what BarsOf answers -/
def BarsIs (P : List PNote) (s : Int) (L : List Int) (ok : Bool) : Prop :=
  (ok = true ∧ NtsOk P ∧ (1 ≤ s ∧ s ≤ 16) ∧ BarTo P s P.length 0 L) ∨ (ok = false ∧ L = [] ∧ ¬ ∃ L', NtsOk P ∧ (1 ≤ s ∧ s ≤ 16) ∧ BarTo P s P.length 0 L')
theorem barsIs_ex (P : List PNote) (s : Int) : ∃ L ok, BarsIs P s L ok := by
  by_cases h : ∃ L', NtsOk P ∧ (1 ≤ s ∧ s ≤ 16) ∧ BarTo P s P.length 0 L'
  · obtain ⟨L, h1, h2, h3⟩ := h; exact ⟨L, true, .inl ⟨rfl, h1, h2, h3⟩⟩
  · exact ⟨[], false, .inr ⟨rfl, rfl, h⟩⟩
theorem BarsIs.yes {P : List PNote} {s : Int} {L L' : List Int} {ok : Bool} (h : BarsIs P s L ok) (h1 : NtsOk P) (h2 : 1 ≤ s ∧ s ≤ 16) (h3 : BarTo P s P.length 0 L') : ok = true ∧ L = L' := by
  rcases h with ⟨a, _, _, d⟩ | ⟨_, _, c⟩
  · exact ⟨a, (BarTo.one h2.1 d h3).2⟩
  · exact absurd ⟨_, h1, h2, h3⟩ c
theorem BarsIs.no {P : List PNote} {s : Int} {L : List Int} {ok : Bool} (h : BarsIs P s L ok) (h3 : ¬ ∃ L', NtsOk P ∧ (1 ≤ s ∧ s ≤ 16) ∧ BarTo P s P.length 0 L') : ok = false ∧ L = [] := by
  rcases h with ⟨a, b, c, d⟩ | ⟨a, b, _⟩
  · exact absurd ⟨_, b, c, d⟩ h3
  · exact ⟨a, b⟩
/-- a bar that is too long has no bars behind it -/
theorem BarTo.stop {P : List PNote} {s : Int} (hs : 1 ≤ s) {k m : Nat} {mm m' : Int} {L L' : List Int} (h : BarTo P s k mm L) (hlt : s < mm + lenV (P.getD k noN).v) (hk : k < m) : ¬ BarTo P s m m' L' := fun g => by
  obtain ⟨m2, L2, g2⟩ := g.back (k + 1) (by omega)
  cases g2 with
  | more g3 g4 => obtain ⟨rfl, rfl⟩ := BarTo.one hs h g3; omega
  | full g3 g4 => obtain ⟨rfl, rfl⟩ := BarTo.one hs h g3; omega
theorem BarTo.left {P : List PNote} {s : Int} (hs : 1 ≤ s) {k : Nat} {mm : Int} {L L' : List Int} (h : BarTo P s k mm L) (hlt : 0 < mm) : ¬ BarTo P s k 0 L' := fun g => by
  have := (BarTo.one hs h g).1
  omega
/-- a call's answer: the list, which it owns, and whether there is one -/
def BarsOut (L : List Int) (ok : Bool) (w : World) (e : Ending) (w' : World) : Prop :=
  ∃ a n c, e = .returned (.tuple #[.slice a n c, .bool ok]) ∧ OwnInts w' w.heap.size (.slice a n c) L ∧ Below w.heap.size w w'
theorem OwnInts.isSliceN {w : World} {base : Nat} {v : Value} {zs : List Int} (h : OwnInts w base v zs) : ∃ a n c, v = .slice a n c := by
  obtain ⟨a, c, h, _⟩ := h.at
  exact ⟨a, _, c, h⟩
set_option maxHeartbeats 4000000 in
theorem i_BarsOf (w : World) (v : Value) (P : List PNote) (s : Int) (L : List Int) (ok : Bool) (hx : NotesAt w v P) (hr : Hid (BarsIs P s L ok)) :
    Calls Try.prog 15 #[v, .int .i64 s] w fun e w' => BarsOut L ok w e w' := by
  obtain ⟨i0, hi, hz0, hz1, hz2⟩ := info_parts infoInt
  have HX := keptN hx
  obtain ⟨a, cp, rfl, x1, x2, _⟩ := hx
  obtain ⟨n, hn⟩ : ∃ n, P.length = n := ⟨_, rfl⟩
  rw [hn] at x1 HX ⊢
  have HN := Lib.hid hn
  clear hn
  by_cases hok : NtsOk P
  · have H3 : Hid (BIs true (NtsOk P)) := bisY (hok)
    have HK := keptN hok
    have hn40 : n ≤ 40 := by rw [← HN.out]; exact hok.1
    clear hok
    by_cases h1 : s < 1
    · have HF := keptN (hr.out.no fun ⟨_, _, h, _⟩ => by omega)
      have d1 : decide (s < 1) = true := decide_eq_true h1
      go_enter Try.func15, Try.ntmps15
      go_wp2_with fail
      refine (i_areNotes_b w _ P true HX.out H3).mono ?_
      rintro e w1 ⟨rfl, hb1⟩
      go_wp2
      refine bodyPost_ret (results_twoN rfl _ _ _) rfl ?_
      exact ⟨none, 0, 0, by rw [HF.out.1]; rfl, by rw [HF.out.2]; exact OwnInts.nil _ _, hb1⟩
    · have d1 : decide (s < 1) = false := decide_eq_false h1
      by_cases h2 : 16 < s
      · have HF := keptN (hr.out.no fun ⟨_, _, h, _⟩ => by omega)
        have d2 : decide (16 < s) = true := decide_eq_true h2
        go_enter Try.func15, Try.ntmps15
        go_wp2_with fail
        refine (i_areNotes_b w _ P true HX.out H3).mono ?_
        rintro e w1 ⟨rfl, hb1⟩
        go_wp2
        refine bodyPost_ret (results_twoN rfl _ _ _) rfl ?_
        exact ⟨none, 0, 0, by rw [HF.out.1]; rfl, by rw [HF.out.2]; exact OwnInts.nil _ _, hb1⟩
      · have d2 : decide (16 < s) = false := decide_eq_false h2
        go_enter Try.func15, Try.ntmps15
        go_wp2_with fail
        refine (i_areNotes_b w _ P true HX.out H3).mono ?_
        rintro e w1 ⟨rfl, hb1⟩
        have HB0 := keptN hb1
        have HO0 := keptN (OwnInts.nil w1 w.heap.size)
        clear hb1
        go_wp2
        go_loopw [6, 7, 23] (fun o q i wr => ∃ (k : Nat) (m : Int) (L0 : List Int), k ≤ n ∧ i = .int .i64 k ∧ q = .int .i64 m ∧ BarTo P s k m L0 ∧ OwnInts wr w.heap.size o L0 ∧ Below w.heap.size w wr) (fun _ _ i _ => n - (intOf i).toNat)
        case atStart => exact ⟨0, 0, [], Nat.zero_le _, rfl, rfl, .zero, HO0.out, HB0.out⟩
        case round =>
          clear HO0 HB0
          obtain ⟨k, m, L0, hk, rfl, rfl, hm, hO, hb1⟩ := hrel
          have hsz := hb1.size
          have hmb := hm.bd (by omega)
          obtain ⟨ao, no, co, hoo⟩ := hO.isSliceN
          subst hoo
          by_cases hlt : k < n
          · have hxr := HX.out.below hb1
            obtain ⟨g, off, c', hv, c0, c1⟩ := hxr.nth (k := k) (by rw [HN.out]; exact hlt)
            rw [HN.out] at hv
            injection hv with e1 e2 e3
            subst e1 e3
            obtain ⟨q, hq⟩ : ∃ q, P.getD k noN = q := ⟨_, rfl⟩
            have hok := HK.out.2 k (by rw [HN.out]; exact hlt)
            rw [hq] at c0 c1 hok
            obtain ⟨p, f⟩ := q
            obtain ⟨_, _, q3, q4⟩ := hok
            simp only at c0 c1 q3 q4
            have b1 : (0 : Int) ≤ (k : Int) := by omega
            have b2 : (k : Int) < (n : Int) := by omega
            obtain ⟨r1, hr1⟩ : ∃ r1, lenV f = r1 := ⟨_, rfl⟩
            have HV : Hid (lenV (P.getD k noN).v = r1) := by show _ = _; rw [hq, ← hr1]
            have hbd := lenV_bd f
            rw [hr1] at hbd
            have HR1 := Lib.hid hr1
            have HM := keptN hm
            have hBW := hb1.alloc hsz (.cells #[.int .i64 p, .int .i64 f] 37)
            have hO2 := hO.below ((Below.refl _ _).alloc (Nat.le_refl _) (.cells #[.int .i64 p, .int .i64 f] 37))
            clear hq hxr e2 hr1 hm
            go_wp2_with fail
            refine (i_eighthsOf _ f r1 q3 q4 HR1).mono ?_
            rintro e w2 ⟨rfl, rfl⟩
            generalize wr.alloc (.cells #[.int .i64 p, .int .i64 f] 37) = wa at hBW hO2 ⊢
            have HB2 := keptN hBW
            have HO2 := keptN hO2
            clear hBW hO2 hO hb1
            by_cases e1 : s < m + r1
            · have d3 : decide (s < m + r1) = true := decide_eq_true e1
              have HF := keptN (hr.out.no fun ⟨L', _, _, h⟩ => BarTo.stop (by omega) HM.out (by rw [HV.out]; exact e1) (by rw [HN.out]; exact hlt) h)
              go_wp2
              refine bodyPost_ret (results_twoN rfl _ _ _) rfl ?_
              exact ⟨none, 0, 0, by rw [HF.out.1]; rfl, by rw [HF.out.2]; exact OwnInts.nil _ _, HB2.out⟩
            · have d3 : decide (s < m + r1) = false := decide_eq_false e1
              have e1' : m + r1 ≤ s := by omega
              clear e1
              by_cases e2 : m + r1 = s
              · have d4 : (m + r1 == s) = true := by simpa using e2
                have hM2 := BarTo.full HM.out (by rw [HV.out]; exact e2)
                have HM2 := keptN hM2
                have hll := (HM.out.bd (by omega)).2.2
                clear hM2 e2
                have u9 : IntKind.i64.wrap ((k : Int) + 1) = ((k + 1 : Nat) : Int) := by rw [IntWalk.i64_in _ (by omega)]; omega
                go_wp2_with (at_builtin; refine wpList_append_own _ rfl _ _ 29 rfl w.heap.size 3 i0 (.int .i64 0) 1 8 Try.underlying29 hi hz0 hz1 hz2 rfl (by decide) _ _ _ rfl (HO2.out.below ((Below.refl _ _).alloc (Nat.le_refl _) _)) ⟨_, 0, none⟩ 1 1 [.int .i64 ((k + 1 : Nat) : Int)] rfl rfl new_one one_cell (by unfold maxLen; omega) (by omega) (by have := HB2.out.size; simp; omega) ?_)
                intro v' w3 hown' hgrow _
                have hO3 := OwnInts.snoc hown'
                have hB3 := below_append HB2.out HB2.out.size HO2.out hgrow
                have NXT := keptN (And.intro hO3 hB3)
                clear hown' hgrow hO3 hB3
                go_wp2
                go_roundw
                case rel => exact ⟨k + 1, 0, _, by omega, by go_num, rfl, HM2.out, NXT.out.1, NXT.out.2⟩
                case measure => simp [intOf]; omega
              · have d4 : (m + r1 == s) = false := by simpa using e2
                have HM2 : Hid (BarTo P s (k + 1) (m + r1) L0) := by
                  have := BarTo.more HM.out (by rw [HV.out]; omega)
                  rw [HV.out] at this
                  exact this
                clear e2
                go_wp2
                go_roundw
                case rel => exact ⟨k + 1, m + r1, L0, by omega, by go_num, by go_num, HM2.out, HO2.out, HB2.out⟩
                case measure => simp [intOf]; omega
          · obtain rfl : k = n := by omega
            have HB2 := keptN hb1
            have HO2 := keptN hO
            have HM := keptN hm
            clear hO hb1 hm
            by_cases e1 : 0 < m
            · have d5 : decide (0 < m) = true := decide_eq_true e1
              have HF := keptN (hr.out.no fun ⟨L', _, _, h⟩ => BarTo.left (by omega) HM.out e1 (by rw [HN.out] at h; exact h))
              go_wp2
              refine bodyPost_ret (results_twoN rfl _ _ _) rfl ?_
              exact ⟨none, 0, 0, by rw [HF.out.1]; rfl, by rw [HF.out.2]; exact OwnInts.nil _ _, HB2.out⟩
            · have d5 : decide (0 < m) = false := decide_eq_false e1
              have HF := keptN (hr.out.yes HK.out ⟨by omega, by omega⟩ (L' := L0) (by have := HM.out; rw [show m = 0 from by omega] at this; rw [HN.out]; exact this))
              go_wp2
              refine bodyPost_ret (results_twoN rfl _ _ _) rfl ?_
              exact ⟨_, _, _, by rw [HF.out.1]; rfl, by rw [HF.out.2]; exact HO2.out, HB2.out⟩
  · have H3 : Hid (BIs false (NtsOk P)) := bisN hok
    have HF := keptN (hr.out.no fun ⟨_, h, _⟩ => hok h)
    clear hok
    go_enter Try.func15, Try.ntmps15
    go_wp2_with fail
    refine (i_areNotes_b w _ P false HX.out H3).mono ?_
    rintro e w1 ⟨rfl, hb1⟩
    go_wp2
    refine bodyPost_ret (results_twoN rfl _ _ _) rfl ?_
    exact ⟨none, 0, 0, by rw [HF.out.1]; rfl, by rw [HF.out.2]; exact OwnInts.nil _ _, hb1⟩
set_option maxHeartbeats 4000000 in
theorem s_BarsOf (w : World) (v : Value) (P : List PNote) (s : Int) (L : List Int) (ok : Bool) (hx : NotesAt w v P) (hr : Hid (BarsIs P s L ok)) :
    Calls Try.prog 16 #[v, .int .i64 s] w fun e w' => BarsOut L ok w e w' := by
  obtain ⟨i0, hi, hz0, hz1, hz2⟩ := info_parts infoInt
  have HX := keptN hx
  obtain ⟨a, cp, rfl, x1, x2, _⟩ := hx
  obtain ⟨n, hn⟩ : ∃ n, P.length = n := ⟨_, rfl⟩
  rw [hn] at x1 HX ⊢
  have HN := Lib.hid hn
  clear hn
  by_cases hok : NtsOk P
  · have H3 : Hid (BIs true (NtsOk P)) := bisY (hok)
    have HK := keptN hok
    have hn40 : n ≤ 40 := by rw [← HN.out]; exact hok.1
    clear hok
    by_cases h1 : 1 ≤ s ∧ s ≤ 16
    · have H4 : Hid (BIs true (1 ≤ s ∧ s ≤ 16)) := bisY h1
      obtain ⟨h1a, h1b⟩ := h1
      go_enter Try.func16, Try.ntmps16
      go_wp2_with fail
      refine (s_validNotes_b w _ P true HX.out H3).mono ?_
      rintro e w1 ⟨rfl, hb1⟩
      go_wp2_with fail
      refine (inRangeN _ s 1 16 true H4).mono ?_
      rintro e w' ⟨rfl, rfl⟩
      have HB0 := keptN (hb1.alloc hb1.size (.cells #[] 3))
      have HO0 := keptN (OwnInts.made w1 w.heap.size hb1.size)
      clear hb1
      go_wp2
      go_loopw [6, 7, 8] (fun o q i wr => ∃ (k : Nat) (m : Int) (L0 : List Int), k ≤ n ∧ i = .int .i64 k ∧ q = .int .i64 m ∧ BarTo P s k m L0 ∧ OwnInts wr w.heap.size o L0 ∧ Below w.heap.size w wr) (fun _ _ i _ => n - (intOf i).toNat)
      case atStart => exact ⟨0, 0, [], Nat.zero_le _, rfl, rfl, .zero, HO0.out, HB0.out⟩
      case round =>
        clear HO0 HB0
        obtain ⟨k, m, L0, hk, rfl, rfl, hm, hO, hb1⟩ := hrel
        have hsz := hb1.size
        have hmb := hm.bd (by omega)
        obtain ⟨ao, no, co, hoo⟩ := hO.isSliceN
        subst hoo
        by_cases hlt : k < n
        · have hxr := HX.out.below hb1
          obtain ⟨g, off, c', hv, c0, c1⟩ := hxr.nth (k := k) (by rw [HN.out]; exact hlt)
          rw [HN.out] at hv
          injection hv with e1 e2 e3
          subst e1 e3
          obtain ⟨q, hq⟩ : ∃ q, P.getD k noN = q := ⟨_, rfl⟩
          have hok := HK.out.2 k (by rw [HN.out]; exact hlt)
          rw [hq] at c0 c1 hok
          obtain ⟨p, f⟩ := q
          obtain ⟨_, _, q3, q4⟩ := hok
          simp only at c0 c1 q3 q4
          have b1 : (0 : Int) ≤ (k : Int) := by omega
          have b2 : (k : Int) < (n : Int) := by omega
          obtain ⟨r1, hr1⟩ : ∃ r1, lenV f = r1 := ⟨_, rfl⟩
          have HV : Hid (lenV (P.getD k noN).v = r1) := by show _ = _; rw [hq, ← hr1]
          have hbd := lenV_bd f
          rw [hr1] at hbd
          have HR1 := Lib.hid hr1
          have HM := keptN hm
          clear hq hxr e2 hr1 hm
          go_wp2_with fail
          refine (s_lengthOf _ f r1 q3 q4 HR1).mono ?_
          rintro e w2 ⟨rfl, hb2⟩
          have hBW := hb1.trans (hb2.mono hsz)
          have hO2 := hO.below hb2
          clear hb2
          have HB2 := keptN hBW
          have HO2 := keptN hO2
          clear hBW hO2 hO hb1
          by_cases e1 : s < m + r1
          · have d3 : decide (s < m + r1) = true := decide_eq_true e1
            have HF := keptN (hr.out.no fun ⟨L', _, _, h⟩ => BarTo.stop (by omega) HM.out (by rw [HV.out]; exact e1) (by rw [HN.out]; exact hlt) h)
            go_wp2
            refine bodyPost_ret (results_twoN rfl _ _ _) rfl ?_
            exact ⟨none, 0, 0, by rw [HF.out.1]; rfl, by rw [HF.out.2]; exact OwnInts.nil _ _, HB2.out⟩
          · have d3 : decide (s < m + r1) = false := decide_eq_false e1
            have e1' : m + r1 ≤ s := by omega
            clear e1
            by_cases e2 : m + r1 = s
            · have d4 : (m + r1 == s) = true := by simpa using e2
              have hM2 := BarTo.full HM.out (by rw [HV.out]; exact e2)
              have HM2 := keptN hM2
              have hll := (HM.out.bd (by omega)).2.2
              clear hM2 e2
              have u9 : IntKind.i64.wrap ((k : Int) + 1) = ((k + 1 : Nat) : Int) := by rw [IntWalk.i64_in _ (by omega)]; omega
              go_wp2_with (at_builtin; refine wpList_append_own _ rfl _ _ 29 rfl w.heap.size 3 i0 (.int .i64 0) 1 8 Try.underlying29 hi hz0 hz1 hz2 rfl (by decide) _ _ _ rfl (HO2.out.below ((Below.refl _ _).alloc (Nat.le_refl _) _)) ⟨_, 0, none⟩ 1 1 [.int .i64 ((k + 1 : Nat) : Int)] rfl rfl new_one one_cell (by unfold maxLen; omega) (by omega) (by have := HB2.out.size; simp; omega) ?_)
              intro v' w3 hown' hgrow _
              have hO3 := OwnInts.snoc hown'
              have hB3 := below_append HB2.out HB2.out.size HO2.out hgrow
              have NXT := keptN (And.intro hO3 hB3)
              clear hown' hgrow hO3 hB3
              go_wp2
              go_roundw
              case rel => exact ⟨k + 1, 0, _, by omega, by go_num, rfl, HM2.out, NXT.out.1, NXT.out.2⟩
              case measure => simp [intOf]; omega
            · have d4 : (m + r1 == s) = false := by simpa using e2
              have HM2 : Hid (BarTo P s (k + 1) (m + r1) L0) := by
                have := BarTo.more HM.out (by rw [HV.out]; omega)
                rw [HV.out] at this
                exact this
              clear e2
              go_wp2
              go_roundw
              case rel => exact ⟨k + 1, m + r1, L0, by omega, by go_num, by go_num, HM2.out, HO2.out, HB2.out⟩
              case measure => simp [intOf]; omega
        · obtain rfl : k = n := by omega
          have HB2 := keptN hb1
          have HO2 := keptN hO
          have HM := keptN hm
          clear hO hb1 hm
          by_cases e1 : 0 < m
          · have d5 : decide (0 < m) = true := decide_eq_true e1
            have HF := keptN (hr.out.no fun ⟨L', _, _, h⟩ => BarTo.left (by omega) HM.out e1 (by rw [HN.out] at h; exact h))
            go_wp2
            refine bodyPost_ret (results_twoN rfl _ _ _) rfl ?_
            exact ⟨none, 0, 0, by rw [HF.out.1]; rfl, by rw [HF.out.2]; exact OwnInts.nil _ _, HB2.out⟩
          · have d5 : decide (0 < m) = false := decide_eq_false e1
            have HF := keptN (hr.out.yes HK.out ⟨by omega, by omega⟩ (L' := L0) (by have := HM.out; rw [show m = 0 from by omega] at this; rw [HN.out]; exact this))
            go_wp2
            refine bodyPost_ret (results_twoN rfl _ _ _) rfl ?_
            exact ⟨_, _, _, by rw [HF.out.1]; rfl, by rw [HF.out.2]; exact HO2.out, HB2.out⟩
    · have H4 : Hid (BIs false (1 ≤ s ∧ s ≤ 16)) := bisN h1
      have HF := keptN (hr.out.no fun ⟨_, _, h, _⟩ => h1 h)
      clear h1
      go_enter Try.func16, Try.ntmps16
      go_wp2_with fail
      refine (s_validNotes_b w _ P true HX.out H3).mono ?_
      rintro e w1 ⟨rfl, hb1⟩
      go_wp2_with fail
      refine (inRangeN _ s 1 16 false H4).mono ?_
      rintro e w' ⟨rfl, rfl⟩
      go_wp2
      refine bodyPost_ret (results_twoN rfl _ _ _) rfl ?_
      exact ⟨none, 0, 0, by rw [HF.out.1]; rfl, by rw [HF.out.2]; exact OwnInts.nil _ _, hb1⟩
  · have H3 : Hid (BIs false (NtsOk P)) := bisN hok
    have HF := keptN (hr.out.no fun ⟨_, h, _⟩ => hok h)
    clear hok
    go_enter Try.func16, Try.ntmps16
    go_wp2_with fail
    refine (s_validNotes_b w _ P false HX.out H3).mono ?_
    rintro e w1 ⟨rfl, hb1⟩
    go_wp2
    refine bodyPost_ret (results_twoN rfl _ _ _) rfl ?_
    exact ⟨none, 0, 0, by rw [HF.out.1]; rfl, by rw [HF.out.2]; exact OwnInts.nil _ _, hb1⟩
end Go.Proofs.Ytdkmbkojipkojaa
