
/- Transpose: what it answers; both sides. -/
import Derived.Test.YtfofjjfnejigaaaNtf
namespace Go.Proofs.Ytfofjjfnejigaaa
open Go.RowKit

/-- a note that is higher by so much; a rest stays -/
def trN (by' : Int) (x : PNote) : PNote := if x.p = -1 then x else ⟨x.p + by', x.v⟩
def TrOne (by' : Int) (x : PNote) : Prop := x.p = -1 ∨ (0 ≤ x.p + by' ∧ x.p + by' ≤ 48)
def TrUp (P : List PNote) (by' : Int) (k : Nat) : Prop := ∀ i, i < k → TrOne by' (P.getD i noN)
theorem TrUp.zero (P : List PNote) (b : Int) : TrUp P b 0 := fun i h => absurd h (by omega)
theorem TrUp.succ {P : List PNote} {b : Int} {k : Nat} (h : TrUp P b k) (e : TrOne b (P.getD k noN)) : TrUp P b (k + 1) := fun i hi => by
  by_cases hik : i = k
  · subst hik; exact e
  · exact h i (by omega)
def trL (P : List PNote) (b : Int) (k : Nat) : List PNote := (P.take k).map (trN b)
theorem trL_succ {P : List PNote} {b : Int} {k : Nat} (h : k < P.length) : trL P b (k + 1) = trL P b k ++ [trN b (P.getD k noN)] := by
  unfold trL
  rw [List.take_add_one, List.getElem?_eq_getElem h, List.getD_eq_getElem?_getD, List.getElem?_eq_getElem h, List.map_append]
  rfl
theorem trL_len (P : List PNote) (b : Int) (k : Nat) : (trL P b k).length ≤ k := by unfold trL; simp; omega
def TrCan (P : List PNote) (b : Int) : Prop := NtsOk P ∧ (-48 ≤ b ∧ b ≤ 48) ∧ TrUp P b P.length
def TransIs (P : List PNote) (b : Int) (L : List PNote) (ok : Bool) : Prop :=
  (ok = true ∧ TrCan P b ∧ L = trL P b P.length) ∨ (ok = false ∧ L = [] ∧ ¬ TrCan P b)
theorem transIs_ex (P : List PNote) (b : Int) : ∃ L ok, TransIs P b L ok := by
  by_cases h : TrCan P b
  · exact ⟨_, true, .inl ⟨rfl, h, rfl⟩⟩
  · exact ⟨[], false, .inr ⟨rfl, rfl, h⟩⟩
theorem TransIs.no {P : List PNote} {b : Int} {L : List PNote} {ok : Bool} (h : TransIs P b L ok) (n : ¬ TrCan P b) : ok = false ∧ L = [] := by
  rcases h with ⟨_, c, _⟩ | ⟨a, c, _⟩
  · exact absurd c n
  · exact ⟨a, c⟩
theorem TransIs.yes {P : List PNote} {b : Int} {L : List PNote} {ok : Bool} (h : TransIs P b L ok) (n : TrCan P b) : ok = true ∧ L = trL P b P.length := by
  rcases h with ⟨a, _, c⟩ | ⟨_, _, c⟩
  · exact ⟨a, c⟩
  · exact absurd n c
theorem TransIs.len {P : List PNote} {b : Int} {L : List PNote} {ok : Bool} (h : TransIs P b L ok) : L.length ≤ 40 := by
  rcases h with ⟨_, c, rfl⟩ | ⟨_, rfl, _⟩
  · have := trL_len P b P.length; have := c.1.1; omega
  · simp
def TransOut (L : List PNote) (ok : Bool) (w : World) (e : Ending) (w' : World) : Prop :=
  ∃ a n c, e = .returned (.tuple #[.slice a n c, .bool ok]) ∧ OwnNt w' w.heap.size (.slice a n c) L ∧ Below w.heap.size w w'
set_option maxHeartbeats 4000000 in
theorem i_Transpose (w : World) (v : Value) (P : List PNote) (s : Int) (L : List PNote) (ok : Bool) (hx : NotesAt w v P) (hr : Hid (TransIs P s L ok)) :
    Calls Try.prog 15 #[v, .int .i64 s] w fun e w' => TransOut L ok w e w' := by
  have HX := keptN hx
  obtain ⟨a, cp, rfl, x1, x2, _⟩ := hx
  obtain ⟨n, hn⟩ : ∃ n, P.length = n := ⟨_, rfl⟩
  rw [hn] at x1 HX ⊢
  have HN := Lib.hid hn
  clear hn
  by_cases hok : NtsOk P
  · have H3 : Hid (BIs true (NtsOk P)) := bisY (hok)
    have HK := keptN hok
    have hn40 : n ≤ 40 := by rw [← HN.out]; exact hok.1
    clear hok
    by_cases h1 : s < -48
    · have HF := keptN (hr.out.no fun ⟨_, h, _⟩ => by omega)
      have d1 : decide (s < -48) = true := decide_eq_true h1
      go_enter Try.func15, Try.ntmps15
      go_wp2_with fail
      refine (i_areNotes_b w _ P true HX.out H3).mono ?_
      rintro e w1 ⟨rfl, hb1⟩
      go_wp2
      refine bodyPost_ret (results_twoN rfl _ _ _) rfl ?_
      exact ⟨none, 0, 0, by rw [HF.out.1]; rfl, by rw [HF.out.2]; exact OwnNt.nil _ _, hb1⟩
    · have d1 : decide (s < -48) = false := decide_eq_false h1
      by_cases h2 : 48 < s
      · have HF := keptN (hr.out.no fun ⟨_, h, _⟩ => by omega)
        have d2 : decide (48 < s) = true := decide_eq_true h2
        go_enter Try.func15, Try.ntmps15
        go_wp2_with fail
        refine (i_areNotes_b w _ P true HX.out H3).mono ?_
        rintro e w1 ⟨rfl, hb1⟩
        go_wp2
        refine bodyPost_ret (results_twoN rfl _ _ _) rfl ?_
        exact ⟨none, 0, 0, by rw [HF.out.1]; rfl, by rw [HF.out.2]; exact OwnNt.nil _ _, hb1⟩
      · have d2 : decide (48 < s) = false := decide_eq_false h2
        go_enter Try.func15, Try.ntmps15
        go_wp2_with fail
        refine (i_areNotes_b w _ P true HX.out H3).mono ?_
        rintro e w1 ⟨rfl, hb1⟩
        have HB0 := keptN hb1
        have HO0 : Hid (OwnNt w1 w.heap.size (.slice none 0 0) (trL P s 0)) := OwnNt.nil w1 w.heap.size
        clear hb1
        go_wp2
        go_loopw [6, 23] (fun o i wr => ∃ k : Nat, k ≤ n ∧ i = .int .i64 k ∧ TrUp P s k ∧ OwnNt wr w.heap.size o (trL P s k) ∧ Below w.heap.size w wr) (fun _ i _ => n - (intOf i).toNat)
        case atStart => exact ⟨0, Nat.zero_le _, rfl, .zero _ _, HO0.out, HB0.out⟩
        case round =>
          clear HO0 HB0
          obtain ⟨k, hk, rfl, hm, hO, hb1⟩ := hrel
          have hsz := hb1.size
          obtain ⟨ao, no, co, hoo⟩ := hO.isSlice
          subst hoo
          by_cases hlt : k < n
          · have hxr := HX.out.below hb1
            obtain ⟨g, off, c', hv, c0, c1⟩ := hxr.nth (k := k) (by rw [HN.out]; exact hlt)
            rw [HN.out] at hv
            injection hv with e1 e2 e3
            subst e1 e3
            obtain ⟨q, hq⟩ : ∃ q, P.getD k noN = q := ⟨_, rfl⟩
            have hok := HK.out.2 k (by rw [HN.out]; exact hlt)
            rw [hq] at c0 c1 hok
            obtain ⟨p, f⟩ := q
            obtain ⟨q1, q2, q3, q4⟩ := hok
            simp only at c0 c1 q1 q2 q3 q4
            have HQ := Lib.hid hq
            have b1 : (0 : Int) ≤ (k : Int) := by omega
            have b2 : (k : Int) < (n : Int) := by omega
            have HM := keptN hm
            have HT : Hid (trL P s (k + 1) = trL P s k ++ [trN s ⟨p, f⟩]) := by show _ = _; rw [trL_succ (by rw [HN.out]; exact hlt), hq]
            obtain ⟨L0, hL0⟩ : ∃ L0, trL P s k = L0 := ⟨_, rfl⟩
            have hll : L0.length ≤ k := by rw [← hL0]; exact trL_len P s k
            rw [hL0] at hO HT
            have HO := keptN hO
            have HB := keptN hb1
            clear hq hxr e2 hm hL0 hO hb1
            by_cases e1 : p = -1
            · subst e1
              have hM2 : TrUp P s (k + 1) := HM.out.succ (.inl (by rw [HQ.out]))
              have HM2 := keptN hM2
              have HT' : Hid (trL P s (k + 1) = L0 ++ [⟨-1, f⟩]) := by show _ = _; rw [HT.out]; rfl
              clear hM2 q1 q2
              have hW1 : Below w.heap.size w (wr.alloc (.cells #[.int .i64 (-1), .int .i64 f] 35)) := HB.out.alloc hsz _
              have hA2 := noteAt_alloc (wr.alloc (.cells #[.int .i64 (-1), .int .i64 f] 35)) ⟨-1, f⟩
              rw [show (wr.alloc (.cells #[.int .i64 (-1), .int .i64 f] 35)).heap.size = wr.heap.size + 1 from by simp] at hA2
              have hO1 : OwnNt (wr.alloc (.cells #[.int .i64 (-1), .int .i64 f] 35)) w.heap.size (.slice ao no co) L0 := HO.out.below (Below.alloc (Below.refl _ _) (Nat.le_refl _) _)
              have hO2a := hO1.below (Below.alloc (Below.refl _ _) (Nat.le_refl _) (.cells #[.int .i64 (-1), .int .i64 f] 35))
              have HW1 := keptN hW1
              have HO1 := keptN hO1
              have HO2a := keptN hO2a
              have HA2 := keptN hA2
              have hs1 : w.heap.size ≤ ((wr.alloc (.cells #[.int .i64 (-1), .int .i64 f] 35)).alloc (.cells #[.int .i64 (-1), .int .i64 f] 35)).heap.size := by simp; omega
              have HS1 := keptN hs1
              clear hW1 hO1 hO2a hA2 hs1
              go_wp2_with (at_builtin; go_loud (refine wpList_append_note rfl _ _ rfl w.heap.size (wr.heap.size + 1) ⟨-1, f⟩ rfl rfl HO2a.out HA2.out (by omega) HS1.out ?_))
              intro v3 w3 hO3 hg3
              have hB3 := grown_nt HW1.out HW1.out.size HO1.out hg3
              rw [← HT'.out] at hO3
              have NXT := keptN (And.intro hO3 hB3)
              clear hO3 hg3 hB3 HO2a HA2 HO1 HW1
              go_wp2
              go_roundw
              case rel => exact ⟨k + 1, by omega, by go_num, HM2.out, NXT.out.1, NXT.out.2⟩
              case measure => simp [intOf]; omega
            · have e1' : 0 ≤ p := by omega
              have d1 : (p != -1) = true := by simpa using e1
              have us : IntKind.i64.wrap (p + s) = p + s := IntWalk.i64_in _ (by omega)
              by_cases e5 : 0 ≤ p + s ∧ p + s ≤ 48
              · have H5 : Hid (BIs true (0 ≤ p + s ∧ p + s ≤ 48)) := bisY e5
                have hM2 : TrUp P s (k + 1) := HM.out.succ (.inr (by rw [HQ.out]; exact e5))
                have HM2 := keptN hM2
                have HT' : Hid (trL P s (k + 1) = L0 ++ [⟨p + s, f⟩]) := by show _ = _; rw [HT.out, trN, if_neg e1]
                clear hM2 e5 e1
                have hW1 : Below w.heap.size w (wr.alloc (.cells #[.int .i64 (p), .int .i64 f] 35)) := HB.out.alloc hsz _
                have hA2 := noteAt_alloc (wr.alloc (.cells #[.int .i64 (p), .int .i64 f] 35)) ⟨p + s, f⟩
                rw [show (wr.alloc (.cells #[.int .i64 (p), .int .i64 f] 35)).heap.size = wr.heap.size + 1 from by simp] at hA2
                have hO1 : OwnNt (wr.alloc (.cells #[.int .i64 (p), .int .i64 f] 35)) w.heap.size (.slice ao no co) L0 := HO.out.below (Below.alloc (Below.refl _ _) (Nat.le_refl _) _)
                have hO2a := hO1.below (Below.alloc (Below.refl _ _) (Nat.le_refl _) (.cells #[.int .i64 (p + s), .int .i64 f] 35))
                have HW1 := keptN hW1
                have HO1 := keptN hO1
                have HO2a := keptN hO2a
                have HA2 := keptN hA2
                have hs1 : w.heap.size ≤ ((wr.alloc (.cells #[.int .i64 (p), .int .i64 f] 35)).alloc (.cells #[.int .i64 (p + s), .int .i64 f] 35)).heap.size := by simp; omega
                have HS1 := keptN hs1
                clear hW1 hO1 hO2a hA2 hs1
                go_wp2_with (first | (go_at_call 41; refine (i_isPitch_b _ (p + s) true H5).mono ?_; rintro e w2 ⟨rfl, rfl⟩) | (at_builtin; go_loud (refine wpList_append_note rfl _ _ rfl w.heap.size (wr.heap.size + 1) ⟨p + s, f⟩ rfl rfl HO2a.out HA2.out (by omega) HS1.out ?_)))
                intro v3 w3 hO3 hg3
                have hB3 := grown_nt HW1.out HW1.out.size HO1.out hg3
                rw [← HT'.out] at hO3
                have NXT := keptN (And.intro hO3 hB3)
                clear hO3 hg3 hB3 HO2a HA2 HO1 HW1
                go_wp2
                go_roundw
                case rel => exact ⟨k + 1, by omega, by go_num, HM2.out, NXT.out.1, NXT.out.2⟩
                case measure => simp [intOf]; omega
              · have H5 : Hid (BIs false (0 ≤ p + s ∧ p + s ≤ 48)) := bisN e5
                have HF := keptN (hr.out.no fun ⟨_, _, h⟩ => by
                  rcases h k (by rw [HN.out]; exact hlt) with h | h
                  · rw [HQ.out] at h; exact e1 h
                  · rw [HQ.out] at h; exact e5 h)
                have hBW := HB.out.alloc hsz (.cells #[.int .i64 p, .int .i64 f] 35)
                clear e5 e1
                go_wp2_with (go_at_call 41; refine (i_isPitch_b _ (p + s) false H5).mono ?_; rintro e w2 ⟨rfl, rfl⟩)
                refine bodyPost_ret (results_twoN rfl _ _ _) rfl ?_
                exact ⟨none, 0, 0, by rw [HF.out.1]; rfl, by rw [HF.out.2]; exact OwnNt.nil _ _, hBW⟩
          · obtain rfl : k = n := by omega
            have HF := keptN (hr.out.yes ⟨HK.out, ⟨by omega, by omega⟩, by rw [HN.out]; exact hm⟩)
            have HO := keptN hO
            clear hO hm
            go_wp2
            refine bodyPost_ret (results_twoN rfl _ _ _) rfl ?_
            exact ⟨_, _, _, by rw [HF.out.1]; rfl, by rw [HF.out.2, HN.out]; exact HO.out, hb1⟩
  · have H3 : Hid (BIs false (NtsOk P)) := bisN hok
    have HF := keptN (hr.out.no fun ⟨h, _⟩ => hok h)
    clear hok
    go_enter Try.func15, Try.ntmps15
    go_wp2_with fail
    refine (i_areNotes_b w _ P false HX.out H3).mono ?_
    rintro e w1 ⟨rfl, hb1⟩
    go_wp2
    refine bodyPost_ret (results_twoN rfl _ _ _) rfl ?_
    exact ⟨none, 0, 0, by rw [HF.out.1]; rfl, by rw [HF.out.2]; exact OwnNt.nil _ _, hb1⟩
end Go.Proofs.Ytfofjjfnejigaaa
