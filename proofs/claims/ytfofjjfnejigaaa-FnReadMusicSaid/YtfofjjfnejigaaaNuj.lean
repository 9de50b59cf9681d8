
/- Reading music: what the cells of notes are among; the runs of the program's reader. -/
import Derived.Test.YtfofjjfnejigaaaNuc
namespace Go.Proofs.Ytfofjjfnejigaaa
open Go.RowKit

theorem octL_inj : ∀ a b : Fin 7, octL.getD a.val 0 = octL.getD b.val 0 → a = b := by decide
theorem rest_inj : ∀ a b : Fin 4, restL.getD a.val 0 = restL.getD b.val 0 → a = b := by decide
theorem cand_inj : ∀ (a : Fin 7) (b : Fin 4) (c : Fin 7) (d : Fin 4), stepL.getD a.val 0 + valL.getD b.val 0 = stepL.getD c.val 0 + valL.getD d.val 0 → a = c ∧ b = d := by decide
theorem cand_rest : ∀ (a : Fin 7) (b : Fin 4) (c : Fin 4), stepL.getD a.val 0 + valL.getD b.val 0 ≠ restL.getD c.val 0 := by decide
theorem cand_oct : ∀ (a : Fin 7) (b : Fin 4), stepL.getD a.val 0 + valL.getD b.val 0 ∉ octL := by decide
theorem rest_oct : ∀ (c : Fin 4), restL.getD c.val 0 ∉ octL := by decide
/-- the cell of an eighth-step with a value -/
def candC (s v : Int) : Int := stepL.getD s.toNat 0 + valL.getD v.toNat 0
def restC (v : Int) : Int := restL.getD v.toNat 0
def V4 (v : Int) : Prop := 0 ≤ v ∧ v ≤ 3
def S7 (s : Int) : Prop := 0 ≤ s ∧ s ≤ 6
theorem fin_of {n : Nat} {v : Int} (h0 : 0 ≤ v) (h1 : v < n) : ∃ a : Fin n, v.toNat = a.val := ⟨⟨v.toNat, by omega⟩, rfl⟩
theorem restC_inj {a b : Int} (ha : V4 a) (hb : V4 b) (h : restC a = restC b) : a = b := by
  obtain ⟨x, hx⟩ := fin_of (n := 4) ha.1 (by have := ha.2; omega)
  obtain ⟨y, hy⟩ := fin_of (n := 4) hb.1 (by have := hb.2; omega)
  unfold restC at h
  rw [hx, hy] at h
  have := rest_inj x y h
  subst this
  have := ha.1; have := hb.1; omega
theorem candC_inj {s v s' v' : Int} (h1 : S7 s) (h2 : V4 v) (h3 : S7 s') (h4 : V4 v') (h : candC s v = candC s' v') : s = s' ∧ v = v' := by
  obtain ⟨a, ha⟩ := fin_of (n := 7) h1.1 (by have := h1.2; omega)
  obtain ⟨b, hb⟩ := fin_of (n := 4) h2.1 (by have := h2.2; omega)
  obtain ⟨c, hc⟩ := fin_of (n := 7) h3.1 (by have := h3.2; omega)
  obtain ⟨d, hd⟩ := fin_of (n := 4) h4.1 (by have := h4.2; omega)
  unfold candC at h
  rw [ha, hb, hc, hd] at h
  obtain ⟨rfl, rfl⟩ := cand_inj a b c d h
  have := h1.1; have := h2.1; have := h3.1; have := h4.1; omega
theorem candC_rest {s v u : Int} (h1 : S7 s) (h2 : V4 v) (h3 : V4 u) : candC s v ≠ restC u := by
  obtain ⟨a, ha⟩ := fin_of (n := 7) h1.1 (by have := h1.2; omega)
  obtain ⟨b, hb⟩ := fin_of (n := 4) h2.1 (by have := h2.2; omega)
  obtain ⟨c, hc⟩ := fin_of (n := 4) h3.1 (by have := h3.2; omega)
  unfold candC restC
  rw [ha, hb, hc]
  exact cand_rest a b c
theorem candC_oct {s v : Int} (h1 : S7 s) (h2 : V4 v) : candC s v ∉ octL := by
  obtain ⟨a, ha⟩ := fin_of (n := 7) h1.1 (by have := h1.2; omega)
  obtain ⟨b, hb⟩ := fin_of (n := 4) h2.1 (by have := h2.2; omega)
  unfold candC
  rw [ha, hb]
  exact cand_oct a b
theorem restC_oct {v : Int} (h : V4 v) : restC v ∉ octL := by
  obtain ⟨c, hc⟩ := fin_of (n := 4) h.1 (by have := h.2; omega)
  unfold restC
  rw [hc]
  exact rest_oct c
theorem noteC_rest (v : Int) : noteC ⟨-1, v⟩ = restC v := by unfold noteC restC; rw [if_pos rfl]
theorem noteC_cand {p v : Int} (h : p ≠ -1) : noteC ⟨p, v⟩ = candC (p % 7) v := by unfold noteC candC; rw [if_neg h]
/-- the octave of a cell, -1 if it is no mark -/
def OctIs (c r : Int) : Prop := (0 ≤ r ∧ r ≤ 6 ∧ octL.getD r.toNat 0 = c) ∨ (r = -1 ∧ c ∉ octL)
theorem octL_in {k : Int} (h0 : 0 ≤ k) (h1 : k ≤ 6) : octL.getD k.toNat 0 ∈ octL := by
  have : k = 0 ∨ k = 1 ∨ k = 2 ∨ k = 3 ∨ k = 4 ∨ k = 5 ∨ k = 6 := by omega
  rcases this with rfl | rfl | rfl | rfl | rfl | rfl | rfl <;> decide
theorem octC_inj {a b : Int} (h0 : 0 ≤ a) (h1 : a ≤ 6) (h2 : 0 ≤ b) (h3 : b ≤ 6) (h : octL.getD a.toNat 0 = octL.getD b.toNat 0) : a = b := by
  obtain ⟨x, hx⟩ := fin_of (n := 7) h0 (by omega)
  obtain ⟨y, hy⟩ := fin_of (n := 7) h2 (by omega)
  rw [hx, hy] at h
  have := octL_inj x y h
  subst this
  omega
/-- no mark of the first k octaves is the cell -/
def NoOct (c : Int) (k : Nat) : Prop := ∀ j, j < k → octL.getD j 0 ≠ c
theorem NoOct.succ {c : Int} {k : Nat} (h : NoOct c k) (e : octL.getD k 0 ≠ c) : NoOct c (k + 1) := fun j hj => by
  by_cases hjk : j = k
  · subst hjk; exact e
  · exact h j (by omega)
theorem NoOct.all {c : Int} (h : NoOct c 7) : c ∉ octL := fun hm => by
  obtain ⟨i, hi, e⟩ := List.getElem_of_mem hm
  have hi7 : i < 7 := hi
  exact h i hi7 (by rw [List.getD_eq_getElem?_getD, List.getElem?_eq_getElem hi]; exact e)
set_option maxHeartbeats 1000000 in
theorem i_octaveOf (w : World) (c : Int) :
    Calls Try.prog 58 #[.int .i64 c] w fun e w' => (∃ r, e = .returned (.int .i64 r) ∧ OctIs c r) ∧ w = w' := by
  go_enter Try.func58, Try.ntmps58
  go_wp2
  go_loop [3] (fun i => ∃ k : Nat, k ≤ 7 ∧ i = .int .i64 k ∧ NoOct c k) (fun i => 7 - (intOf i).toNat)
  case atStart => exact ⟨0, by omega, rfl, fun j h => absurd h (by omega)⟩
  case round =>
    obtain ⟨k, hk, rfl, hn⟩ := hrel
    by_cases hlt : k < 7
    · have d1 : decide ((k : Int) ≤ 6) = true := decide_eq_true (by omega)
      obtain ⟨x, hx⟩ : ∃ x, octL.getD k 0 = x := ⟨_, rfl⟩
      have HX : Hid (octL.getD ((k : Int)).toNat 0 = x) := by show _ = _; rw [Int.toNat_natCast]; exact hx
      by_cases hxc : x = c
      · subst hxc
        have HF : Hid (OctIs x (k : Int)) := .inl ⟨by omega, by omega, HX.out⟩
        clear hn hx
        go_wp2_with fail
        refine (i_octaveCell _ (k : Int) x (by omega) (by omega) HX).mono ?_
        rintro e w2 ⟨rfl, rfl⟩
        go_wp2
        go_ret
        exact ⟨⟨_, rfl, HF.out⟩, rfl⟩
      · have d2 : (x == c) = false := by simpa using hxc
        have hn' := keptN (hn.succ (by rw [hx]; exact hxc))
        clear hn hx hxc
        go_wp2_with fail
        refine (i_octaveCell _ (k : Int) x (by omega) (by omega) HX).mono ?_
        rintro e w2 ⟨rfl, rfl⟩
        go_wp2
        go_round
        case rel => exact ⟨k + 1, by omega, by go_num, hn'.out⟩
        case measure => simp [intOf]; omega
    · obtain rfl : k = 7 := by omega
      have HF : Hid (OctIs c (-1)) := .inr ⟨rfl, hn.all⟩
      clear hn
      go_wp2
      go_ret
      exact ⟨⟨_, rfl, HF.out⟩, rfl⟩
set_option maxHeartbeats 1000000 in
theorem s_octaveOf (w : World) (c : Int) :
    Calls Try.prog 45 #[.int .i64 c] w fun e w' => (∃ r, e = .returned (.int .i64 r) ∧ OctIs c r) ∧ Below w.heap.size w w' := by
  go_enter Try.func45, Try.ntmps45
  go_wp2
  go_loopw [3] (fun i wr => ∃ k : Nat, k ≤ 7 ∧ i = .int .i64 k ∧ NoOct c k ∧ Below w.heap.size w wr) (fun i _ => 7 - (intOf i).toNat)
  case atStart => exact ⟨0, by omega, rfl, fun j h => absurd h (by omega), Below.refl _ _⟩
  case round =>
    obtain ⟨k, hk, rfl, hn, hb⟩ := hrel
    by_cases hlt : k < 7
    · have d1 : decide ((k : Int) < 7) = true := decide_eq_true (by omega)
      obtain ⟨x, hx⟩ : ∃ x, octL.getD k 0 = x := ⟨_, rfl⟩
      have HX : Hid (octL.getD ((k : Int)).toNat 0 = x) := by show _ = _; rw [Int.toNat_natCast]; exact hx
      by_cases hxc : x = c
      · subst hxc
        have HF : Hid (OctIs x (k : Int)) := .inl ⟨by omega, by omega, HX.out⟩
        clear hn hx
        go_wp2_with fail
        refine (s_octaveMark _ (k : Int) x (by omega) (by omega) HX).mono ?_
        rintro e w2 ⟨rfl, hb2⟩
        have hB2 := hb.trans (hb2.mono hb.size)
        go_wp2
        go_ret
        exact ⟨⟨_, rfl, HF.out⟩, hB2⟩
      · have d2 : (x == c) = false := by simpa using hxc
        have hn' := keptN (hn.succ (by rw [hx]; exact hxc))
        clear hn hx hxc
        go_wp2_with fail
        refine (s_octaveMark _ (k : Int) x (by omega) (by omega) HX).mono ?_
        rintro e w2 ⟨rfl, hb2⟩
        have hB2 := hb.trans (hb2.mono hb.size)
        go_wp2
        go_roundw
        case rel => exact ⟨k + 1, by omega, by go_num, hn'.out, hB2⟩
        case measure => simp [intOf]; omega
    · obtain rfl : k = 7 := by omega
      have HF : Hid (OctIs c (-1)) := .inr ⟨rfl, hn.all⟩
      clear hn
      go_wp2
      go_ret
      exact ⟨⟨_, rfl, HF.out⟩, hb⟩
/-- the pitch of a step behind the mark of an octave, or behind none -/
def PitchIs (s o l p : Int) : Prop := (0 ≤ o ∧ p = o * 7 + s) ∨ (o < 0 ∧ 0 ≤ p ∧ p ≤ 48 ∧ p % 7 = s ∧ ¬ NeedM l p) ∨ (o < 0 ∧ p = -1 ∧ ∀ q : Nat, q ≤ 48 → (q : Int) % 7 = s → NeedM l q)
set_option maxHeartbeats 1000000 in
theorem i_pitchOf (w : World) (s o l : Int) (hs : S7 s) (ho : -1 ≤ o ∧ o ≤ 6) (hl : -1 ≤ l ∧ l ≤ 48) :
    Calls Try.prog 63 #[.int .i64 s, .int .i64 o, .int .i64 l] w fun e w' => (∃ p, e = .returned (.int .i64 p) ∧ PitchIs s o l p) ∧ w = w' := by
  obtain ⟨s0, s1⟩ := hs
  by_cases h0 : 0 ≤ o
  · have d0 : decide (0 ≤ o) = true := decide_eq_true h0
    have HF : Hid (PitchIs s o l (o * 7 + s)) := .inl ⟨h0, rfl⟩
    go_enter Try.func63, Try.ntmps63
    go_wp2
    go_ret
    exact ⟨⟨_, rfl, HF.out⟩, rfl⟩
  · have d0 : decide (0 ≤ o) = false := decide_eq_false h0
    have ho' : o < 0 := by omega
    clear h0
    go_enter Try.func63, Try.ntmps63
    go_wp2
    go_loop [7] (fun i => ∃ k : Nat, k ≤ 49 ∧ i = .int .i64 k ∧ ∀ q : Nat, q < k → (q : Int) % 7 = s → NeedM l q) (fun i => 49 - (intOf i).toNat)
    case atStart => exact ⟨0, by omega, rfl, fun j h => absurd h (by omega)⟩
    case round =>
      obtain ⟨k, hk, rfl, hn⟩ := hrel
      by_cases hlt : k < 49
      · have d1 : decide ((k : Int) ≤ 48) = true := decide_eq_true (by omega)
        obtain ⟨m, hm⟩ : ∃ m, (k : Int) % 7 = m := ⟨_, rfl⟩
        have t1 : ((k : Int)).tmod 7 = m := by rw [Int.tmod_eq_emod_of_nonneg (by omega), hm]
        have hmb : 0 ≤ m ∧ m ≤ 6 := by omega
        by_cases hms : m = s
        · subst hms
          obtain ⟨b, hb⟩ := boolOfN (NeedM l (k : Int))
          have HB := keptN hb
          cases b with
          | true =>
            have hn' : Hid (∀ q : Nat, q < k + 1 → (q : Int) % 7 = m → NeedM l q) := fun q hq hqm => by
              by_cases hqk : q = k
              · subst hqk; exact hb.1 rfl
              · exact hn q (by omega) hqm
            clear hn hb hm
            go_wp2_with fail
            refine (i_needsMark _ l (k : Int) true hl.1 hl.2 (by omega) (by omega) HB).mono ?_
            rintro e w2 ⟨rfl, rfl⟩
            go_wp2
            go_round
            case rel => exact ⟨k + 1, by omega, by go_num, hn'.out⟩
            case measure => simp [intOf]; omega
          | false =>
            have HF : Hid (PitchIs m o l (k : Int)) := .inr (.inl ⟨ho', by omega, by omega, hm, fun h => by have := hb.2 h; simp at this⟩)
            clear hn hb hm
            go_wp2_with fail
            refine (i_needsMark _ l (k : Int) false hl.1 hl.2 (by omega) (by omega) HB).mono ?_
            rintro e w2 ⟨rfl, rfl⟩
            go_wp2
            go_ret
            exact ⟨⟨_, rfl, HF.out⟩, rfl⟩
        · have d2 : (m == s) = false := by simpa using hms
          have hn' : Hid (∀ q : Nat, q < k + 1 → (q : Int) % 7 = s → NeedM l q) := fun q hq hqm => by
            by_cases hqk : q = k
            · subst hqk; exact absurd (hm.symm.trans hqm) hms
            · exact hn q (by omega) hqm
          clear hn hm hms
          go_wp2
          go_round
          case rel => exact ⟨k + 1, by omega, by go_num, hn'.out⟩
          case measure => simp [intOf]; omega
      · obtain rfl : k = 49 := by omega
        have HF : Hid (PitchIs s o l (-1)) := .inr (.inr ⟨ho', rfl, fun q hq hm => hn q (by omega) hm⟩)
        clear hn
        go_wp2
        go_ret
        exact ⟨⟨_, rfl, HF.out⟩, rfl⟩
end Go.Proofs.Ytfofjjfnejigaaa
