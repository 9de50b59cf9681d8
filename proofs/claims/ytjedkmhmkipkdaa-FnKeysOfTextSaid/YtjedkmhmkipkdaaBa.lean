
/- Keys: their events and codes, as numbers. -/
import Derived.Test.YtjedkmhmkipkdaaLst
namespace Go.Proofs.Ytjedkmhmkipkdaa
/-- the number of a key -/
def kb (k : Int) : Nat := 2 ^ (k - 1).toNat
/-- whether an event can happen while the keys of d are down -/
def CanB (e : Int) (d : Nat) : Prop := (1 ≤ e ∧ e ≤ 7 ∧ d &&& kb e = 0) ∨ (-7 ≤ e ∧ e ≤ -1 ∧ d &&& kb (-e) ≠ 0)
instance (e : Int) (d : Nat) : Decidable (CanB e d) := inferInstanceAs (Decidable (_ ∨ _))
def aft (e : Int) (d : Nat) : Nat := if 0 < e then d + kb e else d - kb (-e)
/-- the keys that are down, those of the code under way, and the codes before it -/
structure KS where
  d : Nat
  c : Nat
  out : List Int
def ks0 : KS := ⟨0, 0, []⟩
def nxtK (s : KS) (e : Int) : KS :=
  if aft e s.d = 0 then ⟨0, 0, s.out ++ [((s.c ||| aft e s.d : Nat) : Int)]⟩ else ⟨aft e s.d, s.c ||| aft e s.d, s.out⟩
def runK (s : KS) : List Int → Option KS
  | [] => some s
  | e :: es => if CanB e s.d then runK (nxtK s e) es else none
theorem runK_append (a : List Int) : ∀ (s : KS) (b : List Int), runK s (a ++ b) = (runK s a).bind (fun t => runK t b) := by
  induction a with
  | nil => intro s b; rfl
  | cons e es ih =>
    intro s b
    simp only [List.cons_append, runK]
    split
    · exact ih _ _
    · rfl
theorem take_snoc {zs : List Int} {k : Nat} (h : k < zs.length) : zs.take (k + 1) = zs.take k ++ [zs.getD k 0] := by
  rw [List.take_add_one, List.getElem?_eq_getElem h, List.getD_eq_getElem?_getD, List.getElem?_eq_getElem h]; rfl
theorem runK_succ {zs : List Int} {k : Nat} {s t : KS} (h : runK s (zs.take k) = some t) (hk : k < zs.length) (hc : CanB (zs.getD k 0) t.d) : runK s (zs.take (k + 1)) = some (nxtK t (zs.getD k 0)) := by
  rw [take_snoc hk, runK_append, h]
  simp only [Option.bind_some, runK, if_pos hc]
theorem runK_bad {zs : List Int} {k : Nat} {s t : KS} (h : runK s (zs.take k) = some t) (hk : k < zs.length) (hc : ¬ CanB (zs.getD k 0) t.d) : runK s zs = none := by
  have h2 : runK s (zs.take (k + 1)) = none := by
    rw [take_snoc hk, runK_append, h]
    simp only [Option.bind_some, runK, if_neg hc]
  rw [← List.take_append_drop (k + 1) zs, runK_append, h2]; rfl
/-- valid events -/
def ValidK (zs : List Int) : Prop := zs.length ≤ 280 ∧ ∃ t, runK ks0 zs = some t ∧ t.d = 0
def okKs (zs : List Int) : Bool := decide (zs.length ≤ 280) && (match runK ks0 zs with | some t => decide (t.d = 0) | none => false)
/-- the codes of events -/
def playL (zs : List Int) : List Int := if okKs zs = true then (match runK ks0 zs with | some t => t.out | none => []) else []
-- facts on masks
theorem canB_range {e : Int} {d : Nat} (h : CanB e d) : -7 ≤ e ∧ e ≤ 7 ∧ e ≠ 0 := by rcases h with h | h <;> omega
theorem key_cases {e : Int} (h0 : -7 ≤ e) (h1 : e ≤ 7) (h2 : e ≠ 0) : e = 1 ∨ e = 2 ∨ e = 3 ∨ e = 4 ∨ e = 5 ∨ e = 6 ∨ e = 7 ∨ e = -1 ∨ e = -2 ∨ e = -3 ∨ e = -4 ∨ e = -5 ∨ e = -6 ∨ e = -7 := by omega
theorem aft_tab : ∀ d : Nat, d < 128 → ∀ i : Nat, i < 15 → CanB ((i : Int) - 7) d → aft ((i : Int) - 7) d < 128 := by decide +kernel
theorem aft_lt {e : Int} {d : Nat} (hd : d < 128) (h : CanB e d) : aft e d < 128 := by
  have hr := canB_range h
  have := aft_tab d hd (e + 7).toNat (by omega)
  rw [show ((e + 7).toNat : Int) - 7 = e from by omega] at this
  exact this h
/-- the number of the key of an event -/
def eb (e : Int) : Nat := 2 ^ (e.natAbs - 1)
theorem back_tab : ∀ d : Nat, d < 128 → ∀ i : Nat, i < 15 → CanB ((i : Int) - 7) d →
    CanB (-((i : Int) - 7)) (aft ((i : Int) - 7) d) ∧ aft (-((i : Int) - 7)) (aft ((i : Int) - 7) d) = d := by decide +kernel
theorem back_tab2 : ∀ d : Nat, d < 128 → ∀ i : Nat, i < 15 → CanB ((i : Int) - 7) d →
    (aft ((i : Int) - 7) d ||| d = d ||| eb ((i : Int) - 7)) ∧ eb ((i : Int) - 7) < 128 ∧ eb ((i : Int) - 7) ≠ 0 := by decide +kernel
theorem back_tab3 : ∀ d : Nat, d < 128 → ∀ i : Nat, i < 15 → CanB ((i : Int) - 7) d →
    (d = 0 → aft ((i : Int) - 7) d ≠ 0) := by decide +kernel
theorem back_at {e : Int} {d : Nat} (hd : d < 128) (h : CanB e d) :
    (CanB (-e) (aft e d) ∧ aft (-e) (aft e d) = d) ∧ (aft e d ||| d = d ||| eb e) ∧ eb e < 128 ∧ eb e ≠ 0 ∧ (d = 0 → aft e d ≠ 0) := by
  have hr := canB_range h
  have h1 := back_tab d hd (e + 7).toNat (by omega)
  have h2 := back_tab2 d hd (e + 7).toNat (by omega)
  have h3 := back_tab3 d hd (e + 7).toNat (by omega)
  rw [show ((e + 7).toNat : Int) - 7 = e from by omega] at h1 h2 h3
  exact ⟨h1 h, (h2 h).1, (h2 h).2.1, (h2 h).2.2, h3 h⟩
/-- what holds of the keys on the way -/
def KInv (s : KS) : Prop := s.d < 128 ∧ s.c < 128 ∧ (s.d = 0 ↔ s.c = 0) ∧ s.c ||| s.d = s.c
theorem or_lt128 {a b : Nat} (ha : a < 128) (hb : b < 128) : a ||| b < 128 := Nat.or_lt_two_pow (n := 7) ha hb
/-- the code grows by the event's key -/
theorem code_eq {s : KS} {e : Int} (h : KInv s) (he : CanB e s.d) : s.c ||| aft e s.d = s.c ||| eb e := by
  obtain ⟨h1, h2, h3, h4⟩ := h
  have hb := back_at h1 he
  calc s.c ||| aft e s.d = (s.c ||| s.d) ||| aft e s.d := by rw [h4]
    _ = s.c ||| (aft e s.d ||| s.d) := by rw [Nat.or_assoc, Nat.or_comm s.d]
    _ = s.c ||| (s.d ||| eb e) := by rw [hb.2.1]
    _ = (s.c ||| s.d) ||| eb e := by rw [Nat.or_assoc]
    _ = s.c ||| eb e := by rw [h4]
theorem or_ne {a b : Nat} (h : b ≠ 0) : a ||| b ≠ 0 := by
  intro e
  have := Nat.or_eq_zero_iff.1 e
  exact h this.2
theorem KInv.zero : KInv ks0 := ⟨by decide, by decide, by decide, by decide⟩
theorem KInv.next {s : KS} {e : Int} (h : KInv s) (he : CanB e s.d) : KInv (nxtK s e) := by
  have hc := code_eq h he
  obtain ⟨h1, h2, h3, h4⟩ := h
  have hb := back_at h1 he
  have hl := aft_lt h1 he
  unfold nxtK
  split
  · exact ⟨by simp, by simp, by simp, by simp⟩
  · rename_i hz
    refine ⟨hl, or_lt128 h2 hl, ⟨fun h => absurd h hz, fun h => absurd h (or_ne hz)⟩, ?_⟩
    show (s.c ||| aft e s.d) ||| aft e s.d = s.c ||| aft e s.d
    rw [Nat.or_assoc, Nat.or_self]
theorem KInv.run {zs : List Int} : ∀ {s t : KS}, KInv s → runK s zs = some t → KInv t := by
  induction zs with
  | nil => intro s t h e; simp only [runK, Option.some.injEq] at e; exact e ▸ h
  | cons e es ih =>
    intro s t h r
    simp only [runK] at r
    split at r
    · rename_i hc
      exact ih (h.next hc) r
    · simp at r
/-- the codes before do not matter -/
theorem run_out (zs : List Int) : ∀ (s : KS) (o : List Int), runK ⟨s.d, s.c, o ++ s.out⟩ zs = (runK s zs).map (fun t => ⟨t.d, t.c, o ++ t.out⟩) := by
  induction zs with
  | nil => intro s o; rfl
  | cons e es ih =>
    intro s o
    simp only [runK]
    split
    · rw [← ih (nxtK s e) o]
      congr 1
      unfold nxtK
      split <;> simp [List.append_assoc]
    · rfl
theorem run_from0 (zs o : List Int) : runK ⟨0, 0, o⟩ zs = (runK ks0 zs).map (fun t => ⟨t.d, t.c, o ++ t.out⟩) := by
  have := run_out zs ks0 o
  simpa [ks0] using this
/-- events that are valid but for their number -/
def Runs (zs : List Int) (out : List Int) : Prop := runK ks0 zs = some ⟨0, 0, out⟩
theorem runs_of {zs : List Int} {t : KS} (h : runK ks0 zs = some t) (h0 : t.d = 0) : Runs zs t.out := by
  have := KInv.run KInv.zero h
  unfold Runs
  rw [h]
  obtain ⟨d, c, o⟩ := t
  have e : c = 0 := this.2.2.1.1 h0
  subst e
  simp only at h0
  subst h0
  rfl
theorem Runs.append {a b x y : List Int} (h : Runs a x) (k : Runs b y) : Runs (a ++ b) (x ++ y) := by
  unfold Runs at *
  rw [runK_append, h]
  simp only [Option.bind_some]
  rw [run_from0, k]; rfl
theorem okKs_iff (zs : List Int) : okKs zs = true ↔ zs.length ≤ 280 ∧ ∃ x, Runs zs x := by
  unfold okKs
  constructor
  · intro h
    simp only [Bool.and_eq_true, decide_eq_true_eq] at h
    refine ⟨h.1, ?_⟩
    have h2 := h.2
    cases hr : runK ks0 zs with
    | none => rw [hr] at h2; simp at h2
    | some t => rw [hr] at h2; exact ⟨_, runs_of hr (by simpa using h2)⟩
  · rintro ⟨h, x, hx⟩
    rw [hx]; simp [h]
theorem playL_runs {zs x : List Int} (hl : zs.length ≤ 280) (h : Runs zs x) : playL zs = x := by
  unfold playL
  rw [if_pos ((okKs_iff zs).2 ⟨hl, x, h⟩), h]
theorem playL_bad {zs : List Int} (h : okKs zs = false) : playL zs = [] := by
  unfold playL; rw [h]; rfl
-- bounds of the codes
theorem run_bounds (zs : List Int) : ∀ {s t : KS}, KInv s → runK s zs = some t → (∀ z ∈ s.out, 1 ≤ z ∧ z ≤ 127) → (∀ z ∈ t.out, 1 ≤ z ∧ z ≤ 127) ∧ 2 * t.out.length + (if t.d = 0 then 0 else 1) ≤ 2 * s.out.length + (if s.d = 0 then 0 else 1) + zs.length := by
  induction zs with
  | nil => intro s t _ e ho; simp only [runK, Option.some.injEq] at e; subst e; exact ⟨ho, by simp⟩
  | cons e es ih =>
    intro s t h r ho
    simp only [runK] at r
    split at r
    · rename_i hc
      have hb := back_at h.1 hc
      have hl := aft_lt h.1 hc
      have hcode := code_eq h hc
      have hne : s.c ||| aft e s.d ≠ 0 := by rw [hcode]; exact or_ne hb.2.2.2.1
      have hlt : s.c ||| aft e s.d < 128 := or_lt128 h.2.1 hl
      have hstep : (∀ z ∈ (nxtK s e).out, 1 ≤ z ∧ z ≤ 127) ∧ 2 * (nxtK s e).out.length + (if (nxtK s e).d = 0 then 0 else 1) ≤ 2 * s.out.length + (if s.d = 0 then 0 else 1) + 1 := by
        unfold nxtK
        split
        · rename_i hz
          constructor
          · intro z hz'
            rcases List.mem_append.1 hz' with h' | h'
            · exact ho z h'
            · simp at h'; subst h'; omega
          · have : s.d ≠ 0 := fun e0 => hb.2.2.2.2 e0 hz
            simp [this]; omega
        · rename_i hz
          refine ⟨ho, ?_⟩
          simp only
          split <;> omega
      have := ih (h.next hc) r hstep.1
      refine ⟨this.1, ?_⟩
      have h2 := this.2
      have h3 := hstep.2
      simp only [List.length_cons]
      omega
    · simp at r
theorem Runs.bounds {zs x : List Int} (h : Runs zs x) : (∀ z ∈ x, 1 ≤ z ∧ z ≤ 127) ∧ 2 * x.length ≤ zs.length := by
  have := run_bounds zs KInv.zero h (by intro z hz; simp [ks0] at hz)
  exact ⟨this.1, by simpa [ks0] using this.2⟩
-- how often keys are pressed and released
theorem count_tab : ∀ d : Nat, d < 128 → ∀ i : Nat, i < 15 → CanB ((i : Int) - 7) d → ∀ k : Nat, k < 7 →
    (if (i : Int) - 7 = (k : Int) + 1 then 1 else 0) + d / 2 ^ k % 2 = (if (i : Int) - 7 = -((k : Int) + 1) then 1 else 0) + aft ((i : Int) - 7) d / 2 ^ k % 2 := by decide +kernel
theorem count_consB (z : Int) (zs : List Int) (n : Int) : (z :: zs).count n = (if z = n then 1 else 0) + zs.count n := by
  rw [List.count_cons]
  by_cases h : z = n
  · simp [h]; omega
  · simp [h]
theorem run_counts (k : Nat) (hk : k < 7) (zs : List Int) : ∀ {s t : KS}, KInv s → runK s zs = some t → (zs).count ((k : Int) + 1) + s.d / 2 ^ k % 2 = (zs).count (-((k : Int) + 1)) + t.d / 2 ^ k % 2 := by
  induction zs with
  | nil => intro s t _ e; simp only [runK, Option.some.injEq] at e; subst e; simp
  | cons e es ih =>
    intro s t h r
    simp only [runK] at r
    split at r
    · rename_i hc
      have hr := canB_range hc
      have h1 := count_tab s.d h.1 (e + 7).toNat (by omega)
      rw [show ((e + 7).toNat : Int) - 7 = e from by omega] at h1
      have h2 := h1 hc k hk
      have h3 := ih (h.next hc) r
      have h4 : (nxtK s e).d = aft e s.d := by unfold nxtK; split <;> simp_all
      rw [h4] at h3
      rw [count_consB, count_consB]
      omega
    · simp at r
theorem Runs.counts {zs x : List Int} (h : Runs zs x) (k : Nat) (hk : k < 7) : (zs).count ((k : Int) + 1) = (zs).count (-((k : Int) + 1)) := by
  have := run_counts k hk zs KInv.zero h
  simpa [ks0] using this
-- backwards
/-- all keys of events -/
def orL : List Int → Nat
  | [] => 0
  | e :: es => eb e ||| orL es
theorem orL_append (a b : List Int) : orL (a ++ b) = orL a ||| orL b := by
  induction a with
  | nil => simp [orL]
  | cons e es ih => simp only [List.cons_append, orL, ih, Nat.or_assoc]
def rv (es : List Int) : List Int := (es.map (fun e => -e)).reverse
theorem rv_append (a b : List Int) : rv (a ++ b) = rv b ++ rv a := by simp [rv]
theorem orL_rv (es : List Int) : orL (rv es) = orL es := by
  induction es with
  | nil => rfl
  | cons e es ih =>
    rw [show e :: es = [e] ++ es from rfl, rv_append, orL_append, ih, orL_append, Nat.or_comm]
    congr 1
    simp [rv, orL, eb]
/-- a way on which keys are always down -/
def Way (d : Nat) : List Int → Nat → Prop
  | [], d' => d = d' ∧ d ≠ 0 ∧ d < 128
  | e :: es, d' => d ≠ 0 ∧ d < 128 ∧ CanB e d ∧ Way (aft e d) es d'
theorem Way.end {es : List Int} : ∀ {d d' : Nat}, Way d es d' → d' ≠ 0 ∧ d' < 128 := by
  induction es with
  | nil => rintro d d' ⟨rfl, h⟩; exact h
  | cons e es ih => rintro d d' ⟨_, _, _, h⟩; exact ih h
theorem Way.snoc {es : List Int} {e : Int} : ∀ {d d' : Nat}, Way d es d' → CanB e d' → aft e d' ≠ 0 → Way d (es ++ [e]) (aft e d') := by
  induction es with
  | nil =>
    rintro d d' ⟨rfl, h, h'⟩ hc hz
    exact ⟨h, h', hc, rfl, hz, aft_lt h' hc⟩
  | cons x es ih =>
    rintro d d' ⟨h1, h2, h3, h4⟩ hc hz
    exact ⟨h1, h2, h3, ih h4 hc hz⟩
theorem Way.start {es : List Int} {d d' : Nat} (h : Way d es d') : d ≠ 0 ∧ d < 128 := by
  cases es with
  | nil => exact h.2
  | cons e es => exact ⟨h.1, h.2.1⟩
theorem Way.back {es : List Int} : ∀ {d d' : Nat}, Way d es d' → Way d' (rv es) d := by
  induction es with
  | nil => rintro d d' ⟨rfl, h⟩; exact ⟨rfl, h⟩
  | cons e es ih =>
    rintro d d' ⟨h1, h2, h3, h4⟩
    rw [show e :: es = [e] ++ es from rfl, rv_append]
    have hb := back_at h2 h3
    have := (ih h4).snoc hb.1.1 (by rw [hb.1.2]; exact h1)
    rw [hb.1.2] at this
    exact this
/-- events from the first press to the release of all keys -/
def Block (B : List Int) : Prop := ∃ p mid q d', B = p :: (mid ++ [q]) ∧ CanB p 0 ∧ Way (aft p 0) mid d' ∧ CanB q d' ∧ aft q d' = 0
theorem Block.back {B : List Int} (h : Block B) : Block (rv B) := by
  obtain ⟨p, mid, q, d', rfl, h1, h2, h3, h4⟩ := h
  have hb1 := back_at (by decide) h1
  have hb2 := back_at h2.end.2 h3
  rw [h4] at hb2
  refine ⟨-q, rv mid, -p, aft p 0, ?_, hb2.1.1, ?_, hb1.1.1, hb1.1.2⟩
  · simp [rv]
  · rw [hb2.1.2]; exact h2.back
theorem way_run {es : List Int} : ∀ {d d' c : Nat} {o : List Int}, Way d es d' → KInv ⟨d, c, o⟩ → runK ⟨d, c, o⟩ es = some ⟨d', c ||| orL es, o⟩ := by
  induction es with
  | nil => rintro d d' c o ⟨rfl, _⟩ _; simp [runK, orL]
  | cons e es ih =>
    rintro d d' c o ⟨h1, h2, h3, h4⟩ hi
    have hn := hi.next h3
    have hc := code_eq hi h3
    have hz := h4.start.1
    simp only at hc
    simp only [runK, if_pos h3]
    have hnx : nxtK ⟨d, c, o⟩ e = ⟨aft e d, c ||| eb e, o⟩ := by unfold nxtK; rw [if_neg hz]; simp only [hc]
    rw [hnx] at hn ⊢
    rw [ih h4 hn, orL, Nat.or_assoc]
theorem Block.runs {B : List Int} (h : Block B) : Runs B [(orL B : Int)] := by
  obtain ⟨p, mid, q, d', rfl, h1, h2, h3, h4⟩ := h
  unfold Runs
  have hz := h2.start.1
  have hc := code_eq KInv.zero h1
  have hn := KInv.zero.next h1
  have hnx : nxtK ks0 p = ⟨aft p 0, eb p, []⟩ := by
    unfold nxtK ks0; rw [if_neg hz]; simp only [ks0] at hc; simp only [hc]; simp
  have hr0 : ∀ zs, runK ks0 (p :: zs) = runK (nxtK ks0 p) zs := fun zs => if_pos h1
  rw [hr0, hnx, runK_append]
  rw [hnx] at hn
  have hw := way_run h2 hn
  rw [hw]
  simp only [Option.bind_some, runK, if_pos h3]
  have hi2 := KInv.run hn hw
  have hc2 := code_eq hi2 h3
  unfold nxtK
  simp only at hc2 ⊢
  rw [if_pos h4, hc2]
  simp only [orL, orL_append]
  simp [Nat.or_assoc]
/-- events by their blocks -/
inductive Plays : List Int → List Int → Prop
  | nil : Plays [] []
  | block {B rest x : List Int} : Block B → Plays rest x → Plays (B ++ rest) ((orL B : Int) :: x)
theorem Plays.append {a b x y : List Int} (h : Plays a x) (k : Plays b y) : Plays (a ++ b) (x ++ y) := by
  induction h with
  | nil => exact k
  | block hB _ ih => rw [List.append_assoc]; exact .block hB ih
theorem Plays.back {a x : List Int} (h : Plays a x) : Plays (rv a) x.reverse := by
  induction h with
  | nil => exact .nil
  | @block B rest x hB _ ih =>
    rw [rv_append, List.reverse_cons]
    have := Plays.block hB.back .nil
    rw [List.append_nil, orL_rv] at this
    exact ih.append this
theorem Plays.runs {a x : List Int} (h : Plays a x) : Runs a x := by
  induction h with
  | nil => rfl
  | block hB _ ih => exact hB.runs.append ih
theorem plays_from (zs : List Int) : (∀ o o', runK ⟨0, 0, o⟩ zs = some ⟨0, 0, o'⟩ → ∃ x, o' = o ++ x ∧ Plays zs x) ∧
    (∀ d c o o', KInv ⟨d, c, o⟩ → d ≠ 0 → runK ⟨d, c, o⟩ zs = some ⟨0, 0, o'⟩ → ∃ mid q d' rest x, zs = mid ++ [q] ++ rest ∧ Way d mid d' ∧ CanB q d' ∧ aft q d' = 0 ∧ o' = o ++ ((c ||| orL (mid ++ [q]) : Nat) : Int) :: x ∧ Plays rest x) := by
  induction zs with
  | nil =>
    constructor
    · intro o o' h
      simp only [runK, Option.some.injEq, KS.mk.injEq] at h
      exact ⟨[], by simp [h.2.2], .nil⟩
    · intro d c o o' _ hd h
      simp only [runK, Option.some.injEq, KS.mk.injEq] at h
      exact absurd h.1 hd
  | cons e es ih =>
    constructor
    · intro o o' h
      simp only [runK] at h
      split at h
      · rename_i hc
        have hb := back_at (by decide) hc
        have hz := hb.2.2.2.2 rfl
        have hi0 : KInv ⟨0, 0, o⟩ := ⟨by simp, by simp, by simp, by simp⟩
        have hn := hi0.next hc
        have hcode := code_eq hi0 hc
        simp only at hcode hc
        have hnx : nxtK ⟨0, 0, o⟩ e = ⟨aft e 0, eb e, o⟩ := by unfold nxtK; rw [if_neg hz]; simp only [hcode]; simp
        rw [hnx] at hn h
        obtain ⟨mid, q, d', rest, x, h1, h2, h3, h4, h5, h6⟩ := ih.2 _ _ _ _ hn hz h
        refine ⟨_, h5, ?_⟩
        have hB : Block (e :: (mid ++ [q])) := ⟨e, mid, q, d', rfl, hc, h2, h3, h4⟩
        have := Plays.block hB h6
        rw [h1]
        exact this
      · simp at h
    · intro d c o o' hi hd h
      simp only [runK] at h
      split at h
      · rename_i hc
        have hcode := code_eq hi hc
        have hn := hi.next hc
        simp only at hcode hc
        by_cases hz : aft e d = 0
        · have hnx : nxtK ⟨d, c, o⟩ e = ⟨0, 0, o ++ [((c ||| eb e : Nat) : Int)]⟩ := by unfold nxtK; rw [if_pos hz]; simp only [hcode]
          rw [hnx] at h
          obtain ⟨x, h1, h2⟩ := ih.1 _ _ h
          exact ⟨[], e, d, es, x, rfl, ⟨rfl, hd, hi.1⟩, hc, hz, by rw [h1]; simp [orL], h2⟩
        · have hnx : nxtK ⟨d, c, o⟩ e = ⟨aft e d, c ||| eb e, o⟩ := by unfold nxtK; rw [if_neg hz]; simp only [hcode]
          rw [hnx] at h hn
          obtain ⟨mid, q, d', rest, x, h1, h2, h3, h4, h5, h6⟩ := ih.2 _ _ _ _ hn hz h
          exact ⟨e :: mid, q, d', rest, x, by rw [h1]; rfl, ⟨hd, hi.1, hc, h2⟩, h3, h4, by rw [h5]; simp [orL, Nat.or_assoc], h6⟩
      · simp at h
theorem Runs.back {zs x : List Int} (h : Runs zs x) : Runs (rv zs) x.reverse := by
  obtain ⟨y, h1, h2⟩ := (plays_from zs).1 [] x h
  simp only [List.nil_append] at h1
  subst h1
  exact h2.back.runs
-- the events of codes
def keysUp (c : Nat) : Nat → List Int
  | 0 => []
  | k + 1 => if c / 2 ^ k % 2 = 1 then keysUp c k ++ [(k : Int) + 1] else keysUp c k
def relUp (c : Nat) : Nat → List Int
  | 0 => []
  | k + 1 => if c / 2 ^ k % 2 = 1 then relUp c k ++ [-((k : Int) + 1)] else relUp c k
def codeEv (c : Nat) : List Int := keysUp c 7 ++ relUp c 7
theorem relUp_map (c k : Nat) : relUp c k = (keysUp c k).map (fun z => -z) := by
  induction k with
  | zero => rfl
  | succ k ih => simp only [relUp, keysUp]; split <;> simp [ih]
theorem keysUp_le (c k : Nat) : (keysUp c k).length ≤ k := by
  induction k with
  | zero => simp [keysUp]
  | succ k ih => simp only [keysUp]; split <;> (try rw [List.length_append, List.length_singleton]) <;> omega
theorem codeEv_le (c : Nat) : (codeEv c).length ≤ 14 := by
  have := keysUp_le c 7
  unfold codeEv
  rw [relUp_map, List.length_append, List.length_map]; omega
theorem codeEv_tab : ∀ c : Nat, c < 128 → 1 ≤ c → (match runK ks0 (codeEv c) with | some t => t.d == 0 && t.c == 0 && t.out == [(c : Int)] | none => false) = true := by decide +kernel
theorem codeEv_runs {c : Nat} (h : c < 128) (h1 : 1 ≤ c) : Runs (codeEv c) [(c : Int)] := by
  have := codeEv_tab c h h1
  unfold Runs
  cases hr : runK ks0 (codeEv c) with
  | none => rw [hr] at this; simp at this
  | some t =>
    rw [hr] at this
    obtain ⟨d, c', o⟩ := t
    simp at this
    simp [this]
/-- codes that can be played -/
def CodesOk (zs : List Int) : Prop := zs.length ≤ 20 ∧ ∀ z ∈ zs, 1 ≤ z ∧ z ≤ 127
instance (zs : List Int) : Decidable (CodesOk zs) := inferInstanceAs (Decidable (_ ∧ _))
def evL (zs : List Int) : List Int := (zs.map (fun z => codeEv z.toNat)).flatten
theorem evL_append (a b : List Int) : evL (a ++ b) = evL a ++ evL b := by simp [evL]
theorem evL_le (zs : List Int) : (evL zs).length ≤ 14 * zs.length := by
  induction zs with
  | nil => simp [evL]
  | cons z zs ih =>
    rw [show z :: zs = [z] ++ zs from rfl, evL_append, List.length_append, List.length_append]
    have := codeEv_le z.toNat
    simp [evL] at this ih ⊢
    omega
theorem evL_runs (zs : List Int) : (∀ z ∈ zs, 1 ≤ z ∧ z ≤ 127) → Runs (evL zs) zs := by
  induction zs with
  | nil => intro _; rfl
  | cons z zs ih =>
    intro h
    have hz := h z (by simp)
    have h1 := codeEv_runs (c := z.toNat) (by omega) (by omega)
    rw [show ((z.toNat : Nat) : Int) = z from by omega] at h1
    have := h1.append (ih (fun y hy => h y (by simp [hy])))
    rw [show z :: zs = [z] ++ zs from rfl, evL_append]
    simpa [evL] using this
theorem evL_play {zs : List Int} (h : CodesOk zs) : okKs (evL zs) = true ∧ playL (evL zs) = zs := by
  have hr := evL_runs zs h.2
  have hl : (evL zs).length ≤ 280 := by have := evL_le zs; have := h.1; omega
  exact ⟨(okKs_iff _).2 ⟨hl, _, hr⟩, playL_runs hl hr⟩
end Go.Proofs.Ytjedkmhmkipkdaa
