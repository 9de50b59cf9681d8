
/- The least cost of words, and the best lines: the plain lists. -/
import Derived.Test.YtnbppackijjohaaLi
namespace Go.Proofs.Ytnbppackijjohaa
open Go.RowKit

/-- the cost of c words on the first line, if the others cost as A says -/
def stepC (W : Int) (S : List (List Int)) (A : Nat → Int) (c : Nat) : Int := if c = S.length then 0 else sqFree W (pack (S.take c)) + A (S.length - c)
theorem stepC_congr {W : Int} {S : List (List Int)} {A B : Nat → Int} {c : Nat} (h : ∀ m, m < S.length → A m = B m) (h1 : 1 ≤ c) (h2 : c ≤ S.length) : stepC W S A c = stepC W S B c := by
  unfold stepC
  split
  · rfl
  · rw [h _ (by omega)]
def IsMin (W : Int) (S : List (List Int)) (A : Nat → Int) (f : Nat) (m : Int) : Prop := (∃ c, 1 ≤ c ∧ c ≤ f ∧ stepC W S A c = m) ∧ ∀ c, 1 ≤ c → c ≤ f → m ≤ stepC W S A c
theorem IsMin.congr {W : Int} {S : List (List Int)} {A B : Nat → Int} {f : Nat} {m : Int} (h : IsMin W S A f m) (hf : f ≤ S.length) (e : ∀ m, m < S.length → A m = B m) : IsMin W S B f m := by
  obtain ⟨⟨c, h1, h2, h3⟩, h4⟩ := h
  exact ⟨⟨c, h1, h2, by rw [← stepC_congr e h1 (by omega)]; exact h3⟩, fun c h1 h2 => by rw [← stepC_congr e h1 (by omega)]; exact h4 c h1 h2⟩
/-- A has the least costs of the words from i on -/
def CostsUp (W : Int) (L : List (List Int)) (A : Nat → Int) (i : Nat) : Prop :=
  ∀ k, i ≤ k → k < L.length → ∃ f, Full W (L.drop k) f ∧ IsMin W (L.drop k) A f (A (L.length - k))
theorem CostsUp.none (W : Int) (L : List (List Int)) (A : Nat → Int) : CostsUp W L A L.length := fun k h1 h2 => absurd h2 (by omega)
theorem CostsUp.congr {W : Int} {L : List (List Int)} {A B : Nat → Int} {i : Nat} (h : CostsUp W L A i) (e : ∀ m, m ≤ L.length - i → A m = B m) : CostsUp W L B i := fun k h1 h2 => by
  obtain ⟨f, h3, h4⟩ := h k h1 h2
  refine ⟨f, h3, ?_⟩
  rw [← e _ (by omega)]
  exact h4.congr h3.2.1 fun m hm => e m (by rw [List.length_drop] at hm; omega)
theorem CostsUp.down {W : Int} {L : List (List Int)} {A : Nat → Int} {i f : Nat} (h : CostsUp W L A (i + 1)) (hf : Full W (L.drop i) f) (hm : IsMin W (L.drop i) A f (A (L.length - i))) : CostsUp W L A i := fun k h1 h2 => by
  by_cases e : k = i
  · subst e; exact ⟨f, hf, hm⟩
  · exact h k (by omega) h2
theorem CostsUp.same {W : Int} {L : List (List Int)} {A B : Nat → Int} (h : CostsUp W L A 0) (k : CostsUp W L B 0) : ∀ m, 1 ≤ m → m ≤ L.length → A m = B m := by
  intro m
  induction m using Nat.strongRecOn with
  | _ m ih =>
    intro h1 h2
    obtain ⟨f, f1, f2⟩ := h (L.length - m) (Nat.zero_le _) (by omega)
    obtain ⟨f', g1, g2⟩ := k (L.length - m) (Nat.zero_le _) (by omega)
    obtain rfl := f1.same g1
    rw [show L.length - (L.length - m) = m from by omega] at f2 g2
    have hl : (L.drop (L.length - m)).length = m := by rw [List.length_drop]; omega
    have hfl := f1.2.1
    have key : ∀ c, 1 ≤ c → c ≤ f → stepC W (L.drop (L.length - m)) A c = stepC W (L.drop (L.length - m)) B c := fun c c1 c2 => by
      unfold stepC
      split
      · rfl
      · rw [ih _ (by omega) (by omega) (by omega)]
    obtain ⟨⟨c, c1, c2, c3⟩, c4⟩ := f2
    obtain ⟨⟨d, d1, d2, d3⟩, d4⟩ := g2
    have e1 := c4 d d1 d2
    have e2 := d4 c c1 c2
    rw [key d d1 d2, d3] at e1
    rw [← key c c1 c2, c3] at e2
    omega
/-- c words are on the best first line: the most of those that cost least -/
def PickAt (W : Int) (S : List (List Int)) (A : Nat → Int) (c : Nat) : Prop :=
  ∃ f, Full W S f ∧ 1 ≤ c ∧ c ≤ f ∧ stepC W S A c = A S.length ∧ ∀ d, c < d → d ≤ f → stepC W S A d ≠ A S.length
theorem PickAt.same {W : Int} {S : List (List Int)} {A : Nat → Int} {c d : Nat} (h : PickAt W S A c) (k : PickAt W S A d) : c = d := by
  obtain ⟨f, h1, h2, h3, h4, h5⟩ := h
  obtain ⟨f', k1, k2, k3, k4, k5⟩ := k
  obtain rfl := h1.same k1
  rcases Nat.lt_trichotomy c d with hlt | rfl | hlt
  · exact absurd k4 (h5 d hlt k3)
  · rfl
  · exact absurd h4 (k5 c hlt h3)
theorem PickAt.congr {W : Int} {S : List (List Int)} {A B : Nat → Int} {c : Nat} (h : PickAt W S A c) (e : ∀ m, m ≤ S.length → A m = B m) : PickAt W S B c := by
  obtain ⟨f, h1, h2, h3, h4, h5⟩ := h
  have hf := h1.2.1
  refine ⟨f, h1, h2, h3, ?_, fun d d1 d2 => ?_⟩
  · rw [← stepC_congr (fun m hm => e m (by omega)) h2 (by omega), ← e _ (Nat.le_refl _)]; exact h4
  · rw [← stepC_congr (fun m hm => e m (by omega)) (by omega) (by omega), ← e _ (Nat.le_refl _)]; exact h5 d d1 d2
theorem PickAt.congr1 {W : Int} {S : List (List Int)} {A B : Nat → Int} {c : Nat} (h : PickAt W S A c) (e : ∀ m, 1 ≤ m → m ≤ S.length → A m = B m) : PickAt W S B c := by
  obtain ⟨f, h1, h2, h3, h4, h5⟩ := h
  have hf := h1.2.1
  have key : ∀ d, 1 ≤ d → d ≤ f → stepC W S A d = stepC W S B d := fun d d1 d2 => by
    unfold stepC
    split
    · rfl
    · rw [e _ (by omega) (by omega)]
  refine ⟨f, h1, h2, h3, ?_, fun d d1 d2 => ?_⟩
  · rw [← key c h2 h3, ← e _ (by omega) (Nat.le_refl _)]; exact h4
  · rw [← key d (by omega) d2, ← e _ (by omega) (Nat.le_refl _)]; exact h5 d d1 d2
/-- the best lines of words whose costs are A's -/
inductive BestFrom (W : Int) (A : Nat → Int) : List (List Int) → List (List Int) → Prop
  | done : BestFrom W A [] []
  | step {S : List (List Int)} {c : Nat} {R : List (List Int)} : PickAt W S A c → BestFrom W A (S.drop c) R → BestFrom W A S (pack (S.take c) :: R)
theorem PickAt.pos {W : Int} {S : List (List Int)} {A : Nat → Int} {c : Nat} (h : PickAt W S A c) : 1 ≤ c ∧ c ≤ S.length := by
  obtain ⟨f, h1, h2, h3, _⟩ := h
  exact ⟨h2, Nat.le_trans h3 h1.2.1⟩
theorem BestFrom.same {W : Int} {A B : Nat → Int} {S R : List (List Int)} (h : BestFrom W A S R) : (∀ m, 1 ≤ m → m ≤ S.length → A m = B m) → ∀ {R' : List (List Int)}, BestFrom W B S R' → R = R' := by
  induction h with
  | done =>
    intro _ R' k
    cases k with
    | done => rfl
    | step hp _ => have := hp.pos; simp at this; omega
  | @step S c R hp _ ih =>
    intro e R' k
    cases k with
    | done => have := hp.pos; simp at this; omega
    | step hp' k' =>
      obtain rfl := (hp.congr1 e).same hp'
      rw [ih (fun m m1 m2 => e m m1 (by rw [List.length_drop] at m2; omega)) k']
theorem BestFrom.le {W : Int} {A : Nat → Int} {S R : List (List Int)} (h : BestFrom W A S R) : R.length ≤ S.length := by
  induction h with
  | done => simp
  | step hf _ ih =>
    have h1 := hf.pos
    rw [List.length_drop] at ih
    simp only [List.length_cons]
    omega
def BestRes (L : List (List Int)) (W : Int) (b : Bool) (R : List (List Int)) : Prop := if b then ∃ A, CostsUp W L A 0 ∧ BestFrom W A L R else R = []
theorem BestRes.same {L : List (List Int)} {W : Int} {b : Bool} {R R' : List (List Int)} (h : BestRes L W b R) (k : BestRes L W b R') : R = R' := by
  unfold BestRes at h k
  cases b
  · simp at h k; rw [h, k]
  · simp at h k
    obtain ⟨A, h1, h2⟩ := h
    obtain ⟨B, k1, k2⟩ := k
    exact h2.same (h1.same k1) k2
/-- among c + 1 .. f words on the first line, d words have the least cost m, and are the most that have it -/
def PartMin (W : Int) (S : List (List Int)) (A : Nat → Int) (f c : Nat) (m : Int) (d : Nat) : Prop :=
  c < d ∧ d ≤ f ∧ stepC W S A d = m ∧ (∀ x, c < x → x ≤ f → m ≤ stepC W S A x) ∧ ∀ x, d < x → x ≤ f → m < stepC W S A x
theorem PartMin.first {W : Int} {S : List (List Int)} {A : Nat → Int} {f : Nat} (h : 1 ≤ f) : PartMin W S A f (f - 1) (stepC W S A f) f :=
  ⟨by omega, Nat.le_refl _, rfl, fun x h1 h2 => by rw [show x = f from by omega]; exact Int.le_refl _, fun x h1 h2 => absurd h1 (by omega)⟩
theorem PartMin.less {W : Int} {S : List (List Int)} {A : Nat → Int} {f c d : Nat} {m : Int} (h : PartMin W S A f (c + 1) m d) (k : stepC W S A (c + 1) < m) : PartMin W S A f c (stepC W S A (c + 1)) (c + 1) := by
  obtain ⟨h1, h2, h3, h4, h5⟩ := h
  refine ⟨by omega, by omega, rfl, fun x x1 x2 => ?_, fun x x1 x2 => ?_⟩
  · by_cases e : x = c + 1
    · subst e; exact Int.le_refl _
    · have := h4 x (by omega) x2; omega
  · have := h4 x (by omega) x2; omega
theorem PartMin.more {W : Int} {S : List (List Int)} {A : Nat → Int} {f c d : Nat} {m : Int} (h : PartMin W S A f (c + 1) m d) (k : ¬ stepC W S A (c + 1) < m) : PartMin W S A f c m d := by
  obtain ⟨h1, h2, h3, h4, h5⟩ := h
  refine ⟨by omega, h2, h3, fun x x1 x2 => ?_, h5⟩
  by_cases e : x = c + 1
  · subst e; omega
  · exact h4 x (by omega) x2
theorem PartMin.congr {W : Int} {S : List (List Int)} {A B : Nat → Int} {f c d : Nat} {m : Int} (h : PartMin W S A f c m d) (hf : f ≤ S.length) (e : ∀ m, m < S.length → A m = B m) : PartMin W S B f c m d := by
  obtain ⟨h1, h2, h3, h4, h5⟩ := h
  refine ⟨h1, h2, ?_, fun x x1 x2 => ?_, fun x x1 x2 => ?_⟩
  · rw [← stepC_congr e (by omega) (by omega)]; exact h3
  · rw [← stepC_congr e (by omega) (by omega)]; exact h4 x x1 x2
  · rw [← stepC_congr e (by omega) (by omega)]; exact h5 x x1 x2
theorem PartMin.min {W : Int} {S : List (List Int)} {A : Nat → Int} {f d : Nat} {m : Int} (h : PartMin W S A f 0 m d) : IsMin W S A f m := by
  obtain ⟨h1, h2, h3, h4, h5⟩ := h
  exact ⟨⟨d, by omega, h2, h3⟩, fun c c1 c2 => h4 c (by omega) c2⟩
theorem PartMin.pick {W : Int} {S : List (List Int)} {A : Nat → Int} {f d : Nat} {m : Int} (hf : Full W S f) (hm : A S.length = m) (h : PartMin W S A f 0 m d) : PickAt W S A d := by
  subst hm
  obtain ⟨h1, h2, h3, h4, h5⟩ := h
  exact ⟨f, hf, by omega, h2, h3, fun x x1 x2 => by have := h5 x x1 x2; omega⟩
/-- the costs that an array of n + 1 numbers and more has: those of m words are at the place n - m -/
def arrA (zs : List Int) (n : Nat) : Nat → Int := fun m => zs.getD (n - m) 0
theorem arrA_set {zs : List Int} {n i m : Nat} {x : Int} (h : m < n - i) : arrA (zs.set i x) n m = arrA zs n m := by
  unfold arrA
  rw [List.getD_eq_getElem?_getD, List.getElem?_set_ne (by omega), ← List.getD_eq_getElem?_getD]
theorem arrA_at {zs : List Int} {n i : Nat} {x : Int} (h : i ≤ n) (hl : i < zs.length) : arrA (zs.set i x) n (n - i) = x := by
  unfold arrA
  rw [show n - (n - i) = i from by omega, List.getD_eq_getElem?_getD, List.getElem?_set_self hl]; rfl
/-- all costs of the array are small -/
def SmallA (zs : List Int) (n : Nat) : Prop := ∀ j, 0 ≤ zs.getD j 0 ∧ zs.getD j 0 ≤ 1600 * (n - j : Nat)
theorem SmallA.zero (n q : Nat) : SmallA (List.replicate q 0) n := fun j => by
  have : (List.replicate q (0 : Int)).getD j 0 = 0 := by
    rw [List.getD_eq_getElem?_getD]
    by_cases h : j < q
    · rw [List.getElem?_replicate, if_pos h]; rfl
    · rw [List.getElem?_eq_none (by simp; omega)]; rfl
  rw [this]; omega
theorem SmallA.set {zs : List Int} {n i : Nat} {x : Int} (h : SmallA zs n) (h0 : 0 ≤ x) (h1 : x ≤ 1600 * (n - i : Nat)) : SmallA (zs.set i x) n := fun j => by
  by_cases e : i = j
  · subst e
    by_cases hl : i < zs.length
    · rw [List.getD_eq_getElem?_getD, List.getElem?_set_self hl]; exact ⟨h0, h1⟩
    · rw [List.getD_eq_getElem?_getD, List.getElem?_eq_none (by rw [List.length_set]; omega)]; simp
      omega
  · rw [List.getD_eq_getElem?_getD, List.getElem?_set_ne e, ← List.getD_eq_getElem?_getD]; exact h j
theorem fit_len {W : Int} {S : List (List Int)} {f c : Nat} (hf : Fit W S f) (hS : ∀ x ∈ S, (x.length : Int) ≤ W) (h1 : 1 ≤ c) (h2 : c ≤ f) (h3 : c ≤ S.length) : ((pack (S.take c)).length : Int) ≤ W := by
  by_cases e : c = 1
  · subst e
    rw [pack_one (by omega)]
    exact hS _ (getD_memL (by omega))
  · exact hf c (by omega) h2
theorem stepC_small {W : Int} {S : List (List Int)} {zs : List Int} {n c : Nat} (hz : SmallA zs n) (hW : W ≤ 40) (hn : S.length ≤ n) (h1 : 1 ≤ c) (h3 : c ≤ S.length) (hl : ((pack (S.take c)).length : Int) ≤ W) : 0 ≤ stepC W S (arrA zs n) c ∧ stepC W S (arrA zs n) c ≤ 1600 * S.length := by
  unfold stepC
  split
  · omega
  · have h4 := sqFree_le hl hW
    have h5 := hz (n - (S.length - c))
    unfold arrA
    omega
end Go.Proofs.Ytnbppackijjohaa
