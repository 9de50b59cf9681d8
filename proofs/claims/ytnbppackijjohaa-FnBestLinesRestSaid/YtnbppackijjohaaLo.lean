
/- What lines as full as can be are. -/
import Derived.Test.YtnbppackijjohaaLi
namespace Go.Proofs.Ytnbppackijjohaa
open Go.RowKit

theorem fold_word (z : List Int) (hz : (0 : Int) ∉ z) : ∀ (A : List (List Int)) (y : List Int), z.foldl wStep (A, y) = (A, y ++ z) := by
  induction z with
  | nil => intro A y; simp
  | cons c r ih =>
    intro A y
    have hc : c ≠ 0 := fun e => hz (by simp [e])
    have hr : (0 : Int) ∉ r := fun h => hz (by simp [h])
    rw [List.foldl_cons]
    have : wStep (A, y) c = (A, y ++ [c]) := by simp [wStep, hc]
    rw [this, ih hr, List.append_assoc, List.singleton_append]
theorem wol_rest (r : List (List Int)) : ∀ (A : List (List Int)) (x : List Int), x ≠ [] → (∀ y ∈ r, y ≠ [] ∧ (0 : Int) ∉ y) → wEnd ((r.flatMap fun y => (0 : Int) :: y).foldl wStep (A, x)) = A ++ x :: r := by
  induction r with
  | nil => intro A x hx _; simp [wEnd, hx]
  | cons y r ih =>
    intro A x hx hr
    obtain ⟨h1, h2⟩ := hr y (by simp)
    rw [List.flatMap_cons, List.foldl_append, List.foldl_cons]
    have : wStep (A, x) 0 = (A ++ [x], []) := by simp [wStep, hx]
    rw [this, fold_word y h2, List.nil_append, ih _ _ h1 (fun z hz => hr z (by simp [hz])), List.append_assoc, List.singleton_append]
def Words (S : List (List Int)) : Prop := ∀ y ∈ S, y ≠ [] ∧ (0 : Int) ∉ y
theorem wol_pack {M : List (List Int)} (h : Words M) : wol (pack M) = M := by
  cases M with
  | nil => simp [wol, pack, wEnd]
  | cons x r =>
    obtain ⟨h1, h2⟩ := h x (by simp)
    unfold wol pack
    rw [List.foldl_append, fold_word x h2, List.nil_append, wol_rest r [] x h1 (fun y hy => h y (by simp [hy]))]
    simp
theorem Words.drop {S : List (List Int)} (h : Words S) (k : Nat) : Words (S.drop k) := fun y hy => h y (List.mem_of_mem_drop hy)
theorem Words.take {S : List (List Int)} (h : Words S) (k : Nat) : Words (S.take k) := fun y hy => h y (List.mem_of_mem_take hy)
theorem fill_words {W : Int} {S R : List (List Int)} (h : FillFrom W S R) : Words S → wolAll R = S := by
  induction h with
  | done => intro _; rfl
  | @step S c R hf _ ih =>
    intro hw
    have e1 := ih (hw.drop c)
    unfold wolAll at e1 ⊢
    rw [List.flatMap_cons, e1, wol_pack (hw.take c), List.take_append_drop]
theorem FillOk.words {S : List (List Int)} {W : Int} (h : FillOk S W) : Words S := fun y hy => by
  have := h.2.2.all y hy
  refine ⟨fun e => ?_, this.2.2.2⟩
  have h1 := this.1
  rw [e] at h1; simp at h1
def ElemL (zs : List Int) : Prop := ∀ z ∈ zs, 0 ≤ z ∧ z < 64
/-- a line that words make up -/
def GoodLine (W : Int) (r : List Int) : Prop := 1 ≤ r.length ∧ (r.length : Int) ≤ W ∧ ElemL r ∧ r.getD 0 0 ≠ 0 ∧ r.getD (r.length - 1) 0 ≠ 0
theorem getD_last {z : List Int} (hz : (0 : Int) ∉ z) {k : Nat} (hk : k < z.length) : z.getD k 0 ≠ 0 := fun e => by
  apply hz
  rw [List.getD_eq_getElem?_getD, List.getElem?_eq_getElem hk, Option.getD_some] at e
  rw [← e]; exact List.getElem_mem _
theorem pack_ends {M : List (List Int)} (h : ∀ x ∈ M, 1 ≤ x.length ∧ ElemL x ∧ (0 : Int) ∉ x) (h0 : M ≠ []) : 1 ≤ (pack M).length ∧ ElemL (pack M) ∧ (pack M).getD 0 0 ≠ 0 ∧ (pack M).getD ((pack M).length - 1) 0 ≠ 0 := by
  cases M with
  | nil => exact absurd rfl h0
  | cons x r =>
    obtain ⟨h1, h2, h3⟩ := h x (by simp)
    have key : ∀ (r : List (List Int)) (p : List Int), (∀ y ∈ r, 1 ≤ y.length ∧ ElemL y ∧ (0 : Int) ∉ y) → 1 ≤ p.length → ElemL p → p.getD 0 0 ≠ 0 → p.getD (p.length - 1) 0 ≠ 0 →
        1 ≤ (p ++ r.flatMap fun y => (0 : Int) :: y).length ∧ ElemL (p ++ r.flatMap fun y => (0 : Int) :: y) ∧ (p ++ r.flatMap fun y => (0 : Int) :: y).getD 0 0 ≠ 0 ∧ (p ++ r.flatMap fun y => (0 : Int) :: y).getD ((p ++ r.flatMap fun y => (0 : Int) :: y).length - 1) 0 ≠ 0 := by
      intro r
      induction r with
      | nil => intro p _ q1 q2 q3 q4; simp only [List.flatMap_nil, List.append_nil]; exact ⟨q1, q2, q3, q4⟩
      | cons y r ih =>
        intro p hr q1 q2 q3 q4
        obtain ⟨y1, y2, y3⟩ := hr y (by simp)
        have e : p ++ (y :: r).flatMap (fun y => (0 : Int) :: y) = (p ++ 0 :: y) ++ r.flatMap fun y => (0 : Int) :: y := by
          rw [List.flatMap_cons, List.append_assoc]
        rw [e]
        refine ih (p ++ 0 :: y) (fun z hz => hr z (by simp [hz])) (by rw [List.length_append]; omega) ?_ ?_ ?_
        · intro z hz
          rcases List.mem_append.1 hz with hz | hz
          · exact q2 z hz
          · rcases List.mem_cons.1 hz with rfl | hz
            · decide
            · exact y2 z hz
        · rw [List.getD_eq_getElem?_getD, List.getElem?_append_left (by omega), ← List.getD_eq_getElem?_getD]; exact q3
        · have hlen : (p ++ 0 :: y).length - 1 = p.length + y.length := by rw [List.length_append, List.length_cons]; omega
          rw [hlen, List.getD_eq_getElem?_getD, List.getElem?_append_right (by omega), show p.length + y.length - p.length = (y.length - 1) + 1 from by omega, List.getElem?_cons_succ, ← List.getD_eq_getElem?_getD]
          exact getD_last y3 (by omega)
    exact key r x (fun y hy => h y (by simp [hy])) h1 h2 (getD_last h3 (by omega)) (getD_last h3 (by omega))
theorem fill_good {W : Int} {S R : List (List Int)} (h : FillFrom W S R) : (∀ x ∈ S, ItemW W x) → ∀ r ∈ R, GoodLine W r := by
  induction h with
  | done => intro _ r hr; simp at hr
  | @step S c R hf _ ih =>
    intro hS r hr
    rcases List.mem_cons.1 hr with rfl | hr
    · have hne : S.take c ≠ [] := by
        intro e
        have := congrArg List.length e
        rw [List.length_take, List.length_nil] at this
        have h1 := hf.1
        have h2 := hf.2.1
        omega
      have h1 := pack_ends (M := S.take c) (fun x hx => by have := hS x (List.mem_of_mem_take hx); exact ⟨this.1, this.2.2.1.2, this.2.2.2⟩) hne
      refine ⟨h1.1, ?_, h1.2.1, h1.2.2.1, h1.2.2.2⟩
      by_cases hc : c = 1
      · subst hc
        rw [pack_one (by have := hf.2.1; omega)]
        exact (hS _ (getD_memL (by have := hf.2.1; omega))).2.1
      · exact hf.2.2.1 c (by have := hf.1; omega) (Nat.le_refl _)
    · exact ih (fun x hx => hS x (List.mem_of_mem_drop hx)) r hr
theorem GoodLine.ok {W : Int} {r : List Int} (h : GoodLine W r) (hW : W ≤ 40) : LineW W r := ⟨h.2.1, by have := h.2.1; omega, h.2.2.1⟩
/-- the first word of the line i + 1 has no room on the line i -/
def NoRoom (W : Int) (R : List (List Int)) (i : Nat) : Prop :=
  ∃ x r, R.getD (i + 1) [] = x ++ r ∧ (0 : Int) ∉ x ∧ (r = [] ∨ ∃ r', r = 0 :: r') ∧ W < (R.getD i []).length + 1 + x.length
theorem fill_room {W : Int} {S R : List (List Int)} (h : FillFrom W S R) : Words S → ∀ i, i + 1 < R.length → NoRoom W R i := by
  induction h with
  | done => intro _ i hi; simp at hi
  | @step S c R hf hr ih =>
    intro hS i hi
    cases i with
    | succ i =>
      obtain ⟨x, r, h1, h2, h3, h4⟩ := ih (hS.drop c) i (by simpa using hi)
      exact ⟨x, r, h1, h2, h3, h4⟩
    | zero =>
      cases hr' : R with
      | nil => rw [hr'] at hi; simp at hi
      | cons p R' =>
        rw [hr'] at hr
        generalize hT : S.drop c = T at hr
        cases hr with
        | @step _ c' _ hf' hr'' =>
          cases T with
          | nil => have h1 := hf'.1; have h2 := hf'.2.1; simp at h2; omega
          | cons y t =>
            have hcl : c < S.length := by
              have := congrArg List.length hT
              rw [List.length_drop, List.length_cons] at this; omega
            have hy : S.getD c [] = y := by
              rw [List.drop_eq_getElem_cons hcl] at hT
              injection hT with h1 h2
              rw [List.getD_eq_getElem?_getD, List.getElem?_eq_getElem hcl]; exact h1
            obtain ⟨c2, rfl⟩ : ∃ c2, c' = c2 + 1 := ⟨c' - 1, by have := hf'.1; omega⟩
            refine ⟨y, (t.take c2).flatMap (fun z => (0 : Int) :: z), rfl, ?_, ?_, ?_⟩
            · exact (hS y (by rw [← hy]; exact getD_memL hcl)).2
            · cases t.take c2 with
              | nil => left; rfl
              | cons z q => right; exact ⟨z ++ q.flatMap (fun z => (0 : Int) :: z), by rw [List.flatMap_cons, List.cons_append]⟩
            · rcases hf.2.2.2 with h5 | h5
              · omega
              · rw [pack_more hcl (by have := hf.1; omega), hy, List.length_append, List.length_cons] at h5
                show W < ((pack (S.take c)).length : Int) + 1 + y.length
                omega
end Go.Proofs.Ytnbppackijjohaa
