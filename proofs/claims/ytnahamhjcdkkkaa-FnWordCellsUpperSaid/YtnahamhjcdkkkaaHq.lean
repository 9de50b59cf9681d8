
/- Plain cells of a word of small letters, and of the same word in capitals. -/
import Derived.Test.YtnahamhjcdkkkaaPlP
namespace Go.Proofs.Ytnahamhjcdkkkaa
open Go.RowKit

theorem takeWhile_all {α : Type} {p : α → Bool} : ∀ {l : List α}, (∀ x ∈ l, p x = true) → l.takeWhile p = l := by
  intro l
  induction l with
  | nil => intro _; rfl
  | cons a l ih => intro h; rw [List.takeWhile_cons, if_pos (h a (List.mem_cons_self ..)), ih fun x hx => h x (List.mem_cons_of_mem _ hx)]
/-- a text of letters is one run -/
theorem plainC_run {l : List UInt8} (h0 : 0 < l.length) (h : ∀ b ∈ l, letB b.toNat = true) : plainC l = runC l false := by
  have hre : re l 0 = l.length := by
    unfold re
    rw [List.drop_zero, takeWhile_all (p := isLt) (fun x hx => h x hx)]; omega
  unfold plainC
  rw [rest_run h0 (h _ (List.getElem_mem h0)), hre, rest_end (Nat.le_refl _), List.append_nil]
  have e : sub l 0 l.length = l := by simp [sub]
  rw [e]
  rfl
theorem flat_one {α β : Type} {f : α → β} {g : α → List β} : ∀ {l : List α}, (∀ x ∈ l, g x = [f x]) → l.flatMap g = l.map f := by
  intro l
  induction l with
  | nil => intro _; rfl
  | cons a l ih => intro h; rw [List.flatMap_cons, h a (List.mem_cons_self ..), ih fun x hx => h x (List.mem_cons_of_mem _ hx)]; rfl
theorem small_let {c : Nat} (h : 97 ≤ c ∧ c ≤ 122) : letB c = true ∧ capB c = false := by
  constructor
  · unfold letB; simp; omega
  · unfold capB; simp; omega
theorem cap_let {c : Nat} (h : 65 ≤ c ∧ c ≤ 90) : letB c = true ∧ capB c = true := by
  constructor
  · unfold letB; simp; omega
  · unfold capB; simp; omega
/-- the cells of small letters -/
theorem plainC_small {l : List UInt8} (h0 : 0 < l.length) (h : ∀ b ∈ l, 97 ≤ b.toNat ∧ b.toNat ≤ 122) : plainC l = l.map fun b => letL.getD (b.toNat - 97) 0 := by
  rw [plainC_run h0 fun b hb => (small_let (h b hb)).1]
  have hw : wholeB l = false := by
    cases l with
    | nil => simp at h0
    | cons a l =>
      unfold wholeB
      rw [List.all_cons, (small_let (h a (List.mem_cons_self ..))).2]
      simp
  unfold runC
  rw [hw]
  have hh : headC false false (l.headD 0).toNat = [] := by simp [headC]
  rw [hh, List.nil_append]
  unfold bodyC
  refine flat_one fun x hx => ?_
  unfold oneC letC letNum
  rw [(small_let (h x hx)).2]
  simp
/-- the cells of capital letters -/
theorem plainC_caps {l : List UInt8} (h0 : 0 < l.length) (h : ∀ b ∈ l, 65 ≤ b.toNat ∧ b.toNat ≤ 90) : plainC l = (if 1 < l.length then [32, 32] else [32]) ++ l.map fun b => letL.getD (b.toNat - 65) 0 := by
  rw [plainC_run h0 fun b hb => (cap_let (h b hb)).1]
  have hall : l.all (fun b => capB b.toNat) = true := List.all_eq_true.2 fun x hx => (cap_let (h x hx)).2
  by_cases h1 : 1 < l.length
  · have hw : wholeB l = true := by unfold wholeB; rw [hall]; simp; omega
    unfold runC
    rw [hw, if_pos h1]
    have hh : headC true false (l.headD 0).toNat = [32, 32] := by simp [headC]
    rw [hh]
    unfold bodyC
    rw [flat_one (f := fun b : UInt8 => letL.getD (b.toNat - 65) 0) fun x hx => ?_]
    unfold oneC letC letNum
    rw [(cap_let (h x hx)).2]
    simp
  · obtain ⟨b, rfl⟩ : ∃ b, l = [b] := by
      match l, h0, h1 with
      | [b], _, _ => exact ⟨b, rfl⟩
      | _ :: _ :: _, _, h1 => simp at h1
    have hb := cap_let (h b (List.mem_cons_self ..))
    have hw : wholeB [b] = false := by simp [wholeB]
    unfold runC
    rw [hw]
    simp [headC, bodyC, oneC, letC, letNum, hb.2]
end Go.Proofs.Ytnahamhjcdkkkaa
