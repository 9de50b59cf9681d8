
/- Plain texts: how long their cells are, and that they are cells. -/
import Derived.Test.YtjedkmhmkipkdaaPlT
namespace Go.Proofs.Ytjedkmhmkipkdaa
open Go.RowKit

theorem bodyC_cons (wh : Bool) (b : UInt8) (p : List UInt8) : bodyC wh (b :: p) = oneC wh b ++ bodyC wh p := by simp [bodyC]
theorem body_true (p : List UInt8) : (bodyC true p).length = p.length := by
  induction p with
  | nil => rfl
  | cons b p ih => rw [bodyC_cons, List.length_append, ih]; simp [oneC]; omega
theorem body_ge (wh : Bool) (p : List UInt8) : p.length ≤ (bodyC wh p).length := by
  induction p with
  | nil => simp [bodyC]
  | cons b p ih => have := oneC_len wh b; rw [bodyC_cons, List.length_append, List.length_cons]; omega
theorem small_not_cap {c : Nat} (h : smallB c = true) : capB c = false := by
  simp [capB, smallB] at h ⊢; omega
theorem runC_bd (p : List UInt8) (d : Bool) (hp : p ≠ []) : p.length ≤ (runC p d).length ∧ (runC p d).length ≤ 2 * p.length := by
  rw [runC, List.length_append]
  have h0 := body_ge (wholeB p) p
  refine ⟨by omega, ?_⟩
  cases hw : wholeB p with
  | true =>
    have h1 := body_true p
    have h2 : 2 ≤ p.length := by
      rw [wholeB, Bool.and_eq_true] at hw
      exact of_decide_eq_true hw.2
    have h3 : smallB (p.headD 0).toNat = false := cap_not_small (whole_head hw)
    rw [headC, h3]
    simp; omega
  | false =>
    cases p with
    | nil => exact absurd rfl hp
    | cons b p =>
      have h1 := body_len false p
      rw [bodyC_cons, List.length_append, List.length_cons]
      simp only [List.headD_cons]
      cases hs : smallB b.toNat with
      | true =>
        have h2 : oneC false b = [letC b] := by rw [oneC, small_not_cap hs]; rfl
        have h3 : (headC false d b.toNat).length ≤ 1 := by unfold headC; rw [if_neg (by simp), List.nil_append]; split <;> simp
        rw [h2]; simp; omega
      | false =>
        have h2 : (oneC false b).length ≤ 2 := by unfold oneC; split <;> simp
        rw [headC, hs]; simp; omega
theorem sub_ne {l : List UInt8} {a b : Nat} (h : a < b) (hb : b ≤ l.length) : sub l a b ≠ [] := by
  intro e
  have := sub_length hb (a := a)
  rw [e] at this; simp at this; omega
theorem pf_bd (l : List UInt8) : ∀ n k, l.length < n + k → k ≤ l.length → l.length - k ≤ (pf n l k).length ∧ (pf n l k).length ≤ 2 * (l.length - k) := by
  intro n
  induction n with
  | zero => intro k h1 h2; omega
  | succ n ih =>
    intro k h1 h2
    rw [pf]
    by_cases hk : k < l.length
    · rw [if_pos hk]
      by_cases hl : letB (l.getD k 0).toNat = true
      · have hgt := re_gt hk (by rw [← getD_at hk]; exact hl)
        have hle := re_le h2
        have h3 := ih (re l k) (by omega) hle
        have h4 := runC_bd (sub l k (re l k)) (dB l k) (sub_ne hgt hle)
        rw [sub_length hle] at h4
        rw [if_pos hl, List.length_append]; omega
      · have h3 := ih (k + 1) (by omega) (by omega)
        have h4 := othC_len (l.getD k 0) (dB l k)
        rw [if_neg hl, List.length_append]; omega
    · rw [if_neg hk]; simp; omega
theorem plainC_bd (l : List UInt8) : l.length ≤ (plainC l).length ∧ (plainC l).length ≤ 2 * l.length := by
  have := pf_bd l (l.length + 1) 0 (by omega) (by omega)
  unfold plainC restC
  omega
def Cell64 (z : Int) : Prop := 0 ≤ z ∧ z < 64
theorem letC_cell : ∀ c : Nat, c < 256 → letB c = true → 0 ≤ letL.getD (letNum c) 0 ∧ letL.getD (letNum c) 0 < 64 := by decide +kernel
theorem charZ_cell : ∀ c : Nat, c < 256 → okB c = true → letB c = false → 0 ≤ charZ c ∧ charZ c < 64 := by decide +kernel
theorem cells_body {wh : Bool} : ∀ (p : List UInt8), (∀ b ∈ p, letB b.toNat = true) → ∀ z ∈ bodyC wh p, 0 ≤ z ∧ z < 64 := by
  intro p
  induction p with
  | nil => intro _ z hz; simp [bodyC] at hz
  | cons b p ih =>
    intro h z hz
    rw [bodyC_cons] at hz
    rcases List.mem_append.1 hz with hz | hz
    · have hc := letC_cell b.toNat (by have := b.toNat_lt; omega) (h b (by simp))
      unfold oneC at hz
      split at hz
      · simp at hz
        rcases hz with rfl | rfl
        · omega
        · exact hc
      · simp at hz
        subst hz
        exact hc
    · exact ih (fun x hx => h x (List.mem_cons_of_mem _ hx)) z hz
theorem cells_run {p : List UInt8} {d : Bool} (h : ∀ b ∈ p, letB b.toNat = true) : ∀ z ∈ runC p d, 0 ≤ z ∧ z < 64 := by
  intro z hz
  rw [runC] at hz
  rcases List.mem_append.1 hz with hz | hz
  · unfold headC at hz
    rcases List.mem_append.1 hz with hz | hz
    · split at hz
      · simp at hz; omega
      · simp at hz
    · split at hz
      · simp at hz; omega
      · simp at hz
  · exact cells_body p h z hz
theorem cells_oth {b : UInt8} {d : Bool} (h : okB b.toNat = true) (hl : letB b.toNat = false) : ∀ z ∈ othC b d, 0 ≤ z ∧ z < 64 := by
  intro z hz
  have hc := charZ_cell b.toNat (by have := b.toNat_lt; omega) h hl
  unfold othC at hz
  split at hz
  · simp at hz
    rcases hz with rfl | rfl
    · omega
    · exact hc
  · simp at hz
    subst hz
    exact hc
theorem sub_let {l : List UInt8} {k : Nat} (hk : k ≤ l.length) : ∀ b ∈ sub l k (re l k), letB b.toNat = true := by
  intro b hb
  obtain ⟨i, hi, rfl⟩ := List.getElem_of_mem hb
  rw [sub_length (re_le hk)] at hi
  have : (sub l k (re l k))[i]'(by rw [sub_length (re_le hk)]; exact hi) = l[k + i]'(by have := re_le hk; omega) := by simp [sub]
  rw [this]
  exact re_let (k := k) _ (by omega) (by omega)
theorem pf_cells {l : List UInt8} (h : ∀ b ∈ l, okB b.toNat = true) : ∀ n k, ∀ z ∈ pf n l k, 0 ≤ z ∧ z < 64 := by
  intro n
  induction n with
  | zero => intro k z hz; simp [pf] at hz
  | succ n ih =>
    intro k z hz
    rw [pf] at hz
    split at hz
    · rename_i hk
      split at hz
      · rcases List.mem_append.1 hz with hz | hz
        · exact cells_run (sub_let (by omega)) z hz
        · exact ih _ z hz
      · rename_i hl
        rcases List.mem_append.1 hz with hz | hz
        · exact cells_oth (h _ (by rw [getD_at hk]; exact List.getElem_mem _)) (by simpa using hl) z hz
        · exact ih _ z hz
    · simp at hz
theorem plainC_valid {l : List UInt8} (hv : ValidT l) : ValidL (plainC l) := by
  refine ⟨?_, pf_cells hv.2 _ _⟩
  have := (plainC_bd l).2
  have := hv.1
  omega
end Go.Proofs.Ytjedkmhmkipkdaa
