
/- Signs in plain texts: how many signs of numbers, and whether there is a sign of capitals. -/
import Derived.Test.YtabmeakjbhiklaaPlM
namespace Go.Proofs.Ytabmeakjbhiklaa
open Go.RowKit

/-- a digit begins at k -/
def stB (l : List UInt8) (k : Nat) : Bool := digBt (l.getD k 0).toNat && !dB l k
/-- how many begin before k -/
def stC (l : List UInt8) : Nat → Nat
  | 0 => 0
  | k + 1 => stC l k + if stB l k then 1 else 0
/-- there is a capital letter before k -/
def cpC (l : List UInt8) : Nat → Bool
  | 0 => false
  | k + 1 => cpC l k || capB (l.getD k 0).toNat
theorem stC_le (l : List UInt8) : ∀ k, stC l k ≤ k := by
  intro k
  induction k with
  | zero => exact Nat.le_refl _
  | succ k ih => rw [stC]; split <;> omega
theorem stC_flat {l : List UInt8} {k : Nat} : ∀ m, k ≤ m → (∀ i, k ≤ i → i < m → stB l i = false) → stC l m = stC l k := by
  intro m
  induction m with
  | zero => intro h _; rw [show k = 0 from by omega]
  | succ m ih =>
    intro h hh
    by_cases e : k = m + 1
    · rw [e]
    · rw [stC, hh m (by omega) (by omega), ih (by omega) (fun i h1 h2 => hh i h1 (by omega))]; simp
theorem cpC_iff (l : List UInt8) : ∀ m, cpC l m = true ↔ ∃ i, i < m ∧ capB (l.getD i 0).toNat = true := by
  intro m
  induction m with
  | zero => simp [cpC]
  | succ m ih =>
    rw [cpC, Bool.or_eq_true, ih]
    constructor
    · rintro (⟨i, h1, h2⟩ | h)
      · exact ⟨i, by omega, h2⟩
      · exact ⟨m, by omega, h⟩
    · rintro ⟨i, h1, h2⟩
      by_cases e : i = m
      · subst e; exact .inr h2
      · exact .inl ⟨i, by omega, h2⟩
theorem letC_not : ∀ c : Nat, c < 256 → letB c = true → letL.getD (letNum c) 0 ≠ 60 ∧ letL.getD (letNum c) 0 ≠ 32 := by decide +kernel
theorem charZ_not : ∀ c : Nat, c < 256 → okB c = true → letB c = false → charZ c ≠ 60 ∧ charZ c ≠ 32 := by decide +kernel
theorem let_not_dig {c : Nat} (h : letB c = true) : digBt c = false := by
  simp [letB, digBt] at h ⊢; omega
theorem let_not_cap {c : Nat} (h : letB c = false) : capB c = false := by
  simp [letB, capB] at h ⊢; omega
theorem head_not (wh d : Bool) (c : Nat) : (60 : Int) ∉ headC wh d c := by
  unfold headC
  cases wh <;> simp <;> split <;> simp
theorem body_not {wh : Bool} : ∀ (p : List UInt8), (∀ b ∈ p, letB b.toNat = true) → (60 : Int) ∉ bodyC wh p := by
  intro p
  induction p with
  | nil => intro _; simp [bodyC]
  | cons b p ih =>
    intro h hz
    rw [bodyC_cons] at hz
    have hc := letC_not b.toNat (by have := b.toNat_lt; omega) (h b (by simp))
    rcases List.mem_append.1 hz with hz | hz
    · unfold oneC at hz
      split at hz
      · simp at hz; exact hc.1 hz.symm
      · simp at hz; exact hc.1 hz.symm
    · exact ih (fun x hx => h x (List.mem_cons_of_mem _ hx)) hz
theorem run_not {p : List UInt8} {d : Bool} (h : ∀ b ∈ p, letB b.toNat = true) : (60 : Int) ∉ runC p d := by
  rw [runC]
  intro hz
  rcases List.mem_append.1 hz with hz | hz
  · exact head_not _ _ _ hz
  · exact body_not p h hz
theorem oth_count {b : UInt8} {d : Bool} (h : okB b.toNat = true) (hl : letB b.toNat = false) : (othC b d).count 60 = if digBt b.toNat && !d then 1 else 0 := by
  have hc := charZ_not b.toNat (by have := b.toNat_lt; omega) h hl
  unfold othC
  split
  · simp [hc.1]
  · simp [hc.1]
theorem body_cap : ∀ (p : List UInt8), (∀ b ∈ p, letB b.toNat = true) → ((32 : Int) ∈ bodyC false p ↔ ∃ b ∈ p, capB b.toNat = true) := by
  intro p
  induction p with
  | nil => intro _; simp [bodyC]
  | cons b p ih =>
    intro h
    have hc := letC_not b.toNat (by have := b.toNat_lt; omega) (h b (by simp))
    have h1 : (32 : Int) ∈ oneC false b ↔ capB b.toNat = true := by
      unfold oneC
      cases hcap : capB b.toNat with
      | true => simp
      | false => simp; exact fun e => hc.2 e.symm
    rw [bodyC_cons, List.mem_append, ih (fun x hx => h x (List.mem_cons_of_mem _ hx)), h1]
    simp
theorem run_cap {p : List UInt8} {d : Bool} (h : ∀ b ∈ p, letB b.toNat = true) (hp : p ≠ []) : (32 : Int) ∈ runC p d ↔ ∃ b ∈ p, capB b.toNat = true := by
  cases hw : wholeB p with
  | true =>
    have hall : ∀ b ∈ p, capB b.toNat = true := by
      rw [wholeB, Bool.and_eq_true, List.all_eq_true] at hw
      exact hw.1
    constructor
    · intro _
      cases p with
      | nil => exact absurd rfl hp
      | cons b p => exact ⟨b, by simp, hall b (by simp)⟩
    · intro _
      rw [runC, hw, headC]; simp
  | false =>
    rw [runC, hw, List.mem_append, body_cap p h]
    have : (32 : Int) ∉ headC false d (p.headD 0).toNat := by unfold headC; simp
    exact ⟨fun h => h.resolve_left this, .inr⟩
theorem oth_cap {b : UInt8} {d : Bool} (h : okB b.toNat = true) (hl : letB b.toNat = false) : (32 : Int) ∉ othC b d := by
  have hc := charZ_not b.toNat (by have := b.toNat_lt; omega) h hl
  unfold othC
  split
  · simp; exact fun e => hc.2 e.symm
  · simp; exact fun e => hc.2 e.symm
theorem sub_ex {l : List UInt8} {k e : Nat} (h1 : k ≤ e) (h2 : e ≤ l.length) (P : UInt8 → Prop) : (∃ b ∈ sub l k e, P b) ↔ ∃ i, k ≤ i ∧ i < e ∧ P (l.getD i 0) := by
  constructor
  · rintro ⟨b, hb, hP⟩
    obtain ⟨i, hi, rfl⟩ := List.getElem_of_mem hb
    rw [sub_length h2] at hi
    have : (sub l k e)[i]'(by rw [sub_length h2]; exact hi) = l[k + i]'(by omega) := by simp [sub]
    rw [this] at hP
    exact ⟨k + i, by omega, by omega, by rw [getD_at (by omega)]; exact hP⟩
  · rintro ⟨i, a, b, hP⟩
    rw [getD_at (by omega)] at hP
    have : (sub l k e)[i - k]'(by rw [sub_length h2]; omega) = l[i]'(by omega) := by simp [sub, show k + (i - k) = i from by omega]
    exact ⟨l[i]'(by omega), by rw [← this]; exact List.getElem_mem _, hP⟩
theorem pf_count {l : List UInt8} (h : ∀ b ∈ l, okB b.toNat = true) : ∀ n k, l.length < n + k → k ≤ l.length → (pf n l k).count 60 + stC l k = stC l l.length := by
  intro n
  induction n with
  | zero => intro k h1 h2; omega
  | succ n ih =>
    intro k h1 h2
    rw [pf]
    by_cases hk : k < l.length
    · rw [if_pos hk]
      by_cases hl : letB (l.getD k 0).toNat = true
      · have hgt := re_gt hk (by rw [← getD_at hk]; exact hl)
        have hle := re_le h2
        have h3 := ih (re l k) (by omega) hle
        rw [if_pos hl, List.count_append, List.count_eq_zero.2 (run_not (sub_let (by omega)))]
        rw [stC_flat (k := k) (re l k) (by omega) (fun i a b => by
          have := re_let (k := k) (i := i) (l := l) (by omega) a b
          rw [stB, getD_at (show i < l.length by omega), let_not_dig this]; rfl)] at h3
        omega
      · have h3 := ih (k + 1) (by omega) (by omega)
        rw [if_neg hl, List.count_append, oth_count (h _ (by rw [getD_at hk]; exact List.getElem_mem _)) (by simpa using hl)]
        rw [stC, stB] at h3
        omega
    · rw [if_neg hk, show k = l.length from by omega]; simp
theorem pf_cap {l : List UInt8} (h : ∀ b ∈ l, okB b.toNat = true) : ∀ n k, l.length < n + k → k ≤ l.length → ((32 : Int) ∈ pf n l k ↔ ∃ i, k ≤ i ∧ i < l.length ∧ capB (l.getD i 0).toNat = true) := by
  intro n
  induction n with
  | zero => intro k h1 h2; omega
  | succ n ih =>
    intro k h1 h2
    rw [pf]
    by_cases hk : k < l.length
    · rw [if_pos hk]
      by_cases hl : letB (l.getD k 0).toNat = true
      · have hgt := re_gt hk (by rw [← getD_at hk]; exact hl)
        have hle := re_le h2
        rw [if_pos hl, List.mem_append, ih (re l k) (by omega) hle, run_cap (sub_let (by omega)) (sub_ne hgt hle), sub_ex (by omega) hle (fun b => capB b.toNat = true)]
        constructor
        · rintro (⟨i, a, b, c⟩ | ⟨i, a, b, c⟩)
          · exact ⟨i, a, by omega, c⟩
          · exact ⟨i, by omega, b, c⟩
        · rintro ⟨i, a, b, c⟩
          by_cases hi : i < re l k
          · exact .inl ⟨i, a, hi, c⟩
          · exact .inr ⟨i, by omega, b, c⟩
      · have hl2 : letB (l.getD k 0).toNat = false := by simpa using hl
        have := oth_cap (d := dB l k) (h (l.getD k 0) (by rw [getD_at hk]; exact List.getElem_mem _)) hl2
        rw [if_neg hl, List.mem_append, ih (k + 1) (by omega) (by omega)]
        constructor
        · rintro (h | ⟨i, a, b, c⟩)
          · exact absurd h this
          · exact ⟨i, by omega, b, c⟩
        · rintro ⟨i, a, b, c⟩
          by_cases hi : i = k
          · subst hi
            rw [let_not_cap hl2] at c; cases c
          · exact .inr ⟨i, by omega, b, c⟩
    · rw [if_neg hk]
      simp
      intro i a b; omega
theorem plain_count {l : List UInt8} (hv : ValidT l) : (plainC l).count 60 = stC l l.length := by
  have := pf_count hv.2 (l.length + 1) 0 (by omega) (by omega)
  simpa [plainC, restC, stC] using this
theorem plain_cap {l : List UInt8} (hv : ValidT l) : decide (0 < (plainC l).count 32) = cpC l l.length := by
  have h1 := pf_cap hv.2 (l.length + 1) 0 (by omega) (by omega)
  have h2 := cpC_iff l l.length
  have : (32 : Int) ∈ plainC l ↔ cpC l l.length = true := by
    rw [h2, plainC, restC, h1]
    exact ⟨fun ⟨i, _, b, c⟩ => ⟨i, b, c⟩, fun ⟨i, b, c⟩ => ⟨i, by omega, b, c⟩⟩
  cases hc : cpC l l.length with
  | true => exact decide_eq_true (List.count_pos_iff.2 (this.2 hc))
  | false => exact decide_eq_false (fun h => by rw [this.1 (List.count_pos_iff.1 h)] at hc; cases hc)
end Go.Proofs.Ytabmeakjbhiklaa
