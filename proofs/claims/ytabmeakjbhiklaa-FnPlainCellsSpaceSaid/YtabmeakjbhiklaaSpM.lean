
/- Plain texts parted at a space. -/
import Derived.Test.YtabmeakjbhiklaaSgM
namespace Go.Proofs.Ytabmeakjbhiklaa
open Go.RowKit

theorem take_gt {l : List UInt8} {i k : Nat} (h : k < i) : (l.take i).getD k 0 = l.getD k 0 := by
  rw [List.getD_eq_getElem?_getD, List.getD_eq_getElem?_getD, List.getElem?_take_of_lt h]
theorem drop_gt (l : List UInt8) (c k : Nat) : (l.drop c).getD k 0 = l.getD (c + k) 0 := by
  rw [List.getD_eq_getElem?_getD, List.getD_eq_getElem?_getD, List.getElem?_drop]
theorem dB_take {l : List UInt8} {i k : Nat} (h : k ≤ i) : dB (l.take i) k = dB l k := by
  cases k with
  | zero => rfl
  | succ j => rw [dB, dB, take_gt (by omega)]
theorem sub_take {l : List UInt8} {i a b : Nat} (h : b ≤ i) : sub (l.take i) a b = sub l a b := by
  unfold sub
  rw [List.drop_take, List.take_take, show min (b - a) (i - a) = b - a from by omega]
theorem re_drop (l : List UInt8) (c k : Nat) : re l (c + k) = c + re (l.drop c) k := by
  unfold re
  rw [List.drop_drop]; omega
theorem sub_drop (l : List UInt8) (c a b : Nat) : sub l (c + a) (c + b) = sub (l.drop c) a b := by
  unfold sub
  rw [List.drop_drop, show c + b - (c + a) = b - a from by omega]
theorem dB_drop {l : List UInt8} {c : Nat} (h : dB l c = false) (k : Nat) : dB l (c + k) = dB (l.drop c) k := by
  cases k with
  | zero => exact h
  | succ j => rw [← Nat.add_assoc, dB, dB, drop_gt]
theorem rest_drop {l : List UInt8} {c : Nat} (h : dB l c = false) (hc : c ≤ l.length) : ∀ m k, l.length ≤ m + (c + k) → restC l (c + k) = restC (l.drop c) k := by
  intro m
  induction m with
  | zero =>
    intro k hk
    rw [rest_end (by omega), rest_end (by rw [List.length_drop]; omega)]
  | succ m ih =>
    intro k hk
    by_cases hlt : c + k < l.length
    · have h2 : k < (l.drop c).length := by rw [List.length_drop]; omega
      have hg : (l.drop c)[k] = l[c + k] := by simp
      cases hl : letB (l[c + k]).toNat with
      | true =>
        have hgt := re_gt hlt hl
        have hr := re_drop l c k
        rw [rest_run hlt hl, rest_run h2 (by rw [hg]; exact hl), hr, sub_drop, dB_drop h, ih _ (by omega)]
      | false =>
        rw [rest_oth hlt hl, rest_oth h2 (by rw [hg]; exact hl), hg, dB_drop h, Nat.add_assoc, ih _ (by omega)]
    · rw [rest_end (by omega), rest_end (by rw [List.length_drop]; omega)]
theorem re_take {l : List UInt8} {i : Nat} (hi : i < l.length) (h : letB (l[i]).toNat = false) : ∀ m k, i ≤ m + k → k ≤ i → re (l.take i) k = re l k ∧ re l k ≤ i := by
  intro m
  induction m with
  | zero =>
    intro k h1 h2
    have : k = i := by omega
    subst this
    rw [re_end (by simp; omega), re_stop hi h]
    exact ⟨rfl, Nat.le_refl _⟩
  | succ m ih =>
    intro k h1 h2
    by_cases e : k = i
    · subst e
      rw [re_end (by simp; omega), re_stop hi h]
      exact ⟨rfl, Nat.le_refl _⟩
    · have hk : k < l.length := by omega
      have hk2 : k < (l.take i).length := by rw [List.length_take]; omega
      have hg : (l.take i)[k] = l[k] := by simp
      cases hl : letB (l[k]).toNat with
      | true =>
        rw [re_go hk hl, re_go hk2 (by rw [hg]; exact hl)]
        exact ih (k + 1) (by omega) (by omega)
      | false =>
        rw [re_stop hk hl, re_stop hk2 (by rw [hg]; exact hl)]
        exact ⟨rfl, h2⟩
theorem sp_char : charZ 32 = 0 := by decide +kernel
theorem rest_space {l : List UInt8} {i : Nat} (hi : i < l.length) (h32 : (l[i]).toNat = 32) : ∀ m k, i ≤ m + k → k ≤ i → restC l k = restC (l.take i) k ++ 0 :: restC l (i + 1) := by
  have hlet : letB (l[i]).toNat = false := by rw [h32]; rfl
  have hoth : ∀ d, othC l[i] d = [0] := by
    intro d
    rw [othC, h32, sp_char]; rfl
  have hbase : restC l i = restC (l.take i) i ++ 0 :: restC l (i + 1) := by
    rw [rest_oth hi hlet, hoth, rest_end (l := l.take i) (by simp; omega)]; rfl
  intro m
  induction m with
  | zero =>
    intro k h1 h2
    have : k = i := by omega
    subst this
    exact hbase
  | succ m ih =>
    intro k h1 h2
    by_cases e : k = i
    · subst e; exact hbase
    · have hk : k < l.length := by omega
      have hk2 : k < (l.take i).length := by rw [List.length_take]; omega
      have hg : (l.take i)[k] = l[k] := by simp
      cases hl : letB (l[k]).toNat with
      | true =>
        have hgt := re_gt hk hl
        obtain ⟨r1, r2⟩ := re_take hi hlet i k (by omega) h2
        rw [rest_run hk hl, rest_run hk2 (by rw [hg]; exact hl), r1, sub_take r2, dB_take h2, ih (re l k) (by omega) r2, List.append_assoc]
      | false =>
        rw [rest_oth hk hl, rest_oth hk2 (by rw [hg]; exact hl), hg, dB_take h2, ih (k + 1) (by omega) (by omega), List.append_assoc]
theorem plain_space {l : List UInt8} {i : Nat} (hi : i < l.length) (h32 : (l[i]).toNat = 32) : plainC l = (plainC (l.take i) ++ [0]) ++ plainC (l.drop (i + 1)) := by
  have h1 := rest_space hi h32 i 0 (by omega) (by omega)
  have h2 := rest_drop (l := l) (c := i + 1) (by rw [dB, getD_at hi, h32]; rfl) (by omega) l.length 0 (by omega)
  unfold plainC
  rw [h1, show i + 1 = i + 1 + 0 from rfl, h2]; simp
theorem letC_zero : ∀ c : Nat, c < 256 → letB c = true → letL.getD (letNum c) 0 ≠ 0 := by decide +kernel
theorem charZ_zero : ∀ c : Nat, c < 256 → okB c = true → letB c = false → (charZ c = 0 ↔ c = 32) := by decide +kernel
/-- the spaces before k -/
def nsC (l : List UInt8) : Nat → Nat
  | 0 => 0
  | k + 1 => nsC l k + if (l.getD k 0).toNat = 32 then 0 else 1
theorem nsC_le (l : List UInt8) : ∀ k, nsC l k ≤ k := by
  intro k
  induction k with
  | zero => exact Nat.le_refl _
  | succ k ih => rw [nsC]; split <;> omega
theorem nsC_flat {l : List UInt8} {k : Nat} : ∀ m, k ≤ m → (∀ i, k ≤ i → i < m → (l.getD i 0).toNat ≠ 32) → nsC l m = nsC l k + (m - k) := by
  intro m
  induction m with
  | zero => intro h _; rw [show k = 0 from by omega]; rfl
  | succ m ih =>
    intro h hh
    by_cases e : k = m + 1
    · rw [e]; omega
    · rw [nsC, if_neg (hh m (by omega) (by omega)), ih (by omega) (fun i h1 h2 => hh i h1 (by omega))]; omega
theorem body_nz {wh : Bool} : ∀ (p : List UInt8), (∀ b ∈ p, letB b.toNat = true) → (0 : Int) ∉ bodyC wh p := by
  intro p
  induction p with
  | nil => intro _; simp [bodyC]
  | cons b p ih =>
    intro h hz
    rw [bodyC_cons] at hz
    have hc := letC_zero b.toNat (by have := b.toNat_lt; omega) (h b (by simp))
    rcases List.mem_append.1 hz with hz | hz
    · unfold oneC at hz
      split at hz
      · simp at hz; exact hc hz.symm
      · simp at hz; exact hc hz.symm
    · exact ih (fun x hx => h x (List.mem_cons_of_mem _ hx)) hz
theorem run_nz {p : List UInt8} {d : Bool} (h : ∀ b ∈ p, letB b.toNat = true) : (0 : Int) ∉ runC p d := by
  rw [runC]
  intro hz
  rcases List.mem_append.1 hz with hz | hz
  · revert hz
    unfold headC
    cases wholeB p <;> simp <;> split <;> simp
  · exact body_nz p h hz
theorem oth_zero {b : UInt8} {d : Bool} (h : okB b.toNat = true) (hl : letB b.toNat = false) : (othC b d).count 0 = if b.toNat = 32 then 1 else 0 := by
  have hc := charZ_zero b.toNat (by have := b.toNat_lt; omega) h hl
  by_cases e : b.toNat = 32
  · rw [if_pos e, othC, e, sp_char]; rfl
  · rw [if_neg e]
    have h0 : charZ b.toNat ≠ 0 := fun h => e (hc.1 h)
    unfold othC
    split
    · simp [h0]
    · simp [h0]
theorem pf_zero {l : List UInt8} (h : ∀ b ∈ l, okB b.toNat = true) : ∀ n k, l.length < n + k → k ≤ l.length → (pf n l k).count 0 + (nsC l l.length - nsC l k) = l.length - k ∧ nsC l k ≤ nsC l l.length := by
  intro n
  induction n with
  | zero => intro k h1 h2; omega
  | succ n ih =>
    intro k h1 h2
    rw [pf]
    by_cases hk : k < l.length
    · rw [if_pos hk]
      by_cases hl : letB (l.getD k 0).toNat = true
      · have hgt := re_gt hk (by rw [← getD_at hk]; exact hl)
        have hle := re_le h2
        have h3 := ih (re l k) (by omega) hle
        rw [if_pos hl, List.count_append, List.count_eq_zero.2 (run_nz (sub_let (by omega)))]
        rw [nsC_flat (k := k) (re l k) (by omega) (fun i a b => by
          have := re_let (k := k) (i := i) (l := l) (by omega) a b
          intro e
          rw [getD_at (show i < l.length by omega)] at e
          rw [e] at this; cases this)] at h3
        omega
      · have h3 := ih (k + 1) (by omega) (by omega)
        rw [if_neg hl, List.count_append, oth_zero (h _ (by rw [getD_at hk]; exact List.getElem_mem _)) (by simpa using hl)]
        rw [nsC] at h3
        split at h3 <;> split <;> first | omega | contradiction
    · rw [if_neg hk, show k = l.length from by omega]; simp
theorem plain_zero {l : List UInt8} (hv : ValidT l) : (plainC l).count 0 + nsC l l.length = l.length := by
  have := pf_zero hv.2 (l.length + 1) 0 (by omega) (by omega)
  have h2 : (plainC l).count 0 + (nsC l l.length - 0) = l.length - 0 := this.1
  omega
theorem valid_take {l : List UInt8} (hv : ValidT l) (i : Nat) : ValidT (l.take i) :=
  ⟨by have := hv.1; rw [List.length_take]; omega, fun b hb => hv.2 b (List.mem_of_mem_take hb)⟩
theorem valid_drop {l : List UInt8} (hv : ValidT l) (i : Nat) : ValidT (l.drop i) :=
  ⟨by have := hv.1; rw [List.length_drop]; omega, fun b hb => hv.2 b (List.mem_of_mem_drop hb)⟩
end Go.Proofs.Ytabmeakjbhiklaa
