
/- The exact laws of BestPieces and WordCells: their walks. -/
import Derived.Test.YthojahknocageaaMI
import Derived.Test.YthojahknocageaaMG
namespace Go.Proofs.Ythojahknocageaa
open Go.RowKit

theorem lowR_ex (T : List PRule) (A : Nat → Int) (k : Nat) (L : List Int) : ∀ j, ∃ m, LowR T A k L j m := by
  intro j
  induction j with
  | zero => exact ⟨_, LowR.zero T A k L⟩
  | succ j ih =>
    obtain ⟨m, h⟩ := ih
    by_cases e : costR T k A (L.getD j 0) < m
    · exact ⟨_, h.less e⟩
    · exact ⟨_, h.more e⟩
theorem leastUp_ex {T : List PRule} (hv : ValidTb T) (s : ByteArray) : ∀ d i, s.size - i = d → i ≤ s.size → ∃ A, LeastUp T s A i := by
  intro d
  induction d with
  | zero => intro i hd hi; exact ⟨fun _ => 0, rfl, fun k h1 h2 => by omega⟩
  | succ d ih =>
    intro i hd hi
    obtain ⟨A, h0, h⟩ := ih (i + 1) (by omega) (by omega)
    obtain ⟨m, hm⟩ := lowR_ex T A i (rulesL T s i) (rulesL T s i).length
    have hm := hm.all
    have hi' : i < s.size := by omega
    refine ⟨fun x => if x = i then m else A x, ?_, fun k h1 h2 => ?_⟩
    · show (if s.size = i then m else A s.size) = 0
      rw [if_neg (by omega)]; exact h0
    · by_cases e : k = i
      · subst e
        show MinAt T s (fun x => if x = k then m else A x) k (if k = k then m else A k)
        rw [if_pos rfl]
        refine hm.congr hv hi' fun x x1 _ => ?_
        show A x = if x = k then m else A x
        rw [if_neg (by omega)]
      · show MinAt T s (fun x => if x = i then m else A x) k (if k = i then m else A k)
        rw [if_neg e]
        refine (h k (by omega) h2).congr hv h2 fun x x1 _ => ?_
        show A x = if x = i then m else A x
        rw [if_neg (by omega)]
theorem bestP_ex {T : List PRule} (hv : ValidTb T) (s : ByteArray) (A : Nat → Int) : ∀ d k, s.size - k = d → k ≤ s.size → ∃ R, BestP T s A k R := by
  intro d
  induction d using Nat.strongRecOn with
  | _ d ih =>
    intro k hd hk
    by_cases e : k = s.size
    · subst e; exact ⟨[], .done⟩
    · have hb := keepL_bst (T := T) (s := s) (A := A) (k := k)
      have h1 := hb.bd hv (by omega)
      obtain ⟨R, hR⟩ := ih _ (by omega) (pcB T k (lgTo T (keepL T k A (rulesL T s k)) (keepL T k A (rulesL T s k)).length)).t.toNat rfl (by omega)
      exact ⟨_, .step (by omega) hb hR⟩
theorem bestPs_ex {T : List PRule} (hv : ValidTb T) (s : ByteArray) : ∃ P, BestPs T s P := by
  obtain ⟨A, hA⟩ := leastUp_ex hv s _ 0 rfl (Nat.zero_le _)
  obtain ⟨R, hR⟩ := bestP_ex hv s A _ 0 rfl (Nat.zero_le _)
  exact ⟨R, A, hA, hR⟩
theorem bpRes_ex (T : List PRule) (s : ByteArray) : ∃ b P, (b = true ↔ OkW T s) ∧ BpRes T s b P := by
  by_cases h : OkW T s
  · obtain ⟨P, hP⟩ := bestPs_ex h.1 s
    exact ⟨true, P, ⟨fun _ => h, fun _ => rfl⟩, hP⟩
  · exact ⟨false, [], bool_iff_false h, rfl⟩
theorem wcRes_ex (T : List PRule) (s : ByteArray) : ∃ b C, (b = true ↔ OkW T s) ∧ WcRes T s b C := by
  by_cases h : OkW T s
  · obtain ⟨P, hP⟩ := bestPs_ex h.1 s
    exact ⟨true, pcsL T s P, ⟨fun _ => h, fun _ => rfl⟩, P, hP, rfl⟩
  · exact ⟨false, [], bool_iff_false h, rfl⟩
theorem BpRes.len16 {T : List PRule} {s : ByteArray} {b : Bool} {P : List PPiece} (h : BpRes T s b P) (hb : b = true ↔ OkW T s) : P.length ≤ 16 := by
  unfold BpRes at h
  cases b
  · simp at h; rw [h]; simp
  · simp at h; have hk := hb.1 rfl; exact (h.facts hk.1 hk.2).len
theorem WcRes.len16 {T : List PRule} {s : ByteArray} {b : Bool} {C : List Int} (h : WcRes T s b C) (hb : b = true ↔ OkW T s) : C.length ≤ 16 := by
  unfold WcRes at h
  cases b
  · simp at h; rw [h]; simp
  · simp at h
    have hk := hb.1 rfl
    obtain ⟨P, hP, rfl⟩ := h
    have h1 := (hP.facts hk.1 hk.2).few
    have h2 : s.size ≤ 16 := by have := hk.2.2.1; rw [wd_size] at this; exact this
    rw [pcsL_len]; omega
end Go.Proofs.Ythojahknocageaa
