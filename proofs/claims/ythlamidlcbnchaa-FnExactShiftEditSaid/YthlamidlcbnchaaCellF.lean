
/- Which lists of dots have a cell. -/
import Derived.Test.YthlamidlcbnchaaCell
namespace Go.Proofs.Ythlamidlcbnchaa
open Go.RowKit

/-- the ascending lists of the k last numbers up to 6 -/
def subs : Nat → List (List Int)
  | 0 => [[]]
  | k + 1 => subs k ++ (subs k).map (fun l => (6 - (k : Int)) :: l)
theorem nil_subs (k : Nat) : [] ∈ subs k := by
  induction k with
  | zero => simp [subs]
  | succ k ih => exact List.mem_append_left _ ih
theorem mem_subs : ∀ (k : Nat), k ≤ 6 → ∀ (zs : List Int) (out : Int), cellFrom zs out (6 - (k : Int)) ≠ -1 → zs ∈ subs k := by
  intro k
  induction k with
  | zero =>
    intro _ zs out h
    cases zs with
    | nil => simp [subs]
    | cons d r =>
      exfalso
      apply h
      rw [cellFrom, if_neg (by omega)]
  | succ k ih =>
    intro hk zs out h
    cases zs with
    | nil => exact nil_subs _
    | cons d r =>
      by_cases hd : (6 - ((k + 1 : Nat) : Int)) < d ∧ d ≤ 6
      · rw [cellFrom, if_pos hd] at h
        by_cases he : d = 6 - (k : Int)
        · subst he
          exact List.mem_append_right _ (List.mem_map.2 ⟨r, ih (by omega) r _ h, rfl⟩)
        · refine List.mem_append_left _ (ih (by omega) (d :: r) out ?_)
          rw [cellFrom, if_pos ⟨by omega, hd.2⟩]
          exact h
      · exfalso
        apply h
        rw [cellFrom, if_neg hd]
theorem subs_facts : ∀ l ∈ subs 6, dotsL (cellL l).toNat = l ∧ (0 ≤ cellL l ∧ cellL l ≤ 63) := by decide +kernel
theorem cellL_facts (zs : List Int) (h : 0 ≤ cellL zs) : dotsL (cellL zs).toNat = zs ∧ cellL zs ≤ 63 := by
  have hm : zs ∈ subs 6 := mem_subs 6 (by omega) zs 0 (by
    have : cellFrom zs 0 0 = cellL zs := rfl
    intro e
    rw [show (6 : Int) - ((6 : Nat) : Int) = 0 from rfl, this] at e
    omega)
  have := subs_facts zs hm
  exact ⟨this.1, this.2.2⟩
theorem cell_dots : ∀ c : Nat, c < 64 → cellL (dotsL c) = c := by decide +kernel
theorem cellFrom_neg : ∀ (zs : List Int) (out last : Int), 0 ≤ out → cellFrom zs out last = -1 ∨ 0 ≤ cellFrom zs out last := by
  intro zs
  induction zs with
  | nil => intro out last h; exact .inr h
  | cons d r ih =>
    intro out last h
    rw [cellFrom]
    split
    · apply ih
      have : 0 ≤ pwL.getD (d.toNat - 1) 0 := by
        by_cases hj : d.toNat - 1 < 6
        · exact (pwL_bd _ hj).1
        · rw [List.getD_eq_getElem?_getD, List.getElem?_eq_none (by simp [pwL]; omega)]; simp
      omega
    · exact .inl rfl
end Go.Proofs.Ythlamidlcbnchaa
