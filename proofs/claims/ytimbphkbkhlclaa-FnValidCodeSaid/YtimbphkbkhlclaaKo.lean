
/- A row of lists without one of them. -/
import Derived.Test.YtimbphkbkhlclaaKa
import Derived.Test.YtimbphkbkhlclaaCd
import Derived.Deep.RegionLaw
import Derived.Deep.RegionHeld3
import Derived.Deep.Onto
namespace Go.Proofs.Ytimbphkbkhlclaa
open Go.RowKit

theorem step_ofK {P : Program} {o : Oper} {a : Act} {w : World} {y : Nat → Option Bool} {K : Act → World → Prop} {Q : Exit → Act → World → Prop} {E : Prop} (hgd : o.guard = none) (h : Oper.wp P o a w K Q) : if Region.wanted o y = true then Oper.wp P o a w K Q else E := by
  have hw : Region.wanted o y = true := by simp [Region.wanted, hgd]
  rw [if_pos hw]; exact h
theorem validO_iff (L : List (List Int)) : ValidCd L ↔ L.length ≤ 8 ∧ (∀ x ∈ L, CodeW x) ∧ L.Nodup := by
  constructor
  · rintro ⟨h1, h2, h3⟩
    refine ⟨h1, fun x hx => ?_, List.pairwise_iff_getElem.2 fun i j hi hj hij => ?_⟩
    · obtain ⟨i, hi, rfl⟩ := List.getElem_of_mem hx
      have := h2 i hi
      rw [List.getD_eq_getElem?_getD, List.getElem?_eq_getElem hi, Option.getD_some] at this
      exact this
    · have := h3 j i hj hij
      rw [List.getD_eq_getElem?_getD, List.getD_eq_getElem?_getD, List.getElem?_eq_getElem hi, List.getElem?_eq_getElem hj, Option.getD_some, Option.getD_some] at this
      exact this
  · rintro ⟨h1, h2, h3⟩
    refine ⟨h1, fun i hi => ?_, fun i j hi hj => ?_⟩
    · rw [List.getD_eq_getElem?_getD, List.getElem?_eq_getElem hi, Option.getD_some]
      exact h2 _ (List.getElem_mem _)
    · rw [List.getD_eq_getElem?_getD, List.getD_eq_getElem?_getD, List.getElem?_eq_getElem hi, List.getElem?_eq_getElem (by omega : j < L.length), Option.getD_some, Option.getD_some]
      exact List.pairwise_iff_getElem.1 h3 j i (by omega) hi hj
def lessL (P : List (List Int)) (i : Nat) : List (List Int) := P.take i ++ P.drop (i + 1)
theorem lessL_mem {P : List (List Int)} {i : Nat} {x : List Int} (h : x ∈ lessL P i) : x ∈ P := by
  rcases List.mem_append.1 h with h | h
  · exact List.mem_of_mem_take h
  · exact List.mem_of_mem_drop h
theorem lessL_valid {P : List (List Int)} (hv : ValidCd P) (i : Nat) : ValidCd (lessL P i) := by
  obtain ⟨h1, h2, h3⟩ := (validO_iff P).1 hv
  have hs : (lessL P i).Sublist P := by
    have h4 : (P.drop (i + 1)).Sublist (P.drop i) := by rw [← List.drop_drop]; exact List.drop_sublist _ _
    have h5 := (List.Sublist.refl (P.take i)).append h4
    rw [List.take_append_drop] at h5
    exact h5
  exact (validO_iff _).2 ⟨Nat.le_trans hs.length_le h1, fun x hx => h2 x (lessL_mem hx), h3.sublist hs⟩
/-- the cells of a row -/
theorem OwnLs.parts {w : World} {S g n cap : Nat} {P : List (List Int)} (h : OwnLs w S 0 (.slice (some ⟨g, 0, none⟩) n cap) P) :
    ∃ us : List Value, us.length = n ∧ P.length = n ∧ n ≤ cap ∧ cap ≤ maxLen ∧ (∀ j u, us[j]? = some u → w.cell? ⟨g, j, none⟩ = some u) ∧ (∀ u ∈ us, u.oneCell' = true) ∧ ∀ i, i < n → ∃ u, us[i]? = some u ∧ ElOk w 0 u (P.getD i []) := by
  obtain ⟨_, us, h1, h2, h3⟩ := h
  rcases h1.2 with ⟨hv, _⟩ | ⟨g', cap', cur, hv, _, _, h4, h5, _⟩
  · injection hv with hv _ _; exact absurd hv (by simp)
  · have hc := h1.cells (g := g) (by simp [Value.ownBlock])
    injection hv with e1 e2 e3
    injection e1 with e1
    injection e1 with e1 _ _
    subst e1 e3
    refine ⟨us, by omega, e2.symm, by omega, h5, fun j u hj => ?_, fun u hu => ?_, fun i hi => h3 i (by omega)⟩
    · have := hc j u hj
      rw [Addr.add_lit, Nat.zero_add] at this
      exact this
    · obtain ⟨i, hi, rfl⟩ := List.getElem_of_mem hu
      obtain ⟨u, h6, h7⟩ := h3 i (by omega)
      rw [List.getElem?_eq_getElem hi] at h6
      injection h6 with h6
      rw [h6]
      obtain ⟨_, _, h8, _⟩ := h7.1
      rw [h8]; rfl
theorem less_own {w w3 : World} {us : List Value} {P : List (List Int)} {n i : Nat} {v : Value} (hi : i < n) (hu : us.length = n) (hP : P.length = n) (he : ∀ i, i < n → ∃ u, us[i]? = some u ∧ ElOk w 0 u (P.getD i [])) (hb : Below w.heap.size w w3) (h : w3.ownsRow w.heap.size 30 1 v (0 + i + (n - 1 - i)) ([] ++ us.take i ++ us.drop (i + 1))) : OwnLs w3 w.heap.size 0 v (lessL P i) := by
  have hl : (lessL P i).length = n - 1 := by
    unfold lessL
    rw [List.length_append, List.length_take, List.length_drop, hP]; omega
  refine ⟨Nat.zero_le _, us.take i ++ us.drop (i + 1), ?_, ?_, fun j hj => ?_⟩
  · rw [hl, show n - 1 = 0 + i + (n - 1 - i) from by omega]
    exact h
  · rw [List.length_append, List.length_take, List.length_drop, hl]; omega
  · rw [hl] at hj
    by_cases hji : j < i
    · obtain ⟨u, h1, h2⟩ := he j (by omega)
      refine ⟨u, ?_, ?_⟩
      · rw [List.getElem?_append_left (by rw [List.length_take]; omega), List.getElem?_take, if_pos hji]; exact h1
      · have e : (lessL P i).getD j [] = P.getD j [] := by
          unfold lessL
          rw [List.getD_eq_getElem?_getD, List.getElem?_append_left (by rw [List.length_take]; omega), List.getElem?_take, if_pos hji, ← List.getD_eq_getElem?_getD]
        rw [e]; exact h2.below hb
    · obtain ⟨u, h1, h2⟩ := he (j + 1) (by omega)
      have e0 : (us.take i).length = i := by rw [List.length_take]; omega
      have e1 : (P.take i).length = i := by rw [List.length_take]; omega
      refine ⟨u, ?_, ?_⟩
      · rw [List.getElem?_append_right (by omega), e0, List.getElem?_drop, show i + 1 + (j - i) = j + 1 from by omega]; exact h1
      · have e : (lessL P i).getD j [] = P.getD (j + 1) [] := by
          unfold lessL
          rw [List.getD_eq_getElem?_getD, List.getElem?_append_right (by omega), e1, List.getElem?_drop, show i + 1 + (j - i) = j + 1 from by omega, ← List.getD_eq_getElem?_getD]
        rw [e]; exact h2.below hb
end Go.Proofs.Ytimbphkbkhlclaa
