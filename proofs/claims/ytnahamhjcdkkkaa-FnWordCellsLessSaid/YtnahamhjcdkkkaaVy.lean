
/- FnValidTable: its draw, its walk. -/
import Derived.Test.YtnahamhjcdkkkaaMJ
import Derived.Test.YtnahamhjcdkkkaaMA
namespace Go.Proofs.Ytnahamhjcdkkkaa
open Go.RowKit

/-- a drawn table, as a law sees it -/
def TabMade (w : World) (e : Ending) (w' : World) : Prop :=
  ∃ S g n cap Q, e = .returned (.slice (some ⟨g, 0, none⟩) n cap) ∧ TabOwn w' S (.slice (some ⟨g, 0, none⟩) n cap) Q ∧ Hid (Q.length = n) ∧ TableFits (tabOf Q) ∧ n ≤ 9 ∧ S ≤ w'.heap.size ∧ Below w.heap.size w w'
theorem wout_getD (T : List PRule) (i j : Nat) : (T.take i ++ T.drop (i + 1)).getD j noR = T.getD (if j < i then j else j + 1) noR := by
  rw [← List.eraseIdx_eq_take_drop_succ, List.getD_eq_getElem?_getD, List.getElem?_eraseIdx, List.getD_eq_getElem?_getD]
  split <;> rfl
theorem tabOf_wout (Q : List (PRule × Value)) (i : Nat) : tabOf (wout Q i) = (tabOf Q).take i ++ (tabOf Q).drop (i + 1) := by
  simp [tabOf, wout, List.map_take, List.map_drop]
theorem wout_len (T : List PRule) (i : Nat) (hi : i < T.length) : (T.take i ++ T.drop (i + 1)).length = T.length - 1 := by
  rw [← List.eraseIdx_eq_take_drop_succ, List.length_eraseIdx_of_lt hi]
theorem validTb_wout {Q : List (PRule × Value)} {i : Nat} (hi : i < Q.length) (h : ValidTb (tabOf Q)) : ValidTb (tabOf (wout Q i)) := by
  have hl : i < (tabOf Q).length := by rw [tabOf_len]; exact hi
  rw [tabOf_wout]
  generalize tabOf Q = T at h hl ⊢
  obtain ⟨h1, h2, h3⟩ := h
  have hlen := wout_len T i hl
  refine ⟨by omega, fun j hj => ?_, fun j k hj hk => ?_⟩
  · rw [wout_getD]
    exact h2 _ (by split <;> omega)
  · rw [wout_getD, wout_getD]
    exact h3 _ _ (by split <;> omega) (by split <;> split <;> omega)
theorem fits_wout {Q : List (PRule × Value)} {i : Nat} (h : TableFits (tabOf Q)) : TableFits (tabOf (wout Q i)) := by
  intro x hx
  obtain ⟨q, hq, rfl⟩ := List.mem_map.1 hx
  exact h _ (List.mem_map.2 ⟨q, wout_mem hq, rfl⟩)
theorem tableAt_nil (w : World) : TableAt w (.slice none 0 0) [] := ⟨none, 0, rfl, Nat.le_refl _, by omega, .inl rfl⟩
theorem fits_nil : TableFits [] := fun x hx => by simp at hx

end Go.Proofs.Ytnahamhjcdkkkaa
