
/- Transpose: what it answers; both sides. -/
import Derived.Test.YtekchmbbafjmmaaNtf
namespace Go.Proofs.Ytekchmbbafjmmaa
open Go.RowKit

/-- a note that is higher by so much; a rest stays -/
def trN (by' : Int) (x : PNote) : PNote := if x.p = -1 then x else ⟨x.p + by', x.v⟩
def TrOne (by' : Int) (x : PNote) : Prop := x.p = -1 ∨ (0 ≤ x.p + by' ∧ x.p + by' ≤ 48)
def TrUp (P : List PNote) (by' : Int) (k : Nat) : Prop := ∀ i, i < k → TrOne by' (P.getD i noN)
theorem TrUp.zero (P : List PNote) (b : Int) : TrUp P b 0 := fun i h => absurd h (by omega)
theorem TrUp.succ {P : List PNote} {b : Int} {k : Nat} (h : TrUp P b k) (e : TrOne b (P.getD k noN)) : TrUp P b (k + 1) := fun i hi => by
  by_cases hik : i = k
  · subst hik; exact e
  · exact h i (by omega)
def trL (P : List PNote) (b : Int) (k : Nat) : List PNote := (P.take k).map (trN b)
theorem trL_succ {P : List PNote} {b : Int} {k : Nat} (h : k < P.length) : trL P b (k + 1) = trL P b k ++ [trN b (P.getD k noN)] := by
  unfold trL
  rw [List.take_add_one, List.getElem?_eq_getElem h, List.getD_eq_getElem?_getD, List.getElem?_eq_getElem h, List.map_append]
  rfl
theorem trL_len (P : List PNote) (b : Int) (k : Nat) : (trL P b k).length ≤ k := by unfold trL; simp; omega
def TrCan (P : List PNote) (b : Int) : Prop := NtsOk P ∧ (-48 ≤ b ∧ b ≤ 48) ∧ TrUp P b P.length
def TransIs (P : List PNote) (b : Int) (L : List PNote) (ok : Bool) : Prop :=
  (ok = true ∧ TrCan P b ∧ L = trL P b P.length) ∨ (ok = false ∧ L = [] ∧ ¬ TrCan P b)
theorem transIs_ex (P : List PNote) (b : Int) : ∃ L ok, TransIs P b L ok := by
  by_cases h : TrCan P b
  · exact ⟨_, true, .inl ⟨rfl, h, rfl⟩⟩
  · exact ⟨[], false, .inr ⟨rfl, rfl, h⟩⟩
theorem TransIs.no {P : List PNote} {b : Int} {L : List PNote} {ok : Bool} (h : TransIs P b L ok) (n : ¬ TrCan P b) : ok = false ∧ L = [] := by
  rcases h with ⟨_, c, _⟩ | ⟨a, c, _⟩
  · exact absurd c n
  · exact ⟨a, c⟩
theorem TransIs.yes {P : List PNote} {b : Int} {L : List PNote} {ok : Bool} (h : TransIs P b L ok) (n : TrCan P b) : ok = true ∧ L = trL P b P.length := by
  rcases h with ⟨a, _, c⟩ | ⟨_, _, c⟩
  · exact ⟨a, c⟩
  · exact absurd n c
theorem TransIs.len {P : List PNote} {b : Int} {L : List PNote} {ok : Bool} (h : TransIs P b L ok) : L.length ≤ 40 := by
  rcases h with ⟨_, c, rfl⟩ | ⟨_, rfl, _⟩
  · have := trL_len P b P.length; have := c.1.1; omega
  · simp
end Go.Proofs.Ytekchmbbafjmmaa
