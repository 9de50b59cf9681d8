
/- Invert of both sides. -/
import Derived.Test.YthpbpdnlnmldeaaId
namespace Go.Proofs.Ythpbpdnlnmldeaa
open Go.RowKit

/-- an answer where P holds, and none where it does not -/
def AnsIs (P : Prop) (A R : List (List Int)) : Prop := (P ∧ R = A) ∨ (¬ P ∧ R = [])
theorem ansIs_ex (P : Prop) (A : List (List Int)) (h : P → ListsSmall A) : ∃ R, AnsIs P A R ∧ ListsSmall R := by
  by_cases k : P
  · exact ⟨A, .inl ⟨k, rfl⟩, h k⟩
  · exact ⟨[], .inr ⟨k, rfl⟩, by simp, fun i hi => absurd hi (by simp)⟩
theorem AnsIs.no {P : Prop} {A R : List (List Int)} (h : AnsIs P A R) (k : ¬ P) : R = [] := by
  rcases h with ⟨h1, _⟩ | ⟨_, h1⟩
  · exact absurd h1 k
  · exact h1
theorem AnsIs.yes {P : Prop} {A R : List (List Int)} (h : AnsIs P A R) (k : P) : R = A := by
  rcases h with ⟨_, h1⟩ | ⟨h1, _⟩
  · exact h1
  · exact absurd k h1
theorem plOut_nil {R : List (List Int)} {w w' : World} (h : R = []) (hb : Below w.heap.size w w') : PlOut R w (.returned (.slice none 0 0)) w' :=
  ⟨_, _, _, rfl, by rw [h]; exact (OwnLL.nil w' w'.heap.size).lowerI hb.size, hb⟩
/-- the width of a picture -/
def wdt (L : List (List Int)) : Nat := (L.getD 0 []).length
theorem BlockOk.bd {L : List (List Int)} {H W : Nat} {M : Int} (h : BlockOk L H W M) : 1 ≤ L.length ∧ L.length ≤ H ∧ 1 ≤ wdt L ∧ wdt L ≤ W := ⟨h.1.1, h.1.2, h.2.1.1, h.2.1.2⟩
theorem BlockOk.bin {L : List (List Int)} {H W : Nat} (h : BlockOk L H W 1) (y x : Nat) : px L y x = 0 ∨ px L y x = 1 := by
  by_cases hy : y < L.length
  · by_cases hx : x < wdt L
    · have := (h.2.2 y hy).2 x hx; omega
    · exact .inl (px_out h.2.2 (.inr (by unfold wdt at hx; omega)))
  · exact .inl (px_out h.2.2 (.inl (by omega)))
theorem BlockOk.pic {w : World} {a : Option Addr} {n c H W : Nat} {M : Int} {L : List (List Int)} (h : BlockOk L H W M) (hx : ListsAt w (.slice a n c) L) : n = L.length ∧ PicAt w a n c (wdt L) (px L) :=
  hx.pic h.2.2 h.1.1 h.2.1.1
def InvertIs (L R : List (List Int)) : Prop := AnsIs (BlockOk L 24 24 1) (gridOf L.length (wdt L) fun y x => 1 - px L y x) R
theorem Invert_ex (L : List (List Int)) : ∃ R, InvertIs L R ∧ ListsSmall R :=
  ansIs_ex _ _ fun h => grid_small (by have := h.bd; omega) (by have := h.bd; omega)
end Go.Proofs.Ythpbpdnlnmldeaa
