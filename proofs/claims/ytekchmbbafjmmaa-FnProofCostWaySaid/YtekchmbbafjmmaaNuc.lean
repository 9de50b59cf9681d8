
/- MusicCells of the program. -/
import Derived.Test.YtekchmbbafjmmaaNub
namespace Go.Proofs.Ytekchmbbafjmmaa
open Go.RowKit

theorem OwnInts.isSliceU {w : World} {base : Nat} {v : Value} {zs : List Int} (h : OwnInts w base v zs) : ∃ a n c, v = .slice a n c := by
  obtain ⟨a, c, h, _⟩ := h.at
  exact ⟨a, _, c, h⟩
theorem noteC_bd {x : PNote} (h : NtOk x) : 0 ≤ noteC x ∧ noteC x ≤ 63 := by
  obtain ⟨p, v⟩ := x
  obtain ⟨h1, h2, h3, h4⟩ := h
  simp only at h1 h2 h3 h4
  have hk : p % 7 = 0 ∨ p % 7 = 1 ∨ p % 7 = 2 ∨ p % 7 = 3 ∨ p % 7 = 4 ∨ p % 7 = 5 ∨ p % 7 = 6 := by omega
  have hv : v = 0 ∨ v = 1 ∨ v = 2 ∨ v = 3 := by omega
  unfold noteC
  simp only
  split
  · rcases hv with rfl | rfl | rfl | rfl <;> decide
  · rcases hk with hk | hk | hk | hk | hk | hk | hk <;> rw [hk] <;> rcases hv with rfl | rfl | rfl | rfl <;> decide
/-- a call's answer: the cells, which it owns -/
def MusOut (L : List Int) (w : World) (e : Ending) (w' : World) : Prop :=
  ∃ a n c, e = .returned (.slice a n c) ∧ OwnInts w' w.heap.size (.slice a n c) L ∧ Below w.heap.size w w'
/-- what MusicCells answers -/
def MusIs (P : List PNote) (L : List Int) : Prop := (NtsOk P ∧ L = musTo P P.length) ∨ (¬ NtsOk P ∧ L = [])
theorem musIs_ex (P : List PNote) : ∃ L, MusIs P L := by
  by_cases h : NtsOk P
  · exact ⟨_, .inl ⟨h, rfl⟩⟩
  · exact ⟨_, .inr ⟨h, rfl⟩⟩
theorem MusIs.len {P : List PNote} {L : List Int} (h : MusIs P L) : L.length ≤ 80 := by
  rcases h with ⟨h, rfl⟩ | ⟨_, rfl⟩
  · have := (musTo_len P P.length).2; have := h.1; omega
  · simp
end Go.Proofs.Ytekchmbbafjmmaa
