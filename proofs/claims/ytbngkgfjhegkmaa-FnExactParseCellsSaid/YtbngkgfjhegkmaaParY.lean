
/- ParseCells: its answer, where there is one and where there is none. -/
import Derived.Test.YtbngkgfjhegkmaaParT
namespace Go.Proofs.Ytbngkgfjhegkmaa
open Go.RowKit

def ParseYes (zs : List Int) (w : World) (e : Ending) (w' : World) : Prop :=
  ∃ a n c, e = .returned (.tuple #[.slice a n c, .bool true]) ∧ OwnInts w' w.heap.size (.slice a n c) zs ∧ Below w.heap.size w w'
def ParseNo (w : World) (e : Ending) (w' : World) : Prop :=
  e = .returned (.tuple #[.slice none 0 0, .bool false]) ∧ Below w.heap.size w w'
theorem parse_yes {l : List UInt8} {zs : List Int} {w w' : World} {e : Ending} (hp : parseL l = some zs) (h : ParseOut l w e w') : ParseYes zs w e w' := by
  obtain ⟨v, ok, h1, h2, ⟨a, n, c, rfl⟩, h3⟩ := h
  rcases h3 with ⟨zs', h4, rfl, h5, _⟩ | ⟨h4, _⟩
  · rw [hp] at h4
    injection h4 with h4
    subst h4
    exact ⟨a, n, c, h1, h5, h2⟩
  · rw [hp] at h4; cases h4
theorem parse_no {l : List UInt8} {w w' : World} {e : Ending} (hp : parseL l = none) (h : ParseOut l w e w') : ParseNo w e w' := by
  obtain ⟨v, ok, h1, h2, _, h3⟩ := h
  rcases h3 with ⟨zs', h4, _⟩ | ⟨_, rfl, rfl⟩
  · rw [hp] at h4; cases h4
  · exact ⟨h1, h2⟩
theorem parseL_len : ∀ (q : List (List UInt8)) (zs : List Int), readParts q = some zs → zs.length = q.length := by
  intro q
  induction q with
  | nil => intro zs h; simp [readParts] at h; subst h; rfl
  | cons p q ih =>
    intro zs h
    rw [readParts] at h
    split at h
    · cases h
    · cases hq : readParts q with
      | none => rw [hq] at h; cases h
      | some r =>
        rw [hq] at h
        simp at h
        subst h
        simp [ih r hq]
theorem parseL_le {l : List UInt8} {zs : List Int} (h : parseL l = some zs) : zs.length ≤ 200 := by
  rw [parseL] at h
  split at h
  · injection h with h; subst h; simp
  · split at h
    · rename_i h2
      rw [parseL_len _ _ h]; exact h2
    · cases h

end Go.Proofs.Ytbngkgfjhegkmaa
