
/- The cells of notes: what they are; the small functions of both sides. -/
import Derived.Test.YtekchmbbafjmmaaNtc
namespace Go.Proofs.Ytekchmbbafjmmaa
open Go.RowKit

def stepL : List Int := [25, 17, 11, 27, 19, 10, 26]
def valL : List Int := [36, 4, 32, 0]
def restL : List Int := [13, 37, 39, 45]
def octL : List Int := [8, 24, 56, 16, 40, 48, 32]
/-- the cell of a note or a rest -/
def noteC (x : PNote) : Int := if x.p = -1 then restL.getD x.v.toNat 0 else stepL.getD (x.p % 7).toNat 0 + valL.getD x.v.toNat 0
/-- whether a note wants the mark of its octave behind another one -/
def NeedM (last p : Int) : Prop := last < 0 ∨ 4 < p - last ∨ 4 < last - p ∨ ((2 < p - last ∨ 2 < last - p) ∧ p / 7 ≠ last / 7)
instance (l p : Int) : Decidable (NeedM l p) := inferInstanceAs (Decidable (_ ∨ _))
def markC (last p : Int) : List Int := if NeedM last p then [octL.getD (p / 7).toNat 0] else []
/-- the pitch of the last note of the first k, -1 if there is none -/
def lastP (P : List PNote) : Nat → Int
  | 0 => -1
  | k + 1 => if (P.getD k noN).p = -1 then lastP P k else (P.getD k noN).p
def musC (last : Int) (x : PNote) : List Int := if x.p = -1 then [noteC x] else markC last x.p ++ [noteC x]
def musTo (P : List PNote) : Nat → List Int
  | 0 => []
  | k + 1 => musTo P k ++ musC (lastP P k) (P.getD k noN)
theorem lastP_bd {P : List PNote} : ∀ k, (∀ i, i < k → NtOk (P.getD i noN)) → -1 ≤ lastP P k ∧ lastP P k ≤ 48 := by
  intro k
  induction k with
  | zero => intro _; simp [lastP]
  | succ k ih =>
    intro h
    have h1 := h k (by omega)
    simp only [lastP]
    split
    · exact ih fun i hi => h i (by omega)
    · exact ⟨h1.1, h1.2.1⟩
theorem markC_len (l p : Int) : (markC l p).length ≤ 1 := by unfold markC; split <;> simp
theorem musC_len (l : Int) (x : PNote) : 1 ≤ (musC l x).length ∧ (musC l x).length ≤ 2 := by
  unfold musC
  split
  · simp
  · have := markC_len l x.p; simp; omega
theorem musTo_len (P : List PNote) (k : Nat) : k ≤ (musTo P k).length ∧ (musTo P k).length ≤ 2 * k := by
  induction k with
  | zero => simp [musTo]
  | succ k ih => have := musC_len (lastP P k) (P.getD k noN); simp only [musTo, List.length_append]; omega
theorem lit_at (w : World) (zs : List Int) (r : Nat) (hr : r < zs.length) : (w.alloc (.cells (zs.map (Value.int .i64)).toArray 3)).cell? ⟨w.heap.size, r, none⟩ = some (.int .i64 (zs.getD r 0)) := by
  rw [cell_of_row _ _ _ _ _ _ (heap_alloc_new w _)]
  simp [List.getD_eq_getElem?_getD, hr]
end Go.Proofs.Ytekchmbbafjmmaa
