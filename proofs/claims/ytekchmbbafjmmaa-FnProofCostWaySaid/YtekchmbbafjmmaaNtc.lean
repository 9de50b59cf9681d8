
/- Whether notes are valid, and their length: both sides. -/
import Derived.Test.YtekchmbbafjmmaaNtb
import Derived.Test.YtekchmbbafjmmaaRange
namespace Go.Proofs.Ytekchmbbafjmmaa
open Go.RowKit

/-- the truth value b says whether P holds -/
def BIs (b : Bool) (P : Prop) : Prop := b = true ↔ P
theorem bisY {P : Prop} (h : P) : BIs true P := ⟨fun _ => h, fun _ => rfl⟩
theorem bisN {P : Prop} (h : ¬ P) : BIs false P := ⟨fun k => by simp at k, fun k => absurd k h⟩
theorem inBN {b : Bool} {P : Prop} (h : b = true ↔ P) (n : ¬ P) : b = false := by
  cases b with
  | false => rfl
  | true => exact absurd (h.1 rfl) n
theorem boolOfN (P : Prop) : ∃ b : Bool, BIs b P := by
  by_cases h : P
  · exact ⟨true, bisY h⟩
  · exact ⟨false, bisN h⟩
theorem inRangeN (w : World) (n lo hi : Int) (b : Bool) (hb : Hid (BIs b (lo ≤ n ∧ n ≤ hi))) :
    Calls Try.prog 68 #[.int .i64 n, .int .i64 lo, .int .i64 hi] w fun e w' => e = .returned (.bool b) ∧ w = w' := by
  cases b with
  | true => have h := hb.out.1 rfl; exact inRange_yes n lo hi w h.1 h.2
  | false => exact inRange_no n lo hi w (by
      have h : ¬ (lo ≤ n ∧ n ≤ hi) := fun k => by have := hb.out.2 k; simp at this
      omega)
def NtOk (x : PNote) : Prop := -1 ≤ x.p ∧ x.p ≤ 48 ∧ 0 ≤ x.v ∧ x.v ≤ 3
instance (x : PNote) : Decidable (NtOk x) := inferInstanceAs (Decidable (_ ∧ _))
def UpN (P : List PNote) (k : Nat) : Prop := ∀ i, i < k → NtOk (P.getD i noN)
theorem UpN.zero (P : List PNote) : UpN P 0 := fun i h => absurd h (by omega)
theorem UpN.succ {P : List PNote} {k : Nat} (h : UpN P k) (e : NtOk (P.getD k noN)) : UpN P (k + 1) := fun i hi => by
  by_cases hik : i = k
  · subst hik; exact e
  · exact h i (by omega)
def NtsOk (P : List PNote) : Prop := P.length ≤ 40 ∧ UpN P P.length
/-- the length of a value -/
def lenV (v : Int) : Int := if v = 0 then 8 else if v = 1 then 4 else if v = 2 then 2 else 1
def lenTo (P : List PNote) : Nat → Int
  | 0 => 0
  | k + 1 => lenTo P k + lenV (P.getD k noN).v
theorem lenV_bd (v : Int) : 1 ≤ lenV v ∧ lenV v ≤ 8 := by
  unfold lenV
  split
  · omega
  · split
    · omega
    · split <;> omega
theorem lenTo_bd (P : List PNote) (k : Nat) : (k : Int) ≤ lenTo P k ∧ lenTo P k ≤ 8 * (k : Int) := by
  induction k with
  | zero => simp [lenTo]
  | succ k ih => have := lenV_bd (P.getD k noN).v; simp only [lenTo]; omega
/-- what LengthOf answers -/
noncomputable def lnOf (P : List PNote) : Int := @ite _ (NtsOk P) (Classical.propDecidable _) (lenTo P P.length) (-1)
theorem lnOf_yes {P : List PNote} (h : NtsOk P) : lnOf P = lenTo P P.length := if_pos h
theorem lnOf_no {P : List PNote} (h : ¬ NtsOk P) : lnOf P = -1 := if_neg h
end Go.Proofs.Ytekchmbbafjmmaa
