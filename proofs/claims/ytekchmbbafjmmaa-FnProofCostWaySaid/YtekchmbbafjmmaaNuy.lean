
/- spoilCells: what its cases lead to. -/
import Derived.Test.YtekchmbbafjmmaaNuv
namespace Go.Proofs.Ytekchmbbafjmmaa
open Go.RowKit

theorem step_ofU {P : Program} {o : Oper} {a : Act} {w : World} {y : Nat → Option Bool} {K : Act → World → Prop} {Q : Exit → Act → World → Prop} {E : Prop} (hgd : o.guard = none) (h : Oper.wp P o a w K Q) : if Region.wanted o y = true then Oper.wp P o a w K Q else E := by
  have hw : Region.wanted o y = true := by simp [Region.wanted, hgd]
  rw [if_pos hw]; exact h
def SpoilDrawn (most : Nat) (w : World) (B R L p : Nat) (e : Ending) (w' : World) : Prop :=
  ∃ g n c zs q, e = .returned (.slice (some ⟨g, 0, none⟩) n c) ∧ OwnInts w' w.heap.size (.slice (some ⟨g, 0, none⟩) n c) zs ∧ zs.length ≤ most ∧ RD w' B R L q ∧ q ≤ p + 4 ∧ w.grownBy w' (some R)
theorem own_cap {w : World} {S g n c : Nat} {zs : List Int} (h : OwnInts w S (.slice (some ⟨g, 0, none⟩) n c) zs) : zs.length = n ∧ n ≤ c ∧ c ≤ 9223372036854775807 ∧ S ≤ g ∧ g < w.heap.size := by
  rcases h with ⟨h0, ⟨hv, hn⟩ | ⟨g', cap, cur, hv, hb, hg, h1, h2, h3, h4⟩⟩
  · injection hv with e _ _; exact absurd e (by simp)
  · injection hv with e1 e2 e3
    injection e1 with e1
    injection e1 with e1
    subst e1 e2 e3
    unfold maxLen at h2
    exact ⟨rfl, h1, h2, hb, (Array.getElem?_eq_some_iff.1 hg).1⟩
theorem grownBU {a b : World} (h : Below a.heap.size a b) : a.grownBy b none := ⟨h.os, h.tape, h.output, h.size, fun k hk _ => h.block k hk⟩
theorem spoil_end {w w' : World} {B R L p q most : Nat} {v : Value} {zs : List Int} (ho : OwnInts w' w.heap.size v zs) (hnn : v ≠ .slice none 0 0) (hl : zs.length ≤ most) (hrd : RD w' B R L q) (hq : q ≤ p + 4) (hg : w.grownBy w' (some R)) : SpoilDrawn most w B R L p (.returned v) w' := by
  rcases ho.2 with ⟨e, _⟩ | ⟨g, c, cur, e, _⟩
  · exact absurd e hnn
  · subst e
    exact ⟨g, zs.length, c, zs, q, rfl, ho, hl, hrd, hq, hg⟩
theorem spoil_cut {w w4 w3 : World} {B R L p m g k n c : Nat} {v3 : Value} {zs : List Int} (hR : R < w.heap.size) (hg1 : w.heap.size ≤ g) (hkn : k < n) (hn : zs.length = n) (hs : n ≤ m) (hrd : RD w4 B R L (p + 3)) (hg : w.grownBy w4 (some R))
    (hown3 : w3.ownsRow w.heap.size 3 1 v3 (k + (n - (k + 1))) (ints (zs.take k) ++ ints (zs.drop (k + 1)))) (hgrow3 : w4.drew.grownBy w3 (Value.slice (some ⟨g, 0, none⟩) k c).ownBlock)
    (hnil3 : v3 = .slice none 0 0 ↔ Value.slice (some ⟨g, 0, none⟩) k c = .slice none 0 0 ∧ n - (k + 1) = 0) : SpoilDrawn (m + 1) w B R L p (.returned v3) w3 := by
  have hl1 : (zs.take k).length = k := by rw [List.length_take, hn, Nat.min_eq_left (by omega)]
  have hd : w4.grownBy w4.drew none := grownBU (Below.refl _ _).drew
  have hO7 := OwnInts.addAllU hown3 (by rw [hl1, List.length_drop, hn])
  have hnn : v3 ≠ .slice none 0 0 := fun e => by have := (hnil3.1 e).1; simp at this
  have hq3 : ∀ q, (Value.slice (some ⟨g, 0, none⟩) k c).ownBlock = some q → w.heap.size ≤ q := fun q hq => by simp [Value.ownBlock] at hq; omega
  have hl7 : (zs.take k ++ zs.drop (k + 1)).length ≤ m + 1 := by rw [List.length_append, hl1, List.length_drop, hn]; omega
  exact spoil_end (p := p) hO7 hnn hl7 ((hrd.grown hd).over hgrow3 hq3 hR) (by omega) (grown_own (grown_trans hg (grown_none hd _)) hgrow3 hq3)
end Go.Proofs.Ytekchmbbafjmmaa
