
/- ParseCells in the model: the whole. -/
import Derived.Test.YtabmeakjbhiklaaParS
namespace Go.Proofs.Ytabmeakjbhiklaa
open Go.RowKit

/-- what is left to read of the parts from k on -/
def RP (q : List (List UInt8)) (k : Nat) (zs : List Int) : Prop := readParts q = (readParts (q.drop k)).map (fun r => zs ++ r)
theorem RP.start (q : List (List UInt8)) : RP q 0 [] := by simp [RP]
theorem drop_getD {q : List (List UInt8)} {k : Nat} (h : k < q.length) : q.drop k = q.getD k [] :: q.drop (k + 1) := by
  rw [List.drop_eq_getElem_cons h, List.getD_eq_getElem?_getD, List.getElem?_eq_getElem h, Option.getD_some]
theorem RP.bad {q : List (List UInt8)} {k : Nat} {zs : List Int} (h : RP q k zs) (hk : k < q.length) (hc : pc (q.getD k []) < 0) : readParts q = none := by
  unfold RP at h
  rw [h, drop_getD hk, readParts, if_pos hc]; rfl
theorem RP.good {q : List (List UInt8)} {k : Nat} {zs : List Int} {c : Int} (h : RP q k zs) (hk : k < q.length) (hc : pc (q.getD k []) = c) (h0 : 0 ≤ c) : RP q (k + 1) (zs ++ [c]) := by
  unfold RP at h ⊢
  rw [h, drop_getD hk, readParts, hc, if_neg (show ¬ c < 0 from by omega)]
  simp [Function.comp_def]
theorem RP.done {q : List (List UInt8)} {k : Nat} {zs : List Int} (h : RP q k zs) (hk : q.length ≤ k) : readParts q = some zs := by
  unfold RP at h
  rw [h, List.drop_of_length_le hk]; simp [readParts]
theorem OwnStrs.cell {w : World} {base n c : Nat} {a : Option Addr} {ps : List ByteArray} (h : OwnStrs w base (.slice a n c) ps) (hn : ps.length = n) {k : Nat} (hk : k < n) :
    ∃ g, a = some ⟨g, 0, none⟩ ∧ w.cell? ⟨g, k, none⟩ = some (.string (ps.getD k ByteArray.empty)) := by
  subst hn
  rcases h.2 with ⟨_, hn⟩ | ⟨g, cap, cur, hv, hb, _⟩
  · omega
  · injection hv with h1 h2 h3
    subst h1 h3
    refine ⟨g, rfl, ?_⟩
    have := h.cellAt k (by omega)
    rw [this]
    simp [hk]
theorem lists_getD {ps : List ByteArray} {k : Nat} (h : k < ps.length) : (lists ps).getD k [] = (ps.getD k ByteArray.empty).data.toList := by
  simp [lists, List.getD_eq_getElem?_getD, h]

theorem OwnStrs.apart {w : World} {B B' : Nat} {u v : Value} {ps : List ByteArray} {zs : List Int} (h : OwnStrs w B u ps) (k : OwnInts w B' v zs) : u.ownBlock = none ∨ u.ownBlock ≠ v.ownBlock := by
  rcases h.2 with ⟨rfl, _⟩ | ⟨g, cap, cur, rfl, _, hg, _⟩
  · exact .inl rfl
  · right
    intro e
    rcases k.2 with ⟨rfl, _⟩ | ⟨g2, cap2, cur2, rfl, _, hg2, _⟩
    · cases e
    · injection e with e
      simp at e
      subst e
      rw [hg] at hg2
      injection hg2 with hg2
      injection hg2 with _ h2
      exact absurd h2 (by decide)
theorem OwnStrs.below {w w' : World} {base : Nat} {v : Value} {l : List ByteArray} (h : OwnStrs w base v l) (hb : Below w.heap.size w w') : OwnStrs w' base v l :=
  h.kept (row := none) ⟨hb.os, hb.tape, hb.output, hb.size, fun k hk _ => hb.block k hk⟩ (by cases hv : v.ownBlock <;> simp)

end Go.Proofs.Ytabmeakjbhiklaa
