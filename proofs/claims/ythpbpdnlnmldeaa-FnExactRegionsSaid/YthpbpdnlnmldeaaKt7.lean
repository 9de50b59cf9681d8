
/- A part of a picture is taken away. -/
import Derived.Test.YthpbpdnlnmldeaaKs7
import Derived.Maps.AppendAt
namespace Go.Proofs.Ythpbpdnlnmldeaa
open Go.RowKit

theorem wpList_append_spAt {ops : Array Oper} {rest : List Oper} {o : Oper} {a : Act} {w : World} {Q : Exit → Act → World → Prop} (hgd : o.guard = none) (s x : Operand)
    (ho : o.op = .call { callee := .builtin .append, args := #[s, x], argTypes := #[58, 58] }) (base g : Nat) {v : Value} {P : List (Nat × Nat)} (p : Nat × Nat) (hs : a.eval s = v) (hx : a.eval x = .slice (some ⟨g, 0, none⟩) 1 1)
    (h1 : OwnSp w base v P) (h2 : w.cell? ⟨g, 0, none⟩ = some (.int .i64 p.1) ∧ w.cell? ⟨g, 1, none⟩ = some (.int .i64 p.2)) (hl : P.length ≤ 100000000) (hbase : base ≤ w.heap.size)
    (h : ∀ v' w', OwnSp w' base v' (P ++ [p]) → w.grownBy w' v.ownBlock → (v'.ownBlock = v.ownBlock ∨ v'.ownBlock = some w.heap.size) → wpList Try.prog ops Q rest (a.put o.dst v') w') : wpList Try.prog ops Q (o :: rest) a w := by
  obtain ⟨i0, hi, hz0, hz1, hz2⟩ := info_parts infoSpot
  refine wpList_append_own_at w hgd s x 58 ho base 48 i0 (.agg #[.int .i64 0, .int .i64 0]) 2 16 Try.underlying58 hi hz0 hz1 hz2 rfl (by decide) v P.length (spcs P) hs h1 ⟨g, 0, none⟩ 1 1 (spc p) hx rfl ?_ ?_ (by unfold maxLen; omega) (by omega) hbase ?_
  · intro j u hj
    obtain ⟨c0, c1⟩ := h2
    rw [Addr.add_lit]
    match j, hj with
    | 0, hj => rw [c0]; exact hj
    | 1, hj => rw [c1]; exact hj
  · intro u hu
    simp [spc] at hu
    rcases hu with rfl | rfl <;> rfl
  · intro v' w' hown hgrow hnil hat
    refine h v' w' ?_ hgrow hat
    unfold OwnSp
    rw [List.length_append, ← spcs_snoc]
    exact hown
theorem OwnSp.off {w w' : World} {S b : Nat} {v : Value} {P : List (Nat × Nat)} (h : OwnSp w S v P) (hg : w.grownBy w' (some b)) (hb : b < S) : OwnSp w' S v P :=
  World.ownsRow.kept h hg (by
    rcases h.2 with ⟨rfl, _⟩ | ⟨g, cap, cur, rfl, hb2, _⟩
    · exact .inl rfl
    · exact .inr (by simp [Value.ownBlock]; omega))
/-- the dots of a list lie in the block b -/
def SpIn (w : World) (b : Nat) (B : List (Nat × Nat)) : Prop := ∀ t, t < B.length → w.cell? ⟨b, t * 2, none⟩ = some (.int .i64 (B.getD t (0, 0)).1) ∧ w.cell? ⟨b, t * 2 + 1, none⟩ = some (.int .i64 (B.getD t (0, 0)).2)
theorem cell_block {w w' : World} {b i : Nat} (h : w'.heap[b]? = w.heap[b]?) : w'.cell? ⟨b, i, none⟩ = w.cell? ⟨b, i, none⟩ := by
  simp only [World.cell?, h]
theorem SpIn.kept {w w' : World} {b : Nat} {B : List (Nat × Nat)} (h : SpIn w b B) (e : w'.heap[b]? = w.heap[b]?) : SpIn w' b B := fun t ht => by
  rw [cell_block e, cell_block e]; exact h t ht
end Go.Proofs.Ythpbpdnlnmldeaa
