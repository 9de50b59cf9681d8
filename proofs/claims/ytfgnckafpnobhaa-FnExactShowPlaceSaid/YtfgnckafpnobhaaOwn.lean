
/- Slices of integers that the call itself made. -/
import Derived.Test.YtfgnckafpnobhaaLst
namespace Go.Proofs.Ytfgnckafpnobhaa
open Go.RowKit

theorem infoInt : (Try.prog.info? 3).map (fun i => (i.zero, i.size, i.bytes)) = some (some (.int .i64 0), 1, 8) := by kernel_rfl
def ints (zs : List Int) : List Value := zs.map (Value.int .i64)
theorem ints_snoc (zs : List Int) (z : Int) : ints zs ++ [.int .i64 z] = ints (zs ++ [z]) := by simp [ints]
theorem ints_length (zs : List Int) : (ints zs).length = zs.length := by simp [ints]
theorem new_one {w : World} {t : TypeId} {z : Int} : ∀ j u, [Value.int .i64 z][j]? = some u → (w.alloc (.cells #[.int .i64 z] t)).cell? ((⟨w.heap.size, 0, none⟩ : Addr).add j) = some u := by
  intro j u hj
  match j, hj with
  | 0, hj => simp at hj; subst hj; simp [Addr.add]
theorem one_cell {z : Int} : ∀ u ∈ [Value.int .i64 z], u.oneCell' = true := by intro u hu; simp at hu; subst hu; rfl
/-- the slice value v owns exactly these numbers -/
def OwnInts (w : World) (base : Nat) (v : Value) (zs : List Int) : Prop := w.ownsRow base 3 1 v zs.length (ints zs)
theorem OwnInts.nil (w : World) (base : Nat) : OwnInts w base (.slice none 0 0) [] := World.ownsRow_nil _ _ _ _
theorem OwnInts.made (w : World) (base : Nat) (h : base ≤ w.heap.size) : OwnInts (w.alloc (.cells #[] 3)) base (.slice (some ⟨w.heap.size, 0, none⟩) 0 0) [] :=
  World.ownsRow_made w #[] 0 h (by unfold maxLen; omega) rfl
/-- behind an append of one number -/
theorem OwnInts.snoc {w : World} {base : Nat} {v : Value} {zs : List Int} {z : Int} (h : w.ownsRow base 3 1 v (zs.length + 1) (ints zs ++ [.int .i64 z])) : OwnInts w base v (zs ++ [z]) := by
  unfold OwnInts
  rw [← ints_snoc, List.length_append]
  exact h
theorem below_append {B : Nat} {w wr w' : World} {v : Value} {zs : List Int} {o : Obj} (hb : Below B w wr) (hs : B ≤ wr.heap.size) (ho : OwnInts wr B v zs) (hg : (wr.alloc o).grownBy w' v.ownBlock) : Below B w w' :=
  (hb.alloc hs o).grown hg (by have h := (World.grownBy_alloc wr o none).size; omega) (fun k hk => (ho.lt k hk).1)

theorem OwnInts.at {w : World} {base : Nat} {v : Value} {zs : List Int} (h : OwnInts w base v zs) : IntsAt w v zs := by
  have hc := h
  rcases h.2 with ⟨hv, hn⟩ | ⟨g, cap, cur, hv, hb, hg, h1, h2, h3, h4⟩
  · have : zs = [] := List.length_eq_zero_iff.1 hn
    subst this hv
    exact ⟨none, 0, rfl, Nat.le_refl _, by omega, .inl rfl⟩
  · subst hv
    refine ⟨_, cap, rfl, h1, by unfold maxLen at h2; exact h2, .inr ⟨g, 0, rfl, fun i hi => ?_⟩⟩
    have := hc.cells (g := g) (by simp [Value.ownBlock]) i (.int .i64 (zs.getD i 0)) (by simp [ints, hi])
    rw [show (⟨g, 0, none⟩ : Addr).add i = ⟨g, 0 + i, none⟩ from by unfold Addr.add; split <;> simp_all] at this
    exact this
theorem IntsAt.nil (w : World) : IntsAt w (.slice none 0 0) [] := ⟨none, 0, rfl, Nat.le_refl _, by omega, .inl rfl⟩

theorem OwnInts.below {w w' : World} {base : Nat} {v : Value} {zs : List Int} (h : OwnInts w base v zs) (hb : Below w.heap.size w w') : OwnInts w' base v zs :=
  h.kept (row := none) ⟨hb.os, hb.tape, hb.output, hb.size, fun k hk _ => hb.block k hk⟩ (by cases hv : v.ownBlock <;> simp)
end Go.Proofs.Ytfgnckafpnobhaa
