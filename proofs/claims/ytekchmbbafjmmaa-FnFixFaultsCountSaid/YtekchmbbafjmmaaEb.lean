
/- Lists of numbers put together: laws.join. -/
import Derived.Test.YtekchmbbafjmmaaOwn
import Derived.Laws.AppendOwnNone
namespace Go.Proofs.Ytekchmbbafjmmaa
open Go.RowKit

theorem keptE {p : Prop} (h : p) : Hid p := h
theorem ints_oneE : ∀ (zs : List Int), ∀ u ∈ ints zs, u.oneCell' = true := by
  intro zs u hu
  simp [ints] at hu
  obtain ⟨z, _, rfl⟩ := hu
  rfl
theorem OwnInts.addAllE {w : World} {base N : Nat} {v : Value} {xs ys : List Int} (h : w.ownsRow base 3 1 v N (ints xs ++ ints ys)) (hN : N = xs.length + ys.length) : OwnInts w base v (xs ++ ys) := by
  subst hN
  unfold OwnInts
  rw [show ints (xs ++ ys) = ints xs ++ ints ys from by simp [ints], List.length_append]
  exact h
/-- a list that reads, and is nil or lies somewhere -/
def IntsSh (w : World) (u : Value) (zs : List Int) : Prop := IntsAt w u zs ∧ (u = .slice none 0 0 ∨ ∃ ad n c, u = .slice (some ad) n c)
theorem IntsSh.below {w w' : World} {u : Value} {zs : List Int} (h : IntsSh w u zs) (hb : Below w.heap.size w w') : IntsSh w' u zs := ⟨h.1.below hb, h.2⟩
theorem OwnInts.sh {w : World} {base : Nat} {v : Value} {zs : List Int} (h : OwnInts w base v zs) : IntsSh w v zs := by
  refine ⟨h.at, ?_⟩
  rcases h.2 with ⟨hv, _⟩ | ⟨g, cap, cur, hv, _⟩
  · exact .inl hv
  · exact .inr ⟨_, _, _, hv⟩
theorem wpList_append_sh {ops : Array Oper} {rest : List Oper} {o : Oper} {a : Act} {w : World} {Q : Exit → Act → World → Prop} (hgd : o.guard = none) (s x : Operand)
    (ho : o.op = .call { callee := .builtin .append, args := #[s, x], argTypes := #[28, 28] }) (base : Nat) {v u : Value} {xs ys : List Int} (hs : a.eval s = v) (hx : a.eval x = u)
    (h1 : OwnInts w base v xs) (h2 : IntsSh w u ys) (hl : xs.length + ys.length ≤ 1000000) (hbase : base ≤ w.heap.size)
    (h : ∀ v' w', OwnInts w' base v' (xs ++ ys) → w.grownBy w' v.ownBlock → (v' = .slice none 0 0 → v = .slice none 0 0) → wpList Try.prog ops Q rest (a.put o.dst v') w') : wpList Try.prog ops Q (o :: rest) a w := by
  obtain ⟨i0, hi, hz0, hz1, hz2⟩ := info_parts infoInt
  have hx2 := h2.1
  rcases h2.2 with e | ⟨ad, n, c, e⟩
  · have hy : ys = [] := by
      obtain ⟨_, _, e2, _⟩ := hx2
      rw [e] at e2
      injection e2 with _ e3 _
      exact List.length_eq_zero_iff.1 e3.symm
    subst hy
    subst e
    exact wpList_append_own_none hgd s x 28 ho base 3 i0 1 Try.underlying28 hi v _ (ints xs) hs h1 hx (h v w (by rw [List.append_nil]; exact h1) (World.grownBy.refl w _) id)
  · subst e
    have hn : n = ys.length := by
      obtain ⟨_, _, e2, _⟩ := hx2
      injection e2 with _ e3 _
    subst hn
    refine wpList_append_own w hgd s x 28 ho base 3 i0 (.int .i64 0) 1 8 Try.underlying28 hi hz0 hz1 hz2 rfl (by decide) v xs.length (ints xs) hs h1 ad ys.length c (ints ys) hx (by rw [ints_length, Nat.mul_one]) ?_ (ints_oneE ys) (by unfold maxLen; omega) (by omega) hbase ?_
    · intro j u' hj
      obtain ⟨a', c', e3, _, _, h5⟩ := hx2
      injection e3 with e4 _ _
      rcases h5 with rfl | ⟨g, off, e5, h6⟩
      · simp [ints] at hj
      · rw [← e4] at e5
        injection e5 with e5
        subst e5
        have hjl : j < ys.length := by
          have := (List.getElem?_eq_some_iff.1 hj).1
          rw [ints_length] at this; exact this
        rw [Addr.add_lit, h6 j hjl]
        simp [ints, hjl] at hj
        rw [← hj]
        simp [List.getD_eq_getElem?_getD, hjl]
    · intro v' w' hown' hgrow hnil
      exact h v' w' (OwnInts.addAllE hown' rfl) hgrow (fun e => (hnil.1 e).1)
end Go.Proofs.Ytekchmbbafjmmaa
