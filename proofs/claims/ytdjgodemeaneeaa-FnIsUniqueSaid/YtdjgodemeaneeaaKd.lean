
/- The draw of a code and cells. -/
import Derived.Test.YtdjgodemeaneeaaKa
import Derived.Laws.AppendOwnNone
namespace Go.Proofs.Ytdjgodemeaneeaa
open Go.RowKit

theorem wpList_append_el {ops : Array Oper} {rest : List Oper} {o : Oper} {a : Act} {w : World} {Q : Exit → Act → World → Prop} (hgd : o.guard = none) (s x : Operand)
    (ho : o.op = .call { callee := .builtin .append, args := #[s, x], argTypes := #[31, 31] }) (base eb : Nat) {v u : Value} {xs ys : List Int} (hs : a.eval s = v) (hx : a.eval x = u)
    (h1 : OwnInts w base v xs) (h2 : ElOk w eb u ys) (hl : xs.length + ys.length ≤ 1000000) (hbase : base ≤ w.heap.size)
    (h : ∀ v' w', OwnInts w' base v' (xs ++ ys) → w.grownBy w' v.ownBlock → (v' = .slice none 0 0 → v = .slice none 0 0) → wpList Try.prog ops Q rest (a.put o.dst v') w') : wpList Try.prog ops Q (o :: rest) a w := by
  obtain ⟨i0, hi, hz0, hz1, hz2⟩ := info_parts infoInt
  have hx2 := h2.1
  rcases h2.2.2 with e | ⟨ad, n, c, e⟩
  · have hy : ys = [] := by
      obtain ⟨_, _, e2, _⟩ := hx2
      rw [e] at e2
      injection e2 with _ e3 _
      exact List.length_eq_zero_iff.1 e3.symm
    subst hy
    subst e
    exact wpList_append_own_none hgd s x 31 ho base 3 i0 1 Try.underlying31 hi v _ (ints xs) hs h1 hx (h v w (by rw [List.append_nil]; exact h1) (World.grownBy.refl w _) id)
  · subst e
    have hn : n = ys.length := by
      obtain ⟨_, _, e2, _⟩ := hx2
      injection e2 with _ e3 _
    subst hn
    refine wpList_append_own w hgd s x 31 ho base 3 i0 (.int .i64 0) 1 8 Try.underlying31 hi hz0 hz1 hz2 rfl (by decide) v xs.length (ints xs) hs h1 ad ys.length c (ints ys) hx (by rw [ints_length, Nat.mul_one]) ?_ (ints_oneCellC ys) (by unfold maxLen; omega) (by omega) hbase ?_
    · intro j u' hj
      obtain ⟨a', c', e3, _, _, h5⟩ := hx2
      injection e3 with e4 _ _
      rcases h5 with rfl | ⟨g, off, e5, h6⟩
      · simp [ints] at hj
      · rw [← e4] at e5
        injection e5 with e5
        subst e5
        have hjl : j < ys.length := by
          have := (List.getElem?_eq_some_iff.1 hj).1
          rw [ints_length] at this; exact this
        rw [Addr.add_lit, h6 j hjl]
        simp [ints, hjl] at hj
        rw [← hj]
        simp [List.getD_eq_getElem?_getD, hjl]
    · intro v' w' hown' hgrow hnil
      exact h v' w' (OwnInts.addAllC hown' rfl) hgrow (fun e => (hnil.1 e).1)
theorem results_twoK {fn : Func} {t u : Tmp} (h : fn.results = #[.tmp t, .tmp u]) (tmps : Array Value) (P : Program) (w : World) :
    (results fn tmps).run P w = .ok (.tuple #[tmps.getD t undef, tmps.getD u undef]) w := by
  simp [results, h]
/-- a drawn code and cells -/
def FcMade (w : World) (e : Ending) (w' : World) : Prop :=
  ∃ S a n c P a2 n2 c2 zs, e = .returned (.tuple #[.slice a n c, .slice a2 n2 c2]) ∧ ListsAt w' (.slice a n c) P ∧ IntsAt w' (.slice a2 n2 c2) zs ∧ P.length ≤ 9 ∧ Len3 P ∧ zs.length ≤ 19 ∧ Below w.heap.size w w' ∧ S ≤ w'.heap.size ∧ ∃ g, a2 = some ⟨g, 0, none⟩
end Go.Proofs.Ytdjgodemeaneeaa
