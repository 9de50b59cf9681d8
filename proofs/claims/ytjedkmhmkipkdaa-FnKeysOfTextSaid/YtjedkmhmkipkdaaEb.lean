
/- Lists of numbers put together: laws.join. -/
import Derived.Test.YtjedkmhmkipkdaaOwn
import Derived.Laws.AppendOwnNone
namespace Go.Proofs.Ytjedkmhmkipkdaa
open Go.RowKit

theorem keptE {p : Prop} (h : p) : Hid p := h
theorem ints_oneE : ∀ (zs : List Int), ∀ u ∈ ints zs, u.oneCell' = true := by
  intro zs u hu
  simp [ints] at hu
  obtain ⟨z, _, rfl⟩ := hu
  rfl
theorem OwnInts.addAllE {w : World} {base N : Nat} {v : Value} {xs ys : List Int} (h : w.ownsRow base 3 1 v N (ints xs ++ ints ys)) (hN : N = xs.length + ys.length) : OwnInts w base v (xs ++ ys) := by
  subst hN
  unfold OwnInts
  rw [show ints (xs ++ ys) = ints xs ++ ints ys from by simp [ints], List.length_append]
  exact h
/-- a list that reads, and is nil or lies somewhere -/
def IntsSh (w : World) (u : Value) (zs : List Int) : Prop := IntsAt w u zs ∧ (u = .slice none 0 0 ∨ ∃ ad n c, u = .slice (some ad) n c)
theorem IntsSh.below {w w' : World} {u : Value} {zs : List Int} (h : IntsSh w u zs) (hb : Below w.heap.size w w') : IntsSh w' u zs := ⟨h.1.below hb, h.2⟩
theorem OwnInts.sh {w : World} {base : Nat} {v : Value} {zs : List Int} (h : OwnInts w base v zs) : IntsSh w v zs := by
  refine ⟨h.at, ?_⟩
  rcases h.2 with ⟨hv, _⟩ | ⟨g, cap, cur, hv, _⟩
  · exact .inl hv
  · exact .inr ⟨_, _, _, hv⟩
theorem wpList_append_sh {ops : Array Oper} {rest : List Oper} {o : Oper} {a : Act} {w : World} {Q : Exit → Act → World → Prop} (hgd : o.guard = none) (s x : Operand)
    (ho : o.op = .call { callee := .builtin .append, args := #[s, x], argTypes := #[23, 23] }) (base : Nat) {v u : Value} {xs ys : List Int} (hs : a.eval s = v) (hx : a.eval x = u)
    (h1 : OwnInts w base v xs) (h2 : IntsSh w u ys) (hl : xs.length + ys.length ≤ 1000000) (hbase : base ≤ w.heap.size)
    (h : ∀ v' w', OwnInts w' base v' (xs ++ ys) → w.grownBy w' v.ownBlock → (v' = .slice none 0 0 → v = .slice none 0 0) → wpList Try.prog ops Q rest (a.put o.dst v') w') : wpList Try.prog ops Q (o :: rest) a w := by
  obtain ⟨i0, hi, hz0, hz1, hz2⟩ := info_parts infoInt
  have hx2 := h2.1
  rcases h2.2 with e | ⟨ad, n, c, e⟩
  · have hy : ys = [] := by
      obtain ⟨_, _, e2, _⟩ := hx2
      rw [e] at e2
      injection e2 with _ e3 _
      exact List.length_eq_zero_iff.1 e3.symm
    subst hy
    subst e
    exact wpList_append_own_none hgd s x 23 ho base 3 i0 1 Try.underlying23 hi v _ (ints xs) hs h1 hx (h v w (by rw [List.append_nil]; exact h1) (World.grownBy.refl w _) id)
  · subst e
    have hn : n = ys.length := by
      obtain ⟨_, _, e2, _⟩ := hx2
      injection e2 with _ e3 _
    subst hn
    refine wpList_append_own w hgd s x 23 ho base 3 i0 (.int .i64 0) 1 8 Try.underlying23 hi hz0 hz1 hz2 rfl (by decide) v xs.length (ints xs) hs h1 ad ys.length c (ints ys) hx (by rw [ints_length, Nat.mul_one]) ?_ (ints_oneE ys) (by unfold maxLen; omega) (by omega) hbase ?_
    · intro j u' hj
      obtain ⟨a', c', e3, _, _, h5⟩ := hx2
      injection e3 with e4 _ _
      rcases h5 with rfl | ⟨g, off, e5, h6⟩
      · simp [ints] at hj
      · rw [← e4] at e5
        injection e5 with e5
        subst e5
        have hjl : j < ys.length := by
          have := (List.getElem?_eq_some_iff.1 hj).1
          rw [ints_length] at this; exact this
        rw [Addr.add_lit, h6 j hjl]
        simp [ints, hjl] at hj
        rw [← hj]
        simp [List.getD_eq_getElem?_getD, hjl]
    · intro v' w' hown' hgrow hnil
      exact h v' w' (OwnInts.addAllE hown' rfl) hgrow (fun e => (hnil.1 e).1)
set_option maxHeartbeats 1000000 in
theorem join_sh (w : World) (u v : Value) (xs ys : List Int) (hx : IntsSh w u xs) (hy : IntsSh w v ys) (hl : xs.length + ys.length ≤ 1000) :
    Calls Try.prog 18 #[u, v] w fun e w' => ∃ a n c, e = .returned (.slice a n c) ∧ OwnInts w' w.heap.size (.slice a n c) (xs ++ ys) ∧ Below w.heap.size w w' := by
  obtain ⟨a1, c1, hu, _⟩ := id hx.1
  obtain ⟨a2, c2, hv, _⟩ := id hy.1
  obtain ⟨n1, hn1⟩ : ∃ n, xs.length = n := ⟨_, rfl⟩
  obtain ⟨n2, hn2⟩ : ∃ n, ys.length = n := ⟨_, rfl⟩
  rw [hn1] at hu
  rw [hn2] at hv
  subst hu hv
  have HN : Hid (xs.length + ys.length ≤ 1000) := hl
  have hO0 : OwnInts (w.alloc (.cells #[] 3)) w.heap.size (.slice (some ⟨w.heap.size, 0, none⟩) 0 0) [] := OwnInts.made w w.heap.size (Nat.le_refl _)
  have hB0 : Below w.heap.size w (w.alloc (.cells #[] 3)) := (Below.refl _ _).alloc (Nat.le_refl _) _
  have HX := keptE (hx.below hB0)
  have HY := keptE hy
  have HO := keptE hO0
  have HB := keptE hB0
  clear hO0 hB0 hx hy hn1 hn2 hl
  go_enter Try.func18, Try.ntmps18
  go_wp2_with (at_builtin; (refine wpList_append_sh rfl _ _ rfl w.heap.size (xs := []) (ys := xs) rfl rfl HO.out HX.out (by have := HN.out; simp; omega) HB.out.size ?_))
  intro v1 w1 hown1 hgrow1 _
  have hB1 : Below w.heap.size w w1 := HB.out.grown hgrow1 HB.out.size (fun k hk => (HO.out.lt k hk).1)
  obtain ⟨a3, c3, hv1, _⟩ := id hown1.at
  obtain ⟨n3, hn3⟩ : ∃ n, xs.length = n := ⟨_, rfl⟩
  rw [hn3] at hv1
  subst hv1
  have HO1 := keptE hown1
  have HB1 := keptE hB1
  have HY1 := keptE (HY.out.below hB1)
  clear hown1 hgrow1 hB1 hn3
  go_wp2_with (at_builtin; (refine wpList_append_sh rfl _ _ rfl w.heap.size (xs := xs) (ys := ys) rfl rfl HO1.out HY1.out (by have := HN.out; omega) HB1.out.size ?_))
  intro v2 w2 hown2 hgrow2 _
  have hB2 : Below w.heap.size w w2 := HB1.out.grown hgrow2 HB1.out.size (fun k hk => (HO1.out.lt k hk).1)
  obtain ⟨a4, c4, hv2, _⟩ := id hown2.at
  obtain ⟨n4, hn4⟩ : ∃ n, (xs ++ ys).length = n := ⟨_, rfl⟩
  rw [hn4] at hv2
  subst hv2
  have HO2 := keptE hown2
  have HB2 := keptE hB2
  clear hown2 hgrow2 hB2 hn4
  go_wp2
  go_ret
  exact ⟨_, _, _, rfl, HO2.out, HB2.out⟩
end Go.Proofs.Ytjedkmhmkipkdaa
