
/- Rows of lists that a call itself made. -/
import Derived.Test.YtfgnckafpnobhaaCf
import Derived.Deep.AppendLies
namespace Go.Proofs.Ytfgnckafpnobhaa
open Go.RowKit

theorem infoLs : (Try.prog.info? 23).map (fun i => (i.zero, i.size, i.bytes)) = some (some (.slice none 0 0), 1, 24) := by kernel_rfl
/-- an element of a row: it reads as the list, and its block is older than the row's, or one of numbers -/
def ElOk (w : World) (base : Nat) (u : Value) (zs : List Int) : Prop :=
  IntsAt w u zs ∧ (∀ b, u.ownBlock = some b → b < base ∨ ∃ cur, w.heap[b]? = some (.cells cur 3 (0, 0))) ∧ (u = .slice none 0 0 ∨ ∃ ad n c, u = .slice (some ad) n c)
theorem ElOk.of_own {w : World} {base B : Nat} {u : Value} {zs : List Int} (h : OwnInts w B u zs) : ElOk w base u zs := by
  refine ⟨h.at, fun b hb => .inr ?_, by
    rcases h.2 with ⟨hv, _⟩ | ⟨g, cap, cur, hv, _⟩
    · exact .inl hv
    · exact .inr ⟨_, _, _, hv⟩⟩
  rcases h.2 with ⟨hv, _⟩ | ⟨g, cap, cur, hv, _, hg, _⟩
  · subst hv; simp [Value.ownBlock] at hb
  · subst hv
    simp [Value.ownBlock] at hb
    subst hb
    exact ⟨cur, hg⟩
theorem ElOk.kept {w w' : World} {base : Nat} {row : Option Nat} {u : Value} {zs : List Int} (h : ElOk w base u zs) (hg : w.grownBy w' row) (hr : ∀ k, row = some k → base ≤ k ∧ ∃ cur, w.heap[k]? = some (.cells cur 23 (0, 0))) : ElOk w' base u zs := by
  have key : ∀ b, u.ownBlock = some b → some b ≠ row := by
    intro b hb e
    obtain ⟨h1, cur, h2⟩ := hr b e.symm
    rcases h.2.1 b hb with h3 | ⟨cur', h3⟩
    · omega
    · rw [h2] at h3
      injection h3 with h3
      injection h3 with _ h4 _
      exact absurd h4 (by decide)
  refine ⟨?_, fun b hb => ?_, h.2.2⟩
  · obtain ⟨a, cap, h1, h2, h3, h4⟩ := h.1
    refine ⟨a, cap, h1, h2, h3, ?_⟩
    rcases h4 with h4 | ⟨g, off, h4, h5⟩
    · exact .inl h4
    · refine .inr ⟨g, off, h4, fun i hi => ?_⟩
      have hc := h5 i hi
      have hlt := World.block_lt_of_cell? w _ hc
      rw [World.cell?_of_block (a := ⟨g, off + i, none⟩) (hg.block g hlt (key g (by rw [h1, h4]; rfl)))]
      exact hc
  · rcases h.2.1 b hb with h3 | ⟨cur', h3⟩
    · exact .inl h3
    · refine .inr ⟨cur', ?_⟩
      rw [hg.block b (Array.getElem?_eq_some_iff.1 h3).1 (key b hb)]
      exact h3
theorem ElOk.below {w w' : World} {base : Nat} {u : Value} {zs : List Int} (h : ElOk w base u zs) (hb : Below w.heap.size w w') : ElOk w' base u zs :=
  h.kept (row := none) ⟨hb.os, hb.tape, hb.output, hb.size, fun k hk _ => hb.block k hk⟩ (fun k hk => by cases hk)

theorem ElOk.mono {w : World} {eb eb' : Nat} {u : Value} {zs : List Int} (h : ElOk w eb u zs) (he : eb ≤ eb') : ElOk w eb' u zs :=
  ⟨h.1, fun b hb => by
    rcases h.2.1 b hb with h3 | h3
    · exact .inl (by omega)
    · exact .inr h3, h.2.2⟩
theorem ElOk.old {w : World} {u : Value} {zs : List Int} (h : IntsAt w u zs) (hz : 0 < zs.length) : ElOk w w.heap.size u zs := by
  refine ⟨h, fun b hb => .inl ?_, by
    obtain ⟨a, cap, h1, _, _, h4⟩ := h
    rcases h4 with rfl | ⟨g, off, h5, _⟩
    · simp at hz
    · exact .inr ⟨_, _, _, by rw [h1, h5]⟩⟩
  obtain ⟨a, cap, h1, _, _, h4⟩ := h
  rcases h4 with rfl | ⟨g, off, h5, h6⟩
  · simp at hz
  · subst h1 h5
    simp [Value.ownBlock] at hb
    subst hb
    exact World.block_lt_of_cell? w _ (h6 0 hz)
/-- the slice value v owns a row of lists that reads as L -/
def OwnLs (w : World) (base eb : Nat) (v : Value) (L : List (List Int)) : Prop :=
  eb ≤ base ∧ ∃ us : List Value, w.ownsRow base 23 1 v L.length us ∧ us.length = L.length ∧ ∀ i, i < L.length → ∃ u, us[i]? = some u ∧ ElOk w eb u (L.getD i [])
theorem OwnLs.nil (w : World) (base eb : Nat) (he : eb ≤ base) : OwnLs w base eb (.slice none 0 0) [] := ⟨he, [], World.ownsRow_nil _ _ _ _, rfl, fun i h => absurd h (by simp)⟩
theorem OwnLs.made (w : World) (base eb : Nat) (he : eb ≤ base) (h : base ≤ w.heap.size) : OwnLs (w.alloc (.cells #[] 23)) base eb (.slice (some ⟨w.heap.size, 0, none⟩) 0 0) [] :=
  ⟨he, [], World.ownsRow_made w #[] 0 h (by unfold maxLen; omega) rfl, rfl, fun i h => absurd h (by simp)⟩
theorem OwnLs.isSlice {w : World} {S eb : Nat} {v : Value} {P : List (List Int)} (h : OwnLs w S eb v P) : ∃ a n c, v = .slice a n c := by
  obtain ⟨_, us, h, _⟩ := h
  rcases h.2 with ⟨rfl, _⟩ | ⟨g, cap, cur, rfl, _⟩ <;> exact ⟨_, _, _, rfl⟩
theorem OwnLs.at {w : World} {base eb : Nat} {v : Value} {L : List (List Int)} (h : OwnLs w base eb v L) : ListsAt w v L := by
  obtain ⟨_, us, h, hl, he⟩ := h
  have hc := h
  rcases h.2 with ⟨hv, hn⟩ | ⟨g, cap, cur, hv, hb, hg, h1, h2, h3, h4⟩
  · have : L = [] := List.length_eq_zero_iff.1 hn
    subst this hv
    exact ListsAt.nil w
  · subst hv
    refine ⟨_, cap, rfl, h1, by unfold maxLen at h2; exact h2, .inr ⟨g, 0, rfl, fun i hi => ?_⟩⟩
    obtain ⟨u, h5, h6⟩ := he i hi
    have := hc.cells (g := g) (by simp [Value.ownBlock]) i u h5
    rw [show (⟨g, 0, none⟩ : Addr).add i = ⟨g, 0 + i, none⟩ from by unfold Addr.add; split <;> simp_all] at this
    exact ⟨u, this, h6.1⟩
/-- an element of a row -/
theorem OwnLs.nth {w : World} {base eb n c : Nat} {a : Option Addr} {L : List (List Int)} (h : OwnLs w base eb (.slice a n c) L) {i : Nat} (hi : i < n) :
    ∃ g u, a = some ⟨g, 0, none⟩ ∧ w.cell? ⟨g, i, none⟩ = some u ∧ ElOk w eb u (L.getD i []) ∧ n = L.length := by
  obtain ⟨_, us, h, hl, he⟩ := h
  have hc := h
  rcases h.2 with ⟨hv, hn⟩ | ⟨g, cap, cur, hv, _⟩
  · injection hv with _ e _; omega
  · injection hv with e1 e2 _
    subst e1
    obtain ⟨u, h5, h6⟩ := he i (by omega)
    have := hc.cells (g := g) (by simp [Value.ownBlock]) i u h5
    rw [show (⟨g, 0, none⟩ : Addr).add i = ⟨g, 0 + i, none⟩ from by unfold Addr.add; split <;> simp_all, Nat.zero_add] at this
    exact ⟨g, u, rfl, this, h6, e2⟩
theorem OwnLs.row {w : World} {base eb : Nat} {v : Value} {L : List (List Int)} (h : OwnLs w base eb v L) : ∀ k, v.ownBlock = some k → base ≤ k ∧ ∃ cur, w.heap[k]? = some (.cells cur 23 (0, 0)) := by
  obtain ⟨_, us, h, _⟩ := h
  intro k hk
  rcases h.2 with ⟨hv, _⟩ | ⟨g, cap, cur, hv, hb, hg, _⟩
  · subst hv; simp [Value.ownBlock] at hk
  · subst hv
    simp [Value.ownBlock] at hk
    subst hk
    exact ⟨hb, cur, hg⟩
theorem OwnLs.below {w w' : World} {base eb : Nat} {v : Value} {L : List (List Int)} (h : OwnLs w base eb v L) (hb : Below w.heap.size w w') : OwnLs w' base eb v L := by
  obtain ⟨h0, us, h1, h2, h3⟩ := h
  refine ⟨h0, us, h1.kept (row := none) ⟨hb.os, hb.tape, hb.output, hb.size, fun k hk _ => hb.block k hk⟩ (by cases hv : v.ownBlock <;> simp), h2, fun i hi => ?_⟩
  obtain ⟨u, h4, h5⟩ := h3 i hi
  exact ⟨u, h4, h5.below hb⟩
theorem grown_ls {B eb : Nat} {w wr w' : World} {v : Value} {P : List (List Int)} {o : Obj} (hb : Below B w wr) (hs : B ≤ wr.heap.size) (ho : OwnLs wr B eb v P) (hg : (wr.alloc o).grownBy w' v.ownBlock) : Below B w w' :=
  (hb.alloc hs o).grown hg (by have h := (World.grownBy_alloc wr o none).size; omega) (fun k hk => (ho.row k hk).1)
/-- behind an append of one list -/
theorem wpList_append_ls {ops : Array Oper} {rest : List Oper} {o : Oper} {a : Act} {w : World} {Q : Exit → Act → World → Prop} (hgd : o.guard = none) (s x : Operand)
    (ho : o.op = .call { callee := .builtin .append, args := #[s, x], argTypes := #[85, 85] }) (base eb g : Nat) {v u : Value} {P : List (List Int)} (zs : List Int) (hs : a.eval s = v) (hx : a.eval x = .slice (some ⟨g, 0, none⟩) 1 1)
    (h1 : OwnLs w base eb v P) (h2 : w.cell? ⟨g, 0, none⟩ = some u) (h3 : ElOk w eb u zs) (hu : u.oneCell' = true) (hl : P.length ≤ 100000) (hbase : base ≤ w.heap.size)
    (h : ∀ v' w', OwnLs w' base eb v' (P ++ [zs]) → w.grownBy w' v.ownBlock → wpList Try.prog ops Q rest (a.put o.dst v') w') : wpList Try.prog ops Q (o :: rest) a w := by
  obtain ⟨i0, hi, hz0, hz1, hz2⟩ := info_parts infoLs
  have hrow := h1.row
  obtain ⟨k0, us, k1, k2, k3⟩ := h1
  have hrow' : ∀ k, v.ownBlock = some k → eb ≤ k ∧ ∃ cur, w.heap[k]? = some (.cells cur 23 (0, 0)) := fun k hk => ⟨Nat.le_trans k0 (hrow k hk).1, (hrow k hk).2⟩
  refine wpList_append_own w hgd s x 85 ho base 23 i0 (.slice none 0 0) 1 24 Try.underlying85 hi hz0 hz1 hz2 rfl (by decide) v P.length us hs k1 ⟨g, 0, none⟩ 1 1 [u] hx rfl ?_ ?_ (by unfold maxLen; omega) (by omega) hbase ?_
  · intro j u' hj
    rw [Addr.add_lit]
    match j, hj with
    | 0, hj => simp at hj; subst hj; exact h2
  · intro u' hu'
    simp at hu'
    subst hu'
    exact hu
  · intro v' w' hown hgrow hnil
    refine h v' w' ⟨k0, us ++ [u], ?_, by simp [k2], fun i hi => ?_⟩ hgrow
    · rw [List.length_append]; exact hown
    · rw [List.length_append] at hi
      by_cases hip : i < P.length
      · obtain ⟨u', k4, k5⟩ := k3 i hip
        refine ⟨u', by rw [List.getElem?_append_left (by omega)]; exact k4, ?_⟩
        have e : (P ++ [zs]).getD i [] = P.getD i [] := by rw [List.getD_eq_getElem?_getD, List.getElem?_append_left hip, ← List.getD_eq_getElem?_getD]
        rw [e]
        exact k5.kept hgrow hrow'
      · obtain rfl : i = P.length := by simp at hi; omega
        refine ⟨u, by rw [List.getElem?_append_right (by omega), k2]; simp, ?_⟩
        have e : (P ++ [zs]).getD P.length [] = zs := by simp [List.getD_eq_getElem?_getD]
        rw [e]
        exact h3.kept hgrow hrow'

theorem IntsAt.newsC {w : World} {g off n cp : Nat} {zs : List Int} (h : IntsAt w (.slice (some ⟨g, off, none⟩) n cp) zs) : ∀ j u, (ints zs)[j]? = some u → w.cell? ((⟨g, off, none⟩ : Addr).add j) = some u := by
  intro j u hj
  obtain ⟨a, c, h1, _, _, h4⟩ := h
  injection h1 with e1 _ _
  rcases h4 with rfl | ⟨g', off', h5, h6⟩
  · simp [ints] at hj
  · rw [← e1] at h5
    injection h5 with e
    injection e with e2 e3 _
    subst e2 e3
    have hjl : j < zs.length := by
      have := (List.getElem?_eq_some_iff.1 hj).1
      rw [ints_length] at this; exact this
    rw [Addr.add_lit, h6 j hjl]
    simp [ints, hjl] at hj
    rw [← hj]
    simp [List.getD_eq_getElem?_getD, hjl]
theorem OwnInts.addAllC {w : World} {base N : Nat} {v : Value} {xs ys : List Int} (h : w.ownsRow base 3 1 v N (ints xs ++ ints ys)) (hN : N = xs.length + ys.length) : OwnInts w base v (xs ++ ys) := by
  subst hN
  unfold OwnInts
  rw [show ints (xs ++ ys) = ints xs ++ ints ys from by simp [ints], List.length_append]
  exact h
theorem ints_oneCellC : ∀ (zs : List Int), ∀ u ∈ ints zs, u.oneCell' = true := by
  intro zs u hu
  simp [ints] at hu
  obtain ⟨z, _, rfl⟩ := hu
  rfl
set_option maxHeartbeats 1000000 in
theorem s_copyIntsC (w : World) (g off n cap : Nat) (zs : List Int) (hx : IntsAt w (.slice (some ⟨g, off, none⟩) n cap) zs) (hn : Hid (zs.length = n)) (hs : n ≤ 1048576) :
    Calls Try.prog 53 #[.slice (some ⟨g, off, none⟩) n cap] w fun e w' => (∃ v, e = .returned v ∧ OwnInts w' w.heap.size v zs) ∧ Below w.heap.size w w' := by
  obtain ⟨i0, hi, hz0, hz1, hz2⟩ := info_parts infoInt
  have hO1 : OwnInts (w.alloc (.cells #[] 3)) w.heap.size (.slice (some ⟨w.heap.size, 0, none⟩) 0 0) [] := OwnInts.made w w.heap.size (Nat.le_refl _)
  have hB1 : Below w.heap.size w (w.alloc (.cells #[] 3)) := (Below.refl _ _).alloc (Nat.le_refl _) _
  have hx1 := hx.below hB1
  have hnews := Lib.hid hx1.newsC
  have hlz : Hid ((ints zs).length = n * 1) := by show _ = _; rw [ints_length, hn.out, Nat.mul_one]
  clear hx hx1
  go_enter Try.func53, Try.ntmps53
  go_wp2_with (at_builtin; go_loud (refine wpList_append_own _ rfl _ _ 23 rfl w.heap.size 3 i0 (.int .i64 0) 1 8 Try.underlying23 hi hz0 hz1 hz2 rfl (by decide) _ _ _ rfl hO1 ⟨g, off, none⟩ n cap (ints zs) rfl hlz.out hnews.out (ints_oneCellC zs) (by unfold maxLen; simp; omega) (by simp; omega) (by simp) ?_))
  intro v' w3 hown' hgrow hnil
  have hO3 : OwnInts w3 w.heap.size v' ([] ++ zs) := OwnInts.addAllC hown' (by rw [hn.out]; simp)
  have hB3 : Below w.heap.size w w3 := hB1.grown hgrow (by simp) (fun q hq => (hO1.lt q hq).1)
  go_wp2
  go_ret
  exact ⟨⟨v', rfl, hO3⟩, hB3⟩
end Go.Proofs.Ytfgnckafpnobhaa
