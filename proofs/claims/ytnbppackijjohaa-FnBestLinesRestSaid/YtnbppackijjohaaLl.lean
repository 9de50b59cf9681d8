
/- The words of lines: the program. -/
import Derived.Test.YtnbppackijjohaaLi
import Derived.Laws.AppendOwnNone
namespace Go.Proofs.Ytnbppackijjohaa
open Go.RowKit

/-- an append of all of a row -/
theorem wpList_append_lss {ops : Array Oper} {rest : List Oper} {o : Oper} {a : Act} {w : World} {Q : Exit → Act → World → Prop} (hgd : o.guard = none) (s x : Operand)
    (ho : o.op = .call { callee := .builtin .append, args := #[s, x], argTypes := #[23, 23] }) (base b2 : Nat) {v u : Value} {P R : List (List Int)} (hs : a.eval s = v) (hx : a.eval x = u)
    (h1 : OwnLs w base 0 v P) (h2 : OwnLs w b2 0 u R) (hl : P.length + R.length ≤ 100000) (hbase : base ≤ w.heap.size)
    (h : ∀ v' w', OwnLs w' base 0 v' (P ++ R) → w.grownBy w' v.ownBlock → wpList Try.prog ops Q rest (a.put o.dst v') w') : wpList Try.prog ops Q (o :: rest) a w := by
  obtain ⟨i0, hi, hz0, hz1, hz2⟩ := info_parts infoLs
  have hrow := h1.row
  have H1 := h1
  obtain ⟨k0, us, k1, k2, k3⟩ := h1
  obtain ⟨_, us2, j1, j2, j3⟩ := h2
  have hrow' : ∀ k, v.ownBlock = some k → 0 ≤ k ∧ ∃ cur, w.heap[k]? = some (.cells cur 28 (0, 0)) := fun k hk => ⟨Nat.zero_le _, (hrow k hk).2⟩
  rcases j1.2 with ⟨hv, hn⟩ | ⟨g, cap, cur, hv, hb, hg, e1, e2, e3, e4⟩
  · have : R = [] := List.length_eq_zero_iff.1 hn
    subst this hv
    exact wpList_append_own_none hgd s x 23 ho base 28 i0 1 Try.underlying23 hi v _ us hs k1 hx (h v w (by rw [List.append_nil]; exact H1) (World.grownBy.refl w _))
  · subst hv
    have hcs := j1.cells (g := g) (by simp [Value.ownBlock])
    refine wpList_append_own w hgd s x 23 ho base 28 i0 (.slice none 0 0) 1 24 Try.underlying23 hi hz0 hz1 hz2 rfl (by decide) v P.length us hs k1 ⟨g, 0, none⟩ R.length cap us2 hx (by omega) ?_ ?_ (by unfold maxLen; omega) (by omega) hbase ?_
    · intro j u' hj
      exact hcs j u' hj
    · intro u' hu'
      obtain ⟨i, hi2, rfl⟩ := List.getElem_of_mem hu'
      obtain ⟨u3, h4, h5⟩ := j3 i (by omega)
      rw [List.getElem?_eq_getElem hi2] at h4
      injection h4 with h4
      rw [h4]
      obtain ⟨_, _, e, _⟩ := h5.1
      rw [e]; rfl
    · intro v' w' hown hgrow hnil
      refine h v' w' ⟨k0, us ++ us2, ?_, by simp [k2, j2], fun i hi => ?_⟩ hgrow
      · rw [List.length_append]; exact hown
      · rw [List.length_append] at hi
        by_cases hip : i < P.length
        · obtain ⟨u', k4, k5⟩ := k3 i hip
          refine ⟨u', by rw [List.getElem?_append_left (by omega)]; exact k4, ?_⟩
          have e : (P ++ R).getD i [] = P.getD i [] := by rw [List.getD_eq_getElem?_getD, List.getElem?_append_left hip, ← List.getD_eq_getElem?_getD]
          rw [e]
          exact k5.kept hgrow hrow'
        · obtain ⟨u', k4, k5⟩ := j3 (i - P.length) (by omega)
          refine ⟨u', by rw [List.getElem?_append_right (by omega), k2]; exact k4, ?_⟩
          have e : (P ++ R).getD i [] = R.getD (i - P.length) [] := by rw [List.getD_eq_getElem?_getD, List.getElem?_append_right (by omega), ← List.getD_eq_getElem?_getD]
          rw [e]
          exact k5.kept hgrow hrow'
def WSt (line : List Int) (k : Nat) (P : List (List Int)) (z : List Int) : Prop := (line.take k).foldl wStep ([], []) = (P, z)
theorem WSt.zero (line : List Int) : WSt line 0 [] [] := rfl
theorem WSt.add {line : List Int} {k : Nat} {P : List (List Int)} {z : List Int} {c : Int} (h : WSt line k P z) (hk : k < line.length) (hc : line.getD k 0 = c) (h0 : c ≠ 0) : WSt line (k + 1) P (z ++ [c]) := by
  unfold WSt at h ⊢
  rw [fold_succ line hk, h, hc]
  simp [wStep, h0]
theorem WSt.skip {line : List Int} {k : Nat} {P : List (List Int)} (h : WSt line k P []) (hk : k < line.length) (hc : line.getD k 0 = 0) : WSt line (k + 1) P [] := by
  unfold WSt at h ⊢
  rw [fold_succ line hk, h, hc]
  simp [wStep]
theorem WSt.push {line : List Int} {k : Nat} {P : List (List Int)} {z : List Int} (h : WSt line k P z) (hk : k < line.length) (hc : line.getD k 0 = 0) (hz : z ≠ []) : WSt line (k + 1) (P ++ [z]) [] := by
  unfold WSt at h ⊢
  rw [fold_succ line hk, h, hc]
  simp [wStep, hz]
theorem WSt.end0 {line : List Int} {k : Nat} {P : List (List Int)} (h : WSt line k P []) (hk : line.length ≤ k) : wol line = P := by
  unfold WSt at h
  rw [List.take_of_length_le hk] at h
  unfold wol
  rw [h]; simp [wEnd]
theorem WSt.end1 {line : List Int} {k : Nat} {P : List (List Int)} {z : List Int} (h : WSt line k P z) (hk : line.length ≤ k) (hz : z ≠ []) : wol line = P ++ [z] := by
  unfold WSt at h
  rw [List.take_of_length_le hk] at h
  unfold wol
  rw [h]; simp [wEnd, hz]
set_option maxHeartbeats 2000000 in
theorem i_wordsOfLine (w : World) (u : Value) (line : List Int) (hx : IntsAt w u line) (hn : line.length ≤ 1000) :
    Calls Try.prog 47 #[u] w fun e w' => LsOut (wol line) w e w' := by
  obtain ⟨i0, hi, hz0, hz1, hz2⟩ := info_parts infoInt
  obtain ⟨a, cp, rfl, x1, x2, x3⟩ := hx
  obtain ⟨n, hln⟩ : ∃ n, line.length = n := ⟨_, rfl⟩
  rw [hln] at x1 x3 hn ⊢
  have HN := Lib.hid hln
  clear hln
  have hO0 := OwnLs.nil w w.heap.size 0 (Nat.zero_le _)
  have hI0 := OwnInts.nil w w.heap.size
  go_enter Try.func47, Try.ntmps47
  go_wp2
  go_loopw [3, 4, 9] (fun o z' i wr => ∃ (k : Nat) (P : List (List Int)) (z : List Int) (wm : World), k ≤ n ∧ i = .int .i64 k ∧ Hid (WSt line k P z) ∧ Hid (OwnLs wm w.heap.size 0 o P) ∧ Hid (Below w.heap.size w wm) ∧ Hid (Below wm.heap.size wm wr) ∧ Hid (OwnInts wr wm.heap.size z' z) ∧ P.length + z.length ≤ k) (fun _ _ i _ => n - (intOf i).toNat)
  case atStart => exact ⟨0, [], [], w, Nat.zero_le _, rfl, WSt.zero _, hO0, Below.refl _ _, Below.refl _ _, hI0, by simp⟩
  case round =>
    clear hO0 hI0
    obtain ⟨k, P, z, wm, hk, rfl, HS, HO, HB, HB2, HI, hlen⟩ := hrel
    obtain ⟨ao, no, co, hoo⟩ := HO.out.isSlice
    subst hoo
    obtain ⟨az, cz, hoo⟩ := HI.out.isSliceL
    subst hoo
    have hsz := HB2.out.size
    have hszw := HB.out.size
    have HBW := keptL (below_nextL HB.out hszw HB2.out)
    obtain ⟨m, hm⟩ : ∃ m, z.length = m := ⟨_, rfl⟩
    rw [hm] at HI hlen ⊢
    have HM := Lib.hid hm
    clear hm
    by_cases hlt : k < n
    · rcases x3 with rfl | ⟨g, off, rfl, x3⟩
      · exact absurd HN.out (by simp; omega)
      have cx := x3 k hlt
      have cx := (HBW.out.cell (World.block_lt_of_cell? w _ cx)).trans cx
      obtain ⟨y, hy⟩ : ∃ y, line.getD k 0 = y := ⟨_, rfl⟩
      rw [hy] at cx
      have HY := Lib.hid hy
      have b1 : (0 : Int) ≤ (k : Int) := by omega
      have b2 : (k : Int) < (n : Int) := by omega
      clear hy x3
      by_cases e : y = 0
      · subst e
        by_cases hm0 : m = 0
        · subst hm0
          have HS' : Hid (WSt line (k + 1) P z) := by
            have hz : z = [] := List.length_eq_zero_iff.1 HM.out
            subst hz
            exact HS.out.skip (by rw [HN.out]; exact hlt) HY.out
          clear HS
          go_wp2
          go_roundw
          case rel => exact ⟨k + 1, P, z, wm, by omega, by go_num, HS', HO, HB, HB2, HI, by rw [HM.out]; omega⟩
          case measure => simp [intOf]; omega
        · have HS' : Hid (WSt line (k + 1) (P ++ [z]) []) := HS.out.push (by rw [HN.out]; exact hlt) HY.out (by intro h; have := HM.out; rw [h] at this; simp at this; omega)
          have d0 : decide (0 < (m : Int)) = true := decide_eq_true (by omega)
          have HOr := keptL (HO.out.below HB2.out)
          clear HS
          have hal : Below wr.heap.size wr (wr.alloc (.cells #[.slice az m cz] 28)) := (Below.refl _ _).alloc (Nat.le_refl _) _
          have HO8 := keptL (HOr.out.below hal)
          have HE8 : Hid (ElOk (wr.alloc (.cells #[.slice az m cz] 28)) 0 (.slice az m cz) z) := ElOk.of_own (HI.out.below hal)
          have HC8 : Hid ((wr.alloc (.cells #[.slice az m cz] 28)).cell? ⟨wr.heap.size, 0, none⟩ = some (.slice az m cz)) := by
            show _ = _
            rw [cell_of_row _ wr.heap.size 0 _ _ _ (heap_alloc_new wr _)]; rfl
          have HS8 : Hid (P.length ≤ 100000 ∧ w.heap.size ≤ (wr.alloc (.cells #[.slice az m cz] 28)).heap.size) := ⟨by omega, Nat.le_trans (Nat.le_trans hszw hsz) hal.size⟩
          clear hal
          go_wp2_with (at_builtin; go_loud (refine wpList_append_ls rfl _ _ rfl w.heap.size 0 wr.heap.size z rfl rfl HO8.out HC8.out HE8.out rfl HS8.out.1 HS8.out.2 ?_))
          intro v9 w9 hown9 hgrow9
          have HO9 := keptL hown9
          have HB9 := keptL (grown_ls HBW.out (Nat.le_trans hszw hsz) HOr.out hgrow9)
          have HB10 : Hid (Below w9.heap.size w9 (w9.alloc (.cells #[] 3))) := (Below.refl _ _).alloc (Nat.le_refl _) _
          have HI10 : Hid (OwnInts (w9.alloc (.cells #[] 3)) w9.heap.size (.slice (some ⟨w9.heap.size, 0, none⟩) 0 0) []) := OwnInts.made w9 w9.heap.size (Nat.le_refl _)
          have hl9 : (P ++ [z]).length + ([] : List Int).length ≤ k + 1 := by rw [List.length_append, List.length_singleton, List.length_nil]; omega
          clear hown9 hgrow9
          go_wp2
          go_roundw
          case rel => exact ⟨k + 1, P ++ [z], [], w9, by omega, by go_num, HS', HO9, HB9, HB10, HI10, hl9⟩
          case measure => simp [intOf]; omega
      · have e1 : (y != 0) = true := by simpa using e
        have HS' : Hid (WSt line (k + 1) P (z ++ [y])) := HS.out.add (by rw [HN.out]; exact hlt) HY.out e
        have hzl : z.length ≤ 1000 := by have := HM.out; omega
        have HI' : Hid (OwnInts wr wm.heap.size (.slice az m cz) z) := HI
        clear HS e
        go_wp2_with (at_builtin; go_loud (refine wpList_append_own _ rfl _ _ 28 rfl wm.heap.size 3 i0 (.int .i64 0) 1 8 Try.underlying28 hi hz0 hz1 hz2 rfl (by decide) _ _ _ rfl (HI.out.alloc _) ⟨wr.heap.size, 0, none⟩ 1 1 [.int .i64 y] rfl rfl new_one one_cell (by unfold maxLen; omega) (by omega) (by simp; omega) ?_))
        intro v5 w5 hown5 hgrow5 hnil5
        have HI5 := keptL (OwnInts.snoc hown5)
        have HB5 := keptL (below_append HB2.out hsz HI.out hgrow5)
        clear hown5 hgrow5 hnil5
        go_wp2
        go_roundw
        case rel => exact ⟨k + 1, P, z ++ [y], wm, by omega, by go_num, HS', HO, HB, HB5, HI5, by rw [List.length_append, List.length_singleton, HM.out]; omega⟩
        case measure => simp [intOf]; omega
    · obtain rfl : k = n := by omega
      have HOr := keptL (HO.out.below HB2.out)
      by_cases hm0 : m = 0
      · subst hm0
        have HF : Hid (wol line = P) := by
          have hz : z = [] := List.length_eq_zero_iff.1 HM.out
          subst hz
          exact HS.out.end0 (by rw [HN.out]; omega)
        clear HS
        go_wp2
        go_ret
        exact ⟨_, _, _, rfl, by rw [HF.out]; exact HOr.out, HBW.out⟩
      · have HF : Hid (P ++ [z] = wol line) := (HS.out.end1 (by rw [HN.out]; omega) (by intro h; have := HM.out; rw [h] at this; simp at this; omega)).symm
        have d0 : decide (0 < (m : Int)) = true := decide_eq_true (by omega)
        clear HS
        have hal : Below wr.heap.size wr (wr.alloc (.cells #[.slice az m cz] 28)) := (Below.refl _ _).alloc (Nat.le_refl _) _
        have HO8 := keptL (HOr.out.below hal)
        have HE8 : Hid (ElOk (wr.alloc (.cells #[.slice az m cz] 28)) 0 (.slice az m cz) z) := ElOk.of_own (HI.out.below hal)
        have HC8 : Hid ((wr.alloc (.cells #[.slice az m cz] 28)).cell? ⟨wr.heap.size, 0, none⟩ = some (.slice az m cz)) := by
          show _ = _
          rw [cell_of_row _ wr.heap.size 0 _ _ _ (heap_alloc_new wr _)]; rfl
        have HS8 : Hid (P.length ≤ 100000 ∧ w.heap.size ≤ (wr.alloc (.cells #[.slice az m cz] 28)).heap.size) := ⟨by omega, Nat.le_trans (Nat.le_trans hszw hsz) hal.size⟩
        clear hal
        go_wp2_with (at_builtin; go_loud (refine wpList_append_ls rfl _ _ rfl w.heap.size 0 wr.heap.size z rfl rfl HO8.out HC8.out HE8.out rfl HS8.out.1 HS8.out.2 ?_))
        intro v9 w9 hown9 hgrow9
        obtain ⟨a9, n9, c9, h9⟩ := hown9.isSlice
        subst h9
        have HO9 : Hid (OwnLs w9 w.heap.size 0 (.slice a9 n9 c9) (wol line)) := by rw [← HF.out]; exact hown9
        have HB9 := keptL (grown_ls HBW.out (Nat.le_trans hszw hsz) HOr.out hgrow9)
        clear hown9 hgrow9
        go_wp2
        go_ret
        exact ⟨_, _, _, rfl, HO9.out, HB9.out⟩
end Go.Proofs.Ytnbppackijjohaa
