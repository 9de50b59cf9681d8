
/- Lines of words: their length, and the lines themselves. -/
import Derived.Test.YtnbppackijjohaaLf
namespace Go.Proofs.Ytnbppackijjohaa
open Go.RowKit

/-- the cells of the first k words -/
def sumTo (M : List (List Int)) (k : Nat) : Nat := ((M.take k).map List.length).sum
theorem sumTo_succ {M : List (List Int)} {k : Nat} (h : k < M.length) : sumTo M (k + 1) = sumTo M k + (M.getD k []).length := by
  unfold sumTo
  rw [take_succL [] M h, List.map_append, List.sum_append]
  simp
theorem pack_len {M : List (List Int)} (h : M ≠ []) : (pack M).length + 1 = M.length + sumTo M M.length := by
  unfold sumTo
  rw [List.take_length]
  cases M with
  | nil => exact absurd rfl h
  | cons x r =>
    have key : ∀ r : List (List Int), (r.flatMap fun y => (0 : Int) :: y).length = r.length + (r.map List.length).sum := by
      intro r
      induction r with
      | nil => rfl
      | cons y r ih => rw [List.flatMap_cons, List.length_append, List.length_cons, ih, List.map_cons, List.sum_cons, List.length_cons]; omega
    simp [pack, key]; omega
theorem UpLen {W : Int} {L : List (List Int)} (h : UpL (ItemW W) L L.length) (hW : W ≤ 40) : ∀ k, (L.getD k []).length ≤ 40 := fun k => by
  by_cases hk : k < L.length
  · have := (h k hk).2.1; omega
  · rw [List.getD_eq_getElem?_getD, List.getElem?_eq_none (by omega)]; simp
def Len40 (L : List (List Int)) : Prop := ∀ k, (L.getD k []).length ≤ 40
set_option maxHeartbeats 1000000 in
theorem i_lineLength (w : World) (v : Value) (M : List (List Int)) (hx : ListsAt w v M) (h0 : 0 < M.length) (h30 : M.length ≤ 30) (h40 : Hid (Len40 M)) (r : Int) (hr : Hid (((pack M).length : Int) = r)) :
    Calls Try.prog 61 #[v] w fun e w' => e = .returned (.int .i64 r) ∧ w = w' := by
  have HX := keptL hx
  obtain ⟨a, cp, rfl, x1, x2, _⟩ := hx
  obtain ⟨n, hn⟩ : ∃ n, M.length = n := ⟨_, rfl⟩
  rw [hn] at x1 HX h0 h30 ⊢
  have HN := Lib.hid hn
  clear hn
  go_enter Try.func61, Try.ntmps61
  go_wp2
  go_loop [3, 11] (fun s i => ∃ k S : Nat, k ≤ n ∧ i = .int .i64 k ∧ s = .int .i64 ((n : Int) - 1 + S) ∧ Hid (S = sumTo M k) ∧ S ≤ 40 * k) (fun _ i => n - (intOf i).toNat)
  case atStart => exact ⟨0, 0, Nat.zero_le _, rfl, by go_num, rfl, by omega⟩
  case round =>
    obtain ⟨k, S, hk, rfl, rfl, HS, hS⟩ := hrel
    by_cases hlt : k < n
    · obtain ⟨g, off, u, rfl, c1, hu⟩ := HX.out.someNth hlt
      obtain ⟨a3, c3, rfl, y1, y2, _⟩ := hu
      obtain ⟨m, hm⟩ : ∃ m, (M.getD k []).length = m := ⟨_, rfl⟩
      have hm40 : m ≤ 40 := by have := h40.out k; rw [hm] at this; exact this
      have HS' : Hid (S + m = sumTo M (k + 1)) := by
        show _ = _
        rw [sumTo_succ (by rw [HN.out]; exact hlt), hm, HS.out]
      rw [hm] at y1 c1
      clear hm HS
      go_wp2
      go_round
      case rel => exact ⟨k + 1, S + m, by omega, by go_num, by go_num, HS', by omega⟩
      case measure => simp [intOf]; omega
    · obtain rfl : k = n := by omega
      have HF : Hid ((k : Int) - 1 + S = r) := by
        show _ = _
        have hne : M ≠ [] := by intro e; have := HN.out; rw [e] at this; simp at this; omega
        have h1 := pack_len hne
        rw [HN.out, ← HS.out] at h1
        have h2 := hr.out
        omega
      clear HS hr
      go_wp2
      go_ret
      exact ⟨by rw [HF.out]; rfl, rfl⟩
/-- an append of a list that is there -/
theorem wpList_append_ints {ops : Array Oper} {rest : List Oper} {o : Oper} {a : Act} {w : World} {Q : Exit → Act → World → Prop} (hgd : o.guard = none) (s x : Operand)
    (ho : o.op = .call { callee := .builtin .append, args := #[s, x], argTypes := #[28, 28] }) (base : Nat) {v : Value} {b : Option Addr} {m c : Nat} {xs ys : List Int} (hs : a.eval s = v) (hx : a.eval x = .slice b m c)
    (h1 : OwnInts w base v xs) (h2 : IntsAt w (.slice b m c) ys) (hy : 0 < ys.length) (hl : xs.length + ys.length ≤ 1000000) (hbase : base ≤ w.heap.size)
    (h : ∀ v' w', OwnInts w' base v' (xs ++ ys) → w.grownBy w' v.ownBlock → wpList Try.prog ops Q rest (a.put o.dst v') w') : wpList Try.prog ops Q (o :: rest) a w := by
  obtain ⟨i0, hi, hz0, hz1, hz2⟩ := info_parts infoInt
  obtain ⟨a', c', e, e1, e2, h6⟩ := h2
  injection e with e3 e4 e5
  subst e3 e4 e5
  rcases h6 with rfl | ⟨g, off, rfl, h6⟩
  · simp at hy
  refine wpList_append_own w hgd s x 28 ho base 3 i0 (.int .i64 0) 1 8 Try.underlying28 hi hz0 hz1 hz2 rfl (by decide) v xs.length (ints xs) hs h1 ⟨g, off, none⟩ ys.length c (ints ys) hx (by rw [ints_length, Nat.mul_one]) ?_ (ints_oneCellC ys) (by unfold maxLen; omega) (by omega) hbase ?_
  · intro j u' hj
    have hjl : j < ys.length := by
      have := (List.getElem?_eq_some_iff.1 hj).1
      rw [ints_length] at this; exact this
    rw [Addr.add_lit, h6 j hjl]
    simp [ints, hjl] at hj
    rw [← hj]
    simp [List.getD_eq_getElem?_getD, hjl]
  · intro v' w' hown' hgrow hnil
    exact h v' w' (OwnInts.addAllC hown' rfl) hgrow
def MinL (M : List (List Int)) : Prop := ∀ k, k < M.length → 0 < (M.getD k []).length
/-- the call made a list -/
def IntsMade (R : List Int) (w : World) (e : Ending) (w' : World) : Prop := ∃ a n c, e = .returned (.slice a n c) ∧ OwnInts w' w.heap.size (.slice a n c) R ∧ Below w.heap.size w w'
theorem pack_le {M : List (List Int)} (h40 : Len40 M) (k : Nat) (hk : k ≤ M.length) : (pack (M.take k)).length ≤ 41 * k := by
  induction k with
  | zero => simp [pack]
  | succ k ih =>
    have h1 := ih (by omega)
    have h2 := h40 k
    by_cases e : k = 0
    · subst e; rw [pack_one (by omega)]; omega
    · rw [pack_more (by omega) (by omega), List.length_append, List.length_cons]; omega
theorem OwnInts.isSliceL {w : World} {S : Nat} {v : Value} {P : List Int} (h : OwnInts w S v P) : ∃ a c, v = .slice a P.length c := by
  rcases h.2 with ⟨rfl, hn⟩ | ⟨g, cap, cur, rfl, _⟩
  · exact ⟨none, 0, by rw [hn]⟩
  · exact ⟨_, _, rfl⟩
set_option maxHeartbeats 2000000 in
theorem i_lineOf (w : World) (v : Value) (M : List (List Int)) (hx : ListsAt w v M) (h30 : M.length ≤ 30) (h40 : Hid (Len40 M)) (h1 : Hid (MinL M)) :
    Calls Try.prog 42 #[v] w fun e w' => IntsMade (pack M) w e w' := by
  obtain ⟨i0, hi, hz0, hz1, hz2⟩ := info_parts infoInt
  have HX := keptL hx
  obtain ⟨a, cp, rfl, x1, x2, _⟩ := hx
  obtain ⟨n, hn⟩ : ∃ n, M.length = n := ⟨_, rfl⟩
  rw [hn] at x1 HX h30 ⊢
  have HN := Lib.hid hn
  clear hn
  have hO0 := OwnInts.nil w w.heap.size
  go_enter Try.func42, Try.ntmps42
  go_wp2
  go_loopw [3, 8] (fun o i wr => ∃ k : Nat, k ≤ n ∧ i = .int .i64 k ∧ OwnInts wr w.heap.size o (pack (M.take k)) ∧ Below w.heap.size w wr) (fun _ i _ => n - (intOf i).toNat)
  case atStart => exact ⟨0, Nat.zero_le _, rfl, hO0, Below.refl _ _⟩
  case round =>
    clear hO0
    obtain ⟨k, hk, rfl, hO, hB⟩ := hrel
    by_cases hlt : k < n
    · have HO := keptL hO
      have hsz := hB.size
      have HB := keptL hB
      have hlen : (pack (M.take k)).length ≤ 41 * k := pack_le h40.out k (by rw [HN.out]; exact hk)
      obtain ⟨g, off, u, rfl, c0, hu⟩ := HX.out.someNth hlt
      have c1 := (hB.cell (World.block_lt_of_cell? w _ c0)).trans c0
      obtain ⟨zs, hzs⟩ : ∃ zs, M.getD k [] = zs := ⟨_, rfl⟩
      rw [hzs] at hu
      clear c0
      have hz0' : 0 < zs.length := by rw [← hzs]; exact h1.out k (by rw [HN.out]; exact hlt)
      have hz40 : zs.length ≤ 40 := by rw [← hzs]; exact h40.out k
      have HU := keptL hu
      obtain ⟨a3, c3, rfl, y1, y2, _⟩ := hu
      obtain ⟨ao, co, hoo⟩ := hO.isSliceL
      subst hoo
      have b1 : (0 : Int) ≤ (k : Int) := by omega
      have b2 : (k : Int) < (n : Int) := by omega
      by_cases k0 : k = 0
      · subst k0
        rw [Nat.add_zero] at c1
        have HUr := keptL (HU.out.below HB.out)
        have HP : Hid (pack (M.take 0) ++ zs = pack (M.take 1)) := by
          show _ = _
          rw [pack_one (by rw [HN.out]; exact hlt), hzs]
          simp [pack]
        clear hzs hO hB
        go_wp2_with (at_builtin; go_loud (refine wpList_append_ints rfl _ _ rfl w.heap.size rfl rfl HO.out HUr.out hz0' (by omega) hsz ?_))
        intro v' w5 hown' hgrow
        have HO5 : Hid (OwnInts w5 w.heap.size v' (pack (M.take 1))) := by rw [← HP.out]; exact hown'
        have HB5 := keptL (HB.out.grown hgrow hsz (fun x hx => (HO.out.lt x hx).1))
        clear hown' hgrow
        go_wp2
        go_roundw
        case rel => exact ⟨1, by omega, by go_num, HO5.out, HB5.out⟩
        case measure => simp [intOf]; omega
      · have HP : Hid (pack (M.take k) ++ 0 :: zs = pack (M.take (k + 1))) := by
          show _ = _
          rw [pack_more (by rw [HN.out]; exact hlt) (by omega), hzs]
        have d0 : decide (0 < (k : Int)) = true := decide_eq_true (by omega)
        clear hzs hO hB
        go_wp2_with (at_builtin; go_loud (refine wpList_append_own _ rfl _ _ 28 rfl w.heap.size 3 i0 (.int .i64 0) 1 8 Try.underlying28 hi hz0 hz1 hz2 rfl (by decide) _ _ _ rfl (HO.out.alloc _) ⟨wr.heap.size, 0, none⟩ 1 1 [.int .i64 0] rfl rfl new_one one_cell (by unfold maxLen; omega) (by omega) (by simp; omega) ?_))
        intro v5 w5 hown5 hgrow5 hnil5
        have HO5 := keptL (OwnInts.snoc hown5)
        have HB5 := keptL (below_append HB.out hsz HO.out hgrow5)
        have HU5 := keptL (HU.out.below HB5.out)
        have hsz5 := HB5.out.size
        have hl5 : (pack (M.take k) ++ [0]).length + zs.length ≤ 1000000 := by rw [List.length_append, List.length_singleton]; omega
        clear hown5 hgrow5 hnil5
        go_wp2_with (at_builtin; go_loud (refine wpList_append_ints rfl _ _ rfl w.heap.size rfl rfl HO5.out HU5.out hz0' hl5 hsz5 ?_))
        intro v' w6 hown' hgrow
        have HO6 : Hid (OwnInts w6 w.heap.size v' (pack (M.take (k + 1)))) := by rw [← HP.out]; exact hown'
        have HB6 := keptL (HB5.out.grown hgrow hsz5 (fun x hx => (HO5.out.lt x hx).1))
        clear hown' hgrow
        go_wp2
        go_roundw
        case rel => exact ⟨k + 1, by omega, by go_num, HO6.out, HB6.out⟩
        case measure => simp [intOf]; omega
    · obtain rfl : k = n := by omega
      have HP : Hid (pack (M.take k) = pack M) := by show _ = _; rw [← HN.out, List.take_length]
      have HO := keptL hO
      have HB := keptL hB
      obtain ⟨ao, co, hoo⟩ := hO.isSliceL
      subst hoo
      clear hO hB
      go_wp2
      go_ret
      exact ⟨_, _, _, rfl, by rw [← HP.out]; exact HO.out, HB.out⟩
set_option maxHeartbeats 2000000 in
theorem s_pack (w : World) (v : Value) (M : List (List Int)) (hx : ListsAt w v M) (h30 : M.length ≤ 30) (h40 : Hid (Len40 M)) (h1 : Hid (MinL M)) :
    Calls Try.prog 45 #[v] w fun e w' => IntsMade (pack M) w e w' := by
  obtain ⟨i0, hi, hz0, hz1, hz2⟩ := info_parts infoInt
  have HX := keptL hx
  obtain ⟨a, cp, rfl, x1, x2, _⟩ := hx
  obtain ⟨n, hn⟩ : ∃ n, M.length = n := ⟨_, rfl⟩
  rw [hn] at x1 HX h30 ⊢
  have HN := Lib.hid hn
  clear hn
  have hO0 := OwnInts.made w w.heap.size (Nat.le_refl _)
  have hB0 : Below w.heap.size w (w.alloc (.cells #[] 3)) := (Below.refl _ _).alloc (Nat.le_refl _) _
  go_enter Try.func45, Try.ntmps45
  go_wp2
  go_loopw [3, 4] (fun o i wr => ∃ k : Nat, k ≤ n ∧ i = .int .i64 k ∧ OwnInts wr w.heap.size o (pack (M.take k)) ∧ Below w.heap.size w wr) (fun _ i _ => n - (intOf i).toNat)
  case atStart => exact ⟨0, Nat.zero_le _, rfl, hO0, hB0⟩
  case round =>
    clear hO0 hB0
    obtain ⟨k, hk, rfl, hO, hB⟩ := hrel
    by_cases hlt : k < n
    · have HO := keptL hO
      have hsz := hB.size
      have HB := keptL hB
      have hlen : (pack (M.take k)).length ≤ 41 * k := pack_le h40.out k (by rw [HN.out]; exact hk)
      obtain ⟨g, off, u, rfl, c0, hu⟩ := HX.out.someNth hlt
      have c1 := (hB.cell (World.block_lt_of_cell? w _ c0)).trans c0
      obtain ⟨zs, hzs⟩ : ∃ zs, M.getD k [] = zs := ⟨_, rfl⟩
      rw [hzs] at hu
      have C0 := keptL c0
      clear c0
      have hz0' : 0 < zs.length := by rw [← hzs]; exact h1.out k (by rw [HN.out]; exact hlt)
      have hz40 : zs.length ≤ 40 := by rw [← hzs]; exact h40.out k
      have HU := keptL hu
      obtain ⟨a3, c3, rfl, y1, y2, _⟩ := hu
      obtain ⟨ao, co, hoo⟩ := hO.isSliceL
      subst hoo
      have b1 : (0 : Int) ≤ (k : Int) := by omega
      have b2 : (k : Int) < (n : Int) := by omega
      by_cases k0 : k = 0
      · subst k0
        rw [Nat.add_zero] at c1
        have HUr := keptL (HU.out.below HB.out)
        have HP : Hid (pack (M.take 0) ++ zs = pack (M.take 1)) := by
          show _ = _
          rw [pack_one (by rw [HN.out]; exact hlt), hzs]
          simp [pack]
        clear hzs hO hB
        go_wp2_with (at_builtin; go_loud (refine wpList_append_ints rfl _ _ rfl w.heap.size rfl rfl HO.out HUr.out hz0' (by omega) hsz ?_))
        intro v' w5 hown' hgrow
        have HO5 : Hid (OwnInts w5 w.heap.size v' (pack (M.take 1))) := by rw [← HP.out]; exact hown'
        have HB5 := keptL (HB.out.grown hgrow hsz (fun x hx => (HO.out.lt x hx).1))
        clear hown' hgrow
        go_wp2
        go_roundw
        case rel => exact ⟨1, by omega, by go_num, HO5.out, HB5.out⟩
        case measure => simp [intOf]; omega
      · have HP : Hid (pack (M.take k) ++ 0 :: zs = pack (M.take (k + 1))) := by
          show _ = _
          rw [pack_more (by rw [HN.out]; exact hlt) (by omega), hzs]
        have d0 : decide (0 < (k : Int)) = true := decide_eq_true (by omega)
        clear hzs hO hB
        go_wp2_with (at_builtin; go_loud (refine wpList_append_own _ rfl _ _ 28 rfl w.heap.size 3 i0 (.int .i64 0) 1 8 Try.underlying28 hi hz0 hz1 hz2 rfl (by decide) _ _ _ rfl (HO.out.alloc _) ⟨wr.heap.size, 0, none⟩ 1 1 [.int .i64 0] rfl rfl new_one one_cell (by unfold maxLen; omega) (by omega) (by simp; omega) ?_))
        intro v5 w5 hown5 hgrow5 hnil5
        have HO5 := keptL (OwnInts.snoc hown5)
        have HB5 := keptL (below_append HB.out hsz HO.out hgrow5)
        have HU5 := keptL (HU.out.below HB5.out)
        have hsz5 := HB5.out.size
        have c5 := (HB5.out.cell (World.block_lt_of_cell? w _ C0.out)).trans C0.out
        have hl5 : (pack (M.take k) ++ [0]).length + zs.length ≤ 1000000 := by rw [List.length_append, List.length_singleton]; omega
        clear hown5 hgrow5 hnil5
        go_wp2_with (at_builtin; go_loud (refine wpList_append_ints rfl _ _ rfl w.heap.size rfl rfl HO5.out HU5.out hz0' hl5 hsz5 ?_))
        intro v' w6 hown' hgrow
        have HO6 : Hid (OwnInts w6 w.heap.size v' (pack (M.take (k + 1)))) := by rw [← HP.out]; exact hown'
        have HB6 := keptL (HB5.out.grown hgrow hsz5 (fun x hx => (HO5.out.lt x hx).1))
        clear hown' hgrow
        go_wp2
        go_roundw
        case rel => exact ⟨k + 1, by omega, by go_num, HO6.out, HB6.out⟩
        case measure => simp [intOf]; omega
    · obtain rfl : k = n := by omega
      have HP : Hid (pack (M.take k) = pack M) := by show _ = _; rw [← HN.out, List.take_length]
      have HO := keptL hO
      have HB := keptL hB
      obtain ⟨ao, co, hoo⟩ := hO.isSliceL
      subst hoo
      clear hO hB
      go_wp2
      go_ret
      exact ⟨_, _, _, rfl, by rw [← HP.out]; exact HO.out, HB.out⟩
end Go.Proofs.Ytnbppackijjohaa
