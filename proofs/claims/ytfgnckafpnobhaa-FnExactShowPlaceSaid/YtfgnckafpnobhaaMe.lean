
/- Lists of lists that own all their memory: marks written into them, and a copy of lists. -/
import Derived.Test.YtfgnckafpnobhaaCb
import Derived.Test.YtfgnckafpnobhaaCj
namespace Go.Proofs.Ytfgnckafpnobhaa
open Go.RowKit

theorem keptM {p : Prop} (h : p) : Hid p := h
theorem row_of_block {w w' : World} {base size n : Nat} {e : TypeId} {v : Value} {xs : List Value} (h : w.ownsRow base e size v n xs) (hk : ∀ k, v.ownBlock = some k → w'.heap[k]? = w.heap[k]?) : w'.ownsRow base e size v n xs := by
  rcases h with ⟨h0, ⟨hv, hn⟩ | ⟨g, cap, cur, hv, hb, hg, h1, h2, h3, h4⟩⟩
  · exact ⟨h0, .inl ⟨hv, hn⟩⟩
  · exact ⟨h0, .inr ⟨g, cap, cur, hv, hb, (hk g (by rw [hv]; rfl)).trans hg, h1, h2, h3, h4⟩⟩
theorem OwnInts.typ {w : World} {base b n c : Nat} {zs : List Int} (h : OwnInts w base (.slice (some ⟨b, 0, none⟩) n c) zs) : base ≤ b ∧ ∃ cur, w.heap[b]? = some (.cells cur 3 (0, 0)) := by
  rcases h.2 with ⟨hv, _⟩ | ⟨g, cap, cur, hv, hb, hg, _⟩
  · injection hv with hv _ _; exact absurd hv (by simp)
  · injection hv with hv _ _
    injection hv with hv
    injection hv with hv _ _
    subst hv
    exact ⟨hb, cur, hg⟩
/-- the slice value v owns a row, and each list in it its own numbers; all blocks lie from base to top -/
def OwnLL (w : World) (base top : Nat) (v : Value) (L : List (List Int)) : Prop :=
  top ≤ w.heap.size ∧ (∀ b, v.ownBlock = some b → b < top) ∧ ∃ (us : List Value) (B C : Nat → Nat), w.ownsRow base 23 1 v L.length us ∧
    (∀ i, i < L.length → us[i]? = some (.slice (some ⟨B i, 0, none⟩) (L.getD i []).length (C i)) ∧ OwnInts w base (.slice (some ⟨B i, 0, none⟩) (L.getD i []).length (C i)) (L.getD i []) ∧ B i < top) ∧
    ∀ i j, i < j → j < L.length → B i ≠ B j
theorem OwnLL.ls {w : World} {base top : Nat} {v : Value} {L : List (List Int)} (h : OwnLL w base top v L) : OwnLs w base 0 v L := by
  obtain ⟨_, _, us, B, C, h1, h2, _⟩ := h
  exact ⟨Nat.zero_le _, us, h1, by have := h1.1; omega, fun i hi => ⟨_, (h2 i hi).1, ElOk.of_own (h2 i hi).2.1⟩⟩
theorem OwnLL.blocks {w w' : World} {base top : Nat} {v : Value} {L : List (List Int)} (h : OwnLL w base top v L) (hs : w.heap.size ≤ w'.heap.size) (hk : ∀ k, base ≤ k → k < top → w'.heap[k]? = w.heap[k]?) : OwnLL w' base top v L := by
  obtain ⟨h0, hv, us, B, C, h1, h2, h3⟩ := h
  refine ⟨Nat.le_trans h0 hs, hv, us, B, C, row_of_block h1 fun k hb => hk k (h1.lt k hb).1 (hv k hb), fun i hi => ?_, h3⟩
  obtain ⟨h4, h5, h6⟩ := h2 i hi
  exact ⟨h4, row_of_block h5 fun k hb => hk k (h5.lt k hb).1 (by simp [Value.ownBlock] at hb; omega), h6⟩
theorem OwnLL.below {w w' : World} {base top B : Nat} {v : Value} {L : List (List Int)} (h : OwnLL w base top v L) (hb : Below B w w') (ht : top ≤ B) : OwnLL w' base top v L :=
  h.blocks hb.size fun k _ hk => hb.block k (by omega)
theorem OwnLL.nil (w : World) (base : Nat) : OwnLL w base w.heap.size (.slice none 0 0) [] :=
  ⟨Nat.le_refl _, fun b h => by simp [Value.ownBlock] at h, [], fun _ => 0, fun _ => 0, World.ownsRow_nil _ _ _ _, fun i h => absurd h (by simp), fun i j _ h => absurd h (by simp)⟩
theorem OwnLL.top {w : World} {base top top' : Nat} {v : Value} {L : List (List Int)} (h : OwnLL w base top v L) (h1 : top ≤ top') (h2 : top' ≤ w.heap.size) : OwnLL w base top' v L := by
  obtain ⟨_, hv, us, B, C, k1, k2, k3⟩ := h
  exact ⟨h2, fun b hb => Nat.lt_of_lt_of_le (hv b hb) h1, us, B, C, k1, fun i hi => ⟨(k2 i hi).1, (k2 i hi).2.1, Nat.lt_of_lt_of_le (k2 i hi).2.2 h1⟩, k3⟩
theorem OwnInts.lowerM {w : World} {B B' : Nat} {v : Value} {zs : List Int} (h : OwnInts w B v zs) (hB : B' ≤ B) : OwnInts w B' v zs := by
  rcases h with ⟨h0, ⟨hv, hn⟩ | ⟨g, cap, cur, hv, hb, rest⟩⟩
  · exact ⟨h0, .inl ⟨hv, hn⟩⟩
  · exact ⟨h0, .inr ⟨g, cap, cur, hv, Nat.le_trans hB hb, rest⟩⟩
/-- behind an append of one list that was made behind all the others -/
theorem wpList_append_ll {ops : Array Oper} {rest : List Oper} {o : Oper} {a : Act} {w : World} {Q : Exit → Act → World → Prop} (hgd : o.guard = none) (s x : Operand)
    (ho : o.op = .call { callee := .builtin .append, args := #[s, x], argTypes := #[85, 85] }) (base top g b n c : Nat) {v : Value} {P : List (List Int)} (zs : List Int) (hs : a.eval s = v) (hx : a.eval x = .slice (some ⟨g, 0, none⟩) 1 1)
    (h1 : OwnLL w base top v P) (h2 : w.cell? ⟨g, 0, none⟩ = some (.slice (some ⟨b, 0, none⟩) n c)) (h3 : OwnInts w top (.slice (some ⟨b, 0, none⟩) n c) zs) (hn : zs.length = n) (hl : P.length ≤ 100000) (hbase : base ≤ top)
    (h : ∀ v' w', OwnLL w' base w'.heap.size v' (P ++ [zs]) → w.grownBy w' v.ownBlock → wpList Try.prog ops Q rest (a.put o.dst v') w') : wpList Try.prog ops Q (o :: rest) a w := by
  obtain ⟨i0, hi, hz0, hz1, hz2⟩ := info_parts infoLs
  have hrow := h1.ls.row
  obtain ⟨k0, kv, us, B, C, k1, k2, k3⟩ := h1
  have hul : us.length = P.length := by have := k1.1; omega
  refine wpList_append_own w hgd s x 85 ho base 23 i0 (.slice none 0 0) 1 24 Try.underlying85 hi hz0 hz1 hz2 rfl (by decide) v P.length us hs k1 ⟨g, 0, none⟩ 1 1 [.slice (some ⟨b, 0, none⟩) n c] hx rfl ?_ ?_ (by unfold maxLen; omega) (by omega) (by omega) ?_
  · intro j u' hj
    rw [Addr.add_lit]
    match j, hj with
    | 0, hj => simp at hj; subst hj; exact h2
  · intro u' hu'
    simp at hu'
    subst hu'
    rfl
  · intro v' w' hown hgrow hnil
    have hne : ∀ (b n c base : Nat) (ys : List Int), OwnInts w base (.slice (some ⟨b, 0, none⟩) n c) ys → OwnInts w' base (.slice (some ⟨b, 0, none⟩) n c) ys := fun b n c base ys hb => hb.kept hgrow (.inr fun e => by
      obtain ⟨_, cur', h5⟩ := hb.typ
      obtain ⟨_, cur, h6⟩ := hrow b e.symm
      rw [h5] at h6
      injection h6 with h6
      injection h6 with _ h6 _
      exact absurd h6 (by decide))
    have hbt := (h3.lt b rfl)
    refine h v' w' ⟨Nat.le_refl _, fun k hk => ?_, us ++ [.slice (some ⟨b, 0, none⟩) n c], fun i => if i < P.length then B i else b, fun i => if i < P.length then C i else c, ?_, fun i hi => ?_, fun i j hij hj => ?_⟩ hgrow
    · exact (hown.lt k hk).2
    · rw [List.length_append]; exact hown
    · rw [List.length_append] at hi
      by_cases hip : i < P.length
      · obtain ⟨k4, k5, k6⟩ := k2 i hip
        have e : (P ++ [zs]).getD i [] = P.getD i [] := by rw [List.getD_eq_getElem?_getD, List.getElem?_append_left hip, ← List.getD_eq_getElem?_getD]
        simp only [hip, if_true]
        rw [e]
        exact ⟨by rw [List.getElem?_append_left (by omega)]; exact k4, hne _ _ _ _ _ k5, by have := hgrow.size; omega⟩
      · obtain rfl : i = P.length := by simp at hi; omega
        have e : (P ++ [zs]).getD P.length [] = zs := by simp [List.getD_eq_getElem?_getD]
        simp only [Nat.lt_irrefl, if_false]
        rw [e, hn]
        exact ⟨by rw [List.getElem?_append_right (by omega), hul]; simp, (hne _ _ _ _ _ h3).lowerM hbase, by have := hgrow.size; omega⟩
    · rw [List.length_append, List.length_singleton] at hj
      have hip : i < P.length := by omega
      simp only [hip, if_true]
      by_cases hjp : j < P.length
      · simp only [hjp, if_true]; exact k3 i j hij hjp
      · simp only [hjp, if_false]
        have := (k2 i hip).2.2
        omega
/-- one list of a row, and what changing its numbers leaves -/
theorem OwnLL.nth {w : World} {base top n c : Nat} {a : Option Addr} {L : List (List Int)} (h : OwnLL w base top (.slice a n c) L) {i : Nat} (hi : i < n) :
    ∃ g b d, a = some ⟨g, 0, none⟩ ∧ n = L.length ∧ w.cell? ⟨g, i, none⟩ = some (.slice (some ⟨b, 0, none⟩) (L.getD i []).length d) ∧ OwnInts w base (.slice (some ⟨b, 0, none⟩) (L.getD i []).length d) (L.getD i []) ∧ base ≤ b ∧ b < top ∧
      ∀ w2 ys, ys.length = (L.getD i []).length → OwnInts w2 base (.slice (some ⟨b, 0, none⟩) (L.getD i []).length d) ys → w.grownBy w2 (some b) → OwnLL w2 base top (.slice a n c) (L.set i ys) := by
  have H := h
  obtain ⟨k0, kv, us, B, C, k1, k2, k3⟩ := h
  have hc := k1
  rcases k1.2 with ⟨hv, hn⟩ | ⟨g, cap, cur, hv, hgb, hgg, _⟩
  · injection hv with _ e _; omega
  · injection hv with e1 e2 e3
    subst e1 e2 e3
    obtain ⟨k4, k5, k6⟩ := k2 i hi
    have := hc.cells (g := g) (by simp [Value.ownBlock]) i _ k4
    rw [show (⟨g, 0, none⟩ : Addr).add i = ⟨g, 0 + i, none⟩ from by unfold Addr.add; split <;> simp_all, Nat.zero_add] at this
    refine ⟨g, B i, C i, rfl, rfl, this, k5, k5.typ.1, k6, fun w2 ys hy hO hg => ?_⟩
    have hgi : g ≠ B i := fun e => by
      obtain ⟨_, cur', h5⟩ := k5.typ
      rw [← e, hgg] at h5
      injection h5 with h5
      injection h5 with _ h5 _
      exact absurd h5 (by decide)
    refine ⟨Nat.le_trans k0 hg.size, kv, us, B, C, ?_, fun j hj => ?_, fun p q hpq hq => ?_⟩
    · rw [List.length_set]
      exact hc.kept hg (.inr fun e => by simp [Value.ownBlock] at e; exact hgi e)
    · rw [List.length_set] at hj
      obtain ⟨j4, j5, j6⟩ := k2 j hj
      by_cases e : i = j
      · subst e
        have e2 : (L.set i ys).getD i [] = ys := by rw [List.getD_eq_getElem?_getD, List.getElem?_set_self hj]; rfl
        rw [e2, hy]
        exact ⟨j4, hO, j6⟩
      · have e2 : (L.set i ys).getD j [] = L.getD j [] := by rw [List.getD_eq_getElem?_getD, List.getElem?_set_ne e, ← List.getD_eq_getElem?_getD]
        rw [e2]
        refine ⟨j4, j5.kept hg (.inr fun e3 => ?_), j6⟩
        have e4 : B j = B i := by simp [Value.ownBlock] at e3; exact e3
        rcases Nat.lt_or_gt_of_ne e with h6 | h6
        · exact k3 i j h6 hj e4.symm
        · exact k3 j i h6 hi e4
    · rw [List.length_set] at hq
      exact k3 p q hpq hq
/-- nothing but blocks from g to B has changed -/
def MidL (g B : Nat) (w w' : World) : Prop := w'.os = w.os ∧ w'.tape = w.tape ∧ w'.output = w.output ∧ w.heap.size ≤ w'.heap.size ∧ ∀ k, k < w.heap.size → (k < g ∨ B ≤ k) → w'.heap[k]? = w.heap[k]?
theorem MidL.refl (g B : Nat) (w : World) : MidL g B w w := ⟨rfl, rfl, rfl, Nat.le_refl _, fun _ _ _ => rfl⟩
theorem MidL.by {g B b : Nat} {w a c : World} (h : MidL g B w a) (k : a.grownBy c (some b)) (h1 : g ≤ b) (h2 : b < B) : MidL g B w c :=
  ⟨k.os.trans h.1, k.tape.trans h.2.1, k.output.trans h.2.2.1, Nat.le_trans h.2.2.2.1 k.size, fun i hi hne => (k.block i (Nat.lt_of_lt_of_le hi h.2.2.2.1) (fun e => by injection e with e; omega)).trans (h.2.2.2.2 i hi hne)⟩
theorem MidL.below {g B C : Nat} {w a b : World} (h : Below C w a) (k : MidL g B a b) (hC : C ≤ g) (hs : C ≤ a.heap.size) : Below C w b :=
  ⟨k.1.trans h.os, k.2.1.trans h.tape, k.2.2.1.trans h.output, Nat.le_trans h.size k.2.2.2.1, fun i hi => (k.2.2.2.2 i (by omega) (.inl (by omega))).trans (h.block i hi)⟩
set_option maxHeartbeats 1000000 in
theorem markIntS_gL (w : World) (base b n cap : Nat) (zs : List Int) (s : Int) (hx : OwnInts w base (.slice (some ⟨b, 0, none⟩) n cap) zs) (hn : Hid (zs.length = n)) (h0 : 0 ≤ s) (h1 : s ≤ 1000000000000000000) (hl : n ≤ 4000000000000000000) :
    Calls Try.prog 42 #[.slice (some ⟨b, 0, none⟩) n cap, .int .i64 s] w fun e w' => e = .returned (.int .i64 (s + n)) ∧ w.grownBy w' (some b) ∧ OwnInts w' base (.slice (some ⟨b, 0, none⟩) n cap) (countUp s n) := by
  have hO0 : OwnInts w base (.slice (some ⟨b, 0, none⟩) n cap) (marked zs s 0) := by rw [marked_zero]; exact hx
  clear hx
  go_enter Try.func42, Try.ntmps42
  go_wp2
  go_loopw [1, 5] (fun m i wr => ∃ k : Nat, k ≤ n ∧ i = .int .i64 k ∧ m = .int .i64 (s + k) ∧ OwnInts wr base (.slice (some ⟨b, 0, none⟩) n cap) (marked zs s k) ∧ w.grownBy wr (some b)) (fun _ i _ => n - (intOf i).toNat)
  case atStart => exact ⟨0, Nat.zero_le _, rfl, by simp, hO0, ⟨rfl, rfl, rfl, Nat.le_refl _, fun _ _ _ => rfl⟩⟩
  case round =>
    clear hO0
    obtain ⟨k, hk, rfl, rfl, hO, hB⟩ := hrel
    by_cases hlt : k < n
    · have hml : (marked zs s k).length = n := by rw [marked_length zs s k (by have := hn.out; omega), hn.out]
      have hO2 := hO.store hml k (s + k)
      rw [marked_set zs s k (by have := hn.out; omega)] at hO2
      have hB2 : w.grownBy (wr.setCell ⟨b, k, none⟩ (.int .i64 (s + k))) (some b) := by
        have h := (hO.stored' hml k (.int .i64 (s + k)))
        exact ⟨h.os.trans hB.os, h.tape.trans hB.tape, h.output.trans hB.output, Nat.le_trans hB.size h.size, fun i hi hne => (h.block i (Nat.lt_of_lt_of_le hi hB.size) hne).trans (hB.block i hi hne)⟩
      have hc := hO.cell hml hlt
      have hf := hO.free hml k
      clear hO hB hml
      go_wp2
      go_roundw
      case rel => exact ⟨k + 1, by omega, by go_num, by go_num, hO2, hB2⟩
      case measure => simp [intOf]; omega
    · go_wp2
      go_ret
      obtain rfl : k = n := by omega
      have hm : marked zs s k = countUp s k := by rw [← hn.out, marked_all]
      rw [hm] at hO
      exact ⟨rfl, hB, hO⟩
/-- the numbers of the first k lists -/
def sumM (L : List (List Int)) (k : Nat) : Nat := ((L.take k).map List.length).sum
theorem sumM_succ {M : List (List Int)} {k : Nat} (h : k < M.length) : sumM M (k + 1) = sumM M k + (M.getD k []).length := by
  unfold sumM
  rw [List.take_add_one, List.getElem?_eq_getElem h, List.getD_eq_getElem?_getD, List.getElem?_eq_getElem h, List.map_append, List.sum_append]
  simp
theorem sumM_le {L : List (List Int)} (h : ListsSmall L) : ∀ k, k ≤ L.length → sumM L k ≤ 1048576 * k := by
  intro k
  induction k with
  | zero => intro _; simp [sumM]
  | succ k ih =>
    intro hk
    have h1 := ih (by omega)
    have h2 := h.2 k (by omega)
    rw [sumM_succ (by omega)]; omega
/-- the first k lists are marked, those behind them are as they were -/
def MarkedL (L M : List (List Int)) (k : Nat) : Prop :=
  M.length = L.length ∧ (∀ i, i < k → M.getD i [] = countUp (1 + (sumM L i : Int)) (L.getD i []).length) ∧ ∀ i, k ≤ i → M.getD i [] = L.getD i []
theorem MarkedL.zero (L : List (List Int)) : MarkedL L L 0 := ⟨rfl, fun i h => absurd h (by omega), fun _ _ => rfl⟩
theorem MarkedL.succ {L M : List (List Int)} {k : Nat} (h : MarkedL L M k) (hk : k < L.length) : MarkedL L (M.set k (countUp (1 + (sumM L k : Int)) (L.getD k []).length)) (k + 1) := by
  refine ⟨by rw [List.length_set]; exact h.1, fun i hi => ?_, fun i hi => ?_⟩
  · by_cases e : i = k
    · subst e
      rw [List.getD_eq_getElem?_getD, List.getElem?_set_self (by rw [h.1]; omega)]; rfl
    · rw [List.getD_eq_getElem?_getD, List.getElem?_set_ne (by omega), ← List.getD_eq_getElem?_getD]
      exact h.2.1 i (by omega)
  · rw [List.getD_eq_getElem?_getD, List.getElem?_set_ne (by omega), ← List.getD_eq_getElem?_getD]
    exact h.2.2 i (by omega)
end Go.Proofs.Ytfgnckafpnobhaa
