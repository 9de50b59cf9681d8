
/- The greedy pieces, in the program. -/
import Derived.Test.YtohgglhjcklbaaaGb
namespace Go.Proofs.Ytohgglhjcklbaaa
open Go.RowKit

def OwnPn (w : World) (S : Nat) (v : Value) (P : List PPiece) : Prop := w.ownsRow S 59 3 v P.length (pcells P)
theorem OwnPn.nil (w : World) (S : Nat) : OwnPn w S (.slice none 0 0) [] := World.ownsRow_nil _ _ _ _
theorem OwnPn.below {w w' : World} {S : Nat} {v : Value} {P : List PPiece} (h : OwnPn w S v P) (hb : Below w.heap.size w w') : OwnPn w' S v P :=
  World.ownsRow.kept (row := none) h ⟨hb.os, hb.tape, hb.output, hb.size, fun k hk _ => hb.block k hk⟩ (by cases hv : v.ownBlock <;> simp)
theorem OwnPn.at {w : World} {S : Nat} {v : Value} {P : List PPiece} (h : OwnPn w S v P) : PiecesAt w v P := by
  rcases h.2 with ⟨rfl, hn⟩ | ⟨g, cap, cur, rfl, _, _, h4, h5, _⟩
  · have : P = [] := List.length_eq_zero_iff.1 hn
    subst this
    exact ⟨none, 0, rfl, Nat.le_refl _, by omega, .inl rfl⟩
  · exact OwnPc.at (S := S) ⟨h, g, cap, rfl⟩
theorem OwnPn.isSlice {w : World} {S : Nat} {v : Value} {P : List PPiece} (h : OwnPn w S v P) : ∃ a n c, v = .slice a n c := by
  rcases h.2 with ⟨rfl, _⟩ | ⟨g, cap, cur, rfl, _⟩ <;> exact ⟨_, _, _, rfl⟩
theorem wpList_append_pn {ops : Array Oper} {rest : List Oper} {o : Oper} {a : Act} {w : World} {Q : Exit → Act → World → Prop} (hgd : o.guard = none) (s x : Operand)
    (ho : o.op = .call { callee := .builtin .append, args := #[s, x], argTypes := #[52, 52] }) (base g : Nat) {v : Value} {P : List PPiece} (p : PPiece) (hs : a.eval s = v) (hx : a.eval x = .slice (some ⟨g, 0, none⟩) 1 1)
    (h1 : OwnPn w base v P) (h2 : PieceAt w g 0 p) (hl : P.length ≤ 100000) (hbase : base ≤ w.heap.size)
    (h : ∀ v' w', OwnPn w' base v' (P ++ [p]) → w.grownBy w' v.ownBlock → wpList Try.prog ops Q rest (a.put o.dst v') w') : wpList Try.prog ops Q (o :: rest) a w := by
  obtain ⟨i0, hi, hz0, hz1, hz2⟩ := info_parts infoPiece
  refine wpList_append_own w hgd s x 52 ho base 59 i0 (.agg #[.int .i64 0, .int .i64 0, .int .i64 0]) 3 24 Try.underlying52 hi hz0 hz1 hz2 rfl (by decide) v P.length (pcells P) hs h1 ⟨g, 0, none⟩ 1 1 (pcell p) hx rfl ?_ ?_ (by unfold maxLen; omega) (by omega) hbase ?_
  · intro j u hj
    obtain ⟨c0, c1, c2⟩ := h2
    rw [Addr.add_lit]
    match j, hj with
    | 0, hj => rw [c0]; exact hj
    | 1, hj => rw [c1]; exact hj
    | 2, hj => rw [c2]; exact hj
  · intro u hu
    simp [pcell] at hu
    rcases hu with rfl | rfl | rfl <;> rfl
  · intro v' w' hown hgrow hnil
    refine h v' w' ?_ hgrow
    unfold OwnPn
    rw [List.length_append, ← pcells_snoc]
    exact hown

def bst (T : List PRule) (s : ByteArray) (k : Nat) : Int := lgTo T (rulesL T s k) (rulesL T s k).length
def pcG (T : List PRule) (s : ByteArray) (k : Nat) : PPiece := pcB T k (bst T s k)
def gpos (T : List PRule) (s : ByteArray) : Nat → Nat
  | 0 => 0
  | j + 1 => (pcG T s (gpos T s j)).t.toNat
def grL (T : List PRule) (s : ByteArray) : Nat → List PPiece
  | 0 => []
  | j + 1 => grL T s j ++ [pcG T s (gpos T s j)]
theorem grL_len (T : List PRule) (s : ByteArray) (j : Nat) : (grL T s j).length = j := by
  induction j with
  | zero => rfl
  | succ j ih => show (grL T s j ++ _).length = _; rw [List.length_append, ih]; rfl
theorem rulesTo_nn {T : List PRule} {s : ByteArray} {p : Int} : ∀ (k : Nat) {z : Int}, z ∈ rulesTo T s p k → 0 ≤ z ∧ z < k := by
  intro k
  induction k with
  | zero => intro z h; exact absurd h (by simp [rulesTo])
  | succ k ih =>
    intro z h
    rcases List.mem_append.1 h with h | h
    · have := ih h; omega
    · split at h
      · simp at h; omega
      · simp at h
theorem sz_small {T : List PRule} (h : ValidTb T) : ∀ k, (T.getD k noR).t.size ≤ 100 := by
  intro k
  by_cases hk : k < T.length
  · have := (h.2.1 k hk).1.2.1
    rw [wd_size] at this
    omega
  · rw [List.getD_eq_getElem?_getD, List.getElem?_eq_none (by omega), Option.getD_none]
    show noR.t.size ≤ 100
    decide
/-- the piece chosen at a place of the word goes on, and not beyond the word -/
theorem pcG_bd {T : List PRule} {s : ByteArray} (hv : ValidTb T) {k : Nat} (hk : k < s.size) : (bst T s k = -1 ∨ (0 ≤ bst T s k ∧ bst T s k < T.length)) ∧ (pcG T s k).f = k ∧ (k : Int) < (pcG T s k).t ∧ (pcG T s k).t ≤ s.size ∧ (pcG T s k).r = bst T s k := by
  have hb := lgTo_bst T s k
  unfold pcG pcB bst
  rcases hb with ⟨h1, h2⟩ | ⟨j, h1, hj, hA, h2⟩
  · rw [h1, if_pos rfl]
    exact ⟨.inl rfl, rfl, by simp only; omega, by simp only; omega, rfl⟩
  · rw [h1, if_neg (by omega)]
    have h3 := (hv.2.1 j hj).1.1
    rw [wd_size] at h3
    have h4 := hA.2.1
    have h5 : szR T (j : Int) = (T.getD j noR).t.size := by unfold szR; rw [Int.toNat_natCast]
    rw [h5]
    exact ⟨.inr ⟨by omega, by omega⟩, rfl, by simp only; omega, by simp only; omega, rfl⟩
def GreedyMade (T : List PRule) (s : ByteArray) (w : World) (e : Ending) (w' : World) : Prop :=
  ∃ v j, e = .returned v ∧ OwnPn w' w.heap.size v (grL T s j) ∧ (∀ i, i < j → gpos T s i < s.size) ∧ s.size ≤ gpos T s j ∧ j ≤ 16 ∧ Below w.heap.size w w'
end Go.Proofs.Ytohgglhjcklbaaa
