
/- Tables that a draw has made: what it owns. -/
import Derived.Test.YtohgglhjcklbaaaDu
import Derived.Test.YtohgglhjcklbaaaTbD
namespace Go.Proofs.Ytohgglhjcklbaaa
open Go.RowKit

theorem grownB {a b : World} (h : Below a.heap.size a b) : a.grownBy b none := ⟨h.os, h.tape, h.output, h.size, fun k hk _ => h.block k hk⟩
def qcell (q : PRule × Value) : List Value := [.string q.1.t, q.2, .int .i64 q.1.p]
def rcells (Q : List (PRule × Value)) : List Value := Q.flatMap qcell
theorem rcells_len (Q : List (PRule × Value)) : (rcells Q).length = Q.length * 3 := by
  induction Q with
  | nil => rfl
  | cons q Q ih => simp [rcells, qcell] at ih ⊢; omega
theorem rcells_at : ∀ (Q : List (PRule × Value)) (i : Nat) (h : i < Q.length), (rcells Q)[i * 3]? = some (.string Q[i].1.t) ∧ (rcells Q)[i * 3 + 1]? = some Q[i].2 ∧ (rcells Q)[i * 3 + 2]? = some (.int .i64 Q[i].1.p) := by
  intro Q
  induction Q with
  | nil => intro i h; simp at h
  | cons q Q ih =>
    intro i h
    have hc : rcells (q :: Q) = qcell q ++ rcells Q := rfl
    have hl : (qcell q).length = 3 := rfl
    cases i with
    | zero => rw [hc]; exact ⟨rfl, rfl, rfl⟩
    | succ i =>
      have h' : i < Q.length := by simpa using h
      obtain ⟨e0, e1, e2⟩ := ih i h'
      rw [hc]
      refine ⟨?_, ?_, ?_⟩
      · rw [List.getElem?_append_right (by rw [hl]; omega), hl, show (i + 1) * 3 - 3 = i * 3 from by omega, e0]; simp
      · rw [List.getElem?_append_right (by rw [hl]; omega), hl, show (i + 1) * 3 + 1 - 3 = i * 3 + 1 from by omega, e1]; simp
      · rw [List.getElem?_append_right (by rw [hl]; omega), hl, show (i + 1) * 3 + 2 - 3 = i * 3 + 2 from by omega, e2]; simp
theorem rcells_snoc (Q : List (PRule × Value)) (q : PRule × Value) : rcells Q ++ qcell q = rcells (Q ++ [q]) := by simp [rcells]
theorem rcells_set : ∀ (Q : List (PRule × Value)) (i : Nat) (h : i < Q.length) (p : Int), (rcells Q).set (i * 3 + 2) (.int .i64 p) = rcells (Q.set i (⟨Q[i].1.t, Q[i].1.c, p⟩, Q[i].2)) := by
  intro Q
  induction Q with
  | nil => intro i h; simp at h
  | cons q Q ih =>
    intro i h p
    have hl : (qcell q).length = 3 := rfl
    cases i with
    | zero => rfl
    | succ i =>
      have h' : i < Q.length := by simpa using h
      show (qcell q ++ rcells Q).set ((i + 1) * 3 + 2) _ = _
      rw [List.set_append_right _ _ (by rw [hl]; omega), hl, show (i + 1) * 3 + 2 - 3 = i * 3 + 2 from by omega, ih i h' p]
      rfl
theorem rcells_setT : ∀ (Q : List (PRule × Value)) (i : Nat) (h : i < Q.length) (t : ByteArray), (rcells Q).set (i * 3) (.string t) = rcells (Q.set i (⟨t, Q[i].1.c, Q[i].1.p⟩, Q[i].2)) := by
  intro Q
  induction Q with
  | nil => intro i h; simp at h
  | cons q Q ih =>
    intro i h t
    have hl : (qcell q).length = 3 := rfl
    cases i with
    | zero => rfl
    | succ i =>
      have h' : i < Q.length := by simpa using h
      show (qcell q ++ rcells Q).set ((i + 1) * 3) _ = _
      rw [List.set_append_right _ _ (by rw [hl]; omega), hl, show (i + 1) * 3 - 3 = i * 3 from by omega, ih i h' t]
      rfl
theorem rcells_setC : ∀ (Q : List (PRule × Value)) (i : Nat) (h : i < Q.length) (c : List Int) (u : Value), (rcells Q).set (i * 3 + 1) u = rcells (Q.set i (⟨Q[i].1.t, c, Q[i].1.p⟩, u)) := by
  intro Q
  induction Q with
  | nil => intro i h; simp at h
  | cons q Q ih =>
    intro i h c u
    have hl : (qcell q).length = 3 := rfl
    cases i with
    | zero => rfl
    | succ i =>
      have h' : i < Q.length := by simpa using h
      show (qcell q ++ rcells Q).set ((i + 1) * 3 + 1) _ = _
      rw [List.set_append_right _ _ (by rw [hl]; omega), hl, show (i + 1) * 3 + 1 - 3 = i * 3 + 1 from by omega, ih i h' c u]
      rfl
/-- the slice v owns the table's row, behind S; each list of cells is owned, too -/
def TabOwn (w : World) (S : Nat) (v : Value) (Q : List (PRule × Value)) : Prop :=
  w.ownsRow S 46 3 v Q.length (rcells Q) ∧ (∀ q ∈ Q, OwnInts w S q.2 q.1.c ∧ ∃ a n c, q.2 = .slice a n c) ∧ ∃ g cap, v = .slice (some ⟨g, 0, none⟩) Q.length cap
def tabOf (Q : List (PRule × Value)) : List PRule := Q.map Prod.fst
theorem tabOf_len (Q : List (PRule × Value)) : (tabOf Q).length = Q.length := by simp [tabOf]
theorem tabOf_at {Q : List (PRule × Value)} {i : Nat} (h : i < Q.length) : (tabOf Q).getD i noR = Q[i].1 := by simp [tabOf, List.getD_eq_getElem?_getD, h]
theorem TabOwn.at {w : World} {S : Nat} {v : Value} {Q : List (PRule × Value)} (h : TabOwn w S v Q) : TableAt w v (tabOf Q) := by
  obtain ⟨h1, h2, g, cap, rfl⟩ := h
  have hc : ∃ c', (Value.slice (some ⟨g, 0, none⟩) Q.length cap) = .slice (some ⟨g, 0, none⟩) Q.length c' ∧ Q.length ≤ c' ∧ c' ≤ maxLen := by
    rcases h1.2 with ⟨h3, _⟩ | ⟨g', c', cur, h3, _, _, h4, h5, _⟩
    · simp at h3
    · injection h3 with e1 e2 e3
      exact ⟨c', by rw [e3], h4, h5⟩
  obtain ⟨c', he, hle, hmx⟩ := hc
  injection he with _ _ hcc
  subst hcc
  refine ⟨_, cap, by rw [tabOf_len], by rw [tabOf_len]; exact hle, by unfold maxLen at hmx; exact hmx, .inr ⟨g, 0, rfl, fun i hi => ?_⟩⟩
  rw [tabOf_len] at hi
  rw [tabOf_at hi, Nat.zero_add]
  obtain ⟨e0, e1, e2⟩ := rcells_at Q i hi
  have hq := h2 Q[i] (List.getElem_mem hi)
  exact ⟨(h1.cellAt (i * 3) (by omega)).trans e0, ⟨_, (h1.cellAt (i * 3 + 1) (by omega)).trans e1, hq.1.at⟩, (h1.cellAt (i * 3 + 2) (by omega)).trans e2⟩
theorem TabOwn.overR {w w' : World} {S R : Nat} {v : Value} {Q : List (PRule × Value)} (h : TabOwn w S v Q) (hg : w.grownBy w' (some R)) (hRS : R < S) : TabOwn w' S v Q := by
  obtain ⟨h1, h2, h3⟩ := h
  refine ⟨h1.kept hg ?_, fun q hq => ⟨(h2 q hq).1.overR hg hRS, (h2 q hq).2⟩, h3⟩
  cases hv : v.ownBlock with
  | none => exact .inl rfl
  | some k => refine .inr fun e => ?_; injection e with e; have := (h1.lt k hv).1; omega
theorem TabOwn.below {w w' : World} {S : Nat} {v : Value} {Q : List (PRule × Value)} (h : TabOwn w S v Q) (hb : Below w.heap.size w w') : TabOwn w' S v Q := by
  obtain ⟨h1, h2, h3⟩ := h
  exact ⟨h1.kept (row := none) ⟨hb.os, hb.tape, hb.output, hb.size, fun k hk _ => hb.block k hk⟩ (by cases hv : v.ownBlock <;> simp), fun q hq => ⟨(h2 q hq).1.below hb, (h2 q hq).2⟩, h3⟩
/-- a list of cells does not lie in a table's row -/
theorem ne_row {w : World} {S S' n : Nat} {u v : Value} {c : List Int} {xs : List Value} (h : OwnInts w S u c) (k : w.ownsRow S' 46 3 v n xs) : u.ownBlock = none ∨ u.ownBlock ≠ v.ownBlock := by
  rcases h.2 with ⟨rfl, _⟩ | ⟨g, cap, cur, rfl, _, hg, _⟩
  · exact .inl rfl
  · refine .inr fun e => ?_
    rcases k.2 with ⟨rfl, _⟩ | ⟨g', cap', cur', rfl, _, hg', _⟩
    · simp [Value.ownBlock] at e
    · simp [Value.ownBlock] at e
      subst e
      rw [hg] at hg'
      injection hg' with e
      injection e with _ e _
      exact absurd e (by decide)
theorem ruleRow_cells (w : World) (r : PRule) (u : Value) : ∀ j x, (qcell (r, u))[j]? = some x → (w.alloc (.cells #[.string r.t, u, .int .i64 r.p] 46)).cell? ((⟨w.heap.size, 0, none⟩ : Addr).add j) = some x := by
  intro j x hj
  match j, hj with
  | 0, hj => rw [Addr.add_lit, cell_of_row _ w.heap.size _ _ _ _ (heap_alloc_new w _)]; exact hj
  | 1, hj => rw [Addr.add_lit, cell_of_row _ w.heap.size _ _ _ _ (heap_alloc_new w _)]; exact hj
  | 2, hj => rw [Addr.add_lit, cell_of_row _ w.heap.size _ _ _ _ (heap_alloc_new w _)]; exact hj
theorem rcells_one : ∀ (Q : List (PRule × Value)), (∀ q ∈ Q, ∃ a n c, q.2 = .slice a n c) → ∀ x ∈ rcells Q, x.oneCell' = true := by
  intro Q hQ x hx
  obtain ⟨q, hq, hxq⟩ := List.mem_flatMap.1 hx
  obtain ⟨a, n, c, e⟩ := hQ q hq
  simp [qcell] at hxq
  rcases hxq with rfl | rfl | rfl
  · rfl
  · rw [e]; rfl
  · rfl
theorem validTb_nil : ValidTb [] := ⟨by simp, fun i h => by simp at h, fun i j h => by simp at h⟩
theorem TabOwn.fits_snoc {Q : List (PRule × Value)} {r : PRule} {u : Value} (h : TableFits (tabOf Q)) (hr : RuleFits r) : TableFits (tabOf (Q ++ [(r, u)])) := by
  intro x hx
  simp [tabOf] at hx
  rcases hx with ⟨q, hq⟩ | rfl
  · exact h x (List.mem_map.2 ⟨(x, q), hq, rfl⟩)
  · exact hr

theorem TabOwn.cellAt {w : World} {S g n cap : Nat} {Q : List (PRule × Value)} (h : TabOwn w S (.slice (some ⟨g, 0, none⟩) n cap) Q) (hn : Q.length = n) {j : Nat} (hj : j < n * 3) : ∃ x, w.cell? ⟨g, j, none⟩ = some x := by
  subst hn
  exact ⟨_, (h.1.cellAt j hj).trans (List.getElem?_eq_getElem (by rw [rcells_len]; exact hj))⟩
theorem TabOwn.free {w : World} {S g n cap : Nat} {Q : List (PRule × Value)} (h : TabOwn w S (.slice (some ⟨g, 0, none⟩) n cap) Q) (hn : Q.length = n) (j : Nat) : w.frozen? ⟨g, j, none⟩ = false := by
  subst hn
  exact h.1.frozenAt j
theorem TabOwn.row {w : World} {S g n cap : Nat} {Q : List (PRule × Value)} (h : TabOwn w S (.slice (some ⟨g, 0, none⟩) n cap) Q) : S ≤ g ∧ g < w.heap.size := h.1.lt g rfl
theorem own_far {w : World} {S g o : Nat} {u v : Value} {c : List Int} (h : OwnInts w S v c) (hne : v.ownBlock = none ∨ v.ownBlock ≠ some g) (x : Value) (hu : u = v) : OwnInts (w.setCell ⟨g, o, none⟩ x) S u c := by
  subst hu
  exact h.kept (row := some g) ⟨rfl, rfl, rfl, by simp [World.setCell], fun i _ hi => Below.heap_setCell w ⟨g, o, none⟩ x i (by show i ≠ g; simpa using hi)⟩ hne
theorem TabOwn.setPlace {w : World} {S g n cap : Nat} {Q : List (PRule × Value)} (h : TabOwn w S (.slice (some ⟨g, 0, none⟩) n cap) Q) (hn : Q.length = n) {i : Nat} (hi : i < Q.length) (p : Int) :
    TabOwn (w.setCell ⟨g, i * 3 + 2, none⟩ (.int .i64 p)) S (.slice (some ⟨g, 0, none⟩) n cap) (Q.set i (⟨Q[i].1.t, Q[i].1.c, p⟩, Q[i].2)) := by
  subst hn
  obtain ⟨h1, h2, h3⟩ := h
  refine ⟨?_, fun q hq => ?_, g, cap, by rw [List.length_set]⟩
  · have := (h1.stored (i * 3 + 2) (.int .i64 p)).1
    rw [rcells_set Q i hi p] at this
    rw [List.length_set]
    exact this
  · rcases List.mem_or_eq_of_mem_set hq with hq | rfl
    · exact ⟨own_far (h2 q hq).1 (ne_row (h2 q hq).1 h1) _ rfl, (h2 q hq).2⟩
    · have hq := h2 Q[i] (List.getElem_mem hi)
      exact ⟨own_far hq.1 (ne_row hq.1 h1) _ rfl, hq.2⟩
theorem tabOf_set_fits {Q : List (PRule × Value)} (h : TableFits (tabOf Q)) {i : Nat} (hi : i < Q.length) {p : Int} (h0 : -9223372036854775808 ≤ p) (h1 : p ≤ 9223372036854775807) : TableFits (tabOf (Q.set i (⟨Q[i].1.t, Q[i].1.c, p⟩, Q[i].2))) := by
  intro x hx
  simp only [tabOf, List.map_set] at hx
  rcases List.mem_or_eq_of_mem_set hx with hx | rfl
  · exact h x hx
  · have := h Q[i].1 (List.mem_map.2 ⟨Q[i], List.getElem_mem hi, rfl⟩)
    exact ⟨this.1, this.2.1, h0, h1⟩
theorem TabOwn.setText {w : World} {S g n cap : Nat} {Q : List (PRule × Value)} (h : TabOwn w S (.slice (some ⟨g, 0, none⟩) n cap) Q) (hn : Q.length = n) {i : Nat} (hi : i < Q.length) (t : ByteArray) :
    TabOwn (w.setCell ⟨g, i * 3, none⟩ (.string t)) S (.slice (some ⟨g, 0, none⟩) n cap) (Q.set i (⟨t, Q[i].1.c, Q[i].1.p⟩, Q[i].2)) := by
  subst hn
  obtain ⟨h1, h2, h3⟩ := h
  refine ⟨?_, fun q hq => ?_, g, cap, by rw [List.length_set]⟩
  · have := (h1.stored (i * 3) (.string t)).1
    rw [rcells_setT Q i hi t] at this
    rw [List.length_set]
    exact this
  · rcases List.mem_or_eq_of_mem_set hq with hq | rfl
    · exact ⟨own_far (h2 q hq).1 (ne_row (h2 q hq).1 h1) _ rfl, (h2 q hq).2⟩
    · have hq := h2 Q[i] (List.getElem_mem hi)
      exact ⟨own_far hq.1 (ne_row hq.1 h1) _ rfl, hq.2⟩
theorem TabOwn.setCells {w : World} {S g n cap : Nat} {Q : List (PRule × Value)} (h : TabOwn w S (.slice (some ⟨g, 0, none⟩) n cap) Q) (hn : Q.length = n) {i : Nat} (hi : i < Q.length) {c : List Int} {a : Option Addr} {m d : Nat} (hu : OwnInts w S (.slice a m d) c) :
    TabOwn (w.setCell ⟨g, i * 3 + 1, none⟩ (.slice a m d)) S (.slice (some ⟨g, 0, none⟩) n cap) (Q.set i (⟨Q[i].1.t, c, Q[i].1.p⟩, .slice a m d)) := by
  subst hn
  obtain ⟨h1, h2, h3⟩ := h
  refine ⟨?_, fun q hq => ?_, g, cap, by rw [List.length_set]⟩
  · have := (h1.stored (i * 3 + 1) (.slice a m d)).1
    rw [rcells_setC Q i hi c] at this
    rw [List.length_set]
    exact this
  · rcases List.mem_or_eq_of_mem_set hq with hq | rfl
    · exact ⟨own_far (h2 q hq).1 (ne_row (h2 q hq).1 h1) _ rfl, (h2 q hq).2⟩
    · exact ⟨own_far hu (ne_row hu h1) _ rfl, _, _, _, rfl⟩
theorem tabOf_set {Q : List (PRule × Value)} (h : TableFits (tabOf Q)) (i : Nat) {r : PRule} {u : Value} (hr : RuleFits r) : TableFits (tabOf (Q.set i (r, u))) := by
  intro x hx
  simp only [tabOf, List.map_set] at hx
  rcases List.mem_or_eq_of_mem_set hx with hx | rfl
  · exact h x hx
  · exact hr
theorem tabOf_mem {Q : List (PRule × Value)} (h : TableFits (tabOf Q)) {i : Nat} (hi : i < Q.length) : RuleFits Q[i].1 := h Q[i].1 (List.mem_map.2 ⟨Q[i], List.getElem_mem hi, rfl⟩)
theorem OwnInts.lit {w : World} {S g : Nat} {c : List Int} (h : w.heap[g]? = some (.cells (ints c).toArray 3 (0, 0))) (hS : S ≤ g) (hc : c.length ≤ 1000) : OwnInts w S (.slice (some ⟨g, 0, none⟩) c.length c.length) c :=
  ⟨by rw [ints_length, Nat.mul_one], .inr ⟨g, c.length, _, rfl, hS, h, Nat.le_refl _, by unfold maxLen; omega, by simp [ints], by rw [List.take_of_length_le (by simp [ints])]⟩⟩
end Go.Proofs.Ytohgglhjcklbaaa
