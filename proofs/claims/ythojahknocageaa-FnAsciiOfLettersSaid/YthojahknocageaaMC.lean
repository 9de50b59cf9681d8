/- Merged: DrC DrL DrS Tb TbA TbB Reg TbC TbD. -/
import Derived.Test.YthojahknocageaaMA
import Derived.Deep.Slices
import Derived.Deep.Fields
import Derived.ChangeSame
import Derived.Test.YthojahknocageaaMB
import Derived.Laws.IdiomStrings
import Derived.Deep.RegionHeld3
import Derived.Deep.QuietTactic
import Derived.BigQuiet

/- The draws of one number: a cell, a letter, a digit. -/
namespace Go.Proofs.Ythojahknocageaa
open Go.RowKit

theorem grown_new {a b c : World} {R : Nat} (h : a.grownBy b none) (k : b.grownBy c (some R)) (hR : a.heap.size ≤ R) : a.grownBy c none :=
  ⟨k.os.trans h.os, k.tape.trans h.tape, k.output.trans h.output, Nat.le_trans h.size k.size, fun i hi _ => (k.block i (Nat.lt_of_lt_of_le hi h.size) (by simp; omega)).trans (h.block i hi (by simp))⟩
theorem below_of_grown {a b : World} (h : a.grownBy b none) : Below a.heap.size a b := ⟨h.os, h.tape, h.output, h.size, fun k hk => h.block k hk (by simp)⟩
theorem RD.grown {w w' : World} {B R L p : Nat} (h : RD w B R L p) (hg : w.grownBy w' none) : RD w' B R L p :=
  h.of_same (fun k hk => hg.block k (by have := h.lt; obtain ⟨_, _, _, h3, _⟩ := h; omega) (by simp)) (hg.block R h.lt (by simp))

def AnyCell (w : World) (B R L p : Nat) (e : Ending) (w' : World) : Prop :=
  ∃ v : Int, e = .returned (.int .i64 v) ∧ -1 ≤ v ∧ v ≤ 64 ∧ RD w' B R L p ∧ w.grownBy w' (some R)

/-- a draw that hands back one number between lo and hi, and writes new memory alone -/
def IntDrawn (lo hi : Int) (w : World) (e : Ending) (w' : World) : Prop :=
  ∃ v : Int, e = .returned (.int .i64 v) ∧ lo ≤ v ∧ v ≤ hi ∧ Below w.heap.size w w'

end Go.Proofs.Ythojahknocageaa


/- The draws of lists of cells. -/
namespace Go.Proofs.Ythojahknocageaa
open Go.RowKit

theorem RD.over {w w' : World} {B R L p S : Nat} {row : Option Nat} (h : RD w B R L p) (hg : w.grownBy w' row) (hr : ∀ k, row = some k → S ≤ k) (hRS : R < S) : RD w' B R L p :=
  h.of_same (fun k hk => hg.block k (by have := h.lt; obtain ⟨_, _, _, h3, _⟩ := h; omega) (fun e => by have := hr k e.symm; obtain ⟨_, _, _, h3, _⟩ := h; omega))
    (hg.block R h.lt (fun e => by have := hr R e.symm; omega))
theorem OwnInts.overR {w w' : World} {S R : Nat} {v : Value} {zs : List Int} (h : OwnInts w S v zs) (hg : w.grownBy w' (some R)) (hRS : R < S) : OwnInts w' S v zs :=
  h.kept hg (by
    cases hv : v.ownBlock with
    | none => exact .inl rfl
    | some k => refine .inr fun e => ?_; injection e with e; have := (h.lt k hv).1; omega)
theorem grown_own {a b c : World} {row row' : Option Nat} (h : a.grownBy b row) (k : b.grownBy c row') (hr : ∀ q, row' = some q → a.heap.size ≤ q) : a.grownBy c row :=
  ⟨k.os.trans h.os, k.tape.trans h.tape, k.output.trans h.output, Nat.le_trans h.size k.size, fun i hi hne => (k.block i (Nat.lt_of_lt_of_le hi h.size) (fun e => by have := hr i e.symm; omega)).trans (h.block i hi hne)⟩
def Between (lo hi : Int) (zs : List Int) : Prop := ∀ z ∈ zs, lo ≤ z ∧ z ≤ hi
theorem Between.nil (lo hi : Int) : Between lo hi [] := fun z h => absurd h (by simp)
theorem Between.snoc {lo hi : Int} {zs : List Int} {z : Int} (h : Between lo hi zs) (h0 : lo ≤ z) (h1 : z ≤ hi) : Between lo hi (zs ++ [z]) := fun y hy => by
  rcases List.mem_append.1 hy with hy | hy
  · exact h y hy
  · obtain rfl : y = z := by simpa using hy
    exact ⟨h0, h1⟩
theorem Between.wide {lo hi lo' hi' : Int} {zs : List Int} (h : Between lo hi zs) (h0 : lo' ≤ lo) (h1 : hi ≤ hi') : Between lo' hi' zs := fun z hz => by have := h z hz; omega
theorem Between.fits {lo hi : Int} {zs : List Int} (h : Between lo hi zs) (h0 : -9223372036854775808 ≤ lo) (h1 : hi ≤ 9223372036854775807) : Fits zs := fun z hz => by have := h z hz; omega
theorem Between.set {lo hi : Int} {zs : List Int} {z : Int} (h : Between lo hi zs) (h0 : lo ≤ z) (h1 : z ≤ hi) (k : Nat) : Between lo hi (zs.set k z) := fun y hy => by
  rcases List.mem_or_eq_of_mem_set hy with hy | rfl
  · exact h y hy
  · exact ⟨h0, h1⟩
/-- behind the append of one number: what is owned, the reader, and what has turned -/
theorem snoc_step {w wr w' : World} {B R L p : Nat} {v v' : Value} {zs : List Int} {z : Int} {o : Obj}
    (hRS : R < w.heap.size) (ho : OwnInts wr w.heap.size v zs) (hrd : RD wr B R L p) (hg : w.grownBy wr (some R))
    (ho' : w'.ownsRow w.heap.size 3 1 v' (zs.length + 1) (ints zs ++ [.int .i64 z])) (hgr : (wr.alloc o).grownBy w' v.ownBlock) :
    OwnInts w' w.heap.size v' (zs ++ [z]) ∧ RD w' B R L p ∧ w.grownBy w' (some R) :=
  ⟨OwnInts.snoc ho', (hrd.alloc o).over hgr (fun k hk => (ho.lt k hk).1) hRS, grown_own (grown_own hg (World.grownBy_alloc wr o none) (by simp)) hgr (fun k hk => (ho.lt k hk).1)⟩

theorem grown_store (w : World) (g k : Nat) (u : Value) : w.grownBy (w.setCell ⟨g, k, none⟩ u) (some g) :=
  ⟨rfl, rfl, rfl, by simp [World.setCell], fun i _ hne => heap_setCell_other w ⟨g, k, none⟩ i u (by simp at hne ⊢; exact hne)⟩
def CellsDrawn (lo hi : Int) (most more : Nat) (w : World) (B R L p : Nat) (e : Ending) (w' : World) : Prop :=
  ∃ v zs p', e = .returned v ∧ OwnInts w' w.heap.size v zs ∧ Between lo hi zs ∧ zs.length ≤ most ∧ RD w' B R L p' ∧ p' ≤ p + more ∧ w.grownBy w' (some R) ∧ ∃ a n c, v = .slice a n c
theorem OwnInts.isSlice {w : World} {base : Nat} {v : Value} {zs : List Int} (h : OwnInts w base v zs) : ∃ a n c, v = .slice a n c := by
  rcases h.2 with ⟨h, _⟩ | ⟨g, cap, _, h, _⟩ <;> exact ⟨_, _, _, h⟩

set_option maxHeartbeats 1000000 in
theorem someCells_any (w : World) (B R L p most : Nat) (h : RD w B R L p) (hp : p ≤ 10000000000) (hm : most ≤ 1000) :
    Calls Try.prog 30 #[.pointer (some ⟨R, 0, none⟩), .int .i64 most] w fun e w' => CellsDrawn 0 63 most (1 + 3 * most) w B R L p e w' := by
  obtain ⟨i0, hi, hz0, hz1, hz2⟩ := info_parts infoInt
  have hR := h.lt
  go_enter Try.func30, Try.ntmps30
  go_wp2_with fail
  refine (pick_any _ B R L p _ (h.alloc _) (by omega) (by omega) (by omega)).mono ?_
  rintro e w1 ⟨k1, rfl, hk1, hrd1, hgr1⟩
  have ho0 : OwnInts w1 w.heap.size (.slice (some ⟨w.heap.size, 0, none⟩) 0 0) [] := (OwnInts.made w w.heap.size (Nat.le_refl _)).overR hgr1 hR
  have hg0 : w.grownBy w1 (some R) := grown_trans (World.grownBy_alloc w _ _) hgr1
  clear hgr1 h
  go_wp2_with fail
  go_loopw [5, 6] (fun v i wr => ∃ (k : Nat) (zs : List Int) (q : Nat), i = .int .i64 k ∧ k + zs.length ≤ most ∧ OwnInts wr w.heap.size v zs ∧ Between 0 63 zs ∧ RD wr B R L q ∧ q ≤ p + 1 + 3 * zs.length ∧ w.grownBy wr (some R)) (fun _ i _ => (intOf i).toNat)
  case atStart => exact ⟨k1, [], p + 1, rfl, by simp; omega, ho0, Between.nil _ _, hrd1, by simp, hg0⟩
  case round =>
    clear ho0 hg0 hrd1
    obtain ⟨k, zs, q, rfl, hk, hown, hbt, hrd, hq, hg⟩ := hrel
    have hsz := hg.size
    by_cases hlt : 0 < k
    · go_wp2_with fail
      refine (pick_any _ B R L q _ hrd (by omega) (by omega) (by omega)).mono ?_
      rintro e w2 ⟨k2, rfl, hk2, hrd2, hgr2⟩
      go_wp2_with fail
      refine (pick_any _ B R L (q + 1) _ hrd2 (by omega) (by omega) (by omega)).mono ?_
      rintro e w3 ⟨k3, rfl, hk3, hrd3, hgr3⟩
      go_wp2_with fail
      have hlt3 := hrd3.lt
      refine (one_any _ B R L (q + 2) w3.heap.size 10 10 [k2, 1, 3, 9, 0, 60, 32, k3, 17, 4] (hrd3.alloc _) (heap_alloc_new w3 _) (by omega) (Lib.hid rfl) (by omega) (by omega) (by omega)).mono ?_
      rintro e w4 ⟨z, rfl, hz, hrd4, hgr4⟩
      have hz' : 0 ≤ z ∧ z ≤ 63 := by simp at hz; omega
      have hgx : wr.grownBy w4 (some R) := grown_trans (grown_trans hgr2 hgr3) (grown_trans (World.grownBy_alloc w3 _ _) hgr4)
      have hown4 := hown.overR hgx hR
      have hg4 := grown_trans hg hgx
      have hsz4 := hg4.size
      clear hz hgr2 hgr3 hgr4 hrd hrd2 hrd3 hown hgx hg
      go_wp2_with (at_builtin; refine wpList_append_own _ rfl _ _ 23 rfl w.heap.size 3 i0 (.int .i64 0) 1 8 Try.underlying23 hi hz0 hz1 hz2 rfl (by decide) _ _ _ rfl (hown4.alloc _) ⟨w4.heap.size, 0, none⟩ 1 1 [.int .i64 z] rfl rfl new_one one_cell (by unfold maxLen; omega) (by omega) (by simp; omega) ?_)
      intro v' w5 hown' hgrow _
      obtain ⟨R1, R2, R3⟩ := snoc_step hR hown4 hrd4 hg4 hown' hgrow
      clear hown' hgrow hown4 hrd4 hg4
      go_wp2
      go_roundw
      case rel => exact ⟨k - 1, zs ++ [z], q + 3, by go_num, by simp; omega, R1, hbt.snoc hz'.1 hz'.2, R2, by simp; omega, R3⟩
      case measure => simp [intOf]; omega
    · go_wp2
      go_ret
      exact ⟨_, zs, q, rfl, hown, hbt, by omega, hrd, by omega, hg, hown.isSlice⟩

set_option maxHeartbeats 1000000 in
theorem anyCells_any (w : World) (B R L p most : Nat) (h : RD w B R L p) (hp : p ≤ 1000000000) (hm : most ≤ 1000) :
    Calls Try.prog 24 #[.pointer (some ⟨R, 0, none⟩), .int .i64 most] w fun e w' => CellsDrawn (-1) 1000 most (4 + 3 * most) w B R L p e w' := by
  have hR := h.lt
  go_enter Try.func24, Try.ntmps24
  go_wp2_with fail
  refine (someCells_any _ B R L p most h (by omega) hm).mono ?_
  rintro e w1 ⟨v, zs, q, rfl, hown, hbt, hl, hrd, hq, hg, a, n, c, rfl⟩
  have hbt : Between (-1) 1000 zs := hbt.wide (by omega) (by omega)
  have hn : Hid (zs.length = n) := by obtain ⟨_, _, hs, _⟩ := hown.at; injection hs with _ h2; exact h2.symm
  have hnl : n ≤ most := by have := hn.out; omega
  by_cases h0 : 0 < n
  · have hsh : ∃ g, a = some ⟨g, 0, none⟩ := by
      obtain ⟨g, cap, hs, _⟩ := hown.shape (by have := hn.out; omega)
      injection hs with h1
      exact ⟨g, h1⟩
    obtain ⟨g, rfl⟩ := hsh
    go_wp2_with fail
    refine (pick_any _ B R L q _ hrd (by omega) (by omega) (by omega)).mono ?_
    rintro e w2 ⟨k2, rfl, hk2, hrd2, hgr2⟩
    have hown2 := hown.overR hgr2 hR
    have hg2 := grown_trans hg hgr2
    clear hown hg hrd hgr2
    by_cases hk0 : k2 = 0
    · subst hk0
      go_wp2_with fail
      refine (pick_any _ B R L (q + 1) _ hrd2 (by omega) (by omega) (by omega)).mono ?_
      rintro e w3 ⟨k3, rfl, hk3, hrd3, hgr3⟩
      go_wp2_with fail
      have hlt3 := hrd3.lt
      refine (one_any _ B R L (q + 2) w3.heap.size 3 3 [-1, 64, 1000] (hrd3.alloc _) (heap_alloc_new w3 _) (by omega) (Lib.hid rfl) (by omega) (by omega) (by omega)).mono ?_
      rintro e w4 ⟨z, rfl, hz, hrd4, hgr4⟩
      have hz' : -1 ≤ z ∧ z ≤ 1000 := by simp at hz; omega
      have hgx : w2.grownBy w4 (some R) := grown_trans hgr3 (grown_trans (World.grownBy_alloc w3 _ _) hgr4)
      have hown4 := hown2.overR hgx hR
      have hg4 := grown_trans hg2 hgx
      have hk3' : k3 < n := by omega
      have hcell := hown4.cell hn.out hk3'
      have hfree := hown4.free hn.out k3
      have hown5 := hown4.store hn.out k3 z
      have hgg : w.heap.size ≤ g := (hown4.lt g rfl).1
      have hg5 := grown_own hg4 (grown_store w4 g k3 (.int .i64 z)) (by intro q hq; injection hq with hq; omega)
      have hrd5 := hrd4.over (S := w.heap.size) (grown_store w4 g k3 (.int .i64 z)) (by intro q hq; injection hq with hq; omega) hR
      clear hz hgr3 hgr4 hrd2 hrd3 hown2 hgx hg2 hown4 hg4 hrd4
      go_wp2
      go_ret
      exact ⟨_, zs.set k3 z, q + 3, rfl, hown5, hbt.set hz'.1 hz'.2 k3, by simp; omega, hrd5, by omega, hg5, _, _, _, rfl⟩
    · have e1 : ((k2 : Int) == 0) = false := by simp; omega
      go_wp2
      go_ret
      exact ⟨_, zs, q + 1, rfl, hown2, hbt, hl, hrd2, by omega, hg2, _, _, _, rfl⟩
  · obtain rfl : n = 0 := by omega
    go_wp2
    go_ret
    exact ⟨_, zs, q, rfl, hown, hbt, hl, hrd, by omega, hg, _, _, _, rfl⟩
end Go.Proofs.Ythojahknocageaa


/- The draw of one text of a list. -/
namespace Go.Proofs.Ythojahknocageaa
open Go.RowKit

def strs (ps : List ByteArray) : Array Value := (ps.map Value.string).toArray
def OneStr (ps : List ByteArray) (w : World) (B R L p : Nat) (e : Ending) (w' : World) : Prop :=
  ∃ s : ByteArray, e = .returned (.string s) ∧ s ∈ ps ∧ RD w' B R L (p + 1) ∧ w.grownBy w' (some R)
theorem cell_of_strs {w w' : World} {R g : Nat} {ps : List ByteArray} (hg : w.heap[g]? = some (.cells (strs ps) 9 (0, 0))) (hne : g ≠ R) (hgr : w.grownBy w' (some R)) {k : Nat} (hk : k < ps.length) :
    ∃ s : ByteArray, w'.cell? ⟨g, k, none⟩ = some (.string s) ∧ s ∈ ps := by
  refine ⟨ps[k], ?_, List.getElem_mem _⟩
  have h1 : w'.heap[g]? = _ := (hgr.block g (Array.getElem?_eq_some_iff.1 hg).1 (by simpa using hne)).trans hg
  rw [cell_of_row w' g k _ _ _ h1]
  simp [strs, hk]

set_option maxHeartbeats 400000 in
theorem of_any (w : World) (B R L p g cap len : Nat) (ps : List ByteArray) (h : RD w B R L p) (hg : w.heap[g]? = some (.cells (strs ps) 9 (0, 0))) (hne : g ≠ R) (hl : Hid (len = ps.length)) (h0 : 1 ≤ len) (h2 : len ≤ 1000000)
    (hp : p ≤ 1000000000000) :
    Calls Try.prog 44 #[.pointer (some ⟨R, 0, none⟩), .slice (some ⟨g, 0, none⟩) len cap] w fun e w' => OneStr ps w B R L p e w' := by
  have HG := Lib.hid hg
  clear hg
  go_enter Try.func44, Try.ntmps44
  go_wp2_with (go_at_call 31; refine (pick_any w B R L p _ h hp (by omega) (by omega)).mono ?_; rintro e w1 ⟨k, rfl, hk, hrd, hgr⟩; obtain ⟨z, hz, hm⟩ := cell_of_strs HG.out hne hgr (k := k) (by rw [← hl.out]; omega))
  go_ret
  exact ⟨z, rfl, hm, hrd, hgr⟩
/-- a text of at most n bytes, drawn -/
def TextDrawn (n more : Nat) (w : World) (B R L p : Nat) (e : Ending) (w' : World) : Prop :=
  ∃ (s : ByteArray) (q : Nat), e = .returned (.string s) ∧ s.size ≤ n ∧ RD w' B R L q ∧ q ≤ p + more ∧ w.grownBy w' (some R)
theorem small_strs {ps : List ByteArray} {s : ByteArray} {n : Nat} (h : (ps.all fun p => decide (p.size ≤ n)) = true) (hs : s ∈ ps) : s.size ≤ n := by
  have := List.all_eq_true.1 h s hs
  exact of_decide_eq_true this
end Go.Proofs.Ythojahknocageaa


/- Tables of rules: what it means that a slice reads as a list of rules. -/
namespace Go.Proofs.Ythojahknocageaa
open Go.RowKit Go.ChangeShapes Go.WideShapes

/-- a rule: its letters, its cells, its place -/
structure PRule where
  t : ByteArray
  c : List Int
  p : Int
def noR : PRule := ⟨⟨#[]⟩, [], 0⟩
/-- the three cells from offset o of block g on read as the rule r -/
def RuleAt (w : World) (g o : Nat) (r : PRule) : Prop :=
  w.cell? ⟨g, o, none⟩ = some (.string r.t) ∧ (∃ u, w.cell? ⟨g, o + 1, none⟩ = some u ∧ IntsAt w u r.c) ∧ w.cell? ⟨g, o + 2, none⟩ = some (.int .i64 r.p)
/-- the slice value v reads as the table T -/
def TableAt (w : World) (v : Value) (T : List PRule) : Prop :=
  ∃ a cap, v = .slice a T.length cap ∧ T.length ≤ cap ∧ cap ≤ 9223372036854775807 ∧
    (T = [] ∨ ∃ g off, a = some ⟨g, off, none⟩ ∧ ∀ i, i < T.length → RuleAt w g (off + i * 3) (T.getD i noR))
theorem RuleAt.below {w w' : World} {g o : Nat} {r : PRule} (h : RuleAt w g o r) (hb : Below w.heap.size w w') : RuleAt w' g o r := by
  obtain ⟨h1, ⟨u, h2, h3⟩, h4⟩ := h
  exact ⟨(hb.cell (World.block_lt_of_cell? w _ h1)).trans h1, ⟨u, (hb.cell (World.block_lt_of_cell? w _ h2)).trans h2, h3.below hb⟩, (hb.cell (World.block_lt_of_cell? w _ h4)).trans h4⟩
theorem TableAt.below {w w' : World} {v : Value} {T : List PRule} (h : TableAt w v T) (hb : Below w.heap.size w w') : TableAt w' v T := by
  obtain ⟨a, cap, h1, h2, h3, h4⟩ := h
  refine ⟨a, cap, h1, h2, h3, ?_⟩
  rcases h4 with h4 | ⟨g, off, h4, h5⟩
  · exact .inl h4
  · exact .inr ⟨g, off, h4, fun i hi => (h5 i hi).below hb⟩
/-- what its letters, cells and place are bound to fit -/
def RuleFits (r : PRule) : Prop := r.t.size ≤ 9223372036854775807 ∧ Fits r.c ∧ -9223372036854775808 ≤ r.p ∧ r.p ≤ 9223372036854775807
def TableFits (T : List PRule) : Prop := ∀ r ∈ T, RuleFits r
theorem TableFits.at {T : List PRule} (h : TableFits T) (k : Nat) : RuleFits (T.getD k noR) := by
  rw [List.getD_eq_getElem?_getD]
  by_cases hk : k < T.length
  · rw [List.getElem?_eq_getElem hk, Option.getD_some]; exact h _ (List.getElem_mem _)
  · rw [List.getElem?_eq_none (by omega), Option.getD_none]
    exact ⟨Nat.zero_le _, fun z hz => absurd hz (by simp [noR]), by simp [noR], by simp [noR]⟩

instance : Inhabited PRule := ⟨noR⟩
theorem cells_of {w : World} {b off : Nat} {n : Nat} {base : Nat} {cs : List Value} {i : Nat} (h : w.cells? base ((⟨b, off, none⟩ : Addr).add i) n = some cs) : cs.length = n ∧ ∀ j, j < n → w.cell? ⟨b, off + i + j, none⟩ = cs[j]? := by
  obtain ⟨_, h1, h2⟩ := World.cells?_some h
  refine ⟨h1, fun j hj => ?_⟩
  have := h2 j hj
  rw [add_plain, add_plain] at this
  exact this
section SXTb
variable {H : Type} {enc : TypeId × Value → H} {W : World} {base : Nat} {spare : Nat → Bool} {held : Bool}
set_option maxRecDepth 100000 in
theorem open_ints_at {fuel : Nat} {u : Value} {x : DataW H × List MemPlace} (h : DataW.trod enc Try.prog W base spare held fuel 23 [u] = some x) : ∃ zs, IntsAt W u zs ∧ Fits zs := by
  rcases open_ints Try.underlying23 Try.underlying3 (by kernel_rfl) h with ⟨hcs, _⟩ | ⟨a, l, c, zs, hcs, _, hl, hm, hz, _, hcell, hwz⟩
  · simp at hcs
    subst hcs
    exact ⟨[], ⟨none, 0, rfl, Nat.le_refl _, by omega, .inl rfl⟩, fun z hz => absurd hz (by simp)⟩
  · simp at hcs
    subst hcs
    have hlz : l ≤ zs.length := by rw [hz]; split <;> omega
    have hl2 : (zs.take l).length = l := by rw [List.length_take]; omega
    refine ⟨zs.take l, ⟨some a, c, by rw [hl2], by omega, by unfold maxLen at hm; exact hm, ?_⟩, fun z hz => ?_⟩
    · by_cases h0 : l = 0
      · subst h0; exact .inl (by simp)
      · obtain ⟨b, off, rfl, hc⟩ := ints_at hcell (by omega)
        refine .inr ⟨b, off, rfl, fun i hi => ?_⟩
        rw [hc i (by omega), List.getD_eq_getElem?_getD, List.getD_eq_getElem?_getD, List.getElem?_take, if_pos (by omega)]
    · have := bounds_i64 (hwz z (List.mem_of_mem_take hz)); omega
end SXTb
end Go.Proofs.Ythojahknocageaa


/- Words, signs and marks: the small functions that a rule is tested by. -/
namespace Go.Proofs.Ythojahknocageaa
open Go.RowKit

def smallN (c : Nat) : Bool := decide (97 ≤ c ∧ c ≤ 122)
/-- one to n small letters -/
def WordB (n : Nat) (l : List UInt8) : Prop := 1 ≤ l.length ∧ l.length ≤ n ∧ ∀ b ∈ l, smallN b.toNat = true
instance (n : Nat) (l : List UInt8) : Decidable (WordB n l) := inferInstanceAs (Decidable (_ ∧ _))
/-- small letters alone, at least one -/
def SmallB (l : List UInt8) : Prop := 1 ≤ l.length ∧ ∀ b ∈ l, smallN b.toNat = true
instance (l : List UInt8) : Decidable (SmallB l) := inferInstanceAs (Decidable (_ ∧ _))
def SmUp (l : List UInt8) (k : Nat) : Prop := ∀ i (h : i < l.length), i < k → smallN (l[i]).toNat = true
theorem SmUp.zero (l : List UInt8) : SmUp l 0 := fun i _ h => absurd h (by omega)
theorem SmUp.succ {l : List UInt8} {k : Nat} (h : SmUp l k) (hk : k < l.length) (e : smallN (l[k]).toNat = true) : SmUp l (k + 1) := fun i hi hik => by
  by_cases hek : i = k
  · subst hek; exact e
  · exact h i hi (by omega)
theorem SmUp.all {l : List UInt8} (h : SmUp l l.length) : ∀ b ∈ l, smallN b.toNat = true := by
  intro b hb
  obtain ⟨i, hi, rfl⟩ := List.getElem_of_mem hb
  exact h i hi hi
theorem not_small {l : List UInt8} {k : Nat} (hk : k < l.length) (e : smallN (l[k]).toNat = false) : ¬ ∀ b ∈ l, smallN b.toNat = true := by
  intro h
  have := h l[k] (List.getElem_mem _)
  rw [e] at this; cases this
theorem wd_byte {s : ByteArray} {k : Nat} (h : k < s.size) (h2 : k < s.data.toList.length) : s.data.toList[k]'h2 = s[k]'h := rfl
theorem wd_size (s : ByteArray) : s.data.toList.length = s.size := by rw [Array.length_toList]; rfl

set_option maxHeartbeats 2000000 in
theorem i_onlySmall (s : ByteArray) (n : Nat) (w : World) (hs : s.size ≤ 9223372036854775807) (hn : n ≤ 1000) :
    Calls Try.prog 49 #[.string s, .int .i64 n] w fun e w' => e = .returned (.bool (decide (WordB n s.data.toList))) ∧ w = w' := by
  have hl := wd_size s
  obtain ⟨l, hL⟩ : ∃ l, s.data.toList = l := ⟨_, rfl⟩
  have HE : ∀ k (h : k < s.size), ∃ h2 : k < l.length, l[k] = s[k] := fun k h => ⟨by rw [← hL, hl]; exact h, by subst hL; exact wd_byte h _⟩
  rw [hL] at hl ⊢
  have HL := Lib.hid hl
  have HHE := Lib.hid HE
  clear hl hL HE
  by_cases h1 : s.size < 1
  · have HN : Hid (¬ WordB n l) := fun h => by have := h.1; have := HL.out; omega
    go_enter Try.func49, Try.ntmps49
    go_wp2
    go_ret
    exact ⟨ret_bool (decide_eq_false HN.out).symm, rfl⟩
  · by_cases h2 : n < s.size
    · have HN : Hid (¬ WordB n l) := fun h => by have := h.2.1; have := HL.out; omega
      go_enter Try.func49, Try.ntmps49
      go_wp2
      go_ret
      exact ⟨ret_bool (decide_eq_false HN.out).symm, rfl⟩
    · go_enter Try.func49, Try.ntmps49
      go_wp2
      go_loop [5] (fun i => ∃ k : Nat, k ≤ s.size ∧ i = .int .i64 k ∧ SmUp l k) (fun i => s.size - (intOf i).toNat)
      case atStart => exact ⟨0, by omega, rfl, SmUp.zero _⟩
      case round =>
        obtain ⟨k, hk, rfl, hok⟩ := hrel
        by_cases hlt : k < s.size
        · obtain ⟨h3, hbk⟩ := HHE.out k hlt
          cases hlet : smallN (s[k]).toNat with
          | true =>
            have HLt : Hid (decide (97 ≤ (s[k]).toNat ∧ (s[k]).toNat ≤ 122) = true) := hlet
            have hok' : SmUp l (k + 1) := hok.succ h3 (by rw [hbk]; exact hlet)
            clear hlet hbk hok
            go_wp2_with (go_at_call 60; refine (i_isSmall_b _ true _ HLt).mono ?_; rintro e w' ⟨rfl, rfl⟩)
            go_round
            case rel => exact ⟨k + 1, by omega, by go_num, hok'⟩
            case measure => simp [intOf]; omega
          | false =>
            have HLt : Hid (decide (97 ≤ (s[k]).toNat ∧ (s[k]).toNat ≤ 122) = false) := hlet
            have HN : Hid (¬ WordB n l) := fun h => not_small h3 (by rw [hbk]; exact hlet) h.2.2
            clear hlet hbk hok
            go_wp2_with (go_at_call 60; refine (i_isSmall_b _ false _ HLt).mono ?_; rintro e w' ⟨rfl, rfl⟩)
            go_ret
            exact ⟨ret_bool (decide_eq_false HN.out).symm, rfl⟩
        · have HY : Hid (WordB n l) := ⟨by have := HL.out; omega, by have := HL.out; omega, SmUp.all (by rw [HL.out, show s.size = k from by omega]; exact hok)⟩
          go_wp2
          go_ret
          exact ⟨ret_bool (decide_eq_true HY.out).symm, rfl⟩
theorem i_isWord (s : ByteArray) (w : World) (hs : s.size ≤ 9223372036854775807) :
    Calls Try.prog 36 #[.string s] w fun e w' => e = .returned (.bool (decide (WordB 16 s.data.toList))) ∧ w = w' := by
  have H : Hid (Calls Try.prog 49 #[.string s, .int .i64 16] w fun e w' => e = .returned (.bool (decide (WordB 16 s.data.toList))) ∧ w = w') := i_onlySmall s 16 w hs (by omega)
  go_enter Try.func36, Try.ntmps36
  go_wp2_with (go_at_call 49; refine H.out.mono ?_; rintro e w' ⟨rfl, rfl⟩)
  go_ret
  exact ⟨rfl, rfl⟩

set_option maxHeartbeats 2000000 in
theorem s_isWord (s : ByteArray) (w : World) (hs : s.size ≤ 9223372036854775807) :
    Calls Try.prog 53 #[.string s] w fun e w' => e = .returned (.bool (decide (SmallB s.data.toList))) ∧ w = w' := by
  have hl := wd_size s
  obtain ⟨l, hL⟩ : ∃ l, s.data.toList = l := ⟨_, rfl⟩
  have HE : ∀ k (h : k < s.size), ∃ h2 : k < l.length, l[k] = s[k] := fun k h => ⟨by rw [← hL, hl]; exact h, by subst hL; exact wd_byte h _⟩
  rw [hL] at hl ⊢
  have HL := Lib.hid hl
  have HHE := Lib.hid HE
  clear hl hL HE
  go_enter Try.func53, Try.ntmps53
  go_wp2
  go_loop [3] (fun i => ∃ k : Nat, k ≤ s.size ∧ i = .int .i64 k ∧ SmUp l k) (fun i => s.size - (intOf i).toNat)
  case atStart => exact ⟨0, by omega, rfl, SmUp.zero _⟩
  case round =>
    obtain ⟨k, hk, rfl, hok⟩ := hrel
    by_cases hlt : k < s.size
    · obtain ⟨h3, hbk⟩ := HHE.out k hlt
      cases hlet : smallN (s[k]).toNat with
      | true =>
        have HLt : Hid (decide (97 ≤ (s[k]).toNat ∧ (s[k]).toNat ≤ 122) = true) := hlet
        have hok' : SmUp l (k + 1) := hok.succ h3 (by rw [hbk]; exact hlet)
        clear hlet hbk hok
        go_wp2_with (go_at_call 68; refine (s_isLower_b _ true _ HLt).mono ?_; rintro e w' ⟨rfl, rfl⟩)
        go_round
        case rel => exact ⟨k + 1, by omega, by go_num, hok'⟩
        case measure => simp [intOf]; omega
      | false =>
        have HLt : Hid (decide (97 ≤ (s[k]).toNat ∧ (s[k]).toNat ≤ 122) = false) := hlet
        have HN : Hid (¬ SmallB l) := fun h => not_small h3 (by rw [hbk]; exact hlet) h.2
        clear hlet hbk hok
        go_wp2_with (go_at_call 68; refine (s_isLower_b _ false _ HLt).mono ?_; rintro e w' ⟨rfl, rfl⟩)
        go_ret
        exact ⟨ret_bool (decide_eq_false HN.out).symm, rfl⟩
    · have hk0 : k = s.size := by omega
      subst hk0
      by_cases h0 : 0 < s.size
      · have HY : Hid (SmallB l) := ⟨by have := HL.out; omega, SmUp.all (by rw [HL.out]; exact hok)⟩
        have d1 : decide ((0 : Int) < (s.size : Int)) = true := decide_eq_true (by omega)
        go_wp2
        go_ret
        exact ⟨ret_bool (decide_eq_true HY.out).symm, rfl⟩
      · have HN : Hid (¬ SmallB l) := fun h => by have := h.1; have := HL.out; omega
        have d1 : decide ((0 : Int) < (s.size : Int)) = false := decide_eq_false (by omega)
        go_wp2
        go_ret
        exact ⟨ret_bool (decide_eq_false HN.out).symm, rfl⟩

theorem i_isSign (z : Int) (w : World) :
    Calls Try.prog 73 #[.int .i64 z] w fun e w' => e = .returned (.bool (decide (z = 60 ∨ z = 32 ∨ z = 48))) ∧ w = w' := by
  go_enter Try.func73, Try.ntmps73
  go_wp2
  all_goals go_ret
  all_goals (refine ⟨ret_bool ?_, rfl⟩; by_cases h1 : z = 60 <;> by_cases h2 : z = 32 <;> by_cases h3 : z = 48 <;> simp_all)

/-- the mark whose cell it is, 0 if there is none -/
def markOfC (z : Int) : Nat := if idx markC z = -1 then 0 else (markL.getD (idx markC z).toNat 0).toNat
theorem mark_sub (k : Nat) (hk : k < 8) : (⟨#[46, 44, 59, 58, 33, 63, 39, 45]⟩ : ByteArray).extract k (k + 1) = markS k := by
  rcases (show k = 0 ∨ k = 1 ∨ k = 2 ∨ k = 3 ∨ k = 4 ∨ k = 5 ∨ k = 6 ∨ k = 7 from by omega) with rfl | rfl | rfl | rfl | rfl | rfl | rfl | rfl <;> rfl
theorem markL_nat (k : Nat) : ((markL.getD k 0).toNat : Int) = markL.getD k 0 := by
  by_cases h : k < 8
  · rcases (show k = 0 ∨ k = 1 ∨ k = 2 ∨ k = 3 ∨ k = 4 ∨ k = 5 ∨ k = 6 ∨ k = 7 from by omega) with rfl | rfl | rfl | rfl | rfl | rfl | rfl | rfl <;> rfl
  · rw [List.getD_eq_getElem?_getD, List.getElem?_eq_none (by simp [markL]; omega)]; rfl
set_option maxHeartbeats 1000000 in
theorem i_markOf (z : Int) (w : World) :
    Calls Try.prog 74 #[.int .i64 z] w fun e w' => e = .returned (.int .u8 (markOfC z)) ∧ w = w' := by
  go_enter Try.func74, Try.ntmps74
  go_wp2
  go_loop [3] (fun i => ∃ k : Nat, k ≤ 8 ∧ i = .int .i64 k ∧ NotIn markC z k) (fun i => 8 - (intOf i).toNat)
  case atStart => exact ⟨0, by omega, rfl, NotIn.zero _ _⟩
  case round =>
    obtain ⟨k, hk, rfl, hn⟩ := hrel
    by_cases hlt : k < 8
    · have HM := Lib.hid (mark_at k hlt)
      have HS := Lib.hid (mark_sub k hlt)
      obtain ⟨v, hv⟩ : ∃ v, markC.getD k 0 = v := ⟨_, rfl⟩
      have HV := Lib.hid hv
      have q0 : (0 : Int) ≤ (k : Int) := by omega
      have q1 : (k : Int) + 1 ≤ 8 := by omega
      by_cases e : v = z
      · have HI : Hid (idx markC z = k) := idx_hit (by simpa [markC] using hlt) hn (hv.trans e)
        have e1 : (v == z) = true := by simpa using e
        clear e hn hk hv
        go_wp2_with (go_at_call 85; refine (i_MarkCell_yes k _ v _ hlt HS HV).mono ?_; rintro e w' ⟨rfl, rfl⟩)
        go_ret
        refine ⟨?_, rfl⟩
        have h0 : idx markC z ≠ -1 := by rw [HI.out]; omega
        rw [HM.out, markOfC, if_neg h0, HI.out]
        simp only [Int.toNat_natCast]
        rw [markL_nat]
        rfl
      · have hn' : NotIn markC z (k + 1) := hn.succ (by rw [hv]; exact e)
        have e1 : (v == z) = false := by simpa using e
        clear e hn hk hv
        go_wp2_with (go_at_call 85; refine (i_MarkCell_yes k _ v _ hlt HS HV).mono ?_; rintro e w' ⟨rfl, rfl⟩)
        go_round
        case rel => exact ⟨k + 1, by omega, by go_num, hn'⟩
        case measure => simp [intOf]; omega
    · go_wp2
      go_ret
      obtain rfl : k = 8 := by omega
      exact ⟨by rw [markOfC, idx_none (l := markC) (fun j hj => hn j hj)]; rfl, rfl⟩
end Go.Proofs.Ythojahknocageaa


/- One rule: whether it is valid, in the program and in its model. -/
namespace Go.Proofs.Ythojahknocageaa
open Go.RowKit

set_option maxHeartbeats 1000000 in
theorem s_placeIn (w : World) (u : Value) (zs : List Int) (c : Int) (hx : IntsAt w u zs) :
    Calls Try.prog 80 #[u, .int .i64 c] w fun e w' => e = .returned (.int .i64 (idx zs c)) ∧ w = w' := by
  obtain ⟨a, cp, rfl, x1, x2, x3⟩ := hx
  obtain ⟨n, hn⟩ : ∃ n, zs.length = n := ⟨_, rfl⟩
  rw [hn] at x1 x3 ⊢
  have HN := Lib.hid hn
  clear hn
  go_enter Try.func80, Try.ntmps80
  go_wp2
  go_loop [5] (fun i => ∃ k : Nat, k ≤ n ∧ i = .int .i64 k ∧ NotIn zs c k) (fun i => n - (intOf i).toNat)
  case atStart => exact ⟨0, Nat.zero_le _, rfl, NotIn.zero _ _⟩
  case round =>
    obtain ⟨k, hk, rfl, hs⟩ := hrel
    by_cases hlt : k < n
    · rcases x3 with rfl | ⟨g, off, rfl, x3⟩
      · exact absurd HN.out (by simp; omega)
      have cx := x3 k hlt
      obtain ⟨y, hy⟩ : ∃ y, zs.getD k 0 = y := ⟨_, rfl⟩
      rw [hy] at cx
      have HY := Lib.hid hy
      clear hy x3
      by_cases e : y = c
      · have HI : Hid (idx zs c = k) := idx_hit (by have := HN.out; omega) hs (HY.out.trans e)
        have e1 : (y == c) = true := by simpa using e
        clear e hs
        go_wp2
        go_ret
        exact ⟨by rw [HI.out]; rfl, rfl⟩
      · have hs' := hs.succ (by rw [HY.out]; exact e)
        have e1 : (y == c) = false := by simpa using e
        clear e hs
        go_wp2
        go_round
        case rel => exact ⟨k + 1, by omega, by go_num, hs'⟩
        case measure => simp [intOf]; omega
    · go_wp2
      go_ret
      obtain rfl : k = n := by omega
      exact ⟨by rw [idx_none (l := zs) (fun j hj => hs j (by have := HN.out; omega))]; rfl, rfl⟩

theorem s_markCells_list (w : World) :
    Calls Try.prog 81 #[] w fun e w' => ∃ g, e = .returned (.slice (some ⟨g, 0, none⟩) 8 8) ∧ IntsAt w' (.slice (some ⟨g, 0, none⟩) 8 8) markC ∧ Below w.heap.size w w' := by
  go_enter Try.func81, Try.ntmps81
  go_wp2
  go_ret
  refine ⟨w.heap.size, rfl, ⟨_, 8, rfl, by decide, by omega, .inr ⟨w.heap.size, 0, rfl, fun i hi => ?_⟩⟩, (Below.refl _ _).alloc (Nat.le_refl _) _⟩
  rw [cell_of_row _ w.heap.size (0 + i) _ _ _ (heap_alloc_new w _)]
  have hi' : i < 8 := hi
  rcases (show i = 0 ∨ i = 1 ∨ i = 2 ∨ i = 3 ∨ i = 4 ∨ i = 5 ∨ i = 6 ∨ i = 7 from by omega) with rfl | rfl | rfl | rfl | rfl | rfl | rfl | rfl <;> rfl

/-- a cell that may stand in a rule -/
def WordCell (z : Int) : Prop := (1 ≤ z ∧ z ≤ 63) ∧ idx markC z < 0 ∧ z ≠ 60 ∧ z ≠ 32 ∧ z ≠ 48
instance (z : Int) : Decidable (WordCell z) := inferInstanceAs (Decidable (_ ∧ _))
set_option maxHeartbeats 1000000 in
theorem s_wordCell (z : Int) (w : World) :
    Calls Try.prog 67 #[.int .i64 z] w fun e w' => e = .returned (.bool (decide (WordCell z))) ∧ Below w.heap.size w w' := by
  by_cases h1 : 1 ≤ z ∧ z ≤ 63
  · obtain ⟨r, hr⟩ : ∃ r, idx markC z = r := ⟨_, rfl⟩
    have HR := Lib.hid hr
    clear hr
    by_cases h2 : r < 0
    · go_enter Try.func67, Try.ntmps67
      go_wp2_with fail
      refine (inRange_yes _ _ _ _ h1.1 h1.2).mono ?_
      rintro e w' ⟨rfl, rfl⟩
      go_wp2_with fail
      refine (s_markCells_list _).mono ?_
      rintro e w2 ⟨g, rfl, hx, hb⟩
      go_wp2_with fail
      refine (s_placeIn _ _ _ z hx).mono ?_
      rw [HR.out]
      rintro e w' ⟨rfl, rfl⟩
      go_wp2
      all_goals go_ret
      all_goals (refine ⟨ret_bool ?_, hb⟩; by_cases h3 : z = 60 <;> by_cases h4 : z = 32 <;> by_cases h5 : z = 48 <;> simp_all [WordCell, HR.out])
    · have HN : Hid (¬ WordCell z) := fun h => by have := h.2.1; rw [HR.out] at this; omega
      go_enter Try.func67, Try.ntmps67
      go_wp2_with fail
      refine (inRange_yes _ _ _ _ h1.1 h1.2).mono ?_
      rintro e w' ⟨rfl, rfl⟩
      go_wp2_with fail
      refine (s_markCells_list _).mono ?_
      rintro e w2 ⟨g, rfl, hx, hb⟩
      go_wp2_with fail
      refine (s_placeIn _ _ _ z hx).mono ?_
      rw [HR.out]
      rintro e w' ⟨rfl, rfl⟩
      go_wp2
      go_ret
      exact ⟨ret_bool (decide_eq_false HN.out).symm, hb⟩
  · have HN : Hid (¬ WordCell z) := fun h => h1 h.1
    go_enter Try.func67, Try.ntmps67
    go_wp2_with fail
    refine (inRange_no _ _ _ _ (by omega)).mono ?_
    rintro e w' ⟨rfl, rfl⟩
    go_wp2
    go_ret
    exact ⟨ret_bool (decide_eq_false HN.out).symm, Below.refl _ _⟩

/-- the first k numbers may stand in a rule -/
def WcUp (zs : List Int) (k : Nat) : Prop := ∀ i, i < k → WordCell (zs.getD i 0)
theorem WcUp.zero (zs : List Int) : WcUp zs 0 := fun i h => absurd h (by omega)
theorem WcUp.succ {zs : List Int} {k : Nat} (h : WcUp zs k) (e : WordCell (zs.getD k 0)) : WcUp zs (k + 1) := fun i hi => by
  by_cases hik : i = k
  · subst hik; exact e
  · exact h i (by omega)
theorem WcUp.all {zs : List Int} {n : Nat} (h : WcUp zs n) (hn : zs.length = n) : ∀ z ∈ zs, WordCell z := by
  intro z hz
  obtain ⟨i, hi, rfl⟩ := List.getElem_of_mem hz
  have := h i (by omega)
  simpa [List.getD_eq_getElem?_getD, hi] using this
theorem not_wc {zs : List Int} {k n : Nat} {y : Int} (hn : zs.length = n) (hk : k < n) (hy : zs.getD k 0 = y) (e : ¬ WordCell y) : ¬ ∀ z ∈ zs, WordCell z := fun h => by
  have hm : y ∈ zs := by
    subst hy
    rw [List.getD_eq_getElem?_getD, List.getElem?_eq_getElem (by omega), Option.getD_some]; exact List.getElem_mem _
  exact e (h y hm)
/-- a valid rule -/
def ValidR (r : PRule) : Prop := WordB 6 r.t.data.toList ∧ (1 ≤ r.c.length ∧ r.c.length ≤ 2) ∧ (∀ z ∈ r.c, WordCell z) ∧ 0 ≤ r.p ∧ r.p ≤ 4
instance (r : PRule) : Decidable (ValidR r) := inferInstanceAs (Decidable (_ ∧ _))

theorem markOfC_zero (z : Int) : markOfC z = 0 ↔ idx markC z < 0 := by
  by_cases h : idx markC z < 0
  · have h1 : idx markC z = -1 := by
      by_cases hn : ∃ k : Nat, k < 8 ∧ markC.getD k 0 = z
      · exfalso
        obtain ⟨k, hk, e⟩ := hn
        have : ∀ k, k < 8 → 0 ≤ idx markC (markC.getD k 0) := by decide
        have := this k hk
        rw [e] at this
        omega
      · exact idx_none fun j hj e => hn ⟨j, hj, e⟩
    simp [markOfC, h1]
  · have h1 : idx markC z ≠ -1 := by omega
    have h2 : ∃ k : Nat, k < 8 ∧ markC.getD k 0 = z := by
      refine Classical.byContradiction fun hn => h1 (idx_none fun j hj e => hn ⟨j, hj, e⟩)
    obtain ⟨k, hk, rfl⟩ := h2
    have : ∀ k, k < 8 → (markOfC (markC.getD k 0) = 0 ↔ idx markC (markC.getD k 0) < 0) := by decide
    exact this k hk

theorem i_isSign_v (z : Int) (b : Bool) (w : World) (h : Hid (decide (z = 60 ∨ z = 32 ∨ z = 48) = b)) :
    Calls Try.prog 73 #[.int .i64 z] w fun e w' => e = .returned (.bool b) ∧ w = w' := by
  have := i_isSign z w
  rw [h.out] at this
  exact this
theorem i_markOf_v (z : Int) (m : Nat) (w : World) (h : Hid (markOfC z = m)) :
    Calls Try.prog 74 #[.int .i64 z] w fun e w' => e = .returned (.int .u8 m) ∧ w = w' := by
  have := i_markOf z w
  rw [h.out] at this
  exact this
theorem i_isWordCell (z : Int) (b : Bool) (w : World) (h0 : 0 ≤ z ∧ z < 64) (h : Hid (decide (WordCell z) = b)) :
    Calls Try.prog 59 #[.int .i64 z] w fun e w' => e = .returned (.bool b) ∧ w = w' := by
  by_cases e0 : z = 0
  · subst e0
    obtain rfl : b = false := by rw [← h.out]; decide
    clear h h0
    go_enter Try.func59, Try.ntmps59
    go_wp2
    go_ret
    exact ⟨rfl, rfl⟩
  · have q1 : (z != 0) = true := by simpa using e0
    obtain ⟨b2, hb2⟩ : ∃ b2, decide (z = 60 ∨ z = 32 ∨ z = 48) = b2 := ⟨_, rfl⟩
    have HSg := Lib.hid hb2
    obtain ⟨m, hm⟩ : ∃ m, markOfC z = m := ⟨_, rfl⟩
    have HM := Lib.hid hm
    have HZ : Hid (b = (!b2 && decide (m = 0))) := by
      unfold Hid
      rw [← h.out, ← hb2, ← hm]
      have := markOfC_zero z
      by_cases c1 : z = 60 ∨ z = 32 ∨ z = 48
      · rw [decide_eq_true c1, decide_eq_false (fun hw => by have := hw.2.2; omega)]; rfl
      · by_cases c2 : markOfC z = 0
        · rw [decide_eq_false c1, decide_eq_true c2, decide_eq_true (show WordCell z from ⟨by omega, this.1 c2, by omega⟩)]; rfl
        · rw [decide_eq_false c1, decide_eq_false c2, decide_eq_false (fun hw => c2 (this.2 hw.2.1))]; rfl
    clear h h0 e0 hb2 hm
    cases b2 with
    | true =>
      go_enter Try.func59, Try.ntmps59
      go_wp2_with (go_at_call 73; refine (i_isSign_v _ _ _ HSg).mono ?_; rintro e w' ⟨rfl, rfl⟩)
      go_ret
      exact ⟨by rw [HZ.out]; rfl, rfl⟩
    | false =>
      by_cases e2 : m = 0
      · subst e2
        go_enter Try.func59, Try.ntmps59
        go_wp2_with (first | (go_at_call 73; refine (i_isSign_v _ _ _ HSg).mono ?_; rintro e w' ⟨rfl, rfl⟩) | (go_at_call 74; refine (i_markOf_v _ _ _ HM).mono ?_; rintro e w' ⟨rfl, rfl⟩))
        go_ret
        exact ⟨by rw [HZ.out]; rfl, rfl⟩
      · have q2 : (((m : Nat) : Int) == 0) = false := by simp; omega
        have E2 := Lib.hid e2
        clear e2
        go_enter Try.func59, Try.ntmps59
        go_wp2_with (first | (go_at_call 73; refine (i_isSign_v _ _ _ HSg).mono ?_; rintro e w' ⟨rfl, rfl⟩) | (go_at_call 74; refine (i_markOf_v _ _ _ HM).mono ?_; rintro e w' ⟨rfl, rfl⟩))
        go_ret
        exact ⟨by rw [HZ.out]; simp [E2.out], rfl⟩
set_option maxHeartbeats 4000000 in
theorem i_isRule (w : World) (u : Value) (r : PRule) (hx : IntsAt w u r.c) (hs : r.t.size ≤ 9223372036854775807) :
    Calls Try.prog 47 #[.agg #[.string r.t, u, .int .i64 r.p]] w fun e w' => e = .returned (.bool (decide (ValidR r))) ∧ Below w.heap.size w w' := by
  obtain ⟨s, zs, p⟩ := r
  simp only at hx hs ⊢
  obtain ⟨a, cp, rfl, x1, x2, x3⟩ := hx
  obtain ⟨n, hn⟩ : ∃ n, zs.length = n := ⟨_, rfl⟩
  rw [hn] at x1 x3 ⊢
  have HN := Lib.hid hn
  clear hn
  have HS : ∀ wx, Hid (Calls Try.prog 49 #[.string s, .int .i64 6] wx fun e w' => e = .returned (.bool (decide (WordB 6 s.data.toList))) ∧ wx = w') := fun wx => i_onlySmall s 6 wx hs (by omega)
  obtain ⟨b, hb⟩ : ∃ b, decide (WordB 6 s.data.toList) = b := ⟨_, rfl⟩
  rw [hb] at HS
  have HB := Lib.hid hb
  clear hb
  have hfin : Hid (b = true ∧ 0 ≤ p ∧ p ≤ 4 ∧ 1 ≤ n ∧ n ≤ 2 → (∀ z ∈ zs, WordCell z) → ValidR ⟨s, zs, p⟩) := fun h hz => by
    refine ⟨?_, ?_, hz, h.2.1, h.2.2.1⟩
    · have := HB.out; rw [h.1] at this; exact of_decide_eq_true this
    · have := HN.out; show 1 ≤ zs.length ∧ zs.length ≤ 2; omega
  have hnot : Hid (ValidR ⟨s, zs, p⟩ → b = true ∧ 0 ≤ p ∧ p ≤ 4 ∧ 1 ≤ n ∧ n ≤ 2 ∧ ∀ z ∈ zs, WordCell z) := fun h => by
    have h2 := h.2.1
    have h3 := HN.out
    simp only at h2
    exact ⟨by rw [← HB.out]; exact decide_eq_true h.1, h.2.2.2.1, h.2.2.2.2, by omega, by omega, h.2.2.1⟩
  cases b with
  | false =>
    have HNO : Hid (¬ ValidR ⟨s, zs, p⟩) := fun h => absurd (hnot.out h).1 (by simp)
    go_enter Try.func47, Try.ntmps47
    go_wp2_with (go_at_call 49; refine (HS _).out.mono ?_; rintro e w' ⟨rfl, rfl⟩)
    go_ret
    exact ⟨ret_bool (decide_eq_false HNO.out).symm, (Below.refl _ _).alloc (Nat.le_refl _) _⟩
  | true =>
    by_cases h1 : 0 ≤ p ∧ p ≤ 4
    · by_cases h2 : 1 ≤ n ∧ n ≤ 2
      · obtain ⟨h11, h12⟩ := h1
        obtain ⟨h21, h22⟩ := h2
        have d1 : decide (p < 0) = false := decide_eq_false (by omega)
        have d2 : decide (4 < p) = false := decide_eq_false (by omega)
        go_enter Try.func47, Try.ntmps47
        go_wp2_with (go_at_call 49; refine (HS _).out.mono ?_; rintro e w' ⟨rfl, rfl⟩)
        go_loop [32] (fun i => ∃ k : Nat, k ≤ n ∧ i = .int .i64 k ∧ WcUp zs k) (fun i => n - (intOf i).toNat)
        case atStart => exact ⟨0, Nat.zero_le _, rfl, WcUp.zero _⟩
        case round =>
          obtain ⟨k, hk, rfl, hok⟩ := hrel
          by_cases hlt : k < n
          · rcases x3 with rfl | ⟨g, off, rfl, x3⟩
            · exact absurd HN.out (by simp; omega)
            have hB1 : Below w.heap.size w (w.alloc (.cells #[.string s, .slice (some ⟨g, off, none⟩) n cp, .int .i64 p] 56)) := (Below.refl _ _).alloc (Nat.le_refl _) _
            have cx := (hB1.cell (World.block_lt_of_cell? w _ (x3 k hlt))).trans (x3 k hlt)
            obtain ⟨y, hy⟩ : ∃ y, zs.getD k 0 = y := ⟨_, rfl⟩
            rw [hy] at cx
            have HY := Lib.hid hy
            clear hy x3 hB1
            by_cases e0 : 0 ≤ y ∧ y < 64
            · by_cases e1 : WordCell y
              · have HW : Hid (decide (WordCell y) = true) := decide_eq_true e1
                have hok' := hok.succ (by rw [HY.out]; exact e1)
                clear e1 hok
                go_wp2_with (first | (go_at_call 28; refine (i_isCell_yes _ _ e0.1 e0.2).mono ?_; rintro e w' ⟨rfl, rfl⟩) | (go_at_call 59; refine (i_isWordCell _ _ _ e0 HW).mono ?_; rintro e w' ⟨rfl, rfl⟩))
                go_round
                case rel => exact ⟨k + 1, by omega, by go_num, hok'⟩
                case measure => simp [intOf]; omega
              · have HW : Hid (decide (WordCell y) = false) := decide_eq_false e1
                have HNO : Hid (¬ ValidR ⟨s, zs, p⟩) := fun h => not_wc HN.out hlt HY.out e1 (hnot.out h).2.2.2.2.2
                clear e1 hok
                go_wp2_with (first | (go_at_call 28; refine (i_isCell_yes _ _ e0.1 e0.2).mono ?_; rintro e w' ⟨rfl, rfl⟩) | (go_at_call 59; refine (i_isWordCell _ _ _ e0 HW).mono ?_; rintro e w' ⟨rfl, rfl⟩))
                go_ret
                exact ⟨ret_bool (decide_eq_false HNO.out).symm, (Below.refl _ _).alloc (Nat.le_refl _) _⟩
            · have e0' : y < 0 ∨ 64 ≤ y := by omega
              have HNO : Hid (¬ ValidR ⟨s, zs, p⟩) := fun h => not_wc HN.out hlt HY.out (fun hw => by have := hw.1; omega) (hnot.out h).2.2.2.2.2
              clear e0
              go_wp2_with (go_at_call 28; refine (i_isCell_no _ _ e0').mono ?_; rintro e w' ⟨rfl, rfl⟩)
              go_ret
              exact ⟨ret_bool (decide_eq_false HNO.out).symm, (Below.refl _ _).alloc (Nat.le_refl _) _⟩
          · have HY : Hid (ValidR ⟨s, zs, p⟩) := hfin.out ⟨trivial, h11, h12, h21, h22⟩ (hok.all (by rw [HN.out]; omega))
            go_wp2
            go_ret
            exact ⟨ret_bool (decide_eq_true HY.out).symm, (Below.refl _ _).alloc (Nat.le_refl _) _⟩
      · have HNO : Hid (¬ ValidR ⟨s, zs, p⟩) := fun h => h2 ⟨(hnot.out h).2.2.2.1, (hnot.out h).2.2.2.2.1⟩
        have h2' : n < 1 ∨ 2 < n := by omega
        obtain ⟨h11, h12⟩ := h1
        have d1 : decide (p < 0) = false := decide_eq_false (by omega)
        have d2 : decide (4 < p) = false := decide_eq_false (by omega)
        rcases h2' with h2' | h2'
        · go_enter Try.func47, Try.ntmps47
          go_wp2_with (go_at_call 49; refine (HS _).out.mono ?_; rintro e w' ⟨rfl, rfl⟩)
          go_ret
          exact ⟨ret_bool (decide_eq_false HNO.out).symm, (Below.refl _ _).alloc (Nat.le_refl _) _⟩
        · have d3 : decide ((n : Int) < 1) = false := decide_eq_false (by omega)
          go_enter Try.func47, Try.ntmps47
          go_wp2_with (go_at_call 49; refine (HS _).out.mono ?_; rintro e w' ⟨rfl, rfl⟩)
          go_ret
          exact ⟨ret_bool (decide_eq_false HNO.out).symm, (Below.refl _ _).alloc (Nat.le_refl _) _⟩
    · have HNO : Hid (¬ ValidR ⟨s, zs, p⟩) := fun h => h1 ⟨(hnot.out h).2.1, (hnot.out h).2.2.1⟩
      have h1' : p < 0 ∨ 4 < p := by omega
      rcases h1' with h1' | h1'
      · have d1 : decide (p < 0) = true := decide_eq_true (by omega)
        go_enter Try.func47, Try.ntmps47
        go_wp2_with (go_at_call 49; refine (HS _).out.mono ?_; rintro e w' ⟨rfl, rfl⟩)
        go_ret
        exact ⟨ret_bool (decide_eq_false HNO.out).symm, (Below.refl _ _).alloc (Nat.le_refl _) _⟩
      · have d1 : decide (p < 0) = false := decide_eq_false (by omega)
        have d2 : decide (4 < p) = true := decide_eq_true (by omega)
        go_enter Try.func47, Try.ntmps47
        go_wp2_with (go_at_call 49; refine (HS _).out.mono ?_; rintro e w' ⟨rfl, rfl⟩)
        go_ret
        exact ⟨ret_bool (decide_eq_false HNO.out).symm, (Below.refl _ _).alloc (Nat.le_refl _) _⟩

theorem s_wordCell_v (z : Int) (b : Bool) (w : World) (h : Hid (decide (WordCell z) = b)) :
    Calls Try.prog 67 #[.int .i64 z] w fun e w' => e = .returned (.bool b) ∧ Below w.heap.size w w' := by
  have := s_wordCell z w
  rw [h.out] at this
  exact this
set_option maxHeartbeats 4000000 in
theorem s_validRule (w : World) (u : Value) (r : PRule) (hx : IntsAt w u r.c) (hs : r.t.size ≤ 9223372036854775807) :
    Calls Try.prog 52 #[.agg #[.string r.t, u, .int .i64 r.p]] w fun e w' => e = .returned (.bool (decide (ValidR r))) ∧ Below w.heap.size w w' := by
  obtain ⟨s, zs, p⟩ := r
  simp only at hx hs ⊢
  have HX := Lib.hid hx
  obtain ⟨a, cp, rfl, x1, x2, x3⟩ := hx
  obtain ⟨n, hn⟩ : ∃ n, zs.length = n := ⟨_, rfl⟩
  rw [hn] at x1 x3 HX ⊢
  have HN := Lib.hid hn
  clear hn
  have HS : ∀ wx, Hid (Calls Try.prog 53 #[.string s] wx fun e w' => e = .returned (.bool (decide (SmallB s.data.toList))) ∧ wx = w') := fun wx => s_isWord s wx hs
  obtain ⟨b, hb⟩ : ∃ b, decide (SmallB s.data.toList) = b := ⟨_, rfl⟩
  rw [hb] at HS
  have HB := Lib.hid hb
  clear hb
  have hsz := wd_size s
  have HV : Hid (ValidR ⟨s, zs, p⟩ ↔ b = true ∧ s.size ≤ 6 ∧ (1 ≤ n ∧ n ≤ 2) ∧ (0 ≤ p ∧ p ≤ 4) ∧ ∀ z ∈ zs, WordCell z) := by
    have h3 := HN.out
    constructor
    · intro h
      have h1 := h.1
      have h2 := h.2.1
      simp only at h2
      exact ⟨by rw [← HB.out]; exact decide_eq_true ⟨h1.1, h1.2.2⟩, by have := h1.2.1; simp only at this; omega, by omega, h.2.2.2, h.2.2.1⟩
    · rintro ⟨h1, h2, h4, h5, h6⟩
      rw [← HB.out] at h1
      have h7 : SmallB s.data.toList := of_decide_eq_true h1
      exact ⟨⟨h7.1, by show s.data.toList.length ≤ 6; omega, h7.2⟩, by show 1 ≤ zs.length ∧ zs.length ≤ 2; omega, h6, h5⟩
  clear hsz
  obtain ⟨W1, hW1⟩ : ∃ W1, w.alloc (.cells #[.string s, .slice a n cp, .int .i64 p] 56) = W1 := ⟨_, rfl⟩
  have hB1 : Below w.heap.size w W1 := by rw [← hW1]; exact (Below.refl _ _).alloc (Nat.le_refl _) _
  have hc0 : W1.cell? ⟨w.heap.size, 0, none⟩ = some (.string s) := by rw [← hW1, cell_of_row _ w.heap.size 0 _ _ _ (heap_alloc_new w _)]; rfl
  have hc1 : W1.cell? ⟨w.heap.size, 1, none⟩ = some (.slice a n cp) := by rw [← hW1, cell_of_row _ w.heap.size 1 _ _ _ (heap_alloc_new w _)]; rfl
  have hc2 : W1.cell? ⟨w.heap.size, 2, none⟩ = some (.int .i64 p) := by rw [← hW1, cell_of_row _ w.heap.size 2 _ _ _ (heap_alloc_new w _)]; rfl
  have HX1 : Hid (IntsAt W1 (.slice a n cp) zs) := HX.out.below hB1
  go_enter Try.func52, Try.ntmps52
  go_wp2
  go_loopw [3] (fun i wr => ∃ k : Nat, k ≤ n ∧ i = .int .i64 k ∧ WcUp zs k ∧ Below W1.heap.size W1 wr) (fun i _ => n - (intOf i).toNat)
  case atStart => exact ⟨0, Nat.zero_le _, rfl, WcUp.zero _, by first | exact Below.refl _ _ | (rw [← hW1]; exact Below.refl _ _)⟩
  case round =>
    obtain ⟨k, hk, rfl, hok, hb⟩ := hrel
    have g0 := (hb.cell (World.block_lt_of_cell? W1 _ hc0)).trans hc0
    have g1 := (hb.cell (World.block_lt_of_cell? W1 _ hc1)).trans hc1
    have g2 := (hb.cell (World.block_lt_of_cell? W1 _ hc2)).trans hc2
    have hB2 := below_next hB1 hb
    clear hc0 hc1 hc2 hB1 hW1
    by_cases hlt : k < n
    · rcases x3 with rfl | ⟨g, off, rfl, x3⟩
      · exact absurd HN.out (by simp; omega)
      have cx := (hB2.cell (World.block_lt_of_cell? w _ (x3 k hlt))).trans (x3 k hlt)
      obtain ⟨y, hy⟩ : ∃ y, zs.getD k 0 = y := ⟨_, rfl⟩
      rw [hy] at cx
      have HY := Lib.hid hy
      clear hy x3
      by_cases e : WordCell y
      · have HW : Hid (decide (WordCell y) = true) := decide_eq_true e
        have hok' := hok.succ (by rw [HY.out]; exact e)
        clear e hok
        go_wp2_with (go_at_call 67; refine (s_wordCell_v _ _ _ HW).mono ?_; rintro e w2 ⟨rfl, hb2⟩)
        go_roundw
        case rel => exact ⟨k + 1, by omega, by go_num, hok', below_next hb hb2⟩
        case measure => simp [intOf]; omega
      · have HW : Hid (decide (WordCell y) = false) := decide_eq_false e
        have HNO : Hid (¬ ValidR ⟨s, zs, p⟩) := fun h => not_wc HN.out hlt HY.out e (HV.out.1 h).2.2.2.2
        clear e hok
        go_wp2_with (go_at_call 67; refine (s_wordCell_v _ _ _ HW).mono ?_; rintro e w2 ⟨rfl, hb2⟩)
        go_ret
        exact ⟨ret_bool (decide_eq_false HNO.out).symm, below_next hB2 hb2⟩
    · have hall : Hid (∀ z ∈ zs, WordCell z) := hok.all (by rw [HN.out]; omega)
      clear hok
      cases b with
      | false =>
        have HNO : Hid (¬ ValidR ⟨s, zs, p⟩) := fun h => absurd (HV.out.1 h).1 (by simp)
        go_wp2_with (go_at_call 53; refine (HS _).out.mono ?_; rintro e w' ⟨rfl, rfl⟩)
        go_ret
        exact ⟨ret_bool (decide_eq_false HNO.out).symm, hB2⟩
      | true =>
        by_cases c1 : s.size ≤ 6
        · have d1 : decide ((s.size : Int) ≤ 6) = true := decide_eq_true (by omega)
          by_cases c2 : 1 ≤ n ∧ n ≤ 2
          · by_cases c3 : 0 ≤ p ∧ p ≤ 4
            · have HY : Hid (ValidR ⟨s, zs, p⟩) := HV.out.2 ⟨rfl, c1, c2, c3, hall.out⟩
              go_wp2_with (first | (go_at_call 53; refine (HS _).out.mono ?_; rintro e w' ⟨rfl, rfl⟩) | (go_at_call 56; refine (inRange_yes _ _ _ _ (by omega) (by omega)).mono ?_; rintro e w' ⟨rfl, rfl⟩))
              go_ret
              exact ⟨ret_bool (decide_eq_true HY.out).symm, hB2⟩
            · have HNO : Hid (¬ ValidR ⟨s, zs, p⟩) := fun h => c3 (HV.out.1 h).2.2.2.1
              have c3' : p < 0 ∨ 4 < p := by omega
              clear c3
              go_wp2_with (first | (go_at_call 53; refine (HS _).out.mono ?_; rintro e w' ⟨rfl, rfl⟩) | (go_at_call 56; refine (inRange_yes _ _ _ _ (by omega) (by omega)).mono ?_; rintro e w' ⟨rfl, rfl⟩) | (go_at_call 56; refine (inRange_no _ _ _ _ (by omega)).mono ?_; rintro e w' ⟨rfl, rfl⟩))
              go_ret
              exact ⟨ret_bool (decide_eq_false HNO.out).symm, hB2⟩
          · have HNO : Hid (¬ ValidR ⟨s, zs, p⟩) := fun h => c2 (HV.out.1 h).2.2.1
            have c2' : (n : Int) < 1 ∨ 2 < (n : Int) := by omega
            clear c2
            go_wp2_with (first | (go_at_call 53; refine (HS _).out.mono ?_; rintro e w' ⟨rfl, rfl⟩) | (go_at_call 56; refine (inRange_no _ _ _ _ (by omega)).mono ?_; rintro e w' ⟨rfl, rfl⟩))
            go_ret
            exact ⟨ret_bool (decide_eq_false HNO.out).symm, hB2⟩
        · have d1 : decide ((s.size : Int) ≤ 6) = false := decide_eq_false (by omega)
          have HNO : Hid (¬ ValidR ⟨s, zs, p⟩) := fun h => c1 (HV.out.1 h).2.1
          go_wp2_with (go_at_call 53; refine (HS _).out.mono ?_; rintro e w' ⟨rfl, rfl⟩)
          go_ret
          exact ⟨ret_bool (decide_eq_false HNO.out).symm, hB2⟩
end Go.Proofs.Ythojahknocageaa


/- Regions that draw their order: one operation taken, one passed over, its slot named. -/
namespace Go.Proofs.Ythojahknocageaa
open Go.RowKit
section SXReg
variable {P : Program} {ops : Array Oper} {Q : Exit → Act → World → Prop} {md : Region.Mode} {S : World → Prop}
theorem reg_take {i d : Nat} {oi : Oper} (v : Value) {fuel : Nat} {listed : Array Bool} {a : Act} {w : World} (hi : ops[i]? = some oi) (hd : oi.dst = some d)
    (hs : Region.noSelect ops = true) (hf : Region.free md ops listed i = true) (hr : (Region.ready md ops listed).contains i = true)
    (hQ : ∀ c a w, Q (.panic c) (a.put (some d) v) w → Q (.panic c) a w) (hw : Region.wanted oi (yielded ops a.tmps) = true)
    (hy : ∀ w, S w → (execOp a.eval oi).run P w = .ok (.value v) w) (hS : S w)
    (h : wpAnyH P md ops Q S fuel (listed.setIfInBounds i true) (a.put (some d) v) w) : wpAnyH P md ops Q S (fuel + 1) listed a w :=
  wpAnyH_take (v := v) hi hs hf hr (by rw [hd]; exact hQ) (Or.inl ⟨hw, hy⟩) hS (by rw [hd]; exact h)
theorem reg_skip {i d : Nat} {oi : Oper} {fuel : Nat} {listed : Array Bool} {a : Act} {w : World} (hi : ops[i]? = some oi) (hd : oi.dst = some d)
    (hs : Region.noSelect ops = true) (hf : Region.free md ops listed i = true) (hr : (Region.ready md ops listed).contains i = true)
    (hQ : ∀ c a w, Q (.panic c) (a.put (some d) undef) w → Q (.panic c) a w) (hw : Region.wanted oi (yielded ops a.tmps) = false) (hS : S w)
    (h : wpAnyH P md ops Q S fuel (listed.setIfInBounds i true) (a.put (some d) undef) w) : wpAnyH P md ops Q S (fuel + 1) listed a w :=
  wpAnyH_take (v := undef) hi hs hf hr (by rw [hd]; exact hQ) (Or.inr ⟨hw, rfl⟩) hS (by rw [hd]; exact h)
end SXReg
end Go.Proofs.Ythojahknocageaa


/- Tables: whether they are valid, in the program and in its model. -/
namespace Go.Proofs.Ythojahknocageaa
open Go.RowKit

/-- one of the rules has the letters s and the place p -/
def HasR (T : List PRule) (s : ByteArray) (p : Int) : Prop := ∃ r ∈ T, r.t = s ∧ r.p = p
def NoUp (T : List PRule) (s : ByteArray) (p : Int) (k : Nat) : Prop := ∀ i, i < k → ¬ ((T.getD i noR).t = s ∧ (T.getD i noR).p = p)
theorem NoUp.zero (T : List PRule) (s : ByteArray) (p : Int) : NoUp T s p 0 := fun i h => absurd h (by omega)
theorem NoUp.succ {T : List PRule} {s : ByteArray} {p : Int} {k : Nat} (h : NoUp T s p k) (e : ¬ ((T.getD k noR).t = s ∧ (T.getD k noR).p = p)) : NoUp T s p (k + 1) := fun i hi => by
  by_cases hik : i = k
  · subst hik; exact e
  · exact h i (by omega)
theorem NoUp.all {T : List PRule} {s : ByteArray} {p : Int} {n : Nat} (h : NoUp T s p n) (hn : T.length = n) : ¬ HasR T s p := by
  rintro ⟨r, hr, e⟩
  obtain ⟨i, hi, rfl⟩ := List.getElem_of_mem hr
  refine h i (by omega) ?_
  simpa [List.getD_eq_getElem?_getD, hi] using e
theorem hasR_of {T : List PRule} {s : ByteArray} {p : Int} {k n : Nat} (hn : T.length = n) (hk : k < n) (e : (T.getD k noR).t = s ∧ (T.getD k noR).p = p) : HasR T s p := by
  refine ⟨T.getD k noR, ?_, e⟩
  rw [List.getD_eq_getElem?_getD, List.getElem?_eq_getElem (by omega), Option.getD_some]; exact List.getElem_mem _

theorem toList_inj {s t : ByteArray} (h : s.toList = t.toList) : s = t := by
  rw [ByteArray.toList_eq, ByteArray.toList_eq] at h
  cases s
  cases t
  simp at h
  rw [h]
theorem toList_nei {s t : ByteArray} (h : ¬ s = t) : ¬ s.toList = t.toList := fun e => h (toList_inj e)

set_option maxHeartbeats 2000000 in
theorem i_hasRule (w : World) (v : Value) (T : List PRule) (s : ByteArray) (p : Int) (b : Bool) (hx : TableAt w v T) (hb : Hid (b = true ↔ HasR T s p)) :
    Calls Try.prog 48 #[v, .string s, .int .i64 p] w fun e w' => e = .returned (.bool b) ∧ Below w.heap.size w w' := by
  obtain ⟨a, cp, rfl, x1, x2, x3⟩ := hx
  obtain ⟨n, hn⟩ : ∃ n, T.length = n := ⟨_, rfl⟩
  rw [hn] at x1 x3 ⊢
  have HN := Lib.hid hn
  clear hn
  go_enter Try.func48, Try.ntmps48
  go_wp2
  go_loopw [11] (fun i wr => ∃ k : Nat, k ≤ n ∧ i = .int .i64 k ∧ NoUp T s p k ∧ Below w.heap.size w wr) (fun i _ => n - (intOf i).toNat)
  case atStart => exact ⟨0, Nat.zero_le _, rfl, NoUp.zero _ _ _, Below.refl _ _⟩
  case round =>
    obtain ⟨k, hk, rfl, hok, hb1⟩ := hrel
    have hsz := hb1.size
    by_cases hlt : k < n
    · rcases x3 with rfl | ⟨g, off, rfl, x3⟩
      · exact absurd HN.out (by simp; omega)
      obtain ⟨r, hr⟩ : ∃ r, T.getD k noR = r := ⟨_, rfl⟩
      have hra := x3 k hlt
      rw [hr] at hra
      have HR := Lib.hid hr
      clear hr x3
      obtain ⟨t, zs, q⟩ := r
      obtain ⟨c0, ⟨u, c1, a2, cp2, rfl, h1, h2, _⟩, c2⟩ := hra
      simp only at c0 c1 c2 h1
      have c0 := (hb1.cell (World.block_lt_of_cell? w _ c0)).trans c0
      have c1 := (hb1.cell (World.block_lt_of_cell? w _ c1)).trans c1
      have c2 := (hb1.cell (World.block_lt_of_cell? w _ c2)).trans c2
      by_cases e1 : t = s
      · by_cases e2 : q = p
        · have HB : Hid (b = true) := hb.out.2 (hasR_of HN.out hlt (by rw [HR.out]; exact ⟨e1, e2⟩))
          have e3 : t.toList = s.toList := by rw [e1]
          have e4 : (q == p) = true := by simpa using e2
          clear e1 e2 hok
          go_wp2
          go_ret
          exact ⟨by rw [HB.out]; rfl, hb1.alloc hsz _⟩
        · have hok' := hok.succ (by rw [HR.out]; exact fun h => e2 h.2)
          have e3 : t.toList = s.toList := by rw [e1]
          have e4 : (q == p) = false := by simpa using e2
          clear e1 e2 hok
          go_wp2
          go_roundw
          case rel => exact ⟨k + 1, by omega, by go_num, hok', hb1.alloc hsz _⟩
          case measure => simp [intOf]; omega
      · have hok' := hok.succ (by rw [HR.out]; exact fun h => e1 h.1)
        have e3 := toList_nei e1
        clear e1 hok
        go_wp2
        go_roundw
        case rel => exact ⟨k + 1, by omega, by go_num, hok', hb1.alloc hsz _⟩
        case measure => simp [intOf]; omega
    · go_wp2
      go_ret
      obtain rfl : k = n := by omega
      have HB : Hid (b = false) := by
        show b = false
        cases b
        · rfl
        · exact absurd (hb.out.1 rfl) (hok.all HN.out)
      exact ⟨by rw [HB.out]; rfl, hb1⟩

theorem i_hasRule_yes (w : World) (v : Value) (T : List PRule) (s : ByteArray) (p : Int) (hx : TableAt w v T) (hb : Hid (HasR T s p)) :
    Calls Try.prog 48 #[v, .string s, .int .i64 p] w fun e w' => e = .returned (.bool true) ∧ Below w.heap.size w w' :=
  i_hasRule w v T s p true hx ⟨fun _ => hb.out, fun _ => rfl⟩
theorem i_hasRule_no (w : World) (v : Value) (T : List PRule) (s : ByteArray) (p : Int) (hx : TableAt w v T) (hb : Hid (¬ HasR T s p)) :
    Calls Try.prog 48 #[v, .string s, .int .i64 p] w fun e w' => e = .returned (.bool false) ∧ Below w.heap.size w w' :=
  i_hasRule w v T s p false hx ⟨fun h => absurd h (by simp), fun h => absurd h hb.out⟩
/-- a valid table -/
def ValidTb (T : List PRule) : Prop := T.length ≤ 16 ∧ (∀ i, i < T.length → ValidR (T.getD i noR)) ∧ ∀ i j, i < T.length → j < i → ¬ ((T.getD j noR).t = (T.getD i noR).t ∧ (T.getD j noR).p = (T.getD i noR).p)
/-- the first k rules are valid, and no two of them have the same letters and place -/
def TbUp (T : List PRule) (k : Nat) : Prop := (∀ i, i < k → ValidR (T.getD i noR)) ∧ ∀ i j, i < k → j < i → ¬ ((T.getD j noR).t = (T.getD i noR).t ∧ (T.getD j noR).p = (T.getD i noR).p)
theorem TbUp.zero (T : List PRule) : TbUp T 0 := ⟨fun i h => absurd h (by omega), fun i j h => absurd h (by omega)⟩
theorem TbUp.succ {T : List PRule} {k : Nat} (h : TbUp T k) (h1 : ValidR (T.getD k noR)) (h2 : ∀ j, j < k → ¬ ((T.getD j noR).t = (T.getD k noR).t ∧ (T.getD j noR).p = (T.getD k noR).p)) : TbUp T (k + 1) := by
  refine ⟨fun i hi => ?_, fun i j hi hj => ?_⟩
  · by_cases hik : i = k
    · subst hik; exact h1
    · exact h.1 i (by omega)
  · by_cases hik : i = k
    · subst hik; exact h2 j hj
    · exact h.2 i j (by omega) hj
theorem takeD {T : List PRule} {k j : Nat} (hj : j < k) : (T.take k).getD j noR = T.getD j noR := by
  rw [List.getD_eq_getElem?_getD, List.getD_eq_getElem?_getD, List.getElem?_take, if_pos hj]
theorem hasR_take {T : List PRule} {s : ByteArray} {p : Int} {k : Nat} (hk : k ≤ T.length) : HasR (T.take k) s p ↔ ∃ j, j < k ∧ (T.getD j noR).t = s ∧ (T.getD j noR).p = p := by
  constructor
  · rintro ⟨r, hr, e⟩
    obtain ⟨j, hj, rfl⟩ := List.getElem_of_mem hr
    have hj' : j < k := by simp at hj; omega
    refine ⟨j, hj', ?_⟩
    have : (T.take k)[j] = T.getD j noR := by rw [← takeD hj', List.getD_eq_getElem?_getD, List.getElem?_eq_getElem hj, Option.getD_some]
    rw [← this]; exact e
  · rintro ⟨j, hj, e⟩
    exact hasR_of (T := T.take k) (n := k) (by simp; omega) hj (by rw [takeD hj]; exact e)
theorem TableAt.cut {w : World} {g off n cp : Nat} {T : List PRule} {k : Nat} (h : ∀ i, i < n → RuleAt w g (off + i * 3) (T.getD i noR)) (hn : T.length = n) (hk : k ≤ n) (hc : n ≤ cp) (hm : cp ≤ 9223372036854775807) :
    TableAt w (.slice (some ⟨g, off, none⟩) k cp) (T.take k) := by
  have hl : (T.take k).length = k := by simp; omega
  refine ⟨_, cp, by rw [hl], by omega, hm, .inr ⟨g, off, rfl, fun i hi => ?_⟩⟩
  rw [takeD (by omega)]
  exact h i (by omega)

theorem i_isRule_v (w : World) (u : Value) (t : ByteArray) (zs : List Int) (q : Int) (b : Bool) (hx : IntsAt w u zs) (hs : t.size ≤ 9223372036854775807) (hb : Hid (decide (ValidR ⟨t, zs, q⟩) = b)) :
    Calls Try.prog 47 #[.agg #[.string t, u, .int .i64 q]] w fun e w' => e = .returned (.bool b) ∧ Below w.heap.size w w' := by
  have := i_isRule w u ⟨t, zs, q⟩ hx hs
  rw [hb.out] at this
  exact this
theorem s_validRule_v (w : World) (u : Value) (t : ByteArray) (zs : List Int) (q : Int) (b : Bool) (hx : IntsAt w u zs) (hs : t.size ≤ 9223372036854775807) (hb : Hid (decide (ValidR ⟨t, zs, q⟩) = b)) :
    Calls Try.prog 52 #[.agg #[.string t, u, .int .i64 q]] w fun e w' => e = .returned (.bool b) ∧ Below w.heap.size w w' := by
  have := s_validRule w u ⟨t, zs, q⟩ hx hs
  rw [hb.out] at this
  exact this
set_option maxHeartbeats 2000000 in
theorem i_ValidTable (w : World) (v : Value) (T : List PRule) (b : Bool) (hx : TableAt w v T) (hf : TableFits T) (hb : Hid (b = true ↔ ValidTb T)) :
    Calls Try.prog 35 #[v] w fun e w' => e = .returned (.bool b) ∧ Below w.heap.size w w' := by
  obtain ⟨a, cp, rfl, x1, x2, x3⟩ := hx
  obtain ⟨n, hn⟩ : ∃ n, T.length = n := ⟨_, rfl⟩
  rw [hn] at x1 x3 ⊢
  have HN := Lib.hid hn
  clear hn
  have HF := Lib.hid hf
  clear hf
  by_cases hbig : n ≤ 16
  · go_enter Try.func35, Try.ntmps35
    go_wp2
    go_loopw [10] (fun i wr => ∃ k : Nat, k ≤ n ∧ i = .int .i64 k ∧ TbUp T k ∧ Below w.heap.size w wr) (fun i _ => n - (intOf i).toNat)
    case atStart => exact ⟨0, Nat.zero_le _, rfl, TbUp.zero _, Below.refl _ _⟩
    case round =>
      obtain ⟨k, hk, rfl, hok, hb1⟩ := hrel
      have hsz := hb1.size
      by_cases hlt : k < n
      · rcases x3 with rfl | ⟨g, off, rfl, x3⟩
        · exact absurd HN.out (by simp; omega)
        have HT : Hid (TableAt w (.slice (some ⟨g, off, none⟩) k cp) (T.take k)) := TableAt.cut x3 HN.out hk x1 x2
        obtain ⟨r, hr⟩ : ∃ r, T.getD k noR = r := ⟨_, rfl⟩
        have hra := x3 k hlt
        have hrf := HF.out.at k
        rw [hr] at hra hrf
        have HR := Lib.hid hr
        clear hr x3
        obtain ⟨t, zs, q⟩ := r
        obtain ⟨c0, ⟨u, c1, hu⟩, c2⟩ := hra
        have HU : Hid (IntsAt w u zs) := hu
        obtain ⟨a2, cp2, rfl, h1, h2, _⟩ := hu
        simp only at c0 c1 c2 h1
        have c0 := (hb1.cell (World.block_lt_of_cell? w _ c0)).trans c0
        have c1 := (hb1.cell (World.block_lt_of_cell? w _ c1)).trans c1
        have c2 := (hb1.cell (World.block_lt_of_cell? w _ c2)).trans c2
        have d0 : (wr.alloc (.cells #[.string t, .slice a2 zs.length cp2, .int .i64 q] 56)).cell? ⟨wr.heap.size, 0, none⟩ = some (.string t) := by rw [cell_of_row _ wr.heap.size 0 _ _ _ (heap_alloc_new wr _)]; rfl
        have d1 : (wr.alloc (.cells #[.string t, .slice a2 zs.length cp2, .int .i64 q] 56)).cell? ⟨wr.heap.size, 1, none⟩ = some (.slice a2 zs.length cp2) := by rw [cell_of_row _ wr.heap.size 1 _ _ _ (heap_alloc_new wr _)]; rfl
        have d2 : (wr.alloc (.cells #[.string t, .slice a2 zs.length cp2, .int .i64 q] 56)).cell? ⟨wr.heap.size, 2, none⟩ = some (.int .i64 q) := by rw [cell_of_row _ wr.heap.size 2 _ _ _ (heap_alloc_new wr _)]; rfl
        have hBW := hb1.alloc hsz (.cells #[.string t, .slice a2 zs.length cp2, .int .i64 q] 56)
        go_wp2_with fail
        generalize wr.alloc (.cells #[.string t, .slice a2 zs.length cp2, .int .i64 q] 56) = W1 at d0 d1 d2 hBW ⊢
        have HU1 : Hid (IntsAt W1.drew (.slice a2 zs.length cp2) zs) := (show IntsAt W1 (.slice a2 zs.length cp2) zs from HU.out.below hBW)
        have HT1 : Hid (∀ wx, Below W1.heap.size W1.drew wx → TableAt wx (.slice (some ⟨g, off, none⟩) k cp) (T.take k)) := fun wx h => (HT.out.below hBW).below ((Below.refl _ _).drew.trans h)
        have HK : Hid (∀ wx, Below W1.heap.size W1.drew wx → wx.cell? ⟨wr.heap.size, 0, none⟩ = some (.string t) ∧ wx.cell? ⟨wr.heap.size, 1, none⟩ = some (.slice a2 zs.length cp2) ∧ wx.cell? ⟨wr.heap.size, 2, none⟩ = some (.int .i64 q) ∧ Below W1.heap.size W1 wx) := fun wx h =>
          ⟨(h.cell (World.block_lt_of_cell? W1 _ d0)).trans d0, (h.cell (World.block_lt_of_cell? W1 _ d1)).trans d1, (h.cell (World.block_lt_of_cell? W1 _ d2)).trans d2, (Below.refl _ _).drew.trans h⟩
        have b1 : (0 : Int) ≤ (k : Int) := by omega
        have b2 : (k : Int) ≤ (cp : Int) := by omega
        clear c0 c1 c2
        by_cases hv : ValidR ⟨t, zs, q⟩
        · have HV : Hid (decide (ValidR ⟨t, zs, q⟩) = true) := decide_eq_true hv
          by_cases hh : HasR (T.take k) t q
          · have HH := Lib.hid hh
            have HB : Hid (b = false) := by
              show b = false
              cases b
              · rfl
              · obtain ⟨j, hj, e⟩ := (hasR_take (by rw [HN.out]; exact hk)).1 hh
                refine absurd e ?_
                have := (hb.out.1 rfl).2.2 k j (by rw [HN.out]; exact hlt) hj
                rw [HR.out] at this
                exact this
            clear hv hh hok
            go_region_held3 (fun w' => w'.cell? ⟨wr.heap.size, 0, none⟩ = some (.string t) ∧ w'.cell? ⟨wr.heap.size, 1, none⟩ = some (.slice a2 zs.length cp2) ∧ w'.cell? ⟨wr.heap.size, 2, none⟩ = some (.int .i64 q) ∧ Below W1.heap.size W1 w') (first | assumption | exact HK.out _ (Below.refl _ _) | exact HK.out _ hb2 | exact HK.out _ (hb2.trans (hb3.mono hb2.size))) (first | (go_at_call 47; refine (i_isRule_v W1.drew _ t zs q true HU1.out hrf.1 HV).mono ?_; rintro e w2 ⟨rfl, hb2⟩) | (go_at_call 48; refine (i_hasRule_yes w2 _ (T.take k) t q (HT1.out _ hb2) HH).mono ?_; rintro e w3 ⟨rfl, hb3⟩))
            all_goals
              go_wp2
              go_ret
              exact ⟨by rw [HB.out]; rfl, hBW.trans (((Below.refl _ _).drew.trans (hb2.trans (hb3.mono hb2.size))).mono hBW.size)⟩
          · have HH := Lib.hid hh
            have hok' : TbUp T (k + 1) := hok.succ (by rw [HR.out]; exact hv) (fun j hj e => hh ((hasR_take (by rw [HN.out]; exact hk)).2 ⟨j, hj, by rw [HR.out] at e; exact e⟩))
            clear hv hh hok
            go_region_held3 (fun w' => w'.cell? ⟨wr.heap.size, 0, none⟩ = some (.string t) ∧ w'.cell? ⟨wr.heap.size, 1, none⟩ = some (.slice a2 zs.length cp2) ∧ w'.cell? ⟨wr.heap.size, 2, none⟩ = some (.int .i64 q) ∧ Below W1.heap.size W1 w') (first | assumption | exact HK.out _ (Below.refl _ _) | exact HK.out _ hb2 | exact HK.out _ (hb2.trans (hb3.mono hb2.size))) (first | (go_at_call 47; refine (i_isRule_v W1.drew _ t zs q true HU1.out hrf.1 HV).mono ?_; rintro e w2 ⟨rfl, hb2⟩) | (go_at_call 48; refine (i_hasRule_no w2 _ (T.take k) t q (HT1.out _ hb2) HH).mono ?_; rintro e w3 ⟨rfl, hb3⟩))
            all_goals
              go_wp2
              go_roundw
              case rel => exact ⟨k + 1, by omega, by go_num, hok', hBW.trans (((Below.refl _ _).drew.trans (hb2.trans (hb3.mono hb2.size))).mono hBW.size)⟩
              case measure => simp [intOf]; omega
        · have HV : Hid (decide (ValidR ⟨t, zs, q⟩) = false) := decide_eq_false hv
          have HB : Hid (b = false) := by
            show b = false
            cases b
            · rfl
            · have := (hb.out.1 rfl).2.1 k (by rw [HN.out]; exact hlt)
              rw [HR.out] at this
              exact absurd this hv
          clear hv hok
          refine wp_region_held_drew (S := fun w' => w'.cell? ⟨wr.heap.size, 0, none⟩ = some (.string t) ∧ w'.cell? ⟨wr.heap.size, 1, none⟩ = some (.slice a2 zs.length cp2) ∧ w'.cell? ⟨wr.heap.size, 2, none⟩ = some (.int .i64 q) ∧ Below W1.heap.size W1 w') (by kernel_rfl) (HK.out _ (Below.refl _ _)) (fun hHeld => ?_)
          refine reg_take (i := 0) (d := 15) (.agg #[.string t, .slice a2 zs.length cp2, .int .i64 q]) rfl rfl (by kernel_rfl) (by kernel_rfl) (by kernel_rfl) (fun _ _ _ h => h) (by rfl) (by intro wq hq; (try obtain ⟨q0, q1, q2, _⟩ := hq); go_simp) (by assumption) ?_
          simp only [Act.put, List.setIfInBounds_toArray, List.set_cons_zero, List.set_cons_succ]
          refine wpAnyH_ready (rs := [1]) (by kernel_rfl) (by simp) ?_
          refine AllReadyH.cons rfl (fun K hK => ?_) AllReadyH.nil
          go_simp
          refine (i_isRule_v W1.drew _ t zs q false HU1.out hrf.1 HV).mono ?_
          rintro e w2 ⟨rfl, hb2⟩
          refine hK.out _ _ (HK.out _ hb2) (fun hHeld2 => ?_)
          clear hK hHeld
          refine reg_take (i := 2) (d := 17) (.bool true) rfl rfl (by kernel_rfl) (by kernel_rfl) (by kernel_rfl) (fun _ _ _ h => h) (by rfl) (by intro wq hq; go_simp) (by assumption) ?_
          simp only [Act.put, List.setIfInBounds_toArray, List.set_cons_zero, List.set_cons_succ]
          refine reg_take (i := 3) (d := 18) (.bool true) rfl rfl (by kernel_rfl) (by kernel_rfl) (by kernel_rfl) (fun _ _ _ h => h) (by rfl) (by intro wq hq; go_simp) (by assumption) ?_
          simp only [Act.put, List.setIfInBounds_toArray, List.set_cons_zero, List.set_cons_succ]
          refine reg_skip (i := 4) (d := 19) rfl rfl (by kernel_rfl) (by kernel_rfl) (by kernel_rfl) (fun _ _ _ h => h) (by rfl) (by assumption) ?_
          simp only [Act.put, List.setIfInBounds_toArray, List.set_cons_zero, List.set_cons_succ]
          refine reg_skip (i := 5) (d := 20) rfl rfl (by kernel_rfl) (by kernel_rfl) (by kernel_rfl) (fun _ _ _ h => h) (by rfl) (by assumption) ?_
          simp only [Act.put, List.setIfInBounds_toArray, List.set_cons_zero, List.set_cons_succ]
          refine reg_skip (i := 6) (d := 21) rfl rfl (by kernel_rfl) (by kernel_rfl) (by kernel_rfl) (fun _ _ _ h => h) (by rfl) (by assumption) ?_
          simp only [Act.put, List.setIfInBounds_toArray, List.set_cons_zero, List.set_cons_succ]
          refine reg_skip (i := 7) (d := 22) rfl rfl (by kernel_rfl) (by kernel_rfl) (by kernel_rfl) (fun _ _ _ h => h) (by rfl) (by assumption) ?_
          simp only [Act.put, List.setIfInBounds_toArray, List.set_cons_zero, List.set_cons_succ]
          refine reg_skip (i := 8) (d := 23) rfl rfl (by kernel_rfl) (by kernel_rfl) (by kernel_rfl) (fun _ _ _ h => h) (by rfl) (by assumption) ?_
          simp only [Act.put, List.setIfInBounds_toArray, List.set_cons_zero, List.set_cons_succ]
          refine reg_skip (i := 9) (d := 24) rfl rfl (by kernel_rfl) (by kernel_rfl) (by kernel_rfl) (fun _ _ _ h => h) (by rfl) (by assumption) ?_
          simp only [Act.put, List.setIfInBounds_toArray, List.set_cons_zero, List.set_cons_succ]
          refine reg_skip (i := 10) (d := 25) rfl rfl (by kernel_rfl) (by kernel_rfl) (by kernel_rfl) (fun _ _ _ h => h) (by rfl) (by assumption) ?_
          simp only [Act.put, List.setIfInBounds_toArray, List.set_cons_zero, List.set_cons_succ]
          refine reg_skip (i := 11) (d := 26) rfl rfl (by kernel_rfl) (by kernel_rfl) (by kernel_rfl) (fun _ _ _ h => h) (by rfl) (by assumption) ?_
          simp only [Act.put, List.setIfInBounds_toArray, List.set_cons_zero, List.set_cons_succ]
          refine reg_take (i := 12) (d := 27) (.bool true) rfl rfl (by kernel_rfl) (by kernel_rfl) (by kernel_rfl) (fun _ _ _ h => h) (by rfl) (by intro wq hq; go_simp) (by assumption) ?_
          simp only [Act.put, List.setIfInBounds_toArray, List.set_cons_zero, List.set_cons_succ]
          refine wpAnyH_done (by kernel_rfl) ?_ _
          all_goals
            go_wp2
            go_ret
            exact ⟨by rw [HB.out]; rfl, hBW.trans (((Below.refl _ _).drew.trans hb2).mono hBW.size)⟩
      · go_wp2
        go_ret
        obtain rfl : k = n := by omega
        have HB : Hid (b = true) := hb.out.2 ⟨by rw [HN.out]; exact hbig, fun i hi => hok.1 i (by have := HN.out; omega), fun i j hi hj => hok.2 i j (by have := HN.out; omega) hj⟩
        exact ⟨by rw [HB.out]; rfl, hb1⟩
  · have hbig' : 16 < n := by omega
    have HB : Hid (b = false) := by
      show b = false
      cases b
      · rfl
      · have := (hb.out.1 rfl).1; have := HN.out; omega
    go_enter Try.func35, Try.ntmps35
    go_wp2
    go_ret
    exact ⟨by rw [HB.out]; rfl, Below.refl _ _⟩
end Go.Proofs.Ythojahknocageaa


/- Tables: whether they are valid, in the model. -/
namespace Go.Proofs.Ythojahknocageaa
open Go.RowKit

/-- none of the first m rules has the letters and the place of the k-th -/
def ApUp (T : List PRule) (k m : Nat) : Prop := ∀ j, j < m → ¬ ((T.getD j noR).t = (T.getD k noR).t ∧ (T.getD j noR).p = (T.getD k noR).p)
theorem ApUp.zero (T : List PRule) (k : Nat) : ApUp T k 0 := fun i h => absurd h (by omega)
theorem ApUp.succ {T : List PRule} {k m : Nat} (h : ApUp T k m) (e : ¬ ((T.getD m noR).t = (T.getD k noR).t ∧ (T.getD m noR).p = (T.getD k noR).p)) : ApUp T k (m + 1) := fun i hi => by
  by_cases hik : i = m
  · subst hik; exact e
  · exact h i (by omega)

set_option maxHeartbeats 2000000 in
theorem s_validTable (w : World) (v : Value) (T : List PRule) (b : Bool) (hx : TableAt w v T) (hf : TableFits T) (hb : Hid (b = true ↔ ValidTb T)) :
    Calls Try.prog 38 #[v] w fun e w' => e = .returned (.bool b) ∧ Below w.heap.size w w' := by
  obtain ⟨a, cp, rfl, x1, x2, x3⟩ := hx
  obtain ⟨n, hn⟩ : ∃ n, T.length = n := ⟨_, rfl⟩
  rw [hn] at x1 x3 ⊢
  have HN := Lib.hid hn
  clear hn
  have HF := Lib.hid hf
  clear hf
  go_enter Try.func38, Try.ntmps38
  go_wp2
  go_loopw [3] (fun i wr => ∃ k : Nat, k ≤ n ∧ i = .int .i64 k ∧ TbUp T k ∧ Below w.heap.size w wr) (fun i _ => n - (intOf i).toNat)
  case atStart => exact ⟨0, Nat.zero_le _, rfl, TbUp.zero _, Below.refl _ _⟩
  case round =>
    obtain ⟨k, hk, rfl, hok, hb1⟩ := hrel
    have hsz := hb1.size
    by_cases hlt : k < n
    · rcases x3 with rfl | ⟨g, off, rfl, x3⟩
      · exact absurd HN.out (by simp; omega)
      have X3 := Lib.hid x3
      obtain ⟨r, hr⟩ : ∃ r, T.getD k noR = r := ⟨_, rfl⟩
      have hra := x3 k hlt
      have hrf := HF.out.at k
      rw [hr] at hra hrf
      have HR := Lib.hid hr
      clear hr x3
      obtain ⟨t, zs, q⟩ := r
      obtain ⟨c0, ⟨u, c1, hu⟩, c2⟩ := hra
      have HU : Hid (IntsAt w u zs) := hu
      obtain ⟨a2, cp2, rfl, h1, h2, _⟩ := hu
      simp only at c0 c1 c2 h1
      have C0 := Lib.hid c0
      have C2 := Lib.hid c2
      have c0 := (hb1.cell (World.block_lt_of_cell? w _ c0)).trans c0
      have c1 := (hb1.cell (World.block_lt_of_cell? w _ c1)).trans c1
      have c2 := (hb1.cell (World.block_lt_of_cell? w _ c2)).trans c2
      by_cases hv : ValidR ⟨t, zs, q⟩
      · have HV : Hid (decide (ValidR ⟨t, zs, q⟩) = true) := decide_eq_true hv
        have HVV := Lib.hid hv
        clear hv
        have HU1 : IntsAt wr (.slice a2 zs.length cp2) zs := HU.out.below hb1
        go_wp2_with fail
        refine (s_validRule_v wr _ t zs q true HU1 hrf.1 HV).mono ?_
        rintro e w2 ⟨rfl, hb2⟩
        have hB2 := hb1.trans (hb2.mono hsz)
        clear c0 c1 c2 HU1 hb2
        go_wp2_with fail
        go_loopw [4] (fun j wx => ∃ m : Nat, m ≤ k ∧ j = .int .i64 m ∧ ApUp T k m ∧ Below w.heap.size w wx) (fun j _ => k - (intOf j).toNat)
        case atStart => exact ⟨0, Nat.zero_le _, rfl, ApUp.zero _ _, hB2⟩
        case round =>
          clear hB2
          obtain ⟨m, hm, rfl, hap, hb3⟩ := hrel
          have c0 := (hb3.cell (World.block_lt_of_cell? w _ C0.out)).trans C0.out
          have c2 := (hb3.cell (World.block_lt_of_cell? w _ C2.out)).trans C2.out
          by_cases hlt2 : m < k
          · obtain ⟨r2, hr2⟩ : ∃ r2, T.getD m noR = r2 := ⟨_, rfl⟩
            have hra2 := X3.out m (by omega)
            rw [hr2] at hra2
            have HR2 := Lib.hid hr2
            clear hr2
            obtain ⟨t2, zs2, q2⟩ := r2
            obtain ⟨d0, _, d2⟩ := hra2
            simp only at d0 d2
            have d0 := (hb3.cell (World.block_lt_of_cell? w _ d0)).trans d0
            have d2 := (hb3.cell (World.block_lt_of_cell? w _ d2)).trans d2
            have b1 : (0 : Int) ≤ (k : Int) := by omega
            have b2 : (0 : Int) ≤ (m : Int) := by omega
            have b3 : (k : Int) < (n : Int) := by omega
            have b4 : (m : Int) < (n : Int) := by omega
            by_cases e1 : t2 = t
            · by_cases e2 : q2 = q
              · have e3 : t2.toList = t.toList := by rw [e1]
                have e4 : (q2 == q) = true := by simpa using e2
                have HB : Hid (b = false) := by
                  show b = false
                  cases b
                  · rfl
                  · have := (hb.out.1 rfl).2.2 k m (by rw [HN.out]; exact hlt) hlt2
                    rw [HR.out, HR2.out] at this
                    exact absurd ⟨e1, e2⟩ this
                clear e1 e2 hap hok
                go_wp2_with fail
                go_quiet (fail)
                go_wp2
                go_ret
                exact ⟨by rw [HB.out]; rfl, below_drewN hb3 _⟩
              · have e3 : t2.toList = t.toList := by rw [e1]
                have e4 : (q2 == q) = false := by simpa using e2
                have hap' := hap.succ (by rw [HR.out, HR2.out]; exact fun h => e2 h.2)
                clear e1 e2 hap
                go_wp2_with fail
                go_quiet (fail)
                go_wp2
                go_roundw
                case rel => exact ⟨m + 1, by omega, by go_num, hap', below_drewN hb3 _⟩
                case measure => simp [intOf]; omega
            · have e3 := toList_nei e1
              have e5 : (t2.toList == t.toList) = false := by simpa using e3
              have hap' := hap.succ (by rw [HR.out, HR2.out]; exact fun h => e1 h.1)
              clear e1 hap
              go_wp2_with fail
              go_quiet (fail)
              go_wp2
              go_roundw
              case rel => exact ⟨m + 1, by omega, by go_num, hap', below_drewN hb3 _⟩
              case measure => simp [intOf]; omega
          · have hok' : TbUp T (k + 1) := hok.succ (by rw [HR.out]; exact HVV.out) (fun j hj => hap j (by omega))
            clear hap hok
            go_wp2
            go_roundw
            case rel => exact ⟨k + 1, by omega, by go_num, hok', hb3⟩
            case measure => simp [intOf]; omega
      · have HV : Hid (decide (ValidR ⟨t, zs, q⟩) = false) := decide_eq_false hv
        have HB : Hid (b = false) := by
          show b = false
          cases b
          · rfl
          · have := (hb.out.1 rfl).2.1 k (by rw [HN.out]; exact hlt)
            rw [HR.out] at this
            exact absurd this hv
        clear hv hok
        have HU1 : IntsAt wr (.slice a2 zs.length cp2) zs := HU.out.below hb1
        go_wp2_with fail
        refine (s_validRule_v wr _ t zs q false HU1 hrf.1 HV).mono ?_
        rintro e w2 ⟨rfl, hb2⟩
        go_wp2
        go_ret
        exact ⟨by rw [HB.out]; rfl, hb1.trans (hb2.mono hsz)⟩
    · obtain rfl : k = n := by omega
      by_cases hbig : k ≤ 16
      · have HB : Hid (b = true) := hb.out.2 ⟨by rw [HN.out]; exact hbig, fun i hi => hok.1 i (by have := HN.out; omega), fun i j hi hj => hok.2 i j (by have := HN.out; omega) hj⟩
        have d1 : decide ((k : Int) ≤ 16) = true := decide_eq_true (by omega)
        go_wp2
        go_ret
        exact ⟨by rw [HB.out]; rfl, hb1⟩
      · have HB : Hid (b = false) := by
          show b = false
          cases b
          · rfl
          · have := (hb.out.1 rfl).1; have := HN.out; omega
        have d1 : decide ((k : Int) ≤ 16) = false := decide_eq_false (by omega)
        go_wp2
        go_ret
        exact ⟨by rw [HB.out]; rfl, hb1⟩
end Go.Proofs.Ythojahknocageaa

