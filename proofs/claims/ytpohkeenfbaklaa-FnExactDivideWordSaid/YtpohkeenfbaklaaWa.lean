
/- Rows of texts: what a call made, and the exact laws' own functions on them. -/
import Derived.Test.YtpohkeenfbaklaaOwn
import Derived.Test.YtpohkeenfbaklaaDrL
import Derived.Deep.RegionHeld3
import Derived.Deep.QuietTactic
import Derived.BigQuiet
import Derived.Lib.AppendStr
import Derived.Laws.IdiomStrings
import Derived.Lib.BufferRead
namespace Go.Proofs.Ytpohkeenfbaklaa
open Go.RowKit

theorem keptS {p : Prop} (h : p) : Hid p := h
theorem infoSt : (Try.prog.info? 9).map (fun i => (i.zero, i.size, i.bytes)) = some (some (.string ByteArray.empty), 1, 16) := by kernel_rfl
/-- the slice value v owns a row of texts -/
def OwnSt (w : World) (base : Nat) (v : Value) (ps : List ByteArray) : Prop := w.ownsRow base 9 1 v ps.length (ps.map Value.string)
theorem OwnSt.nil (w : World) (base : Nat) : OwnSt w base (.slice none 0 0) [] := World.ownsRow_nil _ _ _ _
theorem OwnSt.made (w : World) (base : Nat) (h : base ≤ w.heap.size) : OwnSt (w.alloc (.cells #[] 9)) base (.slice (some ⟨w.heap.size, 0, none⟩) 0 0) [] :=
  World.ownsRow_made w #[] 0 h (by unfold maxLen; omega) rfl
theorem OwnSt.isSlice {w : World} {base : Nat} {v : Value} {l : List ByteArray} (h : OwnSt w base v l) : ∃ a n c, v = .slice a n c := by
  rcases h.2 with ⟨h, _⟩ | ⟨g, cap, _, h, _⟩ <;> exact ⟨_, _, _, h⟩
theorem OwnSt.len {w : World} {base n c : Nat} {a : Option Addr} {l : List ByteArray} (h : OwnSt w base (.slice a n c) l) : l.length = n := by
  rcases h.2 with ⟨h, hn⟩ | ⟨g, cap, _, h, _⟩
  · injection h with _ e _; omega
  · injection h with _ e _; exact e.symm
theorem OwnSt.below {w w' : World} {base : Nat} {v : Value} {l : List ByteArray} (h : OwnSt w base v l) (hb : Below w.heap.size w w') : OwnSt w' base v l :=
  World.ownsRow.kept (row := none) h ⟨hb.os, hb.tape, hb.output, hb.size, fun k hk _ => hb.block k hk⟩ (by cases hv : v.ownBlock <;> simp)
/-- one of the texts -/
theorem OwnSt.nth {w : World} {base n c : Nat} {a : Option Addr} {l : List ByteArray} (h : OwnSt w base (.slice a n c) l) {i : Nat} (hi : i < n) :
    ∃ g, a = some ⟨g, 0, none⟩ ∧ base ≤ g ∧ g < w.heap.size ∧ w.cell? ⟨g, i, none⟩ = some (.string (l.getD i ⟨#[]⟩)) := by
  have hl := h.len
  have hlt := World.ownsRow.lt h
  rcases id h.2 with ⟨hv, hn⟩ | ⟨g, cap, cur, hv, _⟩
  · omega
  · injection hv with e1 e2 _
    subst e1
    have := World.ownsRow.cells h (g := g) (by simp [Value.ownBlock]) i (.string (l.getD i ⟨#[]⟩)) (by
      rw [List.getElem?_map, List.getElem?_eq_getElem (by omega), List.getD_eq_getElem?_getD, List.getElem?_eq_getElem (by omega)]; rfl)
    rw [Addr.add_lit, Nat.zero_add] at this
    have h3 := hlt g rfl
    exact ⟨g, rfl, h3.1, h3.2, this⟩
theorem OwnSt.free {w : World} {base g n c : Nat} {l : List ByteArray} (h : OwnSt w base (.slice (some ⟨g, 0, none⟩) n c) l) (k : Nat) : w.frozen? ⟨g, k, none⟩ = false := by
  have hl := h.len
  subst hl
  exact World.ownsRow.frozenAt h k
theorem OwnSt.set {w : World} {base g n c : Nat} {l : List ByteArray} (h : OwnSt w base (.slice (some ⟨g, 0, none⟩) n c) l) (k : Nat) (t : ByteArray) : OwnSt (w.setCell ⟨g, k, none⟩ (.string t)) base (.slice (some ⟨g, 0, none⟩) n c) (l.set k t) := by
  have hl := h.len
  subst hl
  have := (World.ownsRow.stored h k (.string t)).1
  unfold OwnSt
  rw [List.length_set, List.map_set]
  exact this
/-- behind an append of one text -/
theorem wpList_append_st {ops : Array Oper} {rest : List Oper} {o : Oper} {a : Act} {w : World} {Q : Exit → Act → World → Prop} (hgd : o.guard = none) (s x : Operand)
    (ho : o.op = .call { callee := .builtin .append, args := #[s, x], argTypes := #[37, 37] }) (base g : Nat) {v : Value} {P : List ByteArray} (t : ByteArray) (hs : a.eval s = v) (hx : a.eval x = .slice (some ⟨g, 0, none⟩) 1 1)
    (h1 : OwnSt w base v P) (h2 : w.cell? ⟨g, 0, none⟩ = some (.string t)) (hl : P.length ≤ 100000) (hbase : base ≤ w.heap.size)
    (h : ∀ v' w', OwnSt w' base v' (P ++ [t]) → w.grownBy w' v.ownBlock → wpList Try.prog ops Q rest (a.put o.dst v') w') : wpList Try.prog ops Q (o :: rest) a w := by
  obtain ⟨i0, hi, hz0, hz1, hz2⟩ := info_parts infoSt
  refine wpList_append_own w hgd s x 37 ho base 9 i0 (.string ByteArray.empty) 1 16 Try.underlying37 hi hz0 hz1 hz2 rfl (by decide) v P.length (P.map Value.string) hs h1 ⟨g, 0, none⟩ 1 1 [.string t] hx rfl ?_ ?_ (by unfold maxLen; omega) (by omega) hbase ?_
  · intro j u hj
    rw [Addr.add_lit]
    match j, hj with
    | 0, hj => simp at hj; subst hj; exact h2
  · intro u hu
    simp at hu
    subst hu
    rfl
  · intro v' w' hown hgrow _
    refine h v' w' ?_ hgrow
    unfold OwnSt
    rw [List.map_append, List.length_append]
    exact hown
theorem grown_st {B : Nat} {w wr w' : World} {v : Value} {P : List ByteArray} {o : Obj} (hb : Below B w wr) (hs : B ≤ wr.heap.size) (ho : OwnSt wr B v P) (hg : (wr.alloc o).grownBy w' v.ownBlock) : Below B w w' :=
  (hb.alloc hs o).grown hg (by have h := (World.grownBy_alloc wr o none).size; omega) (fun k hk => (World.ownsRow.lt ho k hk).1)

set_option maxHeartbeats 1000000 in
theorem eqStringS_same (w : World) (b1 b2 : Nat) (a1 a2 : Option Addr) (n1 c1 n2 c2 : Nat) (P : List ByteArray) (hx : OwnSt w b1 (.slice a1 n1 c1) P) (hy : OwnSt w b2 (.slice a2 n2 c2) P) :
    Calls Try.prog 37 #[.slice a1 n1 c1, .slice a2 n2 c2] w fun e w' => e = .returned (.bool true) ∧ Below w.heap.size w w' := by
  obtain rfl : n1 = n2 := by have := hx.len; have := hy.len; omega
  have HX := keptS hx
  have HY := keptS hy
  have hlen : n1 ≤ 9223372036854775807 := by
    rcases hx.2 with ⟨h, _⟩ | ⟨g, cap, cur, h, _, _, h4, h5, _⟩
    · injection h with _ e _; omega
    · injection h with _ e _
      unfold maxLen at h5; omega
  clear hx hy
  go_enter Try.func37, Try.ntmps37
  go_wp2
  go_loopw [5] (fun i wr => ∃ k : Nat, k ≤ n1 ∧ i = .int .i64 k ∧ Below w.heap.size w wr) (fun i _ => n1 - (intOf i).toNat)
  case atStart => exact ⟨0, Nat.zero_le _, rfl, Below.refl _ _⟩
  case round =>
    obtain ⟨k, hk, rfl, hb1⟩ := hrel
    by_cases hlt : k < n1
    · obtain ⟨g, rfl, _, _, c0⟩ := (HX.out.below hb1).nth hlt
      obtain ⟨g', rfl, _, _, d0⟩ := (HY.out.below hb1).nth hlt
      have b1 : (0 : Int) ≤ (k : Int) := by omega
      have b2 : (k : Int) < (n1 : Int) := by omega
      obtain ⟨t, ht⟩ : ∃ t, P.getD k ⟨#[]⟩ = t := ⟨_, rfl⟩
      rw [ht] at c0 d0
      clear ht
      have HB := keptS hb1
      clear hb1
      go_wp2_with fail
      go_quiet (fail)
      go_wp2
      go_roundw
      case rel => exact ⟨k + 1, by omega, by go_num, below_drewN HB.out _⟩
      case measure => simp [intOf]; omega
    · go_wp2
      go_ret
      exact ⟨rfl, hb1⟩

def mtg : Nat → Nat → ByteArray → ByteArray
  | 0, _, s => s
  | f + 1, m, s => if m = 0 then s else mtg f (m / 10) ((⟨#[UInt8.ofNat (48 + m % 10)]⟩ : ByteArray) ++ s)
/-- the mark of a number -/
def mT (m : Nat) : ByteArray := (⟨#[109]⟩ : ByteArray) ++ mtg (m + 1) m ⟨#[]⟩
end Go.Proofs.Ytpohkeenfbaklaa
