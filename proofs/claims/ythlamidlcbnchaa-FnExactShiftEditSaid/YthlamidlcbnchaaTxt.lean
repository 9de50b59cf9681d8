
/- Texts that the call itself makes, and the text of one cell. -/
import Derived.Test.YthlamidlcbnchaaOwn
import Derived.Test.YthlamidlcbnchaaDots
import Derived.Lib.AppendStr
import Derived.Lib.BufferRead
import Derived.Deep.QuietTactic
import Derived.BigQuiet
namespace Go.Proofs.Ythlamidlcbnchaa
open Go.RowKit

theorem infoByte : (Try.prog.info? 5).map (fun i => (i.zero, i.size, i.bytes)) = some (some (.int .u8 0), 1, 1) := by kernel_rfl
/-- the text with these bytes -/
def bs (l : List UInt8) : ByteArray := ⟨l.toArray⟩
theorem bs_size (l : List UInt8) : (bs l).size = l.length := by simp [bs, ByteArray.size]
theorem bs_append (a b : List UInt8) : bs a ++ bs b = bs (a ++ b) := by
  apply ByteArray.ext
  simp [bs, ByteArray.data_append]
theorem bs_inj {a b : List UInt8} (h : bs a = bs b) : a = b := by simpa [bs] using h
theorem bs_of (s : ByteArray) : bs s.data.toList = s := by cases s; simp [bs]
def byt (l : List UInt8) : List Value := l.map fun b => Value.int .u8 b.toNat
theorem byt_length (l : List UInt8) : (byt l).length = l.length := by simp [byt]
theorem byt_append (a b : List UInt8) : byt a ++ byt b = byt (a ++ b) := by simp [byt]
theorem strCells_bs (l : List UInt8) : Lib.strCells (bs l) = byt l := by simp [Lib.strCells, bs, byt]
/-- the slice value v owns exactly these bytes -/
def OwnBytes (w : World) (base : Nat) (v : Value) (l : List UInt8) : Prop := w.ownsRow base 5 1 v l.length (byt l)
theorem OwnBytes.nil (w : World) (base : Nat) : OwnBytes w base (.slice none 0 0) [] := World.ownsRow_nil _ _ _ _
theorem OwnBytes.more {w : World} {base : Nat} {v : Value} {l r : List UInt8} {n : Nat} (h : w.ownsRow base 5 1 v (l.length + n) (byt l ++ byt r)) (hn : r.length = n) : OwnBytes w base v (l ++ r) := by
  unfold OwnBytes
  rw [← byt_append, List.length_append, hn]
  exact h
theorem OwnBytes.more2 {w : World} {base : Nat} {v : Value} {l r : List UInt8} {N : Nat} (h : w.ownsRow base 5 1 v N (byt l ++ byt r)) (hN : N = l.length + r.length) : OwnBytes w base v (l ++ r) := by
  subst hN
  exact OwnBytes.more h rfl
theorem one_byte_cell {b : UInt8} : ∀ u ∈ byt [b], u.oneCell' = true := by intro u hu; simp [byt] at hu; subst hu; rfl
theorem new_byte {w : World} {t : TypeId} {n : Int} {b : UInt8} (hb : Hid (n = (b.toNat : Int))) : ∀ j u, (byt [b])[j]? = some u → (w.alloc (.cells #[.int .u8 n] t)).cell? ((⟨w.heap.size, 0, none⟩ : Addr).add j) = some u := by
  rw [hb.out]
  intro j u hj
  match j, hj with
  | 0, hj => simp [byt] at hj; subst hj; simp [Addr.add]
theorem conv_own {w : World} {base : Nat} {v : Value} {l : List UInt8} (h : OwnBytes w base v l) : (convert 22 9 v).run Try.prog w = .ok (.string (bs l)) w := by
  have hc := h
  rcases h.2 with ⟨hv, hn⟩ | ⟨g, cap, cur, hv, hb, hg, h1, h2, h3, h4⟩
  · have : l = [] := List.length_eq_zero_iff.1 hn
    subst this hv
    exact Lib.run_convert_nil_bytes w _ _ _ 0 Try.underlying22 Try.underlying5 Try.underlying9
  · subst hv
    exact run_convert_bytes_back (P := Try.prog) w _ _ _ ⟨g, 0, none⟩ cap l Try.underlying22 Try.underlying5 Try.underlying9 (fun j hj => hc.cells (g := g) (by simp [Value.ownBlock]) j _ (by simp [byt, hj]))
theorem below_append_b {B : Nat} {w wr w' : World} {v : Value} {l : List UInt8} {S : Nat} (hb : Below B w wr) (hS : B ≤ S) (hs : S ≤ wr.heap.size) (ho : OwnBytes wr S v l) (hg : wr.grownBy w' v.ownBlock) : Below B w w' :=
  hb.grown hg (by omega) (fun k hk => by have := (ho.lt k hk).1; omega)
theorem OwnBytes.isSlice {w : World} {base : Nat} {v : Value} {l : List UInt8} (h : OwnBytes w base v l) : ∃ a n c, v = .slice a n c := by
  rcases h.2 with ⟨h, _⟩ | ⟨g, cap, _, h, _⟩ <;> exact ⟨_, _, _, h⟩
theorem OwnBytes.below {w w' : World} {base : Nat} {v : Value} {l : List UInt8} (h : OwnBytes w base v l) (hb : Below w.heap.size w w') : OwnBytes w' base v l :=
  h.kept (row := none) ⟨hb.os, hb.tape, hb.output, hb.size, fun k hk _ => hb.block k hk⟩ (by cases hv : v.ownBlock <;> simp)

def digB (d : Int) : UInt8 := UInt8.ofNat (48 + d.toNat)
/-- the text of a cell -/
def cellT (c : Nat) : List UInt8 := if c = 0 then [48] else (dotsL c).map digB
theorem dots_bd : ∀ c : Nat, c < 64 → ∀ d ∈ dotsL c, 1 ≤ d ∧ d ≤ 6 := by decide +kernel
theorem digB_nat (y : Int) (h0 : 1 ≤ y) (h1 : y ≤ 6) : (48 + y : Int) = ((digB y).toNat : Int) := by
  rcases (show y = 1 ∨ y = 2 ∨ y = 3 ∨ y = 4 ∨ y = 5 ∨ y = 6 from by omega) with rfl | rfl | rfl | rfl | rfl | rfl <;> rfl
theorem take_succ' {D : List Int} {k n : Nat} (hn : D.length = n) (hk : k < n) : D.take (k + 1) = D.take k ++ [D.getD k 0] := by
  rw [List.take_succ_eq_append_getElem (by omega), List.getD_eq_getElem?_getD, List.getElem?_eq_getElem (by omega), Option.getD_some]
def TextOut (l : List UInt8) (w : World) (e : Ending) (w' : World) : Prop := e = .returned (.string (bs l)) ∧ Below w.heap.size w w'

end Go.Proofs.Ythlamidlcbnchaa
