
/- The reader of a code: what holds of it in memory, and the contract of its method that picks a number. -/
import Derived.Test.YtfgnckafpnobhaaRows
import Derived.WalkKit
import Derived.WalkSpells
import Derived.WalkLawsBesides
import Derived.RowKit3
import Derived.Below
import Derived.Lib.Hide
import Derived.Deep.QuietTactic
import Derived.BigQuiet
import Derived.IntWalk
import Derived.Laws.BitsAllLaws
namespace Go.Proofs.Ytfgnckafpnobhaa
open Go.RowKit

/-- a slice of bytes below block B, of length L, that reads -/
def BytesAt (w : World) (B : Nat) (v : Value) (L : Nat) : Prop :=
  (L = 0 ∧ ∃ a c, v = .slice a 0 c) ∨
  ∃ b off cap, v = .slice (some ⟨b, off, none⟩) L cap ∧ b < B ∧ L ≤ cap ∧ ∀ i, i < L → ∃ z : Nat, w.cell? ⟨b, off + i, none⟩ = some (.int .u8 z) ∧ z ≤ 255
/-- block R holds a reader over bytes below block B, which has picked p times -/
def RD (w : World) (B R L p : Nat) : Prop :=
  ∃ v, w.heap[R]? = some (.cells #[v, .int .i64 p] 61 (0, 0)) ∧ BytesAt w B v L ∧ B ≤ R ∧ L ≤ 2000

theorem BytesAt.of_below {w w' : World} {B : Nat} {v : Value} {L : Nat} (h : BytesAt w B v L) (hb : ∀ k, k < B → w'.heap[k]? = w.heap[k]?) : BytesAt w' B v L := by
  rcases h with h | ⟨b, off, cap, hv, hlt, hc, hz⟩
  · exact .inl h
  · refine .inr ⟨b, off, cap, hv, hlt, hc, fun i hi => ?_⟩
    obtain ⟨z, h1, h2⟩ := hz i hi
    exact ⟨z, (World.cell?_of_block (a := ⟨b, off + i, none⟩) (hb b hlt)).trans h1, h2⟩
theorem RD.of_same {w w' : World} {B R L p : Nat} (h : RD w B R L p) (hb : ∀ k, k < B → w'.heap[k]? = w.heap[k]?) (hR : w'.heap[R]? = w.heap[R]?) : RD w' B R L p := by
  obtain ⟨v, h1, h2, h3⟩ := h
  exact ⟨v, hR.trans h1, h2.of_below hb, h3⟩
theorem RD.lt {w : World} {B R L p : Nat} (h : RD w B R L p) : R < w.heap.size := by
  obtain ⟨v, h1, _⟩ := h
  exact (Array.getElem?_eq_some_iff.1 h1).1
theorem RD.below {w w' : World} {B R L p B' : Nat} (h : RD w B R L p) (hb : Below B' w w') (h2 : R < B') : RD w' B R L p :=
  h.of_same (fun k hk => hb.block k (by obtain ⟨_, _, _, h3, _⟩ := h; omega)) (hb.block R h2)

theorem wrap_u64_nat (n : Nat) (h : n < 9223372036854775808) : IntKind.i64.wrap (n : Int) = n := by
  simp [IntKind.wrap, IntKind.bits, IntKind.signed]; omega
theorem ofInt_64 (a : Nat) (ha : a < 18446744073709551616) : (BitVec.ofInt 64 (a : Int)).toNat = a := by
  rw [BitVec.ofInt_natCast, BitVec.toNat_ofNat]; exact Nat.mod_eq_of_lt (by omega)
theorem i64_xor_nat (a b : Nat) (ha : a < 9223372036854775808) (hb : b < 9223372036854775808) : bits .xor .i64 (a : Int) (b : Int) = ((a ^^^ b : Nat) : Int) := by
  have hx : a ^^^ b < 2 ^ 63 := Nat.xor_lt_two_pow (by omega) (by omega)
  show IntKind.i64.wrap ((BitVec.ofInt 64 (a : Int) ^^^ BitVec.ofInt 64 (b : Int)).toNat : Int) = _
  rw [BitVec.toNat_xor, ofInt_64 a (by omega), ofInt_64 b (by omega), wrap_u64_nat _ (by omega)]
def Picked (n : Int) (w : World) (B R L p : Nat) (e : Ending) (w' : World) : Prop :=
  ∃ k : Nat, e = .returned (.int .i64 k) ∧ (k : Int) < n ∧ RD w' B R L (p + 1) ∧ w.grownBy w' (some R)
theorem picked_of {n : Int} {w : World} {B R L p : Nat} (h : RD w B R L p) (v : Int) (h0 : 0 ≤ v) (h1 : v < n) (k : Nat) :
    Picked n w B R L p (.returned (.int .i64 v)) ((w.setCell ⟨R, 1, none⟩ (.int .i64 ((p : Int) + 1))).drewN k) := by
  obtain ⟨u, h2, h3, h4, h5⟩ := h
  obtain ⟨m, rfl⟩ : ∃ m : Nat, v = m := ⟨v.toNat, by omega⟩
  refine ⟨m, rfl, h1, ⟨u, ?_, h3.of_below fun k hk => ?_, h4, h5⟩, ⟨rfl, rfl, rfl, by simp [World.setCell, World.drewN], fun k _ hk => ?_⟩⟩
  · have := heap_setCell_same w R 1 _ _ (.int .i64 ((p : Int) + 1)) h2
    simpa using this
  · exact heap_setCell_other w ⟨R, 1, none⟩ k _ (by simp; omega)
  · exact heap_setCell_other w ⟨R, 1, none⟩ k _ (by simp at hk ⊢; omega)

set_option maxHeartbeats 1000000 in
theorem pick_any (w : World) (B R L p : Nat) (n : Int) (h : RD w B R L p) (hp : p ≤ 1000000000000) (h1 : 1 ≤ n) (hn : n ≤ 1000000000000) :
    Calls Try.prog 58 #[.pointer (some ⟨R, 0, none⟩), .int .i64 n] w fun e w' => Picked n w B R L p e w' := by
  have hh := h
  obtain ⟨u, h2, h3, h4, h5⟩ := hh
  have c0 : w.cell? ⟨R, 0, none⟩ = some u := by rw [cell_of_row w R 0 _ _ _ h2]; rfl
  have c1 : w.cell? ⟨R, 1, none⟩ = some (.int .i64 p) := by rw [cell_of_row w R 1 _ _ _ h2]; rfl
  have f1 : w.frozen? ⟨R, 1, none⟩ = false := frozen_of_row w R 1 _ _ h2
  have H := Lib.hid h
  clear h h2
  rcases h3 with ⟨rfl, a, c, rfl⟩ | ⟨b, off, cap, rfl, hb, hcap, hz⟩
  · go_enter Try.func58, Try.ntmps58
    go_wp2
    go_ret
    exact picked_of H.out 0 (by omega) (by omega) 0
  · by_cases hL0 : L = 0
    · subst hL0
      go_enter Try.func58, Try.ntmps58
      go_wp2
      go_ret
      exact picked_of H.out 0 (by omega) (by omega) 0
    · have d0 : decide (n < 1) = false := decide_eq_false (by omega)
      have d1 : ((L : Int) == 0) = false := by simpa using hL0
      by_cases hlt : p < L
      · obtain ⟨z, z0, z1⟩ := hz p hlt
        clear hz
        go_enter Try.func58, Try.ntmps58
        go_wp2
        go_ret
        exact picked_of H.out _ (Int.emod_nonneg _ (by omega)) (Int.emod_lt_of_pos _ (by omega)) 0
      · obtain ⟨q, hq⟩ : ∃ q, p % L = q := ⟨_, rfl⟩
        obtain ⟨r, hr⟩ : ∃ r, (p * 7 + 3) % L = r := ⟨_, rfl⟩
        obtain ⟨s, hs⟩ : ∃ s, p / L = s := ⟨_, rfl⟩
        have hqL : q < L := by rw [← hq]; exact Nat.mod_lt _ (by omega)
        have hrL : r < L := by rw [← hr]; exact Nat.mod_lt _ (by omega)
        have hsp : s ≤ p := by rw [← hs]; exact Nat.div_le_self _ _
        have t1 : ((p : Int)).tmod (L : Int) = (q : Int) := by rw [Int.tmod_eq_emod_of_nonneg (by omega), ← hq]; simp
        have t2 : ((p : Int) * 7 + 3).tmod (L : Int) = (r : Int) := by rw [Int.tmod_eq_emod_of_nonneg (by omega), ← hr]; simp
        have t3 : ((p : Int)).tdiv (L : Int) = (s : Int) := by rw [Int.tdiv_eq_ediv_of_nonneg (by omega), ← hs]; simp
        clear hq hr hs
        obtain ⟨x, x0, x1⟩ := hz q hqL
        obtain ⟨y, y0, y1⟩ := hz r hrL
        clear hz
        have m0 : 0 ≤ (q : Int) := by omega
        have m1 : 0 ≤ (r : Int) := by omega
        have m2 : (q : Int) < L := by omega
        have m3 : (r : Int) < L := by omega
        have n1 : ((q : Int)).toNat = q := by omega
        have n2 : ((r : Int)).toNat = r := by omega
        have u1 : IntKind.i64.wrap (q : Int) = q := IntWalk.i64_in _ (by omega)
        have u2 : IntKind.i64.wrap (r : Int) = r := IntWalk.i64_in _ (by omega)
        have u3 : IntKind.i64.wrap (s : Int) = s := IntWalk.i64_in _ (by omega)
        have u4 : IntKind.i64.wrap (x : Int) = x := IntWalk.i64_in _ (by omega)
        have u5 : IntKind.i64.wrap (y : Int) = y := IntWalk.i64_in _ (by omega)
        have u6 : IntKind.i64.wrap ((x : Int) * 131) = (x : Int) * 131 := IntWalk.i64_in _ (by omega)
        have u7 : IntKind.i64.wrap ((p : Int) * 7) = (p : Int) * 7 := IntWalk.i64_in _ (by omega)
        have u8 : IntKind.i64.wrap ((p : Int) * 7 + 3) = (p : Int) * 7 + 3 := IntWalk.i64_in _ (by omega)
        have u9 : IntKind.i64.wrap ((y : Int) * 1117) = (y : Int) * 1117 := IntWalk.i64_in _ (by omega)
        have v1 : IntKind.i64.wrap ((x : Int) * 131 + (y : Int) * 1117) = (x : Int) * 131 + (y : Int) * 1117 := IntWalk.i64_in _ (by omega)
        have v2 : IntKind.i64.wrap ((p : Int) * 29) = (p : Int) * 29 := IntWalk.i64_in _ (by omega)
        have v3 : IntKind.i64.wrap ((x : Int) * 131 + (y : Int) * 1117 + (p : Int) * 29) = (x : Int) * 131 + (y : Int) * 1117 + (p : Int) * 29 := IntWalk.i64_in _ (by omega)
        have v4 : IntKind.i64.wrap ((s : Int) * 53) = (s : Int) * 53 := IntWalk.i64_in _ (by omega)
        have v5 : IntKind.i64.wrap ((x : Int) * 131 + (y : Int) * 1117 + (p : Int) * 29 + (s : Int) * 53) = (x : Int) * 131 + (y : Int) * 1117 + (p : Int) * 29 + (s : Int) * 53 := IntWalk.i64_in _ (by omega)
        go_enter Try.func58, Try.ntmps58
        go_wp2
        go_quiet (fail)
        clear t1 t2 t3 u1 u2 u3 u4 u5 u6 u7 u8 u9 v1 v2 v3 v4 v5
        obtain ⟨X, hX⟩ : ∃ X : Nat, (x : Int) * 131 + (y : Int) * 1117 + (p : Int) * 29 + (s : Int) * 53 = (X : Int) := ⟨x * 131 + y * 1117 + p * 29 + s * 53, by omega⟩
        have hX1 : X ≤ 100000000000000 := by omega
        have hx1 : bits .xor .i64 (X : Int) ((X : Int) / 64) = ((X ^^^ X / 64 : Nat) : Int) := by
          have := i64_xor_nat X (X / 64) (by omega) (by omega)
          simpa using this
        have hx2 : X ^^^ X / 64 < 2 ^ 62 := Nat.xor_lt_two_pow (by omega) (by omega)
        obtain ⟨Y, hY⟩ : ∃ Y, X ^^^ X / 64 = Y := ⟨_, rfl⟩
        rw [hY] at hx1 hx2
        clear hY
        simp only [hX]
        clear hX
        go_wp2
        go_ret
        exact picked_of H.out _ (Int.emod_nonneg _ (by omega)) (Int.emod_lt_of_pos _ (by omega)) _
end Go.Proofs.Ytfgnckafpnobhaa
