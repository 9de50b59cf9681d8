
/- laws.join of two owned lists. -/
import Derived.Test.YtnahamhjcdkkkaaPlP
import Derived.Laws.AppendOwnNone
namespace Go.Proofs.Ytnahamhjcdkkkaa
open Go.RowKit

set_option maxHeartbeats 2000000 in
theorem join_q (w : World) (B1 B2 g1 n1 c1 : Nat) (b : Option Addr) (n2 c2 : Nat) (xs ys : List Int) (hx : OwnInts w B1 (.slice (some ⟨g1, 0, none⟩) n1 c1) xs) (hy : OwnInts w B2 (.slice b n2 c2) ys) (h1 : xs.length ≤ 1000) (h2 : ys.length ≤ 1000) :
    Calls Try.prog 44 #[.slice (some ⟨g1, 0, none⟩) n1 c1, .slice b n2 c2] w fun e w' => CellsMade (xs ++ ys) w e w' := by
  obtain ⟨i0, hi, hz0, hz1, hz2⟩ := info_parts infoInt
  have hn1 : xs.length = n1 := by obtain ⟨_, _, h, _⟩ := hx.at; injection h with _ h2; exact h2.symm
  have hn2 : ys.length = n2 := by obtain ⟨_, _, h, _⟩ := hy.at; injection h with _ h2; exact h2.symm
  have hl1 : Hid ((ints xs).length = n1 * 1) := by show _ = _; rw [ints_length, hn1, Nat.mul_one]
  have hl2 : Hid ((ints ys).length = n2 * 1) := by show _ = _; rw [ints_length, hn2, Nat.mul_one]
  have b1 : n1 ≤ 1000 := by omega
  have b2 : n2 ≤ 1000 := by omega
  have H1 := Lib.hid hn1
  have H2 := Lib.hid hn2
  have hc1 := (hx.alloc (.cells #[] 3)).cells (g := g1) rfl
  have hm := OwnInts.made w w.heap.size (Nat.le_refl _)
  have hsz : w.heap.size ≤ (w.alloc (.cells #[] 3)).heap.size := ((Below.refl w.heap.size w).alloc (Nat.le_refl _) _).size
  have HB0 : Below w.heap.size w (w.alloc (.cells #[] 3)) := (Below.refl w.heap.size w).alloc (Nat.le_refl _) _
  clear hn1 hn2 h1 h2
  go_enter Try.func44, Try.ntmps44
  go_wp2_with (at_builtin; go_loud (refine wpList_append_own _ rfl _ _ 31 rfl w.heap.size 3 i0 (.int .i64 0) 1 8 Try.underlying31 hi hz0 hz1 hz2 rfl (by decide) _ 0 [] rfl hm ⟨g1, 0, none⟩ n1 c1 (ints xs) rfl hl1.out hc1 (ints_oneCell2 xs) (by unfold maxLen; omega) (by omega) (by omega) ?_))
  intro v1 wa ho1 hg1 _
  have R1 : OwnInts wa w.heap.size v1 xs := OwnInts.addAll (xs := []) ho1 (by have := H1.out; simp; omega)
  have R2 : Below w.heap.size w wa := HB0.grown hg1 hsz (fun q hq => (hm.lt q hq).1)
  have hsa := R2.size
  clear ho1 hg1 hm HB0 hsz hc1 hx
  have hya := hy.below R2
  rcases hy.2 with ⟨hv, hn⟩ | ⟨g2, cap, cur, hv, _⟩
  · injection hv with e1 e2 e3
    subst e1 e2 e3
    have hys : Hid (ys = []) := List.length_eq_zero_iff.1 hn
    clear hy hya hn
    go_wp2_with (at_builtin; go_loud (refine wpList_append_own_none rfl _ _ 31 rfl w.heap.size 3 i0 1 Try.underlying31 hi _ _ _ rfl R1 rfl ?_))
    obtain ⟨_, _, _, hvv⟩ := (show ∃ a n c, v1 = Value.slice a n c from (by rcases R1.2 with ⟨h, _⟩ | ⟨g, cap, _, h, _⟩ <;> exact ⟨_, _, _, h⟩))
    go_wp2
    go_ret
    rw [hys.out, List.append_nil]
    exact ⟨_, rfl, R1, R2, _, _, _, hvv⟩
  · injection hv with e1 e2 e3
    subst e1
    have hc2 := hya.cells (g := g2) rfl
    have bx : xs.length = n1 := H1.out
    go_wp2_with (at_builtin; go_loud (refine wpList_append_own _ rfl _ _ 31 rfl w.heap.size 3 i0 (.int .i64 0) 1 8 Try.underlying31 hi hz0 hz1 hz2 rfl (by decide) _ _ _ rfl R1 ⟨g2, 0, none⟩ n2 c2 (ints ys) rfl hl2.out hc2 (ints_oneCell2 ys) (by unfold maxLen; omega) (by omega) (by omega) ?_))
    intro v2 wb ho2 hg2 _
    have S1 := OwnInts.addAll ho2 (by have := H1.out; have := H2.out; omega)
    have S2 : Below w.heap.size w wb := R2.grown hg2 hsa (fun q hq => (R1.lt q hq).1)
    obtain ⟨_, _, _, hvv⟩ := (show ∃ a n c, v2 = Value.slice a n c from (by rcases S1.2 with ⟨h, _⟩ | ⟨g, cap, _, h, _⟩ <;> exact ⟨_, _, _, h⟩))
    clear ho2 hg2 R1 R2 hya hc2 hy
    go_wp2
    go_ret
    exact ⟨_, rfl, S1, S2, _, _, _, hvv⟩

end Go.Proofs.Ytnahamhjcdkkkaa
