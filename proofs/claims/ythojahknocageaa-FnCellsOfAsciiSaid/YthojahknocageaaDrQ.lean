
/- The draw of a text of cells: its change, and the whole. -/
import Derived.Test.YthojahknocageaaDrP
namespace Go.Proofs.Ythojahknocageaa
open Go.RowKit

def mutA : List ByteArray := [⟨#[48]⟩, ⟨#[49]⟩, ⟨#[32]⟩, ⟨#[45]⟩, ⟨#[98]⟩, ⟨#[54]⟩, ⟨#[57]⟩, ⟨#[50]⟩]
def mutB : List ByteArray := [⟨#[48]⟩, ⟨#[32]⟩, ⟨#[10]⟩, ⟨#[120]⟩, ⟨#[45, 49]⟩]
theorem ext_size {s : ByteArray} {a b : Nat} (_h : a ≤ b) (h2 : b ≤ s.size) : (s.extract a b).size = b - a := by
  rw [← size_data, extract_list, sub, List.length_take, List.length_drop, size_data]
  omega
theorem app_size (a b : ByteArray) : (a ++ b).size = a.size + b.size := by
  show (a ++ b).data.size = a.data.size + b.data.size
  rw [ByteArray.data_append, Array.size_append]

set_option maxHeartbeats 2000000 in
theorem mutate_any (w : World) (B R L p : Nat) (s : ByteArray) (N : Nat) (h : RD w B R L p) (hp : p ≤ 10000000000) (hs : s.size ≤ N) (hN : N ≤ 1000000) :
    Calls Try.prog 32 #[.pointer (some ⟨R, 0, none⟩), .string s] w fun e w' => TextDrawn (N + 2) 3 w B R L p e w' := by
  go_enter Try.func32, Try.ntmps32
  go_wp2_with fail
  refine (pick_any _ B R L p _ h (by omega) (by omega) (by omega)).mono ?_
  rintro e w1 ⟨k, rfl, hk, hrd1, hgr1⟩
  go_wp2_with fail
  refine (pick_any _ B R L (p + 1) _ hrd1 (by omega) (by omega) (by omega)).mono ?_
  rintro e w2 ⟨m, rfl, hm, hrd2, hgr2⟩
  have hg2 := grown_trans hgr1 hgr2
  have hlt2 := hrd2.lt
  clear hgr1 hgr2 hrd1 h
  have hks : k ≤ s.size := by omega
  have hm5 : m < 5 := by omega
  have hss : s.size ≤ 9223372036854775000 := by omega
  clear hk hm
  have q1 : (k : Int) ≤ (s.size : Int) := by omega
  have q2 : (0 : Int) ≤ (k : Int) := by omega
  have z1 : (s.extract 0 k).size ≤ N := by rw [ext_size (by omega) hks]; omega
  rcases (show m = 0 ∨ m = 1 ∨ m = 2 ∨ m = 3 ∨ m = 4 from by omega) with rfl | rfl | rfl | rfl | rfl
  · by_cases hlt : k < s.size
    · have q3 : (k : Int) < (s.size : Int) := by omega
      have q4 : (k : Int) + 1 ≤ (s.size : Int) := by omega
      have z2 : (s.extract (k + 1) s.size).size ≤ N := by rw [ext_size (by omega) (Nat.le_refl _)]; omega
      have r1 := fun (wx : World) (t : ByteArray) (ht : t.size ≤ 2) => run_string_add_sum (P := Try.prog) wx (s.extract 0 k) t (by omega)
      have r2 := fun (wx : World) (t : ByteArray) (ht : t.size ≤ 2) => run_string_add_sum (P := Try.prog) wx (s.extract 0 k ++ t) (s.extract (k + 1) s.size) (by rw [app_size]; omega)
      have u1 : IntKind.i64.wrap ((k : Int) + 1) = (k : Int) + 1 := IntWalk.i64_in _ (by omega)
      have u2 : ((k : Int) + 1).toNat = k + 1 := by omega
      have u3 : ((k : Int)).toNat = k := by omega
      go_wp2_with fail
      have q5 : (0 : Int) ≤ (k : Int) + 1 := by omega
      go_region_held3 (fun w' => True) (exact trivial) (first | (go_at_call 44; refine (of_any (World.drew (w2.alloc (.cells (strs mutA) 9))) B R L (p + 2) w2.heap.size 8 8 mutA (show RD (World.drew (w2.alloc (.cells (strs mutA) 9))) B R L (p + 2) from hrd2.alloc _) (heap_alloc_new w2 _) (by omega) (Lib.hid rfl) (by omega) (by omega) (by omega)).mono ?_; rintro e w3 ⟨t, rfl, ht, hrd3, hgr3⟩; have ht2 : t.size ≤ 2 := small_strs (by decide) ht))
      all_goals
        have hg3 : w.grownBy w3 (some R) := grown_trans hg2 (grown_trans (World.grownBy_alloc w2 (.cells (strs mutA) 9) _) ⟨hgr3.os, hgr3.tape, hgr3.output, hgr3.size, hgr3.block⟩)
        have hz : (s.extract 0 k ++ t ++ s.extract (k + 1) s.size).size ≤ N + 2 := by
          rw [app_size, app_size, ext_size (by omega) hks, ext_size (by omega) (Nat.le_refl _)]; omega
        have HZ := Lib.hid hz
        clear r1 r2 u1 u2 u3 hz hgr3 ht
        go_wp2
        go_ret
        exact ⟨_, p + 3, rfl, HZ.out, hrd3, by omega, hg3⟩
    · go_wp2
      go_ret
      exact ⟨s, p + 2, rfl, by omega, hrd2, by omega, hg2⟩
  · by_cases hlt : k < s.size
    · have q3 : (k : Int) < (s.size : Int) := by omega
      have q4 : (k : Int) + 1 ≤ (s.size : Int) := by omega
      have z2 : (s.extract (k + 1) s.size).size ≤ N := by rw [ext_size (by omega) (Nat.le_refl _)]; omega
      have r1 := fun (wx : World) (t : ByteArray) (ht : t.size ≤ 2) => run_string_add_sum (P := Try.prog) wx (s.extract 0 k) t (by omega)
      have r2 := fun (wx : World) (t : ByteArray) (ht : t.size ≤ 2) => run_string_add_sum (P := Try.prog) wx (s.extract 0 k ++ t) (s.extract (k + 1) s.size) (by rw [app_size]; omega)
      have u1 : IntKind.i64.wrap ((k : Int) + 1) = (k : Int) + 1 := IntWalk.i64_in _ (by omega)
      have u2 : ((k : Int) + 1).toNat = k + 1 := by omega
      have u3 : ((k : Int)).toNat = k := by omega
      go_wp2_with fail
      have q5 : (0 : Int) ≤ (k : Int) + 1 := by omega
      go_region_held3 (fun w' => True) (exact trivial) (first | (go_at_call 44; refine (of_any (World.drew (w2.alloc (.cells (strs mutA) 9))) B R L (p + 2) w2.heap.size 8 8 mutA (show RD (World.drew (w2.alloc (.cells (strs mutA) 9))) B R L (p + 2) from hrd2.alloc _) (heap_alloc_new w2 _) (by omega) (Lib.hid rfl) (by omega) (by omega) (by omega)).mono ?_; rintro e w3 ⟨t, rfl, ht, hrd3, hgr3⟩; have ht2 : t.size ≤ 2 := small_strs (by decide) ht))
      all_goals
        have hg3 : w.grownBy w3 (some R) := grown_trans hg2 (grown_trans (World.grownBy_alloc w2 (.cells (strs mutA) 9) _) ⟨hgr3.os, hgr3.tape, hgr3.output, hgr3.size, hgr3.block⟩)
        have hz : (s.extract 0 k ++ t ++ s.extract (k + 1) s.size).size ≤ N + 2 := by
          rw [app_size, app_size, ext_size (by omega) hks, ext_size (by omega) (Nat.le_refl _)]; omega
        have HZ := Lib.hid hz
        clear r1 r2 u1 u2 u3 hz hgr3 ht
        go_wp2
        go_ret
        exact ⟨_, p + 3, rfl, HZ.out, hrd3, by omega, hg3⟩
    · go_wp2
      go_ret
      exact ⟨s, p + 2, rfl, by omega, hrd2, by omega, hg2⟩
  · go_wp2
    go_ret
    exact ⟨_, p + 2, rfl, by omega, hrd2, by omega, hg2⟩
  · go_wp2_with fail
    refine (of_any _ B R L (p + 2) w2.heap.size 5 5 mutB (hrd2.alloc _) (heap_alloc_new w2 _) (by omega) (Lib.hid rfl) (by omega) (by omega) (by omega)).mono ?_
    rintro e w3 ⟨t, rfl, ht, hrd3, hgr3⟩
    have ht2 : t.size ≤ 2 := small_strs (by decide) ht
    have hg3 := grown_trans hg2 (grown_trans (World.grownBy_alloc w2 _ _) hgr3)
    clear ht
    go_wp2
    go_ret
    exact ⟨_, p + 3, rfl, by rw [app_size]; omega, hrd3, by omega, hg3⟩
  · go_wp2
    go_ret
    exact ⟨s, p + 2, rfl, by omega, hrd2, by omega, hg2⟩

def StrDrawn (n : Nat) (w : World) (e : Ending) (w' : World) : Prop := ∃ s : ByteArray, e = .returned (.string s) ∧ s.size ≤ n ∧ Below w.heap.size w w'
end Go.Proofs.Ythojahknocageaa
