
/- The draw of a text of cells: its change, and the whole. -/
import Derived.Test.YtbngkgfjhegkmaaDrP
namespace Go.Proofs.Ytbngkgfjhegkmaa
open Go.RowKit

def mutA : List ByteArray := [⟨#[48]⟩, ⟨#[49]⟩, ⟨#[32]⟩, ⟨#[45]⟩, ⟨#[98]⟩, ⟨#[54]⟩, ⟨#[57]⟩, ⟨#[50]⟩]
def mutB : List ByteArray := [⟨#[48]⟩, ⟨#[32]⟩, ⟨#[10]⟩, ⟨#[120]⟩, ⟨#[45, 49]⟩]
theorem ext_size {s : ByteArray} {a b : Nat} (_h : a ≤ b) (h2 : b ≤ s.size) : (s.extract a b).size = b - a := by
  rw [← size_data, extract_list, sub, List.length_take, List.length_drop, size_data]
  omega
theorem app_size (a b : ByteArray) : (a ++ b).size = a.size + b.size := by
  show (a ++ b).data.size = a.data.size + b.data.size
  rw [ByteArray.data_append, Array.size_append]

set_option maxHeartbeats 2000000 in
theorem mutate_any (w : World) (B R L p : Nat) (s : ByteArray) (N : Nat) (h : RD w B R L p) (hp : p ≤ 10000000000) (hs : s.size ≤ N) (hN : N ≤ 1000000) :
    Calls Try.prog 29 #[.pointer (some ⟨R, 0, none⟩), .string s] w fun e w' => TextDrawn (N + 2) 3 w B R L p e w' := by
  go_enter Try.func29, Try.ntmps29
  go_wp2_with fail
  refine (pick_any _ B R L p _ h (by omega) (by omega) (by omega)).mono ?_
  rintro e w1 ⟨k, rfl, hk, hrd1, hgr1⟩
  go_wp2_with fail
  refine (pick_any _ B R L (p + 1) _ hrd1 (by omega) (by omega) (by omega)).mono ?_
  rintro e w2 ⟨m, rfl, hm, hrd2, hgr2⟩
  have hg2 := grown_trans hgr1 hgr2
  have hlt2 := hrd2.lt
  clear hgr1 hgr2 hrd1 h
  have hks : k ≤ s.size := by omega
  have hm5 : m < 5 := by omega
  have hss : s.size ≤ 9223372036854775000 := by omega
  clear hk hm
  have q1 : (k : Int) ≤ (s.size : Int) := by omega
  have q2 : (0 : Int) ≤ (k : Int) := by omega
  have z1 : (s.extract 0 k).size ≤ N := by rw [ext_size (by omega) hks]; omega
  rcases (show m = 0 ∨ m = 1 ∨ m = 2 ∨ m = 3 ∨ m = 4 from by omega) with rfl | rfl | rfl | rfl | rfl
  · by_cases hlt : k < s.size
    · have q3 : (k : Int) < (s.size : Int) := by omega
      have q4 : (k : Int) + 1 ≤ (s.size : Int) := by omega
      have z2 : (s.extract (k + 1) s.size).size ≤ N := by rw [ext_size (by omega) (Nat.le_refl _)]; omega
      have r1 := fun (wx : World) (t : ByteArray) (ht : t.size ≤ 2) => run_string_add_sum (P := Try.prog) wx (s.extract 0 k) t (by omega)
      have r2 := fun (wx : World) (t : ByteArray) (ht : t.size ≤ 2) => run_string_add_sum (P := Try.prog) wx (s.extract 0 k ++ t) (s.extract (k + 1) s.size) (by rw [app_size]; omega)
      have u1 : IntKind.i64.wrap ((k : Int) + 1) = (k : Int) + 1 := IntWalk.i64_in _ (by omega)
      have u2 : ((k : Int) + 1).toNat = k + 1 := by omega
      have u3 : ((k : Int)).toNat = k := by omega
      go_wp2_with fail
      have q5 : (0 : Int) ≤ (k : Int) + 1 := by omega
      go_region_held3 (fun w' => True) (exact trivial) (first | (go_at_call 37; refine (of_any (World.drew (w2.alloc (.cells (strs mutA) 9))) B R L (p + 2) w2.heap.size 8 8 mutA (show RD (World.drew (w2.alloc (.cells (strs mutA) 9))) B R L (p + 2) from hrd2.alloc _) (heap_alloc_new w2 _) (by omega) (Lib.hid rfl) (by omega) (by omega) (by omega)).mono ?_; rintro e w3 ⟨t, rfl, ht, hrd3, hgr3⟩; have ht2 : t.size ≤ 2 := small_strs (by decide) ht))
      all_goals
        have hg3 : w.grownBy w3 (some R) := grown_trans hg2 (grown_trans (World.grownBy_alloc w2 (.cells (strs mutA) 9) _) ⟨hgr3.os, hgr3.tape, hgr3.output, hgr3.size, hgr3.block⟩)
        have hz : (s.extract 0 k ++ t ++ s.extract (k + 1) s.size).size ≤ N + 2 := by
          rw [app_size, app_size, ext_size (by omega) hks, ext_size (by omega) (Nat.le_refl _)]; omega
        have HZ := Lib.hid hz
        clear r1 r2 u1 u2 u3 hz hgr3 ht
        go_wp2
        go_ret
        exact ⟨_, p + 3, rfl, HZ.out, hrd3, by omega, hg3⟩
    · go_wp2
      go_ret
      exact ⟨s, p + 2, rfl, by omega, hrd2, by omega, hg2⟩
  · by_cases hlt : k < s.size
    · have q3 : (k : Int) < (s.size : Int) := by omega
      have q4 : (k : Int) + 1 ≤ (s.size : Int) := by omega
      have z2 : (s.extract (k + 1) s.size).size ≤ N := by rw [ext_size (by omega) (Nat.le_refl _)]; omega
      have r1 := fun (wx : World) (t : ByteArray) (ht : t.size ≤ 2) => run_string_add_sum (P := Try.prog) wx (s.extract 0 k) t (by omega)
      have r2 := fun (wx : World) (t : ByteArray) (ht : t.size ≤ 2) => run_string_add_sum (P := Try.prog) wx (s.extract 0 k ++ t) (s.extract (k + 1) s.size) (by rw [app_size]; omega)
      have u1 : IntKind.i64.wrap ((k : Int) + 1) = (k : Int) + 1 := IntWalk.i64_in _ (by omega)
      have u2 : ((k : Int) + 1).toNat = k + 1 := by omega
      have u3 : ((k : Int)).toNat = k := by omega
      go_wp2_with fail
      have q5 : (0 : Int) ≤ (k : Int) + 1 := by omega
      go_region_held3 (fun w' => True) (exact trivial) (first | (go_at_call 37; refine (of_any (World.drew (w2.alloc (.cells (strs mutA) 9))) B R L (p + 2) w2.heap.size 8 8 mutA (show RD (World.drew (w2.alloc (.cells (strs mutA) 9))) B R L (p + 2) from hrd2.alloc _) (heap_alloc_new w2 _) (by omega) (Lib.hid rfl) (by omega) (by omega) (by omega)).mono ?_; rintro e w3 ⟨t, rfl, ht, hrd3, hgr3⟩; have ht2 : t.size ≤ 2 := small_strs (by decide) ht))
      all_goals
        have hg3 : w.grownBy w3 (some R) := grown_trans hg2 (grown_trans (World.grownBy_alloc w2 (.cells (strs mutA) 9) _) ⟨hgr3.os, hgr3.tape, hgr3.output, hgr3.size, hgr3.block⟩)
        have hz : (s.extract 0 k ++ t ++ s.extract (k + 1) s.size).size ≤ N + 2 := by
          rw [app_size, app_size, ext_size (by omega) hks, ext_size (by omega) (Nat.le_refl _)]; omega
        have HZ := Lib.hid hz
        clear r1 r2 u1 u2 u3 hz hgr3 ht
        go_wp2
        go_ret
        exact ⟨_, p + 3, rfl, HZ.out, hrd3, by omega, hg3⟩
    · go_wp2
      go_ret
      exact ⟨s, p + 2, rfl, by omega, hrd2, by omega, hg2⟩
  · go_wp2
    go_ret
    exact ⟨_, p + 2, rfl, by omega, hrd2, by omega, hg2⟩
  · go_wp2_with fail
    refine (of_any _ B R L (p + 2) w2.heap.size 5 5 mutB (hrd2.alloc _) (heap_alloc_new w2 _) (by omega) (Lib.hid rfl) (by omega) (by omega) (by omega)).mono ?_
    rintro e w3 ⟨t, rfl, ht, hrd3, hgr3⟩
    have ht2 : t.size ≤ 2 := small_strs (by decide) ht
    have hg3 := grown_trans hg2 (grown_trans (World.grownBy_alloc w2 _ _) hgr3)
    clear ht
    go_wp2
    go_ret
    exact ⟨_, p + 3, rfl, by rw [app_size]; omega, hrd3, by omega, hg3⟩
  · go_wp2
    go_ret
    exact ⟨s, p + 2, rfl, by omega, hrd2, by omega, hg2⟩

def StrDrawn (n : Nat) (w : World) (e : Ending) (w' : World) : Prop := ∃ s : ByteArray, e = .returned (.string s) ∧ s.size ≤ n ∧ Below w.heap.size w w'
set_option maxHeartbeats 1000000 in
theorem drawParseCells_any (w : World) (a : Option Addr) (len cap : Nat) (zs : List Int) (h : RowIn .u8 w a len cap zs) :
    Calls Try.prog 13 #[.slice a len cap] w fun e w' => StrDrawn 100 w e w' := by
  obtain ⟨h1, h2, h3⟩ := bytesAt_of_row h
  clear h zs
  go_enter Try.func13, Try.ntmps13
  go_wp2_with fail
  refine (newReader_any w _ a len cap h1 (Nat.le_refl _) h2 h3).mono ?_
  rintro e w1 ⟨L, rfl, hrd, hgr⟩
  have hs1 := hgr.size
  go_wp2_with fail
  refine (someCells_any w1 w.heap.size w.heap.size L 0 8 hrd (by omega) (by omega)).mono ?_
  rintro e w2 ⟨v, zs, q, rfl, hown, hbt, hl, hrd2, hq, hg, a2, n2, c2, rfl⟩
  have hv : ValidL zs := ⟨by omega, fun z hz => by have := hbt z hz; omega⟩
  have hg2 := grown_new hgr hg (Nat.le_refl _)
  obtain ⟨t, ht⟩ : ∃ t, bs (fmtUp zs zs.length) = t := ⟨_, rfl⟩
  have hts : t.size ≤ 56 := by
    rw [← ht, bs_size]
    have := fmtUp_len zs hv.2 zs.length (Nat.le_refl _)
    omega
  have HS : Hid (∀ w, IntsAt w (.slice a2 n2 c2) zs → Calls Try.prog 26 #[.slice a2 n2 c2] w fun e w' => e = .returned (.string t) ∧ Below w.heap.size w w') := by
    intro w hx
    have := s_showCells w _ zs hx hv
    unfold TextOut at this
    rw [ht] at this
    exact this
  have hR2 := hg2.size
  have hx2 := hown.at
  clear ht hv hbt hl hown hg hrd hgr
  go_wp2_with fail
  refine (HS.out _ hx2).mono ?_
  rintro e w3 ⟨rfl, hb3⟩
  have hrd3 := hrd2.below hb3 hrd2.lt
  have hg3 := grown_own hg2 (row' := none) ⟨hb3.os, hb3.tape, hb3.output, hb3.size, fun k hk _ => hb3.block k hk⟩ (by simp)
  clear hg2 hb3 hrd2
  go_wp2_with fail
  refine (pick_any _ w.heap.size w.heap.size L q _ hrd3 (by omega) (by omega) (by omega)).mono ?_
  rintro e w4 ⟨k, rfl, hk, hrd4, hgr4⟩
  have hg4 := grown_new hg3 hgr4 (Nat.le_refl _)
  clear hg3 hgr4 hrd3
  by_cases hk0 : k = 0
  · subst hk0
    go_wp2_with fail
    refine (mutate_any _ w.heap.size w.heap.size L (q + 1) t 56 hrd4 (by omega) hts (by omega)).mono ?_
    rintro e w5 ⟨s, q5, rfl, hs, hrd5, hq5, hgr5⟩
    go_wp2
    go_ret
    exact ⟨s, rfl, by omega, below_of_grown (grown_new hg4 hgr5 (Nat.le_refl _))⟩
  · have e1 : ((k : Int) == 0) = false := by simp; omega
    go_wp2
    go_ret
    exact ⟨t, rfl, by omega, below_of_grown hg4⟩
end Go.Proofs.Ytbngkgfjhegkmaa
