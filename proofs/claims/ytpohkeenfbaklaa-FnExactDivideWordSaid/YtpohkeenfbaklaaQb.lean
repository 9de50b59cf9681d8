
/- The exact laws' own functions on lists of patterns: their size, a copy of one. -/
import Derived.Test.YtpohkeenfbaklaaQa
import Derived.Test.YtpohkeenfbaklaaExS
import Derived.Test.YtpohkeenfbaklaaEqIntS
import Derived.Deep.RegionHeld3
import Derived.Deep.Onto
import Derived.Handy
namespace Go.Proofs.Ytpohkeenfbaklaa
open Go.RowKit

set_option maxHeartbeats 1000000 in
theorem szPattern_any (w : World) (u : Value) (s : ByteArray) (zs : List Int) (b1 b2 : Bool) (left : Int) (hx : IntsAt w u zs) (hs : s.size ≤ 9223372036854775807) (hl : zs.length ≤ 9223372036854775807) (h0 : 0 ≤ left) (h1 : left ≤ 1048576) :
    Calls Try.prog 51 #[.agg #[.string s, .bool b1, .bool b2, u], .int .i64 left] w fun e w' => ∃ k : Int, e = .returned (.int .i64 k) ∧ Below w.heap.size w w' ∧ (k = -1 ∨ (0 ≤ k ∧ k ≤ left ∧ s.size ≤ 1048576 ∧ zs.length ≤ 1048576)) := by
  obtain ⟨a, cp, rfl, x1, x2, x3⟩ := hx
  obtain ⟨n, hn⟩ : ∃ n, zs.length = n := ⟨_, rfl⟩
  rw [hn] at x1 x3 hl ⊢
  clear hn x3
  by_cases c1 : left - s.size < 0
  · have d1 : decide (left - (s.size : Int) < 0) = true := decide_eq_true c1
    have u1 : IntKind.i64.wrap (left - (s.size : Int)) = left - (s.size : Int) := IntWalk.i64_in _ (by omega)
    go_enter Try.func51, Try.ntmps51
    go_wp2
    go_ret
    exact ⟨-1, rfl, (Below.refl _ _).alloc (Nat.le_refl _) _, .inl rfl⟩
  · have d1 : decide (left - (s.size : Int) < 0) = false := decide_eq_false c1
    have u1 : IntKind.i64.wrap (left - (s.size : Int)) = left - (s.size : Int) := IntWalk.i64_in _ (by omega)
    obtain ⟨l1, hl1⟩ : ∃ l1 : Int, left - (s.size : Int) = l1 := ⟨_, rfl⟩
    have q1 : 0 ≤ l1 := by omega
    have q2 : l1 ≤ left := by omega
    have u2 : IntKind.i64.wrap (l1 - (n : Int)) = l1 - (n : Int) := IntWalk.i64_in _ (by omega)
    rw [hl1] at u1 d1
    by_cases c2 : l1 - n < 0
    · have d2 : decide (l1 - (n : Int) < 0) = true := decide_eq_true c2
      go_enter Try.func51, Try.ntmps51
      go_wp2
      go_ret
      exact ⟨-1, rfl, (Below.refl _ _).alloc (Nat.le_refl _) _, .inl rfl⟩
    · have d2 : decide (l1 - (n : Int) < 0) = false := decide_eq_false c2
      go_enter Try.func51, Try.ntmps51
      go_wp2
      go_ret
      exact ⟨l1 - n, rfl, (Below.refl _ _).alloc (Nat.le_refl _) _, .inr ⟨by omega, by omega, by omega, by omega⟩⟩

/-- a pattern whose letters and levels are not too many -/
def PatSmall (r : PPat) : Prop := r.t.size ≤ 1048576 ∧ r.c.length ≤ 1048576
def SmallToQ (T : List PPat) (k : Nat) : Prop := ∀ i, i < k → PatSmall (T.getD i noQ)
theorem SmallToQ.zero (T : List PPat) : SmallToQ T 0 := fun i h => absurd h (by omega)
theorem SmallToQ.succ {T : List PPat} {k : Nat} (h : SmallToQ T k) (e : PatSmall (T.getD k noQ)) : SmallToQ T (k + 1) := fun i hi => by
  by_cases hik : i = k
  · subst hik; exact e
  · exact h i (by omega)
def PatsSmall (T : List PPat) : Prop := T.length ≤ 1048576 ∧ SmallToQ T T.length

set_option maxHeartbeats 1000000 in
theorem szPatternS_any (w : World) (v : Value) (T : List PPat) (hx : PatsAt w v T) (hf : PatsFit T) :
    Calls Try.prog 30 #[v, .int .i64 1048576] w fun e w' => ∃ k : Int, e = .returned (.int .i64 k) ∧ Below w.heap.size w w' ∧ (k = -1 ∨ (0 ≤ k ∧ k ≤ 1048576 ∧ PatsSmall T)) := by
  obtain ⟨a, cp, rfl, x1, x2, x3⟩ := hx
  obtain ⟨n, hn⟩ : ∃ n, T.length = n := ⟨_, rfl⟩
  rw [hn] at x1 x3 ⊢
  have HN := Lib.hid hn
  clear hn
  have HF := Lib.hid hf
  clear hf
  have hu1 : IntKind.i64.wrap (1048576 - (n : Int)) = 1048576 - (n : Int) := IntWalk.i64_in _ (by omega)
  by_cases hbig : 1048576 < n
  · have d1 : decide (1048576 - (n : Int) < 0) = true := decide_eq_true (by omega)
    go_enter Try.func30, Try.ntmps30
    go_wp2
    go_ret
    exact ⟨-1, rfl, Below.refl _ _, .inl rfl⟩
  · have d1 : decide (1048576 - (n : Int) < 0) = false := decide_eq_false (by omega)
    go_enter Try.func30, Try.ntmps30
    go_wp2
    go_loopw [1, 5] (fun l i wr => ∃ k : Nat, k ≤ n ∧ i = .int .i64 k ∧ (∃ m : Int, l = .int .i64 m ∧ 0 ≤ m ∧ m ≤ 1048576) ∧ SmallToQ T k ∧ Below w.heap.size w wr) (fun _ i _ => n - (intOf i).toNat)
    case atStart => exact ⟨0, Nat.zero_le _, rfl, ⟨_, rfl, by omega, by omega⟩, SmallToQ.zero _, Below.refl _ _⟩
    case round =>
      clear hu1 d1
      obtain ⟨k, hk, rfl, ⟨m, rfl, hm0, hm1⟩, hok, hb1⟩ := hrel
      have hsz := hb1.size
      by_cases hlt : k < n
      · rcases x3 with rfl | ⟨g, off, rfl, x3⟩
        · exact absurd HN.out (by simp; omega)
        obtain ⟨r, hr⟩ : ∃ r, T.getD k noQ = r := ⟨_, rfl⟩
        have hra := x3 k hlt
        have hrf := HF.out.at k
        rw [hr] at hra hrf
        have HR := Lib.hid hr
        clear hr x3
        obtain ⟨t, q1, q2, zs⟩ := r
        obtain ⟨c0, c2, c3, ⟨u, c1, hu⟩⟩ := hra
        have HU : Hid (IntsAt w u zs) := hu
        obtain ⟨a2, cp2, rfl, h1, h2, _⟩ := hu
        simp only at c0 c1 c2 c3 h1
        have c0 := (hb1.cell (World.block_lt_of_cell? w _ c0)).trans c0
        have c1 := (hb1.cell (World.block_lt_of_cell? w _ c1)).trans c1
        have c2 := (hb1.cell (World.block_lt_of_cell? w _ c2)).trans c2
        have c3 := (hb1.cell (World.block_lt_of_cell? w _ c3)).trans c3
        have hlz : zs.length ≤ 9223372036854775807 := by omega
        go_wp2_with fail
        refine (szPattern_any wr _ t zs q1 q2 m (HU.out.below hb1) hrf.1 hlz hm0 hm1).mono ?_
        rintro e w2 ⟨l, rfl, hb2, hl⟩
        rcases hl with rfl | ⟨hl0, hl1, hl2, hl3⟩
        · go_wp2
          go_ret
          exact ⟨-1, rfl, hb1.trans (hb2.mono hsz), .inl rfl⟩
        · have hok' := hok.succ (by rw [HR.out]; exact ⟨hl2, hl3⟩)
          have d1 : decide (l < 0) = false := decide_eq_false (by omega)
          clear hok
          go_wp2
          go_roundw
          case rel => exact ⟨k + 1, by omega, by go_num, ⟨l, rfl, hl0, by omega⟩, hok', hb1.trans (hb2.mono hsz)⟩
          case measure => simp [intOf]; omega
      · go_wp2
        go_ret
        obtain rfl : k = n := by omega
        exact ⟨m, rfl, hb1, .inr ⟨hm0, hm1, by rw [PatsSmall, HN.out]; exact ⟨by omega, hok⟩⟩⟩

/-- a copied pattern -/
def PatMade (s : ByteArray) (zs : List Int) (p1 p2 : Bool) (w : World) (e : Ending) (w' : World) : Prop :=
  ∃ g, e = .returned (.agg #[.string s, .bool p1, .bool p2, .slice (some ⟨g, 0, none⟩) zs.length zs.length]) ∧ OwnInts w' w.heap.size (.slice (some ⟨g, 0, none⟩) zs.length zs.length) zs ∧ Below w.heap.size w w'
set_option maxHeartbeats 1000000 in
theorem toPattern_any (w : World) (u : Value) (s : ByteArray) (zs : List Int) (p1 p2 : Bool) (hx : IntsAt w u zs) (hl : zs.length ≤ 1048576) :
    Calls Try.prog 52 #[.agg #[.string s, .bool p1, .bool p2, u]] w fun e w' => PatMade s zs p1 p2 w e w' := by
  have HX := Lib.hid hx
  obtain ⟨a, cp, rfl, x1, x2, x3⟩ := hx
  clear x3
  go_enter Try.func52, Try.ntmps52
  go_wp2_with fail
  have hA : (((w.alloc (.cells #[.string s, .bool p1, .bool p2, .slice a zs.length cp] 56)).alloc (.cells #[.string ⟨#[]⟩, .bool false, .bool false, .slice none 0 0] 28)).alloc (.cells #[.string s, .bool p1, .bool p2, .slice none 0 0] 28)).heap[w.heap.size + 1]? = some (.cells #[.string ⟨#[]⟩, .bool false, .bool false, .slice none 0 0] 28 (0, 0)) := by
    rw [Below.heap_alloc _ _ _ (by simp)]
    have := heap_alloc_new (w.alloc (.cells #[.string s, .bool p1, .bool p2, .slice a zs.length cp] 56)) (.cells #[.string ⟨#[]⟩, .bool false, .bool false, .slice none 0 0] 28)
    simpa using this
  have hC : (((w.alloc (.cells #[.string s, .bool p1, .bool p2, .slice a zs.length cp] 56)).alloc (.cells #[.string ⟨#[]⟩, .bool false, .bool false, .slice none 0 0] 28)).alloc (.cells #[.string s, .bool p1, .bool p2, .slice none 0 0] 28)).heap[w.heap.size + 1 + 1]? = some (.cells #[.string s, .bool p1, .bool p2, .slice none 0 0] 28 (0, 0)) := by
    have := heap_alloc_new ((w.alloc (.cells #[.string s, .bool p1, .bool p2, .slice a zs.length cp] 56)).alloc (.cells #[.string ⟨#[]⟩, .bool false, .bool false, .slice none 0 0] 28)) (.cells #[.string s, .bool p1, .bool p2, .slice none 0 0] 28)
    simpa using this
  have hW : Below w.heap.size w (((w.alloc (.cells #[.string s, .bool p1, .bool p2, .slice a zs.length cp] 56)).alloc (.cells #[.string ⟨#[]⟩, .bool false, .bool false, .slice none 0 0] 28)).alloc (.cells #[.string s, .bool p1, .bool p2, .slice none 0 0] 28)) := (((Below.refl _ _).alloc (Nat.le_refl _) _).alloc (by simp) _).alloc (by simp; omega) _
  have hS : (((w.alloc (.cells #[.string s, .bool p1, .bool p2, .slice a zs.length cp] 56)).alloc (.cells #[.string ⟨#[]⟩, .bool false, .bool false, .slice none 0 0] 28)).alloc (.cells #[.string s, .bool p1, .bool p2, .slice none 0 0] 28)).heap.size = w.heap.size + 1 + 1 + 1 := by simp
  generalize (((w.alloc (.cells #[.string s, .bool p1, .bool p2, .slice a zs.length cp] 56)).alloc (.cells #[.string ⟨#[]⟩, .bool false, .bool false, .slice none 0 0] 28)).alloc (.cells #[.string s, .bool p1, .bool p2, .slice none 0 0] 28)) = W1 at hA hC hW hS ⊢
  refine (toIntS_any W1 _ zs (HX.out.below hW) hl).mono ?_
  rintro e w3 ⟨v, rfl, hO, hb, g, rfl⟩
  have kB := (hb.block (w.heap.size + 1) (by omega)).trans hA
  have kC := (hb.block (w.heap.size + 1 + 1) (by omega)).trans hC
  have cB0 : w3.cell? ⟨w.heap.size + 1, 0, none⟩ = some (.string ⟨#[]⟩) := by rw [cell_of_row w3 _ 0 _ _ _ kB]; rfl
  have cB1 : w3.cell? ⟨w.heap.size + 1, 1, none⟩ = some (.bool false) := by rw [cell_of_row w3 _ 1 _ _ _ kB]; rfl
  have cB2 : w3.cell? ⟨w.heap.size + 1, 2, none⟩ = some (.bool false) := by rw [cell_of_row w3 _ 2 _ _ _ kB]; rfl
  have cB3 : w3.cell? ⟨w.heap.size + 1, 3, none⟩ = some (.slice none 0 0) := by rw [cell_of_row w3 _ 3 _ _ _ kB]; rfl
  have cC0 : w3.cell? ⟨w.heap.size + 1 + 1, 0, none⟩ = some (.string s) := by rw [cell_of_row w3 _ 0 _ _ _ kC]; rfl
  have cC1 : w3.cell? ⟨w.heap.size + 1 + 1, 1, none⟩ = some (.bool p1) := by rw [cell_of_row w3 _ 1 _ _ _ kC]; rfl
  have cC2 : w3.cell? ⟨w.heap.size + 1 + 1, 2, none⟩ = some (.bool p2) := by rw [cell_of_row w3 _ 2 _ _ _ kC]; rfl
  have cC3 : w3.cell? ⟨w.heap.size + 1 + 1, 3, none⟩ = some (.slice none 0 0) := by rw [cell_of_row w3 _ 3 _ _ _ kC]; rfl
  have fB0 : w3.frozen? ⟨w.heap.size + 1, 0, none⟩ = false := frozen_of_row w3 _ 0 _ _ kB
  have fB1 : w3.frozen? ⟨w.heap.size + 1, 1, none⟩ = false := frozen_of_row w3 _ 1 _ _ kB
  have fB2 : w3.frozen? ⟨w.heap.size + 1, 2, none⟩ = false := frozen_of_row w3 _ 2 _ _ kB
  have fB3 : w3.frozen? ⟨w.heap.size + 1, 3, none⟩ = false := frozen_of_row w3 _ 3 _ _ kB
  have fC3 : w3.frozen? ⟨w.heap.size + 1 + 1, 3, none⟩ = false := frozen_of_row w3 _ 3 _ _ kC
  have KB := Lib.hid kB
  have HO := Lib.hid hO
  have HB := Lib.hid hb
  have HS := Lib.hid hS
  have HW := Lib.hid hW
  clear kB kC hA hC hO hb hS hW
  go_wp2
  have k1 := (heap_setCell_other w3 ⟨w.heap.size + 1 + 1, 3, none⟩ (w.heap.size + 1) (.slice (some ⟨g, 0, none⟩) zs.length zs.length) (by simp)).trans KB.out
  have k2 := heap_setCell_same _ (w.heap.size + 1) 0 _ _ (.string s) k1
  have k3 := heap_setCell_same _ (w.heap.size + 1) 1 _ _ (.bool p1) k2
  have k4 := heap_setCell_same _ (w.heap.size + 1) 2 _ _ (.bool p2) k3
  have k5 := heap_setCell_same _ (w.heap.size + 1) 3 _ _ (.slice (some ⟨g, 0, none⟩) zs.length zs.length) k4
  refine bodyPost_ret (results_cell_row rfl _ _ (w.heap.size + 1) _ #[.string s, .bool p1, .bool p2, .slice (some ⟨g, 0, none⟩) zs.length zs.length] _ _ rfl k5 Try.underlying28 rfl (by kernel_rfl)) rfl ?_
  have hO := HO.out
  have hb := HB.out
  rw [HS.out] at hO hb
  refine ⟨g, rfl, ?_, ?_⟩
  · have h1 : OwnInts _ (w.heap.size + 1 + 1 + 1) _ zs := ownsRow_setCell_below (a := ⟨w.heap.size + 1 + 1, 3, none⟩) hO (by simp) (.slice (some ⟨g, 0, none⟩) zs.length zs.length)
    have h3 : OwnInts _ (w.heap.size + 1 + 1 + 1) _ zs := ownsRow_setCell_below (a := ⟨w.heap.size + 1, 0, none⟩) h1 (by simp) (.string s)
    have h4 : OwnInts _ (w.heap.size + 1 + 1 + 1) _ zs := ownsRow_setCell_below (a := ⟨w.heap.size + 1, 1, none⟩) h3 (by simp) (.bool p1)
    have h5 : OwnInts _ (w.heap.size + 1 + 1 + 1) _ zs := ownsRow_setCell_below (a := ⟨w.heap.size + 1, 2, none⟩) h4 (by simp) (.bool p2)
    have h6 : OwnInts _ (w.heap.size + 1 + 1 + 1) _ zs := ownsRow_setCell_below (a := ⟨w.heap.size + 1, 3, none⟩) h5 (by simp) (.slice (some ⟨g, 0, none⟩) zs.length zs.length)
    exact World.ownsRow.mono h6 (by omega)
  · have h1 : Below w.heap.size w w3 := HW.out.trans (hb.mono (by omega))
    exact ((((h1.setCell (p := ⟨w.heap.size + 1 + 1, 3, none⟩) (by simp; omega) _).setCell (p := ⟨w.heap.size + 1, 0, none⟩) (by simp) _).setCell (p := ⟨w.heap.size + 1, 1, none⟩) (by simp) _).setCell (p := ⟨w.heap.size + 1, 2, none⟩) (by simp) _).setCell (p := ⟨w.heap.size + 1, 3, none⟩) (by simp) _
end Go.Proofs.Ytpohkeenfbaklaa
