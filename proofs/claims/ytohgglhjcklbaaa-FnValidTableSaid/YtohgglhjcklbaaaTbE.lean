
/- The exact laws' own functions on tables: their size, a copy, whether two are the same. -/
import Derived.Test.YtohgglhjcklbaaaTb
import Derived.Test.YtohgglhjcklbaaaExS
import Derived.Test.YtohgglhjcklbaaaEqIntS
import Derived.Deep.RegionHeld3
import Derived.Deep.Onto
import Derived.Handy
namespace Go.Proofs.Ytohgglhjcklbaaa
open Go.RowKit

set_option maxHeartbeats 1000000 in
theorem szRule_any (w : World) (u : Value) (s : ByteArray) (zs : List Int) (p left : Int) (hx : IntsAt w u zs) (hs : s.size ≤ 9223372036854775807) (hl : zs.length ≤ 9223372036854775807) (h0 : 0 ≤ left) (h1 : left ≤ 1048576) :
    Calls Try.prog 55 #[.agg #[.string s, u, .int .i64 p], .int .i64 left] w fun e w' => ∃ k : Int, e = .returned (.int .i64 k) ∧ Below w.heap.size w w' ∧ (k = -1 ∨ (0 ≤ k ∧ k ≤ left ∧ s.size ≤ 1048576 ∧ zs.length ≤ 1048576)) := by
  obtain ⟨a, cp, rfl, x1, x2, x3⟩ := hx
  obtain ⟨n, hn⟩ : ∃ n, zs.length = n := ⟨_, rfl⟩
  rw [hn] at x1 x3 hl ⊢
  clear hn x3
  by_cases c1 : left - s.size < 0
  · have d1 : decide (left - (s.size : Int) < 0) = true := decide_eq_true c1
    have u1 : IntKind.i64.wrap (left - (s.size : Int)) = left - (s.size : Int) := IntWalk.i64_in _ (by omega)
    go_enter Try.func55, Try.ntmps55
    go_wp2
    go_ret
    exact ⟨-1, rfl, (Below.refl _ _).alloc (Nat.le_refl _) _, .inl rfl⟩
  · have d1 : decide (left - (s.size : Int) < 0) = false := decide_eq_false c1
    have u1 : IntKind.i64.wrap (left - (s.size : Int)) = left - (s.size : Int) := IntWalk.i64_in _ (by omega)
    obtain ⟨l1, hl1⟩ : ∃ l1 : Int, left - (s.size : Int) = l1 := ⟨_, rfl⟩
    have b1 : 0 ≤ l1 := by omega
    have b2 : l1 ≤ left := by omega
    have u2 : IntKind.i64.wrap (l1 - (n : Int)) = l1 - (n : Int) := IntWalk.i64_in _ (by omega)
    rw [hl1] at u1 d1
    by_cases c2 : l1 - n < 0
    · have d2 : decide (l1 - (n : Int) < 0) = true := decide_eq_true c2
      go_enter Try.func55, Try.ntmps55
      go_wp2
      go_ret
      exact ⟨-1, rfl, (Below.refl _ _).alloc (Nat.le_refl _) _, .inl rfl⟩
    · have d2 : decide (l1 - (n : Int) < 0) = false := decide_eq_false c2
      go_enter Try.func55, Try.ntmps55
      go_wp2
      go_ret
      exact ⟨l1 - n, rfl, (Below.refl _ _).alloc (Nat.le_refl _) _, .inr ⟨by omega, by omega, by omega, by omega⟩⟩

/-- a rule whose letters and cells are not too many -/
def RuleSmall (r : PRule) : Prop := r.t.size ≤ 1048576 ∧ r.c.length ≤ 1048576
def SmallTo (T : List PRule) (k : Nat) : Prop := ∀ i, i < k → RuleSmall (T.getD i noR)
theorem SmallTo.zero (T : List PRule) : SmallTo T 0 := fun i h => absurd h (by omega)
theorem SmallTo.succ {T : List PRule} {k : Nat} (h : SmallTo T k) (e : RuleSmall (T.getD k noR)) : SmallTo T (k + 1) := fun i hi => by
  by_cases hik : i = k
  · subst hik; exact e
  · exact h i (by omega)
def TableSmall (T : List PRule) : Prop := T.length ≤ 1048576 ∧ SmallTo T T.length

set_option maxHeartbeats 1000000 in
theorem szRuleS_any (w : World) (v : Value) (T : List PRule) (hx : TableAt w v T) (hf : TableFits T) :
    Calls Try.prog 18 #[v, .int .i64 1048576] w fun e w' => ∃ k : Int, e = .returned (.int .i64 k) ∧ Below w.heap.size w w' ∧ (k = -1 ∨ (0 ≤ k ∧ k ≤ 1048576 ∧ TableSmall T)) := by
  obtain ⟨a, cp, rfl, x1, x2, x3⟩ := hx
  obtain ⟨n, hn⟩ : ∃ n, T.length = n := ⟨_, rfl⟩
  rw [hn] at x1 x3 ⊢
  have HN := Lib.hid hn
  clear hn
  have HF := Lib.hid hf
  clear hf
  have hu1 : IntKind.i64.wrap (1048576 - (n : Int)) = 1048576 - (n : Int) := IntWalk.i64_in _ (by omega)
  by_cases hbig : 1048576 < n
  · have d1 : decide (1048576 - (n : Int) < 0) = true := decide_eq_true (by omega)
    go_enter Try.func18, Try.ntmps18
    go_wp2
    go_ret
    exact ⟨-1, rfl, Below.refl _ _, .inl rfl⟩
  · have d1 : decide (1048576 - (n : Int) < 0) = false := decide_eq_false (by omega)
    go_enter Try.func18, Try.ntmps18
    go_wp2
    go_loopw [1, 5] (fun l i wr => ∃ k : Nat, k ≤ n ∧ i = .int .i64 k ∧ (∃ m : Int, l = .int .i64 m ∧ 0 ≤ m ∧ m ≤ 1048576) ∧ SmallTo T k ∧ Below w.heap.size w wr) (fun _ i _ => n - (intOf i).toNat)
    case atStart => exact ⟨0, Nat.zero_le _, rfl, ⟨_, rfl, by omega, by omega⟩, SmallTo.zero _, Below.refl _ _⟩
    case round =>
      clear hu1 d1
      obtain ⟨k, hk, rfl, ⟨m, rfl, hm0, hm1⟩, hok, hb1⟩ := hrel
      have hsz := hb1.size
      by_cases hlt : k < n
      · rcases x3 with rfl | ⟨g, off, rfl, x3⟩
        · exact absurd HN.out (by simp; omega)
        obtain ⟨r, hr⟩ : ∃ r, T.getD k noR = r := ⟨_, rfl⟩
        have hra := x3 k hlt
        have hrf := HF.out.at k
        rw [hr] at hra hrf
        have HR := Lib.hid hr
        clear hr x3
        obtain ⟨t, zs, q⟩ := r
        obtain ⟨c0, ⟨u, c1, hu⟩, c2⟩ := hra
        have HU : Hid (IntsAt w u zs) := hu
        obtain ⟨a2, cp2, rfl, h1, h2, _⟩ := hu
        simp only at c0 c1 c2 h1
        have c0 := (hb1.cell (World.block_lt_of_cell? w _ c0)).trans c0
        have c1 := (hb1.cell (World.block_lt_of_cell? w _ c1)).trans c1
        have c2 := (hb1.cell (World.block_lt_of_cell? w _ c2)).trans c2
        have hlz : zs.length ≤ 9223372036854775807 := by omega
        go_wp2_with fail
        refine (szRule_any wr _ t zs q m (HU.out.below hb1) hrf.1 hlz hm0 hm1).mono ?_
        rintro e w2 ⟨l, rfl, hb2, hl⟩
        rcases hl with rfl | ⟨hl0, hl1, hl2, hl3⟩
        · go_wp2
          go_ret
          exact ⟨-1, rfl, hb1.trans (hb2.mono hsz), .inl rfl⟩
        · have hok' := hok.succ (by rw [HR.out]; exact ⟨hl2, hl3⟩)
          have d1 : decide (l < 0) = false := decide_eq_false (by omega)
          clear hok
          go_wp2
          go_roundw
          case rel => exact ⟨k + 1, by omega, by go_num, ⟨l, rfl, hl0, by omega⟩, hok', hb1.trans (hb2.mono hsz)⟩
          case measure => simp [intOf]; omega
      · go_wp2
        go_ret
        obtain rfl : k = n := by omega
        exact ⟨m, rfl, hb1, .inr ⟨hm0, hm1, by rw [TableSmall, HN.out]; exact ⟨by omega, hok⟩⟩⟩

/-- a copied rule -/
def RuleMade (s : ByteArray) (zs : List Int) (p : Int) (w : World) (e : Ending) (w' : World) : Prop :=
  ∃ g, e = .returned (.agg #[.string s, .slice (some ⟨g, 0, none⟩) zs.length zs.length, .int .i64 p]) ∧ OwnInts w' w.heap.size (.slice (some ⟨g, 0, none⟩) zs.length zs.length) zs ∧ Below w.heap.size w w'
set_option maxHeartbeats 1000000 in
theorem toRule_any (w : World) (u : Value) (s : ByteArray) (zs : List Int) (p : Int) (hx : IntsAt w u zs) (hl : zs.length ≤ 1048576) :
    Calls Try.prog 57 #[.agg #[.string s, u, .int .i64 p]] w fun e w' => RuleMade s zs p w e w' := by
  have HX := Lib.hid hx
  obtain ⟨a, cp, rfl, x1, x2, x3⟩ := hx
  clear x3
  go_enter Try.func57, Try.ntmps57
  go_wp2_with fail
  have hA : (((w.alloc (.cells #[.string s, .slice a zs.length cp, .int .i64 p] 71)).alloc (.cells #[.string ⟨#[]⟩, .slice none 0 0, .int .i64 0] 46)).alloc (.cells #[.string s, .slice none 0 0, .int .i64 0] 46)).heap[w.heap.size]? = some (.cells #[.string s, .slice a zs.length cp, .int .i64 p] 71 (0, 0)) := by
    rw [Below.heap_alloc _ _ _ (by simp; omega), Below.heap_alloc _ _ _ (by simp)]; exact heap_alloc_new w _
  have hB : (((w.alloc (.cells #[.string s, .slice a zs.length cp, .int .i64 p] 71)).alloc (.cells #[.string ⟨#[]⟩, .slice none 0 0, .int .i64 0] 46)).alloc (.cells #[.string s, .slice none 0 0, .int .i64 0] 46)).heap[w.heap.size + 1]? = some (.cells #[.string ⟨#[]⟩, .slice none 0 0, .int .i64 0] 46 (0, 0)) := by
    rw [Below.heap_alloc _ _ _ (by simp)]
    have := heap_alloc_new (w.alloc (.cells #[.string s, .slice a zs.length cp, .int .i64 p] 71)) (.cells #[.string ⟨#[]⟩, .slice none 0 0, .int .i64 0] 46)
    simpa using this
  have hC : (((w.alloc (.cells #[.string s, .slice a zs.length cp, .int .i64 p] 71)).alloc (.cells #[.string ⟨#[]⟩, .slice none 0 0, .int .i64 0] 46)).alloc (.cells #[.string s, .slice none 0 0, .int .i64 0] 46)).heap[w.heap.size + 1 + 1]? = some (.cells #[.string s, .slice none 0 0, .int .i64 0] 46 (0, 0)) := by
    have := heap_alloc_new ((w.alloc (.cells #[.string s, .slice a zs.length cp, .int .i64 p] 71)).alloc (.cells #[.string ⟨#[]⟩, .slice none 0 0, .int .i64 0] 46)) (.cells #[.string s, .slice none 0 0, .int .i64 0] 46)
    simpa using this
  have hW : Below w.heap.size w (((w.alloc (.cells #[.string s, .slice a zs.length cp, .int .i64 p] 71)).alloc (.cells #[.string ⟨#[]⟩, .slice none 0 0, .int .i64 0] 46)).alloc (.cells #[.string s, .slice none 0 0, .int .i64 0] 46)) :=
    (((Below.refl _ _).alloc (Nat.le_refl _) _).alloc (by simp) _).alloc (by simp; omega) _
  have hS : (((w.alloc (.cells #[.string s, .slice a zs.length cp, .int .i64 p] 71)).alloc (.cells #[.string ⟨#[]⟩, .slice none 0 0, .int .i64 0] 46)).alloc (.cells #[.string s, .slice none 0 0, .int .i64 0] 46)).heap.size = w.heap.size + 1 + 1 + 1 := by simp
  generalize (((w.alloc (.cells #[.string s, .slice a zs.length cp, .int .i64 p] 71)).alloc (.cells #[.string ⟨#[]⟩, .slice none 0 0, .int .i64 0] 46)).alloc (.cells #[.string s, .slice none 0 0, .int .i64 0] 46)) = W1 at hA hB hC hW hS ⊢
  refine (toIntS_any W1 _ zs (HX.out.below hW) hl).mono ?_
  rintro e w3 ⟨v, rfl, hO, hb, g, rfl⟩
  have kA := (hb.block w.heap.size (by omega)).trans hA
  have kB := (hb.block (w.heap.size + 1) (by omega)).trans hB
  have kC := (hb.block (w.heap.size + 1 + 1) (by omega)).trans hC
  have cA : w3.cell? ⟨w.heap.size, 2, none⟩ = some (.int .i64 p) := by rw [cell_of_row w3 _ 2 _ _ _ kA]; rfl
  have cB0 : w3.cell? ⟨w.heap.size + 1, 0, none⟩ = some (.string ⟨#[]⟩) := by rw [cell_of_row w3 _ 0 _ _ _ kB]; rfl
  have cB1 : w3.cell? ⟨w.heap.size + 1, 1, none⟩ = some (.slice none 0 0) := by rw [cell_of_row w3 _ 1 _ _ _ kB]; rfl
  have cB2 : w3.cell? ⟨w.heap.size + 1, 2, none⟩ = some (.int .i64 0) := by rw [cell_of_row w3 _ 2 _ _ _ kB]; rfl
  have cC0 : w3.cell? ⟨w.heap.size + 1 + 1, 0, none⟩ = some (.string s) := by rw [cell_of_row w3 _ 0 _ _ _ kC]; rfl
  have cC1 : w3.cell? ⟨w.heap.size + 1 + 1, 1, none⟩ = some (.slice none 0 0) := by rw [cell_of_row w3 _ 1 _ _ _ kC]; rfl
  have cC2 : w3.cell? ⟨w.heap.size + 1 + 1, 2, none⟩ = some (.int .i64 0) := by rw [cell_of_row w3 _ 2 _ _ _ kC]; rfl
  have fB0 : w3.frozen? ⟨w.heap.size + 1, 0, none⟩ = false := frozen_of_row w3 _ 0 _ _ kB
  have fB1 : w3.frozen? ⟨w.heap.size + 1, 1, none⟩ = false := frozen_of_row w3 _ 1 _ _ kB
  have fB2 : w3.frozen? ⟨w.heap.size + 1, 2, none⟩ = false := frozen_of_row w3 _ 2 _ _ kB
  have fC1 : w3.frozen? ⟨w.heap.size + 1 + 1, 1, none⟩ = false := frozen_of_row w3 _ 1 _ _ kC
  have fC2 : w3.frozen? ⟨w.heap.size + 1 + 1, 2, none⟩ = false := frozen_of_row w3 _ 2 _ _ kC
  have KB := Lib.hid kB
  have HO := Lib.hid hO
  have HB := Lib.hid hb
  have HS := Lib.hid hS
  have HW := Lib.hid hW
  clear kA kB kC hA hB hC hO hb hS hW
  go_wp2
  have k1 := (heap_setCell_other w3 ⟨w.heap.size + 1 + 1, 1, none⟩ (w.heap.size + 1) (.slice (some ⟨g, 0, none⟩) zs.length zs.length) (by simp)).trans KB.out
  have k2 := (heap_setCell_other _ ⟨w.heap.size + 1 + 1, 2, none⟩ (w.heap.size + 1) (.int .i64 p) (by simp)).trans k1
  have k3 := heap_setCell_same _ (w.heap.size + 1) 0 _ _ (.string s) k2
  have k4 := heap_setCell_same _ (w.heap.size + 1) 1 _ _ (.slice (some ⟨g, 0, none⟩) zs.length zs.length) k3
  have k5 := heap_setCell_same _ (w.heap.size + 1) 2 _ _ (.int .i64 p) k4
  refine bodyPost_ret (results_cell_row rfl _ _ (w.heap.size + 1) _ #[.string s, .slice (some ⟨g, 0, none⟩) zs.length zs.length, .int .i64 p] _ _ rfl k5 Try.underlying46 rfl (by kernel_rfl)) rfl ?_
  have hO := HO.out
  have hb := HB.out
  rw [HS.out] at hO hb
  refine ⟨g, rfl, ?_, ?_⟩
  · have h1 : OwnInts _ (w.heap.size + 1 + 1 + 1) _ zs := ownsRow_setCell_below (a := ⟨w.heap.size + 1 + 1, 1, none⟩) hO (by simp) (.slice (some ⟨g, 0, none⟩) zs.length zs.length)
    have h2 : OwnInts _ (w.heap.size + 1 + 1 + 1) _ zs := ownsRow_setCell_below (a := ⟨w.heap.size + 1 + 1, 2, none⟩) h1 (by simp) (.int .i64 p)
    have h3 : OwnInts _ (w.heap.size + 1 + 1 + 1) _ zs := ownsRow_setCell_below (a := ⟨w.heap.size + 1, 0, none⟩) h2 (by simp) (.string s)
    have h4 : OwnInts _ (w.heap.size + 1 + 1 + 1) _ zs := ownsRow_setCell_below (a := ⟨w.heap.size + 1, 1, none⟩) h3 (by simp) (.slice (some ⟨g, 0, none⟩) zs.length zs.length)
    have h5 : OwnInts _ (w.heap.size + 1 + 1 + 1) _ zs := ownsRow_setCell_below (a := ⟨w.heap.size + 1, 2, none⟩) h4 (by simp) (.int .i64 p)
    exact World.ownsRow.mono h5 (by omega)
  · have h1 : Below w.heap.size w w3 := HW.out.trans (hb.mono (by omega))
    exact ((((h1.setCell (p := ⟨w.heap.size + 1 + 1, 1, none⟩) (by simp; omega) _).setCell (p := ⟨w.heap.size + 1 + 1, 2, none⟩) (by simp; omega) _).setCell (p := ⟨w.heap.size + 1, 0, none⟩) (by simp) _).setCell (p := ⟨w.heap.size + 1, 1, none⟩) (by simp) _).setCell (p := ⟨w.heap.size + 1, 2, none⟩) (by simp) _
end Go.Proofs.Ytohgglhjcklbaaa
