
/- ColumnWidths in the program. -/
import Derived.Test.YtidjnhlioebchaaZg
namespace Go.Proofs.Ytidjnhlioebchaa
open Go.RowKit

/-- the greatest number of cells of an entry in a column, in the first rows -/
def wd (G : List (List (List Int))) : Nat → Nat → Nat
  | 0, _ => 0
  | i + 1, k => max (wd G i k) ((G.getD i []).getD k []).length
theorem wd_le {G : List (List (List Int))} {k : Nat} (h : ∀ i, i < G.length → k < (G.getD i []).length ∧ EntsTo (G.getD i []) (G.getD i []).length) : ∀ i, i ≤ G.length → wd G i k ≤ 12 := by
  intro i
  induction i with
  | zero => intro _; simp [wd]
  | succ i ih =>
    intro hi
    have h1 := ih (by omega)
    have h2 := h i (by omega)
    have h3 := (h2.2 k h2.1).1
    show max _ _ ≤ 12
    omega
def widths (G : List (List (List Int))) : List Int := (List.range (G.getD 0 []).length).map fun k => (wd G G.length k : Int)
def WidIs (G : List (List (List Int))) (Z : List Int) : Prop := (GridOk G ∧ Z = widths G) ∨ (¬ GridOk G ∧ Z = [])
theorem widIs_ex (G : List (List (List Int))) : ∃ Z, WidIs G Z := by
  by_cases h : GridOk G
  · exact ⟨_, .inl ⟨h, rfl⟩⟩
  · exact ⟨_, .inr ⟨h, rfl⟩⟩
/-- where an entry of a valid grid lies -/
theorem GridAt.entry {w : World} {a : Option Addr} {n cp : Nat} {G : List (List (List Int))} (h : GridAt w (.slice a n cp) G) (hok : GridOk G) {i k : Nat} (hi : i < n) (hk : k < (G.getD 0 []).length) :
    ∃ g off g2 off2 m c2 a5 l5 c5, a = some ⟨g, off, none⟩ ∧ m = (G.getD 0 []).length ∧ w.cell? ⟨g, off + i, none⟩ = some (.slice (some ⟨g2, off2, none⟩) m c2) ∧ w.cell? ⟨g2, off2 + k, none⟩ = some (.slice a5 l5 c5) ∧ ((G.getD i []).getD k []).length = l5 ∧ l5 ≤ 12 := by
  obtain ⟨a', n', cp', e, hn, _, _, h3⟩ := h.partsZ
  injection e with e1 e2 e3
  subst e1 e2 e3
  rcases h3 with rfl | ⟨g, off, rfl, h3⟩
  · omega
  obtain ⟨u, c1, hu⟩ := h3 i hi
  have hr := hok.2.2.2.2 i (by omega)
  obtain ⟨a2, m, c2, rfl, hm, _, _, y⟩ := hu.partsZ
  rcases y with rfl | ⟨g2, off2, rfl, y⟩
  · omega
  obtain ⟨u2, c3, hu2⟩ := y k (by omega)
  obtain ⟨a5, l5, c5, rfl, hl, _, _, _⟩ := hu2.partsZ
  exact ⟨g, off, g2, off2, m, c2, a5, l5, c5, rfl, by omega, c1, c3, hl, by have := (hr.2 k (by omega)).1; omega⟩
set_option maxHeartbeats 1000000 in
theorem i_columnWidth_z (w : World) (v : Value) (G : List (List (List Int))) (k : Nat) (hx : GridAt w v G) (hok : Hid (GridOk G)) (hk : k < (G.getD 0 []).length) :
    Calls Try.prog 48 #[v, .int .i64 k] w fun e w' => e = .returned (.int .i64 (wd G G.length k)) ∧ w = w' := by
  have HX := keptZ hx
  have HK := Lib.hid hk
  obtain ⟨a, n, cp, rfl, hn, x1, x2, _⟩ := hx.partsZ
  have HN := Lib.hid hn
  rw [hn]
  have hm5 : k < 5 := by have := hok.out.2.2.2.1; omega
  clear hx hk hn
  go_enter Try.func48, Try.ntmps48
  go_wp2
  go_loopw [5, 10] (fun x i wr => ∃ j : Nat, j ≤ n ∧ i = .int .i64 j ∧ x = .int .i64 (wd G j k) ∧ w = wr) (fun _ i _ => n - (intOf i).toNat)
  case atStart => exact ⟨0, Nat.zero_le _, rfl, rfl, rfl⟩
  case round =>
    obtain ⟨j, hj, rfl, rfl, rfl⟩ := hrel
    by_cases hlt : j < n
    · obtain ⟨g, off, g2, off2, m, c2, a5, l5, c5, rfl, hm, c0, c1, hl, hl12⟩ := HX.out.entry hok.out hlt HK.out
      have hkm : (k : Int) < (m : Int) := by have := HK.out; omega
      have hk0 : (0 : Int) ≤ (k : Int) := by omega
      have HS : Hid (wd G (j + 1) k = max (wd G j k) l5) := by show max _ _ = _; rw [hl]
      clear hm hl
      by_cases hc : wd G j k < l5
      · have d1 : decide ((wd G j k : Int) < (l5 : Int)) = true := decide_eq_true (by omega)
        have HS2 : Hid (wd G (j + 1) k = l5) := by rw [HS.out]; exact Nat.max_eq_right (by omega)
        go_wp2
        go_roundw
        case rel => exact ⟨j + 1, by omega, by go_num, by rw [HS2.out], by trivial⟩
        case measure => simp [intOf]; omega
      · have d1 : decide ((wd G j k : Int) < (l5 : Int)) = false := decide_eq_false (by omega)
        have HS2 : Hid (wd G (j + 1) k = wd G j k) := by rw [HS.out]; exact Nat.max_eq_left (by omega)
        go_wp2
        go_roundw
        case rel => exact ⟨j + 1, by omega, by go_num, by rw [HS2.out], by trivial⟩
        case measure => simp [intOf]; omega
    · obtain rfl : j = n := by omega
      go_wp2
      go_ret
      exact ⟨rfl, rfl⟩
def WidOut (Z : List Int) (w : World) (e : Ending) (w' : World) : Prop := ∃ a n c, e = .returned (.slice a n c) ∧ OwnInts w' w.heap.size (.slice a n c) Z ∧ Below w.heap.size w w'
def widTo (G : List (List (List Int))) (k : Nat) : List Int := (List.range k).map fun q => (wd G G.length q : Int)
theorem widTo_succ (G : List (List (List Int))) (k : Nat) : widTo G (k + 1) = widTo G k ++ [(wd G G.length k : Int)] := by simp [widTo, List.range_succ]
theorem widTo_len (G : List (List (List Int))) (k : Nat) : (widTo G k).length = k := by simp [widTo]
theorem OwnInts.isSliceZ {w : World} {base : Nat} {v : Value} {zs : List Int} (h : OwnInts w base v zs) : ∃ a n c, v = .slice a n c := by
  obtain ⟨a, c, h, _⟩ := h.at
  exact ⟨a, _, c, h⟩
set_option maxHeartbeats 2000000 in
theorem i_ColumnWidths_z (w : World) (v : Value) (G : List (List (List Int))) (Z : List Int) (hx : GridAt w v G) (hz : Hid (WidIs G Z)) :
    Calls Try.prog 18 #[v] w fun e w' => WidOut Z w e w' := by
  obtain ⟨i0, hi, hz0, hz1, hz2⟩ := info_parts infoInt
  have HX := keptZ hx
  obtain ⟨a, n, cp, rfl, hn, x1, x2, x3⟩ := hx.partsZ
  have HN := Lib.hid hn
  clear hx hn
  go_enter Try.func18, Try.ntmps18
  go_wp2_with fail
  refine (i_ValidGrid_z w _ G HX.out).mono ?_
  rintro e w' ⟨b, rfl, rfl, hb⟩
  cases b with
  | false =>
    have HZ : Hid (Z = []) := by
      rcases hz.out with ⟨h, _⟩ | ⟨_, h⟩
      · exact absurd (hb.2 h) (by simp)
      · exact h
    clear hb x3
    go_wp2
    go_ret
    exact ⟨_, _, _, rfl, by rw [HZ.out]; exact OwnInts.nil _ _, Below.refl _ _⟩
  | true =>
    have HG : Hid (GridOk G) := keptZ (hb.1 rfl)
    have HZ : Hid (Z = widths G) := by
      rcases hz.out with ⟨_, h⟩ | ⟨h, _⟩
      · exact h
      · exact absurd HG.out h
    clear hb
    have hn1 : 1 ≤ n := by have := HG.out.1; have := HN.out; omega
    rcases x3 with rfl | ⟨g, off, rfl, x3⟩
    · omega
    obtain ⟨u0, c0, hu0⟩ := x3 0 (by omega)
    rw [Nat.add_zero] at c0
    obtain ⟨a0, m, cp0, rfl, hm, _, y2, _⟩ := hu0.partsZ
    have hm5 : m ≤ 5 := by have := HG.out.2.2.2.1; omega
    have HM := Lib.hid hm
    have b3 : (0 : Int) < (n : Int) := by omega
    clear hm hu0 x3
    go_wp2
    clear c0
    go_loopw [3, 12] (fun x i wr => ∃ k : Nat, k ≤ m ∧ i = .int .i64 k ∧ Hid (OwnInts wr w.heap.size x (widTo G k)) ∧ Hid (Below w.heap.size w wr)) (fun _ i _ => m - (intOf i).toNat)
    case atStart => exact ⟨0, Nat.zero_le _, rfl, OwnInts.nil _ _, Below.refl _ _⟩
    case round =>
      obtain ⟨k, hk, rfl, HO, HB⟩ := hrel
      obtain ⟨ao, no, co, hs⟩ := HO.out.isSliceZ
      subst hs
      by_cases hlt : k < m
      · have hsz := HB.out.size
        have hln := widTo_len G k
        go_wp2_with fail
        refine (i_columnWidth_z _ _ G k (HX.out.below HB.out) HG (by rw [HM.out]; exact hlt)).mono ?_
        rintro e w' ⟨rfl, rfl⟩
        go_wp2_with (at_builtin; refine wpList_append_own _ rfl _ _ 27 rfl w.heap.size 3 i0 (.int .i64 0) 1 8 Try.underlying27 hi hz0 hz1 hz2 rfl (by decide) _ _ _ rfl (HO.out.below ((Below.refl _ _).alloc (Nat.le_refl _) _)) ⟨_, 0, none⟩ 1 1 [.int .i64 (wd G G.length k)] rfl rfl new_one one_cell (by rw [hln]; unfold maxLen; omega) (by rw [hln]; omega) (by simp; omega) ?_)
        intro v' w5 hown' hgrow _
        have hO5 : OwnInts w5 w.heap.size v' (widTo G (k + 1)) := by rw [widTo_succ]; exact OwnInts.snoc (by rw [hln]; exact hown')
        have hB5 := below_append HB.out hsz HO.out hgrow
        have NXT := keptZ (And.intro hO5 hB5)
        clear hown' hgrow hO5 hB5 HO HB
        go_wp2
        go_roundw
        case rel => exact ⟨k + 1, by omega, by go_num, NXT.out.1, NXT.out.2⟩
        case measure => simp [intOf]; omega
      · obtain rfl : k = m := by omega
        go_wp2
        go_ret
        exact ⟨_, _, _, rfl, by rw [HZ.out, widths, HM.out]; exact HO.out, HB.out⟩
end Go.Proofs.Ytidjnhlioebchaa
