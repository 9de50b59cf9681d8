/- FnDotsOf, FnLetterCell, FnLetterCellDecades, FnMirror: their walks. -/
import Derived.Test.YtjffppabpdimkaaPrA
import Derived.Test.YtjffppabpdimkaaCell
import Derived.Test.YtjffppabpdimkaaDotsO
import Derived.Test.YtjffppabpdimkaaIsIn
import Derived.Test.YtjffppabpdimkaaEqInts
namespace Go.Proofs.Ytjffppabpdimkaa
open Go.RowKit

theorem equalInts_same (w : World) (u v : Value) (xs : List Int) (hx : IntsAt w u xs) (hy : IntsAt w v xs) :
    Calls Try.prog 21 #[u, v] w fun e w' => e = .returned (.bool true) ∧ Below w.heap.size w w' := by
  have := equalInts_any w u v xs xs hx hy
  rw [decide_eq_true rfl] at this
  exact this
theorem isIn_b (w : World) (u : Value) (zs : List Int) (z : Int) (b : Bool) (hx : IntsAt w u zs) (hb : Hid (decide (z ∈ zs) = b)) :
    Calls Try.prog 24 #[u, .int .i64 z] w fun e w' => e = .returned (.bool b) ∧ w = w' := by
  have := isIn_any w u zs z hx
  rw [hb.out] at this
  exact this
theorem i_cellOf_v (w : World) (u : Value) (zs : List Int) (v : Int) (hx : IntsAt w u zs) (hv : Hid (cellL zs = v)) :
    Calls Try.prog 18 #[u] w fun e w' => e = .returned (.int .i64 v) ∧ w = w' := by
  have := i_cellOf w u zs hx
  rw [hv.out] at this
  exact this
theorem dots_facts : ∀ c : Nat, c < 64 → cellL (dotsL c) = c ∧ (dotsL c).length ≤ 6 ∧ decide ((0 : Int) ∈ dotsL c) = false ∧ decide ((7 : Int) ∈ dotsL c) = false ∧ (∀ i, i < 6 → 1 ≤ i → i < (dotsL c).length → (dotsL c).getD (i - 1) 0 < (dotsL c).getD i 0) := by decide +kernel

set_option maxHeartbeats 1000000 in
theorem dotsOf_walk (a : Option Addr) (len cap : Nat) (zs : List Int) (w : World) (h : RowIn .u8 w a len cap zs) :
    Calls Try.prog 4 #[.slice a len cap] w fun e w' => e = .returned (.bool true) ∧ Below w.heap.size w w' := by
  have hlen : len ≤ 9223372036854775807 := by
    obtain ⟨_, h2, h3⟩ := bytesAt_of_row h; unfold maxLen at h3; omega
  by_cases hbig : len ≤ 1048576
  · go_enter Try.func4, Try.ntmps4
    go_wp2_with fail
    refine (drawDotsOf_any w a len cap zs h).mono ?_
    rintro e w1 ⟨c, rfl, hd1, hd2, hb1⟩
    clear h
    by_cases hc : 0 ≤ c ∧ c < 64
    · obtain ⟨k, rfl⟩ : ∃ k : Nat, c = k := ⟨c.toNat, by omega⟩
      have hk : k < 64 := by omega
      obtain ⟨f1, f2, f3, f4, f5⟩ := dots_facts k hk
      have fa : AscUp (dotsL k) (dotsL k).length := fun i h1 h2 => f5 i (by omega) h1 h2
      have F1 := Lib.hid f1
      have F3 := Lib.hid f3
      have F4 := Lib.hid f4
      have hc0 : (0 : Int) ≤ (k : Int) := by omega
      have hc1 : (k : Int) ≤ 63 := by omega
      clear f1 f3 f4 f5 hc hd1 hd2
      go_wp2_with fail
      refine (i_DotsOf_out k _ hk).mono ?_
      rintro e w2 ⟨v2, rfl, hv2, hb2, a2, n2, c2, rfl⟩
      have hB2 := below_next hb1 hb2
      have hn2 : n2 ≤ 6 := by
        obtain ⟨_, _, hs2, _⟩ := hv2
        injection hs2; omega
      go_wp2_with fail
      refine (s_DotsOf_out k _ hk).mono ?_
      rintro e w3 ⟨v3, rfl, hv3, hb3, a3, n3, c3, rfl⟩
      have hv2' := hv2.below hb3
      have hB3 := below_next hB2 hb3
      go_wp2_with fail
      refine (equalInts_same _ _ _ _ hv2' hv3).mono ?_
      rintro e w4 ⟨rfl, hb4⟩
      have hv4 := hv2'.below hb4
      have hB4 := below_next hB3 hb4
      go_wp2_with fail
      refine (i_cellOf_v _ _ _ k hv4 F1).mono ?_
      rintro e w' ⟨rfl, rfl⟩
      go_wp2_with fail
      refine (ascends_yes _ _ _ hv4 fa).mono ?_
      rintro e w5 ⟨rfl, hb5⟩
      have hv5 := hv4.below hb5
      have hB5 := below_next hB4 hb5
      go_wp2_with fail
      refine (isIn_b _ _ _ _ false hv5 F3).mono ?_
      rintro e w' ⟨rfl, rfl⟩
      go_wp2_with fail
      refine (isIn_b _ _ _ _ false hv5 F4).mono ?_
      rintro e w' ⟨rfl, rfl⟩
      go_wp2
      go_ret
      exact ⟨rfl, hB5⟩
    · have hno : c < 0 ∨ 64 ≤ c := by omega
      go_wp2_with fail
      refine (i_dotsOf_no c _ hno).mono ?_
      rintro e w' ⟨rfl, rfl⟩
      go_wp2_with fail
      refine (s_DotsOf_no c _ hno).mono ?_
      rintro e w' ⟨rfl, rfl⟩
      go_wp2_with fail
      refine (equalInts_same _ _ _ [] (IntsAt.nil _) (IntsAt.nil _)).mono ?_
      rintro e w4 ⟨rfl, hb4⟩
      have hB4 := below_next hb1 hb4
      rcases hno with hno | hno
      · go_wp2_with fail
        refine (s_DotsOf_no c _ (.inl hno)).mono ?_
        rintro e w' ⟨rfl, rfl⟩
        go_wp2_with fail
        refine (equalInts_same _ _ _ [] (IntsAt.nil _) (IntsAt.nil _)).mono ?_
        rintro e w5 ⟨rfl, hb5⟩
        go_wp2
        go_ret
        exact ⟨rfl, below_next hB4 hb5⟩
      · have hno' : 63 < c := by omega
        go_wp2_with fail
        refine (s_DotsOf_no c _ (.inr hno)).mono ?_
        rintro e w' ⟨rfl, rfl⟩
        go_wp2_with fail
        refine (equalInts_same _ _ _ [] (IntsAt.nil _) (IntsAt.nil _)).mono ?_
        rintro e w5 ⟨rfl, hb5⟩
        go_wp2
        go_ret
        exact ⟨rfl, below_next hB4 hb5⟩
  · have hbig' : 1048576 < len := by omega
    go_enter Try.func4, Try.ntmps4
    go_wp2
    go_ret
    exact ⟨rfl, Below.refl _ _⟩
end Go.Proofs.Ytjffppabpdimkaa
