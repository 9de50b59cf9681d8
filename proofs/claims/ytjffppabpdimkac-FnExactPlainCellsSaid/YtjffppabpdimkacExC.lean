/- FnExactFormatCells: its walk. -/
import Derived.Test.YtjffppabpdimkacExS
import Derived.Test.YtjffppabpdimkacEqIntS
import Derived.Test.YtjffppabpdimkacTxtB
namespace Go.Proofs.Ytjffppabpdimkac
open Go.RowKit

theorem eqIntS_same2 (w : World) (u v : Value) (xs : List Int) (hx : IntsAt w u xs) (hy : IntsAt w v xs) :
    Calls Try.prog 19 #[u, v] w fun e w' => e = .returned (.bool true) ∧ Below w.heap.size w w' := by
  have := eqIntS_any w u v xs xs hx hy
  rw [decide_eq_true rfl] at this
  exact this
def CopyOut2 (zs : List Int) (n : Nat) (w : World) (e : Ending) (w' : World) : Prop := ∃ g, e = .returned (.slice (some ⟨g, 0, none⟩) n n) ∧ IntsAt w' (.slice (some ⟨g, 0, none⟩) n n) zs ∧ Below w.heap.size w w'
theorem toIntS_out2 (w : World) (a : Option Addr) (n cap : Nat) (zs : List Int) (hx : IntsAt w (.slice a n cap) zs) (hl : n ≤ 1048576) (hn : Hid (zs.length = n)) :
    Calls Try.prog 17 #[.slice a n cap] w fun e w' => CopyOut2 zs n w e w' :=
  (toIntS_any w _ zs hx (by have := hn.out; omega)).mono fun _ _ ⟨v, h1, h2, h3, g, h4⟩ => by
    rw [hn.out] at h4
    subst h4
    exact ⟨g, h1, h2.at, h3⟩
theorem i_FormatCells_t (w : World) (u : Value) (zs : List Int) (t : ByteArray) (hx : IntsAt w u zs) (ht : Hid (bs (fmtL zs) = t)) :
    Calls Try.prog 18 #[u] w fun e w' => e = .returned (.string t) ∧ Below w.heap.size w w' := by
  have := i_FormatCells w u zs hx
  unfold TextOut at this
  rw [ht.out] at this
  exact this
theorem s_FormatCells_t (w : World) (u : Value) (zs : List Int) (t : ByteArray) (hx : IntsAt w u zs) (ht : Hid (bs (fmtL zs) = t)) :
    Calls Try.prog 16 #[u] w fun e w' => e = .returned (.string t) ∧ Below w.heap.size w w' := by
  have := s_FormatCells w u zs hx
  unfold TextOut at this
  rw [ht.out] at this
  exact this

set_option maxHeartbeats 1000000 in
theorem exFormatCells_walk (a : Option Addr) (len cap : Nat) (zs : List Int) (w : World) (h : RowIn64 w a len cap zs) :
    Calls Try.prog 4 #[.slice a len cap] w fun e w' => e = .returned (.bool true) ∧ Below w.heap.size w w' := by
  obtain ⟨hl, hfit, hx⟩ := h.ints
  have hlen : len ≤ 9223372036854775807 := by obtain ⟨_, c, hs, h1, h2, _⟩ := hx; injection hs; omega
  obtain ⟨xs, hxs⟩ : ∃ xs, zs.take len = xs := ⟨_, rfl⟩
  rw [hxs] at hl hfit hx
  have HL := Lib.hid hl
  clear hl hxs h hfit
  by_cases hbig : len ≤ 1048576
  · obtain ⟨t, ht⟩ : ∃ t, bs (fmtL xs) = t := ⟨_, rfl⟩
    have HT := Lib.hid ht
    clear ht
    go_enter Try.func4, Try.ntmps4
    go_wp2_with fail
    refine (toIntS_out2 _ a len cap xs hx hbig HL).mono ?_
    rintro e w1 ⟨g1, rfl, hv1, hb1⟩
    have hx := hx.below hb1
    go_wp2_with fail
    refine (s_FormatCells_t _ _ xs t hv1 HT).mono ?_
    rintro e w2 ⟨rfl, hb2⟩
    have hx := hx.below hb2
    have hB2 := below_next hb1 hb2
    go_wp2_with fail
    refine (toIntS_out2 _ a len cap xs hx hbig HL).mono ?_
    rintro e w3 ⟨g3, rfl, hv3, hb3⟩
    have hx := hx.below hb3
    have hB3 := below_next hB2 hb3
    go_wp2_with fail
    refine (i_FormatCells_t _ _ xs t hv3 HT).mono ?_
    rintro e w4 ⟨rfl, hb4⟩
    have hx := hx.below hb4
    have hv4 := hv3.below hb4
    have hB4 := below_next hB3 hb4
    go_wp2_with fail
    refine (toIntS_out2 _ a len cap xs hx hbig HL).mono ?_
    rintro e w5 ⟨g5, rfl, hv5, hb5⟩
    have hv6 := hv4.below hb5
    have hB5 := below_next hB4 hb5
    go_wp2_with fail
    refine (eqIntS_same2 _ _ _ xs hv6 hv5).mono ?_
    rintro e w6 ⟨rfl, hb6⟩
    go_wp2
    go_ret
    exact ⟨rfl, below_next hB5 hb6⟩
  · have hbig' : 1048576 < len := by omega
    go_enter Try.func4, Try.ntmps4
    go_wp2
    go_ret
    exact ⟨rfl, Below.refl _ _⟩
end Go.Proofs.Ytjffppabpdimkac
