
/- The exact law of ValidKeys, and the exact law of PlayKeys over a row. -/
import Derived.Test.YtjedkmhmkipkdaaBh
namespace Go.Proofs.Ytjedkmhmkipkdaa
open Go.RowKit

theorem exPlayKeys_row (a : Option Addr) (len cap : Nat) (zs : List Int) (w : World) (h : RowIn64 w a len cap zs) :
    Calls Try.prog 12 #[.slice a len cap] w fun e w' => e = .returned (.bool true) ∧ Below w.heap.size w w' := by
  obtain ⟨hl, hfit, hx⟩ := h.ints
  exact exPlayKeys_walk a len cap _ w hx hl hfit
set_option maxHeartbeats 2000000 in
theorem exValidKeys_walk (a : Option Addr) (len cap : Nat) (zs0 : List Int) (w : World) (h : RowIn64 w a len cap zs0) :
    Calls Try.prog 11 #[.slice a len cap] w fun e w' => e = .returned (.bool true) ∧ Below w.heap.size w w' := by
  obtain ⟨hn, hf, hx⟩ := h.ints
  obtain ⟨zs, hzs⟩ : ∃ zs, zs0.take len = zs := ⟨_, rfl⟩
  rw [hzs] at hn hf hx
  have hcap : len ≤ 9223372036854775807 := by
    obtain ⟨_, _, e, e1, e2, _⟩ := hx
    injection e with _ e3 e4
    omega
  have HN := Lib.hid hn
  have HX := Lib.hid hx
  have HF := Lib.hid hf
  obtain ⟨b, hr⟩ : ∃ b, okB zs = b := ⟨_, rfl⟩
  have HR := Lib.hid hr
  have hbb : (b != b) = false := by cases b <;> rfl
  clear hr hn hx hf h hzs
  by_cases hbig : 1048576 < len
  · go_enter Try.func11, Try.ntmps11
    go_wp2
    go_ret
    exact ⟨rfl, Below.refl _ _⟩
  · have hlen : len ≤ 1048576 := by omega
    clear hbig
    go_enter Try.func11, Try.ntmps11
    go_wp2_with fail
    refine (toIntS_e w _ len _ zs HX.out hlen HN).mono ?_
    rintro e w1 ⟨g1, rfl, hO1, hb1⟩
    go_wp2_with fail
    refine (s_ValidKeys w1 _ zs b hO1.at HF.out HR).mono ?_
    rintro e w2 ⟨rfl, hb2⟩
    have hB2 := below_next hb1 hb2
    clear hO1 hb1 hb2
    go_wp2_with fail
    refine (toIntS_e w2 _ len _ zs (HX.out.below hB2) hlen HN).mono ?_
    rintro e w3 ⟨g3, rfl, hO3, hb3⟩
    have hB3 := below_next hB2 hb3
    clear hB2 hb3
    go_wp2_with fail
    refine (i_ValidKeys w3 _ zs b hO3.at HF.out HR).mono ?_
    rintro e w' ⟨rfl, rfl⟩
    go_wp2_with fail
    refine (toIntS_e w3 _ len _ zs (HX.out.below hB3) hlen HN).mono ?_
    rintro e w6 ⟨g6, rfl, hO6, hb6⟩
    have hO36 := hO3.below hb6
    have hB6 := below_next hB3 hb6
    clear hO3 hb6 hB3
    go_wp2_with fail
    refine (eqIntS_sameE w6 _ _ zs hO36.at hO6.at).mono ?_
    rintro e w7 ⟨rfl, hb7⟩
    have hB7 := below_next hB6 hb7
    go_wp2
    go_ret
    exact ⟨rfl, hB7⟩
end Go.Proofs.Ytjedkmhmkipkdaa
