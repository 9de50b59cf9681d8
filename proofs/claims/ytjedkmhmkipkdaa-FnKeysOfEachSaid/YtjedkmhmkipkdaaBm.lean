
/- The exact law of KeysOf. -/
import Derived.Test.YtjedkmhmkipkdaaEa
import Derived.Test.YtjedkmhmkipkdaaBp
namespace Go.Proofs.Ytjedkmhmkipkdaa
open Go.RowKit

set_option maxHeartbeats 4000000 in
theorem exKeysOf_walk (a : Option Addr) (len cap : Nat) (zs : List Int) (w : World) (hx : IntsAt w (.slice a len cap) zs) (hn : zs.length = len) (hf : Fits zs) :
    Calls Try.prog 13 #[.slice a len cap] w fun e w' => e = .returned (.bool true) ∧ Below w.heap.size w w' := by
  have hcap : len ≤ 9223372036854775807 := by
    obtain ⟨_, _, e, e1, e2, _⟩ := hx
    injection e with _ e3 e4
    omega
  have HN := Lib.hid hn
  have HX := Lib.hid hx
  have HF := Lib.hid hf
  obtain ⟨L, hr⟩ : ∃ L, keysL zs = L := ⟨_, rfl⟩
  have HR := Lib.hid hr
  have HL : Hid (L.length ≤ 1000000) := by show _ ≤ _; rw [← hr]; exact keysL_len zs
  clear hr hn hx hf
  by_cases hbig : 1048576 < len
  · go_enter Try.func13, Try.ntmps13
    go_wp2
    go_ret
    exact ⟨rfl, Below.refl _ _⟩
  · have hlen : len ≤ 1048576 := by omega
    clear hbig
    go_enter Try.func13, Try.ntmps13
    go_wp2_with fail
    refine (toIntS_e w _ len _ zs HX.out hlen HN).mono ?_
    rintro e w1 ⟨g1, rfl, hO1, hb1⟩
    go_wp2_with fail
    refine (s_KeysOf w1 _ zs L hO1.at HF.out HR).mono ?_
    rintro e w2 ⟨a2, n2, c2, rfl, hI2, hb2⟩
    have hB2 := below_next hb1 hb2
    clear hO1 hb1 hb2
    go_wp2_with fail
    refine (toIntS_e w2 _ len _ zs (HX.out.below hB2) hlen HN).mono ?_
    rintro e w3 ⟨g3, rfl, hO3, hb3⟩
    have hI3 := hI2.below hb3
    have hB3 := below_next hB2 hb3
    have hlt2 : Hid (∀ k, (Value.slice a2 n2 c2).ownBlock = some k → k < w2.heap.size) := fun k hk => (World.ownsRow.lt hI2 k hk).2
    have hw2 : w.heap.size ≤ w2.heap.size := hB2.size
    have hg3 : w2.heap.size ≤ g3 ∧ g3 < w3.heap.size := hO3.lt g3 rfl
    clear hB2 hb3 hI2
    go_wp2_with fail
    refine (i_KeysOf w3 _ zs L hO3.at HF.out HR).mono ?_
    rintro e w4 ⟨a4, n4, c4, rfl, hI4, hb4⟩
    have hO4 := hO3.below hb4
    have hB4 := below_next hB3 hb4
    have hI24 := hI3.below hb4
    have hw4 : w3.heap.size ≤ w4.heap.size := hb4.size
    clear hO3 hb4 hB3 hI3
    go_wp2_with fail
    refine (eqIntS_sameE w4 _ _ L hI4.at hI24.at).mono ?_
    rintro e w5 ⟨rfl, hb5⟩
    have hO5 := hO4.below hb5
    have hB5 := below_next hB4 hb5
    have hI25 := hI24.below hb5
    have hI5 := hI4.below hb5
    have hw5 := hb5.size
    clear hO4 hb5 hB4 hI24 hI4
    go_wp2_with fail
    refine (toIntS_e w5 _ len _ zs (HX.out.below hB5) hlen HN).mono ?_
    rintro e w6 ⟨g6, rfl, hO6, hb6⟩
    have hO56 := hO5.below hb6
    have hB6 := below_next hB5 hb6
    have hI26 := hI25.below hb6
    have hI6 := hI5.below hb6
    have hw6 := hb6.size
    clear hO5 hb6 hB5 hI25 hI5
    go_wp2_with fail
    refine (eqIntS_sameE w6 _ _ zs hO56.at hO6.at).mono ?_
    rintro e w7 ⟨rfl, hb7⟩
    have hB7 := below_next hB6 hb7
    have hO7 := hO56.below hb7
    have hI27 := hI26.below hb7
    have hI7 := hI6.below hb7
    have hw7 := hb7.size
    clear hO6 hO56 hb7 hB6 hI26 hI6
    go_wp2_with fail
    refine (markIntS_e w7 w2.heap.size g3 len len zs 1 hO7 HN (by omega) (by omega) (by omega)).mono ?_
    rintro e w8 ⟨rfl, hg8⟩
    have d3 : decide (1 + (len : Int) < 0) = false := decide_eq_false (by omega)
    have hB8 : Below w.heap.size w w8 := hB7.grown hg8 (Nat.le_trans hw2 (by omega)) (fun q hq => by injection hq with hq; omega)
    have hI28 := hI27.of_blockE (fun b hb => hg8.block b (by have := hlt2.out b hb; omega) (fun e => by injection e with e'; have := hlt2.out b hb; omega))
    have hI8 := hI7.of_blockE (fun b hb => hg8.block b (World.ownsRow.lt hI7 b hb).2 (fun e => by injection e with e'; have := (World.ownsRow.lt hI7 b hb).1; omega))
    have hw8 := hg8.size
    clear hO7 hg8 hB7 hI27 hI7
    go_wp2_with fail
    refine (eqIntS_sameE w8 _ _ L hI8.at hI28.at).mono ?_
    rintro e w9 ⟨rfl, hb9⟩
    have hB9 := below_next hB8 hb9
    have hI29 := hI28.below hb9
    have hI9 := hI8.below hb9
    have hw9 := hb9.size
    have HN4 : Hid (L.length = n4) := by
      obtain ⟨_, _, e, _⟩ := hI9.at
      injection e with _ e2 _
      exact e2.symm
    have hn4 : n4 ≤ 1000000 := by rw [← HN4.out]; exact HL.out
    clear hB8 hb9 hI28 hI8
    go_wp2_with fail
    refine (markIntS_own w9 w3.heap.size a4 n4 n4 c4 L hI9 HN4 (by omega)).mono ?_
    rintro e w10 ⟨rfl, hI10, hb10⟩
    have hB10 : Below w.heap.size w w10 := hB9.trans (hb10.mono (by omega))
    have hI210 := hI29.of_blockE (fun b hb => hb10.block b (by have := hlt2.out b hb; omega))
    have d4 : decide (1 + (n4 : Int) < 0) = false := decide_eq_false (by omega)
    clear hB9 hb10 hI29 hI9
    go_wp2_with fail
    refine (heldIntS_own w10 w3.heap.size _ n4 hI10 (by omega)).mono ?_
    rintro e w' ⟨rfl, rfl⟩
    go_wp2_with fail
    refine (toIntS_e w10 _ len _ zs (HX.out.below hB10) hlen HN).mono ?_
    rintro e w11 ⟨g11, rfl, hO11, hb11⟩
    have hB11 := below_next hB10 hb11
    have hI211 := hI210.below hb11
    have hI11 := hI10.below hb11
    clear hB10 hb11 hI210 hI10
    go_wp2_with fail
    refine (i_KeysOf w11 _ zs L hO11.at HF.out HR).mono ?_
    rintro e w12 ⟨a12, n12, c12, rfl, hI12, hb12⟩
    have hB12 := below_next hB11 hb12
    have hI212 := hI211.below hb12
    have hIm := hI11.below hb12
    clear hB11 hb12 hI211 hI11 hO11
    go_wp2_with fail
    refine (eqIntS_sameE w12 _ _ L hI12.at hI212.at).mono ?_
    rintro e w13 ⟨rfl, hb13⟩
    have hB13 := below_next hB12 hb13
    have hIm13 := hIm.below hb13
    clear hB12 hb13 hI212 hIm hI12
    go_wp2_with fail
    refine (heldIntS_own w13 w3.heap.size _ n4 hIm13 (by omega)).mono ?_
    rintro e w' ⟨rfl, rfl⟩
    go_wp2
    go_ret
    exact ⟨rfl, hB13⟩
end Go.Proofs.Ytjedkmhmkipkdaa
