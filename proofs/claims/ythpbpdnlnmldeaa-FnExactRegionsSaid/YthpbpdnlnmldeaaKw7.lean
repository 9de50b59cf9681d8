
/- The exact law of Regions. -/
import Derived.Test.YthpbpdnlnmldeaaCb
import Derived.Test.YthpbpdnlnmldeaaKq7
import Derived.Test.YthpbpdnlnmldeaaKv7
import Derived.Test.YthpbpdnlnmldeaaIc
namespace Go.Proofs.Ythpbpdnlnmldeaa
open Go.RowKit

open Classical in
/-- how many parts a picture has -/
noncomputable def regN (L : List (List Int)) : Int := if h : ∃ r, RegsIs L r then h.choose else 0
theorem regN_is {L : List (List Int)} {r : Int} (h : RegsIs L r) : r = regN L := by
  have k : ∃ r, RegsIs L r := ⟨r, h⟩
  unfold regN
  rw [dif_pos k]
  exact h.same k.choose_spec
theorem s_RegN (w : World) (v : Value) (P : List (List Int)) (hx : ListsAt w v P) :
    Calls Try.prog 30 #[v] w fun e w' => e = .returned (.int .i64 (regN P)) ∧ Below w.heap.size w w' :=
  (s_Regions w v P hx).mono fun _ _ ⟨_, h1, h2, h3⟩ => ⟨by rw [h1, regN_is h2], h3⟩
theorem i_RegN (w : World) (v : Value) (P : List (List Int)) (hx : ListsAt w v P) :
    Calls Try.prog 24 #[v] w fun e w' => e = .returned (.int .i64 (regN P)) ∧ Below w.heap.size w w' :=
  (i_Regions w v P hx).mono fun _ _ ⟨_, h1, h2, h3⟩ => ⟨by rw [h1, regN_is h2], h3⟩
set_option maxHeartbeats 2000000 in
theorem exRegions_walk (a : Option Addr) (len cap : Nat) (L : List (List Int)) (w : World) (hx : ListsAt w (.slice a len cap) L) :
    Calls Try.prog 16 #[.slice a len cap] w fun e w' => e = .returned (.bool true) ∧ Below w.heap.size w w' := by
  have HX := Lib.hid hx
  obtain ⟨b, hb⟩ : ∃ b : Int, regN L = b := ⟨_, rfl⟩
  have HS : Hid (∀ wx v, ListsAt wx v L → Calls Try.prog 30 #[v] wx fun e w' => e = .returned (.int .i64 b) ∧ Below wx.heap.size wx w') := fun wx v h => by rw [← hb]; exact s_RegN wx v L h
  have HI : Hid (∀ wx v, ListsAt wx v L → Calls Try.prog 24 #[v] wx fun e w' => e = .returned (.int .i64 b) ∧ Below wx.heap.size wx w') := fun wx v h => by rw [← hb]; exact i_RegN wx v L h
  clear hb hx
  have db : (b != b) = false := by simp
  have db2 : (b == b) = true := by simp
  go_enter Try.func16, Try.ntmps16
  go_wp2_with fail
  refine (szIntSS_any w _ L HX.out).mono ?_
  rintro e w1 ⟨l, rfl, hb1, hl⟩
  rcases hl with rfl | ⟨hl0, hl1, hsm⟩
  · go_wp2
    go_ret
    exact ⟨rfl, hb1⟩
  · have HSM := Lib.hid hsm
    have d1 : decide (l < 0) = false := decide_eq_false (by omega)
    clear hsm
    go_wp2_with fail
    refine (toIntSS_any w1 _ L (HX.out.below hb1) HSM.out).mono ?_
    rintro e w2 ⟨u2, rfl, ht2, hb2⟩
    have hB2 := below_next hb1 hb2
    go_wp2_with fail
    refine (HS.out w2 _ ht2).mono ?_
    rintro e w3 ⟨rfl, hb3⟩
    have hB3 := below_next hB2 hb3
    clear ht2
    go_wp2_with fail
    refine (toIntSS_any w3 _ L (HX.out.below hB3) HSM.out).mono ?_
    rintro e w4 ⟨u4, rfl, ht4, hb4⟩
    have hB4 := below_next hB3 hb4
    go_wp2_with fail
    refine (HI.out w4 _ ht4).mono ?_
    rintro e w5 ⟨rfl, hb5⟩
    have hB5 := below_next hB4 hb5
    have ht5 := ht4.below hb5
    clear ht4
    go_wp2_with fail
    refine (toIntSS_any w5 _ L (HX.out.below hB5) HSM.out).mono ?_
    rintro e w6 ⟨u6, rfl, ht6, hb6⟩
    have hB6 := below_next hB5 hb6
    have ht56 := ht5.below hb6
    clear ht5
    go_wp2_with fail
    refine (eqIntSS_same w6 _ _ L ht56 ht6).mono ?_
    rintro e w7 ⟨rfl, hb7⟩
    go_wp2
    go_ret
    exact ⟨rfl, below_next hB6 hb7⟩
end Go.Proofs.Ythpbpdnlnmldeaa
