
/- The exact law of Thin. -/
import Derived.Test.YthpbpdnlnmldeaaMf
import Derived.Test.YthpbpdnlnmldeaaJc
import Derived.Test.YthpbpdnlnmldeaaIc
namespace Go.Proofs.Ythpbpdnlnmldeaa
open Go.RowKit

set_option maxHeartbeats 4000000 in
theorem exThin_walk (a : Option Addr) (len cap : Nat) (L : List (List Int)) (far : Int) (w : World) (hx : ListsAt w (.slice a len cap) L) :
    Calls Try.prog 14 #[.slice a len cap, .int .i64 far] w fun e w' => e = .returned (.bool true) ∧ Below w.heap.size w w' := by
  have HX := Lib.hid hx
  obtain ⟨R, hR, hRS⟩ : ∃ R, ThinIs L far R ∧ ListsSmall R := Thin_ex L far
  have HRS : Hid (ListsSmall R) := hRS
  have HS : Hid (∀ wx v, ListsAt wx v L → Calls Try.prog 23 #[v, .int .i64 far] wx fun e w' => PsOut R wx e w') := fun wx v h => s_Thin wx v L far R h hR
  have HI : Hid (∀ wx v, ListsAt wx v L → Calls Try.prog 21 #[v, .int .i64 far] wx fun e w' => PlOut R wx e w') := fun wx v h => i_Thin wx v L far R h hR
  clear hR hRS
  obtain ⟨r, hr⟩ : ∃ r : Int, 1 + (sumM R R.length : Int) = r := ⟨_, rfl⟩
  have HRR := Lib.hid hr
  have hr0 : 0 ≤ r := by rw [← hr]; omega
  obtain ⟨rx, hrx⟩ : ∃ rx : Int, 1 + (sumM L L.length : Int) = rx := ⟨_, rfl⟩
  have HRX := Lib.hid hrx
  have hrx0 : 0 ≤ rx := by rw [← hrx]; omega
  have dx : decide (rx < 0) = false := decide_eq_false (by omega)
  have dr : decide (r < 0) = false := decide_eq_false (by omega)
  have er : (r != r) = false := by simp
  clear hx hr hrx
  go_enter Try.func14, Try.ntmps14
  go_wp2_with fail
  refine (szIntSS_any w _ L HX.out).mono ?_
  rintro e w1 ⟨l, rfl, hb1, hl⟩
  rcases hl with rfl | ⟨hl0, hl1, hsm⟩
  · go_wp2
    go_ret
    exact ⟨rfl, hb1⟩
  · have HSM := Lib.hid hsm
    have HB1 := keptM hb1
    have d1 : decide (l < 0) = false := decide_eq_false (by omega)
    clear hsm hb1
    go_wp2_with fail
    refine (toIntSS_any w1 _ L (HX.out.below HB1.out) HSM.out).mono ?_
    rintro e w2 ⟨u2, rfl, ht2, hb2⟩
    have HB2 := keptM (below_next HB1.out hb2)
    clear hb2
    go_wp2_with fail
    refine (HS.out w2 _ ht2).mono ?_
    rintro e w3 ⟨a3, n3, c3, rfl, hO3, hb3⟩
    have HB3 := keptM (below_next HB2.out hb3)
    have HO3 := keptM hO3
    clear hO3 hb3 ht2
    go_wp2_with fail
    refine (toIntSS_own w3 _ L (HX.out.below HB3.out) HSM).mono ?_
    rintro e w4 ⟨a4, n4, c4, rfl, hO4, hb4⟩
    have HB4 := keptM (below_next HB3.out hb4)
    have HO4 := keptM hO4
    have KB4 := keptM hb4
    have h34 := hb4.size
    clear hO4 hb4
    go_wp2_with fail
    refine (HI.out w4 _ HO4.out.ls.at).mono ?_
    rintro e w5 ⟨a5, n5, c5, rfl, hO5, hb5⟩
    have HB5 := keptM (below_next HB4.out hb5)
    have HO5 := keptM hO5
    have KB5 := keptM (below_next KB4.out hb5)
    have HO45 := keptM (HO4.out.below hb5 (Nat.le_refl _))
    have h45 := hb5.size
    clear hO5 hb5 KB4
    go_wp2_with fail
    refine (eqIntSS_same w5 _ _ R HO5.out.ls.at (HO3.out.below KB5.out)).mono ?_
    rintro e w6 ⟨rfl, hb6⟩
    have HB6 := keptM (below_next HB5.out hb6)
    have HO56 := keptM (HO5.out.below hb6 (Nat.le_refl _))
    have KB6 := keptM (below_next KB5.out hb6)
    have HO46 := keptM (HO45.out.below hb6 h45)
    have h56 := hb6.size
    clear hb6 KB5 HO45
    go_wp2_with fail
    refine (toIntSS_any w6 _ L (HX.out.below HB6.out) HSM.out).mono ?_
    rintro e w7 ⟨u7, rfl, ht7, hb7⟩
    have HB7 := keptM (below_next HB6.out hb7)
    have HO57 := keptM (HO56.out.below hb7 h56)
    have KB7 := keptM (below_next KB6.out hb7)
    have HO47 := keptM (HO46.out.below hb7 (Nat.le_trans h45 h56))
    have h67 := hb7.size
    clear hb7 HO56 KB6 HO46
    go_wp2_with fail
    refine (eqIntSS_same w7 _ _ L HO47.out.ls.at ht7).mono ?_
    rintro e w8 ⟨rfl, hb8⟩
    have HB8 := keptM (below_next HB7.out hb8)
    have HO58 := keptM (HO57.out.below hb8 (Nat.le_trans h56 h67))
    have KB8 := keptM (below_next KB7.out hb8)
    have HO48 := keptM (HO47.out.below hb8 (Nat.le_trans h45 (Nat.le_trans h56 h67)))
    have h78 := hb8.size
    clear hb8 HO57 KB7 HO47 ht7
    go_wp2_with fail
    refine (markIntSS_own w8 _ _ _ L HO48.out HSM rx HRX).mono ?_
    rintro e w9 ⟨rfl, hm9, _⟩
    have HB9 := keptM (hm9.below HB8.out (HB3.out.size) (HB8.out.size))
    have HO59 := keptM (HO58.out.blocks hm9.2.2.2.1 (fun k h1 h2 => hm9.2.2.2.2 k (by have := HO58.out.1; omega) (.inr h1)))
    have KB9 := keptM (hm9.below KB8.out (Nat.le_refl _) KB8.out.size)
    have h89 := hm9.2.2.2.1
    clear hm9 HO58 KB8 HO48
    go_wp2_with fail
    refine (eqIntSS_same w9 _ _ R HO59.out.ls.at (HO3.out.below KB9.out)).mono ?_
    rintro e w10 ⟨rfl, hb10⟩
    have HB10 := keptM (below_next HB9.out hb10)
    have HO510 := keptM (HO59.out.below hb10 (by omega))
    have KB10 := keptM (below_next KB9.out hb10)
    have h910 := hb10.size
    clear hb10 HO59 KB9
    go_wp2_with fail
    refine (markIntSS_own w10 _ _ _ R HO510.out HRS r HRR).mono ?_
    rintro e w11 ⟨rfl, hm11, M, hM, hO11⟩
    have HB11 := keptM (hm11.below HB10.out (HB4.out.size) (HB10.out.size))
    have HM := keptM hM
    have HO11 := keptM hO11
    have KB11 := keptM (hm11.below KB10.out h34 KB10.out.size)
    have h1011 := hm11.2.2.2.1
    clear hm11 hM hO11 HO510 KB10
    go_wp2_with fail
    refine (heldIntSS_own w11 _ R M HO11.out.ls.at HM HRS r HRR).mono ?_
    rintro e w12 ⟨rfl, rfl⟩
    go_wp2_with fail
    refine (toIntSS_any w11 _ L (HX.out.below HB11.out) HSM.out).mono ?_
    rintro e w12 ⟨u12, rfl, ht12, hb12⟩
    have HB12 := keptM (below_next HB11.out hb12)
    have HO12 := keptM (HO11.out.ls.below hb12)
    have KB12 := keptM (below_next KB11.out hb12)
    clear hb12 HO11 KB11
    go_wp2_with fail
    refine (HI.out w12 _ ht12).mono ?_
    rintro e w13 ⟨a13, n13, c13, rfl, hO13, hb13⟩
    have HB13 := keptM (below_next HB12.out hb13)
    have HO13 := keptM hO13
    have HOg13 := keptM (HO12.out.below hb13)
    have KB13 := keptM (below_next KB12.out hb13)
    clear hO13 hb13 HO12 KB12 ht12
    go_wp2_with fail
    refine (eqIntSS_same w13 _ _ R HO13.out.ls.at (HO3.out.below KB13.out)).mono ?_
    rintro e w14 ⟨rfl, hb14⟩
    have HB14 := keptM (below_next HB13.out hb14)
    have HOg14 := keptM (HOg13.out.below hb14)
    clear hb14 HOg13 KB13 HO13
    go_wp2_with fail
    refine (heldIntSS_own w14 _ R M HOg14.out.at HM HRS r HRR).mono ?_
    rintro e w15 ⟨rfl, rfl⟩
    go_wp2
    go_ret
    exact ⟨rfl, HB14.out⟩

end Go.Proofs.Ythpbpdnlnmldeaa
