
/- P47: codes without prefixes are unique. -/
import Derived.Test.YtimbphkbkhlclaaKa
import Derived.Test.YtimbphkbkhlclaaCu
namespace Go.Proofs.Ytimbphkbkhlclaa
open Go.RowKit

theorem fin_zero {L : List (List Int)} (h : PFree L) : Fin L 0 ∧ restN L 0 = [] := by
  have e : restN L 0 = [] := (putAll_nil L.length).2 h
  exact ⟨⟨fun i hi => absurd hi (by omega), by rw [e]; exact Nat.le_refl _⟩, e⟩
theorem uniq_of_pfree {L : List (List Int)} (h : PFree L) : Uniq L := ⟨0, (fin_zero h).1, fun i hi => absurd hi (by omega)⟩
theorem lr_pfree {L : List (List Int)} {F : Int} (h : PFree L) (k : LrOf L true true F) : F = 0 := by
  obtain ⟨N, h1, rfl⟩ := k
  obtain rfl := (h1 ⟨rfl, rfl⟩).same (fin_zero h).1
  unfold longR
  rw [if_pos ⟨rfl, rfl⟩]
  rfl
set_option maxHeartbeats 2000000 in
theorem isPrefixFree_walk (a : Option Addr) (len cap : Nat) (zs : List Int) (w : World) (h : RowIn .u8 w a len cap zs) :
    Calls Try.prog 12 #[.slice a len cap] w fun e w' => e = .returned (.bool true) ∧ Below w.heap.size w w' := by
  have hlen : len ≤ 9223372036854775807 := by
    obtain ⟨_, h2, h3⟩ := bytesAt_of_row h; unfold maxLen at h3; omega
  by_cases hbig : len ≤ 1048576
  · go_enter Try.func12, Try.ntmps12
    go_wp2_with fail
    refine (drawIsPrefixFree_any w a len cap zs h).mono ?_
    rintro e w1 ⟨S, a1, n1, c1, P, rfl, hO, hP, hL3, hb1⟩
    clear h
    have HX1 := keptC hO.at
    have HB1 := keptC hb1
    clear hO hb1
    obtain ⟨b, hb⟩ := ValidCd.b P
    obtain ⟨u, hu⟩ := Uniq.b P
    have HB := keptC hb
    have HU := keptC hu
    obtain ⟨p, hp⟩ : ∃ p, pfOf P b = p := ⟨_, rfl⟩
    have HI : Hid (∀ wx v, ListsAt wx v P → Calls Try.prog 28 #[v] wx fun e w' => e = .returned (.bool p) ∧ Below wx.heap.size wx w') := fun wx v h => by rw [← hp]; exact i_IsPrefixFree_any wx v P b h hb
    have HS : Hid (∀ wx v, ListsAt wx v P → Calls Try.prog 27 #[v] wx fun e w' => e = .returned (.bool p) ∧ Below wx.heap.size wx w') := fun wx v h => by rw [← hp]; exact s_IsPrefixFree wx v P b h hb
    have HP := keptC hp
    clear hb hu hp
    go_wp2_with fail
    refine (HI.out w1 _ HX1.out).mono ?_
    rintro e w2 ⟨rfl, hb2⟩
    have HX2 := keptC (HX1.out.below hb2)
    have HB2 := keptC (below_next HB1.out hb2)
    clear hb2
    go_wp2_with fail
    refine (HS.out w2 _ HX2.out).mono ?_
    rintro e w3 ⟨rfl, hb3⟩
    have HX3 := keptC (HX2.out.below hb3)
    have HB3 := keptC (below_next HB2.out hb3)
    clear hb3
    cases p with
    | false =>
      go_wp2_with fail
      refine (HS.out w3 _ HX3.out).mono ?_
      rintro e w4 ⟨rfl, hb4⟩
      have FIN := keptC (below_next HB3.out hb4)
      clear hb4
      go_wp2
      go_ret
      exact ⟨rfl, FIN.out⟩
    | true =>
      have hbt : b = true ∧ PFree P := by
        have := HP.out
        unfold pfOf at this
        simpa using this
      have HPF := keptC hbt.2
      have hb1 := hbt.1
      subst hb1
      obtain rfl : u = true := HU.out.2 (uniq_of_pfree HPF.out)
      have HVV : Hid (ValidCd P) := HB.out.1 rfl
      have HUU : Hid (Uniq P) := uniq_of_pfree HPF.out
      clear HB HU HP HI HS hbt
      go_wp2_with fail
      refine (i_IsUnique w3 _ P true true HX3.out (show _ ↔ _ from ⟨fun _ => HVV.out, fun _ => rfl⟩) (show _ ↔ _ from ⟨fun _ => HUU.out, fun _ => rfl⟩)).mono ?_
      rintro e w4 ⟨rfl, hb4⟩
      have HX4 := keptC (HX3.out.below hb4)
      have HB4 := keptC (below_next HB3.out hb4)
      clear hb4
      go_wp2_with fail
      refine (i_LongestRest_f w4 _ P true true HX4.out (show _ ↔ _ from ⟨fun _ => HVV.out, fun _ => rfl⟩) (show _ ↔ _ from ⟨fun _ => HUU.out, fun _ => rfl⟩)).mono ?_
      rintro e w5 ⟨F, hF, rfl, hb5⟩
      obtain rfl := lr_pfree HPF.out hF
      have FIN := keptC (below_next HB4.out hb5)
      clear hb5 hF
      go_wp2
      go_ret
      exact ⟨rfl, FIN.out⟩
  · have hbig' : 1048576 < len := by omega
    go_enter Try.func12, Try.ntmps12
    go_wp2
    go_ret
    exact ⟨rfl, Below.refl _ _⟩
end Go.Proofs.Ytimbphkbkhlclaa
