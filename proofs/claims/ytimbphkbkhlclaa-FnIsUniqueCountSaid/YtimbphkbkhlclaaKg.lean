
/- P187, P46: how often cells are read by codes without prefixes and by unique codes. -/
import Derived.Test.YtimbphkbkhlclaaKf
import Derived.Test.YtimbphkbkhlclaaKd
namespace Go.Proofs.Ytimbphkbkhlclaa
open Go.RowKit

theorem uniq_pf {L : List (List Int)} (h : PFree L) : Uniq L := by
  have e : restN L 0 = [] := (putAll_nil L.length).2 h
  exact ⟨0, ⟨fun i hi => absurd hi (by omega), by rw [e]; exact Nat.le_refl _⟩, fun i hi => absurd hi (by omega)⟩
set_option maxHeartbeats 2000000 in
theorem isPrefixFreeCount_walk (a : Option Addr) (len cap : Nat) (zs0 : List Int) (w : World) (h : RowIn .u8 w a len cap zs0) :
    Calls Try.prog 9 #[.slice a len cap] w fun e w' => e = .returned (.bool true) ∧ Below w.heap.size w w' := by
  have hlen : len ≤ 9223372036854775807 := by
    obtain ⟨_, h2, h3⟩ := bytesAt_of_row h; unfold maxLen at h3; omega
  by_cases hbig : len ≤ 1048576
  · go_enter Try.func9, Try.ntmps9
    go_wp2_with fail
    refine (drawFactorCount_any w a len cap zs0 h).mono ?_
    rintro e w1 ⟨_, a1, n1, c1, P, a2, n2, c2, zs, rfl, hL, hI, hP, hL3, hz, hb1, _, hnil⟩
    clear h
    have HX1 := keptC hL
    have HY1 := keptC hI
    have HB1 := keptC hb1
    have HPN : Hid (P.length = n1) := by
      obtain ⟨_, _, e⟩ := listOf hL
      injection e with _ e2 _
      exact e2.symm
    have HZN : Hid (zs.length = n2) := by
      obtain ⟨_, _, e, _⟩ := hI
      injection e with _ e2 _
      exact e2.symm
    have hn1 : n1 ≤ 9 := by have := HPN.out; omega
    have hn2 : n2 ≤ 19 := by have := HZN.out; omega
    have HNIL := keptC hnil
    clear hL hI hb1 hP hL3 hz hnil
    obtain ⟨b, hb⟩ := ValidCd.b P
    have HB := keptC hb
    have HFA : Hid (∀ wx v u ys, ListsAt wx v P → IntsAt wx u ys → Calls Try.prog 23 #[v, u] wx fun e w' => e = .returned (.int .i64 (fcOf P ys b)) ∧ Below wx.heap.size wx w') := fun wx v u ys h1 h2 => i_FactorCount_any wx v u P ys b h1 h2 hb
    obtain ⟨F, hF⟩ : ∃ F, fcOf P zs b = F := ⟨_, rfl⟩
    have HS : Hid (∀ wx v u, ListsAt wx v P → IntsAt wx u zs → Calls Try.prog 21 #[v, u] wx fun e w' => e = .returned (.int .i64 F) ∧ Below wx.heap.size wx w') := fun wx v u h1 h2 => by rw [← hF]; exact s_FactorCount wx v u P zs b h1 h2 hb
    have HI : Hid (∀ wx v u, ListsAt wx v P → IntsAt wx u zs → Calls Try.prog 23 #[v, u] wx fun e w' => e = .returned (.int .i64 F) ∧ Below wx.heap.size wx w') := fun wx v u h1 h2 => by rw [← hF]; exact i_FactorCount_any wx v u P zs b h1 h2 hb
    have HF := keptC hF
    clear hb hF
    go_wp2_with fail
    refine (HI.out w1 _ _ HX1.out HY1.out).mono ?_
    rintro e w2 ⟨rfl, hb2⟩
    have HX2 := keptC (HX1.out.below hb2)
    have HY2 := keptC (HY1.out.below hb2)
    have HB2 := keptC (below_next HB1.out hb2)
    clear hb2
    go_wp2_with fail
    refine (HS.out w2 _ _ HX2.out HY2.out).mono ?_
    rintro e w3 ⟨rfl, hb3⟩
    have HX3 := keptC (HX2.out.below hb3)
    have HY3 := keptC (HY2.out.below hb3)
    have HB3 := keptC (below_next HB2.out hb3)
    clear hb3
    by_cases hF0 : F < 0
    · have d0 : decide (F < 0) = true := decide_eq_true hF0
      go_wp2_with fail
      refine (HS.out w3 _ _ HX3.out HY3.out).mono ?_
      rintro e w4 ⟨rfl, hb4⟩
      have FIN := keptC (below_next HB3.out hb4)
      clear hb4
      go_wp2
      go_ret
      exact ⟨rfl, FIN.out⟩
    · have d0 : decide (F < 0) = false := decide_eq_false hF0
      have hok : b = true ∧ ValidL zs ∧ zs.length ≤ 24 := by
        refine Classical.byContradiction fun h => ?_
        have := HF.out
        unfold fcOf at this
        rw [if_neg h] at this
        omega
      obtain ⟨rfl, hzv, h24⟩ := hok
      have HVV : Hid (ValidCd P) := HB.out.1 rfl
      have HFc : Hid (F = (cnt P zs : Nat)) := by
        show F = _
        rw [← HF.out]
        unfold fcOf
        rw [if_pos ⟨rfl, hzv, h24⟩, fc_cnt HVV.out h24]
      have HZV := keptC hzv
      obtain ⟨p, hp⟩ : ∃ p, decide (PFree P) = p := ⟨_, rfl⟩
      have HP := keptC hp
      clear hp h24 hzv HI HS HFA HB
      go_wp2_with fail
      refine (i_IsPrefixFree w3 _ P p HX3.out HVV HP).mono ?_
      rintro e w4 ⟨rfl, hb4⟩
      have FIN := keptC (below_next HB3.out hb4)
      clear hb4
      cases p with
      | false =>
        go_wp2
        go_ret
        exact ⟨rfl, FIN.out⟩
      | true =>
        have hle : F ≤ 1 := by
          have := cnt_one HVV.out (uniq_pf (of_decide_eq_true HP.out)) zs.length zs (Nat.le_refl _)
          have := HFc.out
          omega
        have d1 : decide (F ≤ 1) = true := decide_eq_true hle
        clear hF0
        go_wp2
        go_ret
        exact ⟨rfl, FIN.out⟩
  · have hbig' : 1048576 < len := by omega
    go_enter Try.func9, Try.ntmps9
    go_wp2
    go_ret
    exact ⟨rfl, Below.refl _ _⟩
set_option maxHeartbeats 2000000 in
theorem isUniqueCount_walk (a : Option Addr) (len cap : Nat) (zs0 : List Int) (w : World) (h : RowIn .u8 w a len cap zs0) :
    Calls Try.prog 14 #[.slice a len cap] w fun e w' => e = .returned (.bool true) ∧ Below w.heap.size w w' := by
  have hlen : len ≤ 9223372036854775807 := by
    obtain ⟨_, h2, h3⟩ := bytesAt_of_row h; unfold maxLen at h3; omega
  by_cases hbig : len ≤ 1048576
  · go_enter Try.func14, Try.ntmps14
    go_wp2_with fail
    refine (drawFactorCount_any w a len cap zs0 h).mono ?_
    rintro e w1 ⟨_, a1, n1, c1, P, a2, n2, c2, zs, rfl, hL, hI, hP, hL3, hz, hb1, _, hnil⟩
    clear h
    have HX1 := keptC hL
    have HY1 := keptC hI
    have HB1 := keptC hb1
    have HPN : Hid (P.length = n1) := by
      obtain ⟨_, _, e⟩ := listOf hL
      injection e with _ e2 _
      exact e2.symm
    have HZN : Hid (zs.length = n2) := by
      obtain ⟨_, _, e, _⟩ := hI
      injection e with _ e2 _
      exact e2.symm
    have hn1 : n1 ≤ 9 := by have := HPN.out; omega
    have hn2 : n2 ≤ 19 := by have := HZN.out; omega
    have HNIL := keptC hnil
    clear hL hI hb1 hP hL3 hz hnil
    obtain ⟨b, hb⟩ := ValidCd.b P
    have HB := keptC hb
    have HFA : Hid (∀ wx v u ys, ListsAt wx v P → IntsAt wx u ys → Calls Try.prog 23 #[v, u] wx fun e w' => e = .returned (.int .i64 (fcOf P ys b)) ∧ Below wx.heap.size wx w') := fun wx v u ys h1 h2 => i_FactorCount_any wx v u P ys b h1 h2 hb
    obtain ⟨F, hF⟩ : ∃ F, fcOf P zs b = F := ⟨_, rfl⟩
    have HS : Hid (∀ wx v u, ListsAt wx v P → IntsAt wx u zs → Calls Try.prog 21 #[v, u] wx fun e w' => e = .returned (.int .i64 F) ∧ Below wx.heap.size wx w') := fun wx v u h1 h2 => by rw [← hF]; exact s_FactorCount wx v u P zs b h1 h2 hb
    have HI : Hid (∀ wx v u, ListsAt wx v P → IntsAt wx u zs → Calls Try.prog 23 #[v, u] wx fun e w' => e = .returned (.int .i64 F) ∧ Below wx.heap.size wx w') := fun wx v u h1 h2 => by rw [← hF]; exact i_FactorCount_any wx v u P zs b h1 h2 hb
    have HF := keptC hF
    clear hb hF
    go_wp2_with fail
    refine (HI.out w1 _ _ HX1.out HY1.out).mono ?_
    rintro e w2 ⟨rfl, hb2⟩
    have HX2 := keptC (HX1.out.below hb2)
    have HY2 := keptC (HY1.out.below hb2)
    have HB2 := keptC (below_next HB1.out hb2)
    clear hb2
    go_wp2_with fail
    refine (HS.out w2 _ _ HX2.out HY2.out).mono ?_
    rintro e w3 ⟨rfl, hb3⟩
    have HX3 := keptC (HX2.out.below hb3)
    have HY3 := keptC (HY2.out.below hb3)
    have HB3 := keptC (below_next HB2.out hb3)
    clear hb3
    by_cases hF0 : F < 2
    · have d0 : decide (F < 2) = true := decide_eq_true hF0
      go_wp2_with fail
      refine (HS.out w3 _ _ HX3.out HY3.out).mono ?_
      rintro e w4 ⟨rfl, hb4⟩
      have FIN := keptC (below_next HB3.out hb4)
      clear hb4
      go_wp2
      go_ret
      exact ⟨rfl, FIN.out⟩
    · have d0 : decide (F < 2) = false := decide_eq_false hF0
      have hok : b = true ∧ ValidL zs ∧ zs.length ≤ 24 := by
        refine Classical.byContradiction fun h => ?_
        have := HF.out
        unfold fcOf at this
        rw [if_neg h] at this
        omega
      obtain ⟨rfl, hzv, h24⟩ := hok
      have HVV : Hid (ValidCd P) := HB.out.1 rfl
      have HFc : Hid (F = (cnt P zs : Nat)) := by
        show F = _
        rw [← HF.out]
        unfold fcOf
        rw [if_pos ⟨rfl, hzv, h24⟩, fc_cnt HVV.out h24]
      have HZV := keptC hzv
      have hnu : ¬ Uniq P := fun hu => by
        have := cnt_one HVV.out hu zs.length zs (Nat.le_refl _)
        have := HFc.out
        omega
      have HNU := keptC hnu
      have HPF : Hid (decide (PFree P) = false) := decide_eq_false fun h => hnu (uniq_pf h)
      clear h24 hzv HI HS HFA HB hnu hF0
      go_wp2_with fail
      refine (i_IsUnique w3 _ P true false HX3.out (show _ ↔ _ from ⟨fun _ => HVV.out, fun _ => rfl⟩) (show _ ↔ _ from ⟨fun h => by simp at h, fun h => absurd h HNU.out⟩)).mono ?_
      rintro e w4 ⟨rfl, hb4⟩
      have HX4 := keptC (HX3.out.below hb4)
      have HB4 := keptC (below_next HB3.out hb4)
      clear hb4
      go_wp2_with fail
      refine (i_IsPrefixFree w4 _ P false HX4.out HVV HPF).mono ?_
      rintro e w5 ⟨rfl, hb5⟩
      have FIN := keptC (below_next HB4.out hb5)
      clear hb5
      go_wp2
      go_ret
      exact ⟨rfl, FIN.out⟩
  · have hbig' : 1048576 < len := by omega
    go_enter Try.func14, Try.ntmps14
    go_wp2
    go_ret
    exact ⟨rfl, Below.refl _ _⟩
end Go.Proofs.Ytimbphkbkhlclaa
