
/- P117: NewFlow. -/
import Derived.Test.YtlkhpfknmdimbaaFj
import Derived.Test.YtlkhpfknmdimbaaFk
import Derived.Deep.RegionHeld3
namespace Go.Proofs.Ytlkhpfknmdimbaa
open Go.RowKit

set_option maxRecDepth 20000 in
set_option maxHeartbeats 1000000 in
theorem newFlow_walk (a : Option Addr) (len cap : Nat) (zs : List Int) (w : World) (h : RowIn .u8 w a len cap zs) :
    Calls Try.prog 4 #[.slice a len cap] w fun e w' => e = .returned (.bool true) ∧ Below w.heap.size w w' := by
  have hlen : len ≤ 9223372036854775807 := by
    obtain ⟨_, h2, h3⟩ := bytesAt_of_row h; unfold maxLen at h3; omega
  by_cases hbig : len ≤ 1048576
  · go_enter Try.func4, Try.ntmps4
    go_wp2_with fail
    refine (drawNewFlow_any w a len cap zs h).mono ?_
    rintro e w1 ⟨a0, a1, a2, a3, a4, a5, rfl, -, -, -, -, -, -, hB⟩
    clear h
    have HB1 := keptF hB
    clear hB
    obtain ⟨l, hl⟩ := newL_ex a0 a1 a2 a3 a4 a5
    have HN := keptF hl
    have HI : Hid (∀ w, Calls Try.prog 24 #[.int .i64 a0, .int .i64 a1, .int .i64 a2, .int .i64 a3, .int .i64 a4, .int .i64 a5] w fun e w' => FlowOut l [] w e w') := fun w => i_NewFlow a0 a1 a2 a3 a4 a5 l w HN
    have HS : Hid (∀ w, Calls Try.prog 25 #[.int .i64 a0, .int .i64 a1, .int .i64 a2, .int .i64 a3, .int .i64 a4, .int .i64 a5] w fun e w' => FlowOut l [] w e w') := fun w => s_NewFlow a0 a1 a2 a3 a4 a5 l w HN
    have HE : Hid (∀ w s t, SigsAt w s [] → SigsAt w t [] → Calls Try.prog 22 #[flV l s, flV l t] w fun e w' => e = .returned (.bool true) ∧ Below w.heap.size w w') := fun w s t h1 h2 => equalFlow_same l s t [] w h1 h2
    clear HN
    rcases hl with ⟨hv, rfl⟩ | ⟨hv, rfl⟩
    · have HV : Hid (∀ w s, SigsAt w s [] → Calls Try.prog 19 #[flV ⟨a0, a1, a2, a3, a4, a5, 0, 0, 0, false, false, 0⟩ s] w fun e w' => e = .returned (.bool true) ∧ Below w.heap.size w w') := fun w s h => i_ValidFlow _ s [] true w h (show _ ↔ _ from ⟨fun _ => hv, fun _ => rfl⟩)
      have hz : (a0 == 0) = false := by
        have h1 : 1 ≤ a0 := hv.1.1.1
        simp; omega
      clear hv
      simp only [flV, flC, FlowOut] at HI HS HE HV
      go_wp2_with fail
      refine (HI.out w1).mono ?_
      rintro e w2 ⟨b1, n1, d1, rfl, hO, hb⟩
      obtain rfl : n1 = 0 := hO.len.symm
      have hal : Below w2.heap.size w2 (w2.alloc (.cells #[.int .i64 a0, .int .i64 a1, .int .i64 a2, .int .i64 a3, .int .i64 a4, .int .i64 a5, .int .i64 0, .int .i64 0, .int .i64 0, .bool false, .bool false, .slice b1 0 d1, .int .i64 0] 25)) := (Below.refl _ _).alloc (Nat.le_refl _) _
      have HO2 := keptF (hO.at.below hal)
      have HF2 : Hid (FlAt (w2.alloc (.cells #[.int .i64 a0, .int .i64 a1, .int .i64 a2, .int .i64 a3, .int .i64 a4, .int .i64 a5, .int .i64 0, .int .i64 0, .int .i64 0, .bool false, .bool false, .slice b1 0 d1, .int .i64 0] 25)) w2.heap.size ⟨a0, a1, a2, a3, a4, a5, 0, 0, 0, false, false, 0⟩ (.slice b1 0 d1)) := FlAt.new w2 ⟨a0, a1, a2, a3, a4, a5, 0, 0, 0, false, false, 0⟩ (.slice b1 0 d1)
      have HB2 := keptF (below_next (below_next HB1.out hb) hal)
      clear hO hb hal HB1
      go_wp2_with fail
      generalize (w2.alloc (.cells #[.int .i64 a0, .int .i64 a1, .int .i64 a2, .int .i64 a3, .int .i64 a4, .int .i64 a5, .int .i64 0, .int .i64 0, .int .i64 0, .bool false, .bool false, .slice b1 0 d1, .int .i64 0] 25)) = wA at HO2 HF2 HB2 ⊢
      obtain ⟨g, hg⟩ : ∃ g, w2.heap.size = g := ⟨_, rfl⟩
      rw [hg] at HF2 ⊢
      clear hg
      have HK : Hid (∀ wx, Below wA.heap.size wA wx → (wx.cell? ⟨g, 0, none⟩ = some (.int .i64 a0) ∧ wx.cell? ⟨g, 1, none⟩ = some (.int .i64 a1) ∧ wx.cell? ⟨g, 2, none⟩ = some (.int .i64 a2) ∧ wx.cell? ⟨g, 3, none⟩ = some (.int .i64 a3) ∧ wx.cell? ⟨g, 4, none⟩ = some (.int .i64 a4) ∧ wx.cell? ⟨g, 5, none⟩ = some (.int .i64 a5) ∧ wx.cell? ⟨g, 6, none⟩ = some (.int .i64 0) ∧ wx.cell? ⟨g, 7, none⟩ = some (.int .i64 0) ∧ wx.cell? ⟨g, 8, none⟩ = some (.int .i64 0) ∧ wx.cell? ⟨g, 9, none⟩ = some (.bool false) ∧ wx.cell? ⟨g, 10, none⟩ = some (.bool false) ∧ wx.cell? ⟨g, 11, none⟩ = some (.slice b1 0 d1) ∧ wx.cell? ⟨g, 12, none⟩ = some (.int .i64 0))) := fun wx hb => (HF2.out.below hb HF2.out.lt).cells
      have HD0 : Hid (Below wA.heap.size wA wA.drew) := (Below.refl _ _).drew
      go_region_held3 (fun wx => (wx.cell? ⟨g, 0, none⟩ = some (.int .i64 a0) ∧ wx.cell? ⟨g, 1, none⟩ = some (.int .i64 a1) ∧ wx.cell? ⟨g, 2, none⟩ = some (.int .i64 a2) ∧ wx.cell? ⟨g, 3, none⟩ = some (.int .i64 a3) ∧ wx.cell? ⟨g, 4, none⟩ = some (.int .i64 a4) ∧ wx.cell? ⟨g, 5, none⟩ = some (.int .i64 a5) ∧ wx.cell? ⟨g, 6, none⟩ = some (.int .i64 0) ∧ wx.cell? ⟨g, 7, none⟩ = some (.int .i64 0) ∧ wx.cell? ⟨g, 8, none⟩ = some (.int .i64 0) ∧ wx.cell? ⟨g, 9, none⟩ = some (.bool false) ∧ wx.cell? ⟨g, 10, none⟩ = some (.bool false) ∧ wx.cell? ⟨g, 11, none⟩ = some (.slice b1 0 d1) ∧ wx.cell? ⟨g, 12, none⟩ = some (.int .i64 0))) (first | assumption | exact HK.out _ (Below.refl _ _) | exact HK.out _ HD0.out | exact HK.out _ HD3.out | exact HK.out _ HD4.out) (first | (go_at_call 25; (with_reducible refine (HS.out _).mono ?_); rintro e w3 ⟨b3, n3, d3, rfl, hO3, hb3⟩; have HO3 := keptF hO3.at; have HD3 : Hid (Below wA.heap.size wA w3) := below_next HD0.out hb3; have HO23 := keptF (HO2.out.below HD3.out); clear hb3) | (go_at_call 22; (with_reducible refine (HE.out _ _ _ HO23.out HO3.out).mono ?_); rintro e w4 ⟨rfl, hb4⟩; have HD4 : Hid (Below wA.heap.size wA w4) := below_next HD3.out hb4; clear hb4))
      all_goals
        have HO4 := keptF (HO2.out.below HD4.out)
        have HF4 := keptF (HF2.out.below HD4.out HF2.out.lt)
        obtain ⟨c0, c1, c2, c3, c4, c5, c6, c7, c8, c9, c10, c11, c12⟩ := HF4.out.cells
        simp only at c0 c1 c2 c3 c4 c5 c6 c7 c8 c9 c10 c11 c12
        go_wp2_with fail
        refine (HV.out _ _ HO4.out).mono ?_
        rintro e w5 ⟨rfl, hb5⟩
        have HB5 := keptF (below_next HB2.out (below_next HD4.out hb5))
        clear c0 c1 c2 c3 c4 c5 c6 c7 c8 c9 c10 c11 c12
        obtain ⟨c0, c1, c2, c3, c4, c5, c6, c7, c8, c9, c10, c11, c12⟩ := (HF4.out.below hb5 HF4.out.lt).cells
        simp only at c0 c1 c2 c3 c4 c5 c6 c7 c8 c9 c10 c11 c12
        clear hb5
        go_wp2
        go_ret
        exact ⟨rfl, HB5.out⟩
    · clear hv
      simp only [flV, flC, FlowOut, zF] at HI HS HE
      go_wp2_with fail
      refine (HI.out w1).mono ?_
      rintro e w2 ⟨b1, n1, d1, rfl, hO, hb⟩
      obtain rfl : n1 = 0 := hO.len.symm
      have hal : Below w2.heap.size w2 (w2.alloc (.cells #[.int .i64 0, .int .i64 0, .int .i64 0, .int .i64 0, .int .i64 0, .int .i64 0, .int .i64 0, .int .i64 0, .int .i64 0, .bool false, .bool false, .slice b1 0 d1, .int .i64 0] 25)) := (Below.refl _ _).alloc (Nat.le_refl _) _
      have HO2 := keptF (hO.at.below hal)
      have HF2 : Hid (FlAt (w2.alloc (.cells #[.int .i64 0, .int .i64 0, .int .i64 0, .int .i64 0, .int .i64 0, .int .i64 0, .int .i64 0, .int .i64 0, .int .i64 0, .bool false, .bool false, .slice b1 0 d1, .int .i64 0] 25)) w2.heap.size zF (.slice b1 0 d1)) := FlAt.new w2 zF (.slice b1 0 d1)
      have HB2 := keptF (below_next (below_next HB1.out hb) hal)
      clear hO hb hal HB1
      go_wp2_with fail
      generalize (w2.alloc (.cells #[.int .i64 0, .int .i64 0, .int .i64 0, .int .i64 0, .int .i64 0, .int .i64 0, .int .i64 0, .int .i64 0, .int .i64 0, .bool false, .bool false, .slice b1 0 d1, .int .i64 0] 25)) = wA at HO2 HF2 HB2 ⊢
      obtain ⟨g, hg⟩ : ∃ g, w2.heap.size = g := ⟨_, rfl⟩
      rw [hg] at HF2 ⊢
      clear hg
      have HK : Hid (∀ wx, Below wA.heap.size wA wx → (wx.cell? ⟨g, 0, none⟩ = some (.int .i64 0) ∧ wx.cell? ⟨g, 1, none⟩ = some (.int .i64 0) ∧ wx.cell? ⟨g, 2, none⟩ = some (.int .i64 0) ∧ wx.cell? ⟨g, 3, none⟩ = some (.int .i64 0) ∧ wx.cell? ⟨g, 4, none⟩ = some (.int .i64 0) ∧ wx.cell? ⟨g, 5, none⟩ = some (.int .i64 0) ∧ wx.cell? ⟨g, 6, none⟩ = some (.int .i64 0) ∧ wx.cell? ⟨g, 7, none⟩ = some (.int .i64 0) ∧ wx.cell? ⟨g, 8, none⟩ = some (.int .i64 0) ∧ wx.cell? ⟨g, 9, none⟩ = some (.bool false) ∧ wx.cell? ⟨g, 10, none⟩ = some (.bool false) ∧ wx.cell? ⟨g, 11, none⟩ = some (.slice b1 0 d1) ∧ wx.cell? ⟨g, 12, none⟩ = some (.int .i64 0))) := fun wx hb => (HF2.out.below hb HF2.out.lt).cells
      have HD0 : Hid (Below wA.heap.size wA wA.drew) := (Below.refl _ _).drew
      go_region_held3 (fun wx => (wx.cell? ⟨g, 0, none⟩ = some (.int .i64 0) ∧ wx.cell? ⟨g, 1, none⟩ = some (.int .i64 0) ∧ wx.cell? ⟨g, 2, none⟩ = some (.int .i64 0) ∧ wx.cell? ⟨g, 3, none⟩ = some (.int .i64 0) ∧ wx.cell? ⟨g, 4, none⟩ = some (.int .i64 0) ∧ wx.cell? ⟨g, 5, none⟩ = some (.int .i64 0) ∧ wx.cell? ⟨g, 6, none⟩ = some (.int .i64 0) ∧ wx.cell? ⟨g, 7, none⟩ = some (.int .i64 0) ∧ wx.cell? ⟨g, 8, none⟩ = some (.int .i64 0) ∧ wx.cell? ⟨g, 9, none⟩ = some (.bool false) ∧ wx.cell? ⟨g, 10, none⟩ = some (.bool false) ∧ wx.cell? ⟨g, 11, none⟩ = some (.slice b1 0 d1) ∧ wx.cell? ⟨g, 12, none⟩ = some (.int .i64 0))) (first | assumption | exact HK.out _ (Below.refl _ _) | exact HK.out _ HD0.out | exact HK.out _ HD3.out | exact HK.out _ HD4.out) (first | (go_at_call 25; (with_reducible refine (HS.out _).mono ?_); rintro e w3 ⟨b3, n3, d3, rfl, hO3, hb3⟩; have HO3 := keptF hO3.at; have HD3 : Hid (Below wA.heap.size wA w3) := below_next HD0.out hb3; have HO23 := keptF (HO2.out.below HD3.out); clear hb3) | (go_at_call 22; (with_reducible refine (HE.out _ _ _ HO23.out HO3.out).mono ?_); rintro e w4 ⟨rfl, hb4⟩; have HD4 : Hid (Below wA.heap.size wA w4) := below_next HD3.out hb4; clear hb4))
      all_goals
        have HO4 := keptF (HO2.out.below HD4.out)
        have HF4 := keptF (HF2.out.below HD4.out HF2.out.lt)
        have HB4 := keptF (below_next HB2.out HD4.out)
        clear HK HD0 HD3 HD4 HO3 HO23 hO3 HO2 HF2 HB2
        have HK : Hid (∀ wx, Below w4.heap.size w4 wx → (wx.cell? ⟨g, 0, none⟩ = some (.int .i64 0) ∧ wx.cell? ⟨g, 1, none⟩ = some (.int .i64 0) ∧ wx.cell? ⟨g, 2, none⟩ = some (.int .i64 0) ∧ wx.cell? ⟨g, 3, none⟩ = some (.int .i64 0) ∧ wx.cell? ⟨g, 4, none⟩ = some (.int .i64 0) ∧ wx.cell? ⟨g, 5, none⟩ = some (.int .i64 0) ∧ wx.cell? ⟨g, 6, none⟩ = some (.int .i64 0) ∧ wx.cell? ⟨g, 7, none⟩ = some (.int .i64 0) ∧ wx.cell? ⟨g, 8, none⟩ = some (.int .i64 0) ∧ wx.cell? ⟨g, 9, none⟩ = some (.bool false) ∧ wx.cell? ⟨g, 10, none⟩ = some (.bool false) ∧ wx.cell? ⟨g, 11, none⟩ = some (.slice b1 0 d1) ∧ wx.cell? ⟨g, 12, none⟩ = some (.int .i64 0))) := fun wx hb => (HF4.out.below hb HF4.out.lt).cells
        have HD0 : Hid (Below w4.heap.size w4 w4.drew) := (Below.refl _ _).drew
        go_wp2_with fail
        go_region_held3 (fun wx => (wx.cell? ⟨g, 0, none⟩ = some (.int .i64 0) ∧ wx.cell? ⟨g, 1, none⟩ = some (.int .i64 0) ∧ wx.cell? ⟨g, 2, none⟩ = some (.int .i64 0) ∧ wx.cell? ⟨g, 3, none⟩ = some (.int .i64 0) ∧ wx.cell? ⟨g, 4, none⟩ = some (.int .i64 0) ∧ wx.cell? ⟨g, 5, none⟩ = some (.int .i64 0) ∧ wx.cell? ⟨g, 6, none⟩ = some (.int .i64 0) ∧ wx.cell? ⟨g, 7, none⟩ = some (.int .i64 0) ∧ wx.cell? ⟨g, 8, none⟩ = some (.int .i64 0) ∧ wx.cell? ⟨g, 9, none⟩ = some (.bool false) ∧ wx.cell? ⟨g, 10, none⟩ = some (.bool false) ∧ wx.cell? ⟨g, 11, none⟩ = some (.slice b1 0 d1) ∧ wx.cell? ⟨g, 12, none⟩ = some (.int .i64 0))) (first | assumption | exact HK.out _ (Below.refl _ _) | exact HK.out _ HD0.out | exact HK.out _ HD5.out | exact HK.out _ HD6.out) (first | (go_at_call 25; (with_reducible refine (HS.out _).mono ?_); rintro e w5 ⟨b5, n5, d5, rfl, hO5, hb5⟩; have HO5 := keptF hO5.at; have HD5 : Hid (Below w4.heap.size w4 w5) := below_next HD0.out hb5; have HO45 := keptF (HO4.out.below HD5.out); clear hb5) | (go_at_call 22; (with_reducible refine (HE.out _ _ _ HO45.out HO5.out).mono ?_); rintro e w6 ⟨rfl, hb6⟩; have HD6 : Hid (Below w4.heap.size w4 w6) := below_next HD5.out hb6; clear hb6))
        all_goals
          go_wp2
          go_ret
          exact ⟨rfl, below_next HB4.out HD6.out⟩
  · go_enter Try.func4, Try.ntmps4
    go_wp2
    go_ret
    exact ⟨rfl, Below.refl _ _⟩
end Go.Proofs.Ytlkhpfknmdimbaa
