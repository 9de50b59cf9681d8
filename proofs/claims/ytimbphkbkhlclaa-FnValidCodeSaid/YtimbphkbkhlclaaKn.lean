
/- P40: codes can lose code words. -/
import Derived.Test.YtimbphkbkhlclaaKo
namespace Go.Proofs.Ytimbphkbkhlclaa
open Go.RowKit

theorem keptC {p : Prop} (h : p) : Hid p := h
theorem listOf {w : World} {v : Value} {L : List (List Int)} (h : ListsAt w v L) : ∃ a c, v = .slice a L.length c := by
  obtain ⟨a, c, h, _⟩ := h
  exact ⟨a, c, h⟩
set_option maxRecDepth 20000 in
set_option maxHeartbeats 4000000 in
theorem validCode_walk (a : Option Addr) (len cap : Nat) (zs : List Int) (w : World) (h : RowIn .u8 w a len cap zs) :
    Calls Try.prog 4 #[.slice a len cap] w fun e w' => e = .returned (.bool true) ∧ Below w.heap.size w w' := by
  obtain ⟨i0, hi0, hz0, hz1, hz2⟩ := info_parts infoLs
  have hlen : len ≤ 9223372036854775807 := by
    obtain ⟨_, h2, h3⟩ := bytesAt_of_row h; unfold maxLen at h3; omega
  by_cases hbig : len ≤ 1048576
  · go_enter Try.func4, Try.ntmps4
    go_wp2_with fail
    refine (drawValidCode_any w a len cap zs h).mono ?_
    rintro e w1 ⟨S, a1, n1, c1, P, rfl, hO, hP, hL3, hb1⟩
    clear h
    have HX1 := keptC hO
    have HB1 := keptC hb1
    have HPN : Hid (P.length = n1) := by
      obtain ⟨_, _, e⟩ := listOf hO.at
      injection e with _ e2 _
      exact e2.symm
    have hn9 : n1 ≤ 9 := by have := HPN.out; omega
    clear hO hb1 hP hL3
    obtain ⟨b, hb⟩ := ValidCd.b P
    have HB := keptC hb
    have HI : Hid (∀ wx v, ListsAt wx v P → Calls Try.prog 18 #[v] wx fun e w' => e = .returned (.bool b) ∧ Below wx.heap.size wx w') := fun wx v h => i_ValidCode wx v P b h hb
    have HS : Hid (∀ wx v, ListsAt wx v P → Calls Try.prog 16 #[v] wx fun e w' => e = .returned (.bool b) ∧ Below wx.heap.size wx w') := fun wx v h => s_ValidCode wx v P b h hb
    clear hb
    go_wp2_with fail
    refine (HI.out w1 _ HX1.out.at).mono ?_
    rintro e w2 ⟨rfl, hb2⟩
    have HX2 := keptC (HX1.out.below hb2)
    have HB2 := keptC (below_next HB1.out hb2)
    clear hb2
    go_wp2_with fail
    refine (HS.out w2 _ HX2.out.at).mono ?_
    rintro e w3 ⟨rfl, hb3⟩
    have HX3 := keptC (HX2.out.below hb3)
    have HB3 := keptC (below_next HB2.out hb3)
    clear hb3
    cases b with
    | false =>
      go_wp2_with fail
      refine (HS.out w3 _ HX3.out.at).mono ?_
      rintro e w5 ⟨rfl, hb5⟩
      have FIN := keptC (below_next HB3.out hb5)
      clear hb5
      go_wp2
      go_ret
      exact ⟨rfl, FIN.out⟩
    | true =>
      have HVV : Hid (ValidCd P) := HB.out.1 rfl
      clear HB HI HS
      go_wp2_with fail
      go_loopw [5] (fun y wr => ∃ i : Nat, i ≤ n1 ∧ y = .int .i64 i ∧ Below w3.heap.size w3 wr) (fun y _ => n1 - (intOf y).toNat)
      case atStart => exact ⟨0, Nat.zero_le _, rfl, Below.refl _ _⟩
      case round =>
        obtain ⟨i, hi, rfl, hbr⟩ := hrel
        by_cases hlt : i < n1
        · have hO := HX3.out.below hbr
          have HVL : Hid (ValidCd (lessL P i)) := lessL_valid HVV.out i
          have HCT : Hid (∀ wx v, ListsAt wx v (lessL P i) → Calls Try.prog 18 #[v] wx fun e w' => e = .returned (.bool true) ∧ Below wx.heap.size wx w') := fun wx v h => i_ValidCode wx v (lessL P i) true h (show _ ↔ _ from ⟨fun _ => HVL.out, fun _ => rfl⟩)
          obtain ⟨g, u00, e0, h00⟩ := hO.nth hlt
          subst e0
          clear h00
          obtain ⟨us, hu1, hu2, hu3, hu4, hu5, hu6, hu7⟩ := hO.parts
          have hcap : c1 ≤ 9223372036854775807 := by unfold maxLen at hu4; exact hu4
          have hownv : (wr.alloc (.cells #[] 30)).drew.ownsRow wr.heap.size 30 1 (.slice (some ⟨wr.heap.size, 0, none⟩) 0 0) 0 [] := World.ownsRow_made wr #[] 0 (Nat.le_refl _) (by unfold maxLen; omega) rfl
          have hB1 : Below wr.heap.size wr (wr.alloc (.cells #[] 30)).drew := ((Below.refl _ _).alloc (Nat.le_refl _) _).drew
          have hl1 : Hid ((us.take i).length = i * 1) := by show _ = _; rw [List.length_take, hu1, Nat.min_eq_left (by omega), Nat.mul_one]
          have hl2 : Hid ((us.drop (i + 1)).length = (n1 - 1 - i) * 1) := by
            show _ = _
            rw [List.length_drop, hu1]; omega
          have ho1 := keptW (fun u (hu : u ∈ us.take i) => hu6 u (List.mem_of_mem_take hu))
          have ho2 := keptW (fun u (hu : u ∈ us.drop (i + 1)) => hu6 u (List.mem_of_mem_drop hu))
          have hnews1 : Hid (∀ wx, Below wr.heap.size wr wx → ∀ j u, (us.take i)[j]? = some u → wx.cell? ((⟨g, 0, none⟩ : Addr).add j) = some u) := fun wx hb j u hj => by
            have h1 : us[j]? = some u := by
              rw [List.getElem?_take] at hj
              split at hj
              · exact hj
              · simp at hj
            have h2 := hu5 j u h1
            rw [Addr.add_lit, Nat.zero_add]
            exact (hb.cell (World.block_lt_of_cell? wr _ h2)).trans h2
          obtain ⟨ad, had, hdrop⟩ : ∃ ad, (if c1 = i + 1 then some (⟨g, 0, none⟩ : Addr) else some ⟨g, i + 1, none⟩) = some ad ∧ ∀ wx, Below wr.heap.size wr wx → ∀ j u, (us.drop (i + 1))[j]? = some u → wx.cell? (ad.add j) = some u := by
            by_cases hc : c1 = i + 1
            · refine ⟨_, if_pos hc, fun wx hb j u hj => ?_⟩
              have e : us.drop (i + 1) = [] := List.drop_eq_nil_of_le (by omega)
              rw [e] at hj
              simp at hj
            · refine ⟨_, if_neg hc, fun wx hb j u hj => ?_⟩
              rw [List.getElem?_drop] at hj
              have h2 := hu5 _ u hj
              rw [Addr.add_lit]
              exact (hb.cell (World.block_lt_of_cell? wr _ h2)).trans h2
          have HDR := keptW hdrop
          have HOV := keptW hownv
          have HB1 := keptW hB1
          have HOO := keptW (fun (w3 : World) (v : Value) (hb : Below wr.heap.size wr w3) (h : w3.ownsRow wr.heap.size 30 1 v (0 + i + (n1 - 1 - i)) ([] ++ us.take i ++ us.drop (i + 1))) => less_own hlt hu1 hu2 hu7 hb h)
          have b1 : (0 : Int) ≤ (i : Int) := by omega
          have b2 : (i : Int) ≤ (c1 : Int) := by omega
          have b3 : (0 : Int) ≤ (i : Int) + 1 := by omega
          have b4 : (i : Int) + 1 ≤ (n1 : Int) := by omega
          have b5 : (n1 : Int) ≤ (c1 : Int) := by omega
          have u1 : IntKind.i64.wrap ((i : Int) + 1) = (i : Int) + 1 := IntWalk.i64_in _ (by omega)
          have u2 : ((i : Int) + 1).toNat = i + 1 := by omega
          have ZZ : Hid (i ≤ maxLen ∧ i + (n1 - 1 - i) ≤ maxLen ∧ i * 24 ≤ 140737488355328 ∧ (i + (n1 - 1 - i)) * 24 ≤ 140737488355328 ∧ n1 - (i + 1) = n1 - 1 - i) := ⟨by unfold maxLen; omega, by unfold maxLen; omega, by omega, by omega, by omega⟩
          have HBR := keptW hbr
          clear hO hdrop hownv hB1 hu5 hu6 hu7 hbr hu1 hu2
          go_wp2_with fail
          go_region_held3 (fun wy => True) (exact trivial) (first | ((rw [if_pos (by rfl)]); refine wp_append_own _ (.tmp 31) (.tmp 34) 22 rfl wr.heap.size 30 i0 (.slice none 0 0) 1 24 Try.underlying22 hi0 hz0 hz1 hz2 rfl (by decide) (.slice (some ⟨wr.heap.size, 0, none⟩) 0 0) 0 [] rfl HOV.out ⟨g, 0, none⟩ i c1 (us.take i) rfl hl1.out (hnews1.out _ HB1.out) ho1.out (by simp only [Nat.zero_add]; exact ZZ.out.1) (by simp only [Nat.zero_add]; exact ZZ.out.2.2.1) (HB1.out.size) ?_; intro v2 w2 hown2 hgrow2 hnil2; have hb2 : Below wr.heap.size wr w2 := HB1.out.grown hgrow2 HB1.out.size (by simp [Value.ownBlock]); have HOV2 := keptW hown2; have HB2 := keptW hb2; clear hown2 hb2 hgrow2 hnil2 HOV) | ((rw [if_pos (by rfl)]); refine wp_append_own _ (.tmp 35) (.tmp 39) 22 rfl wr.heap.size 30 i0 (.slice none 0 0) 1 24 Try.underlying22 hi0 hz0 hz1 hz2 rfl (by decide) v2 (0 + i) _ rfl HOV2.out ad (n1 - 1 - i) (c1 - (i + 1)) (us.drop (i + 1)) (by show Value.slice (some ad) (n1 - (i + 1)) (c1 - (i + 1)) = _; rw [ZZ.out.2.2.2.2]) hl2.out (HDR.out _ HB2.out) ho2.out (by simp only [Nat.zero_add]; exact ZZ.out.2.1) (by simp only [Nat.zero_add]; exact ZZ.out.2.2.2.1) (HB2.out.size) ?_; intro v3 w3 hown3 hgrow3 hnil3; have hb3 : Below wr.heap.size wr w3 := HB2.out.grown hgrow3 HB2.out.size (fun k hk => (HOV2.out.lt k hk).1); have HO3 := keptW (HOO.out w3 v3 hb3 hown3); have HB3 := keptW hb3; clear hown3 hgrow3 hnil3 hb3) | (go_at_call 18; refine (HCT.out w3 v3 HO3.out.at).mono ?_; rintro e w4 ⟨rfl, hb4⟩))
          all_goals
            have FB := keptC (below_next HBR.out (below_next HB3.out hb4))
            clear hb4
            go_wp2
            go_roundw
            case rel => exact ⟨i + 1, by omega, by go_num, FB.out⟩
            case measure => simp [intOf]; omega
        · have HBR := keptC (below_next HB3.out hbr)
          have HVN : Hid (ValidCd []) := ⟨by simp, CdUp.zero _⟩
          clear hbr
          go_wp2_with fail
          refine (i_ValidCode wr _ [] true (ListsAt.nil _) (show _ ↔ _ from ⟨fun _ => HVN.out, fun _ => rfl⟩)).mono ?_
          rintro e w5 ⟨rfl, hb5⟩
          have FIN := keptC (below_next HBR.out hb5)
          clear hb5
          go_wp2
          go_ret
          exact ⟨rfl, FIN.out⟩
  · have hbig' : 1048576 < len := by omega
    go_enter Try.func4, Try.ntmps4
    go_wp2
    go_ret
    exact ⟨rfl, Below.refl _ _⟩
end Go.Proofs.Ytimbphkbkhlclaa
