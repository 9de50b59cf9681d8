
/- spoilCells, of the draws. -/
import Derived.Test.YtekchmbbafjmmaaNuy
namespace Go.Proofs.Ytekchmbbafjmmaa
open Go.RowKit

set_option maxHeartbeats 4000000 in
theorem spoilCells_any (w : World) (B R L p m : Nat) (v : Value) (zs : List Int) (often : Nat) (h : RD w B R L p) (hp : p ≤ 10000000000) (hx : IntsAt w v zs) (hs : zs.length ≤ m) (hm : m ≤ 1000000) (hv : (∃ g off n c, v = .slice (some ⟨g, off, none⟩) n c) ∨ v = .slice none 0 0) (h1 : 1 ≤ often) (h2 : often ≤ 100) :
    Calls Try.prog 57 #[.pointer (some ⟨R, 0, none⟩), v, .int .i64 often] w fun e w' => SpoilDrawn (m + 1) w B R L p e w' := by
  have hR := h.lt
  obtain ⟨i0, hi, hz0, hz1, hz2⟩ := info_parts infoInt
  go_enter Try.func57, Try.ntmps57
  go_wp2_with fail
  refine (s_copyInts_u w v zs hx (by omega) hv).mono ?_
  rintro e w1 ⟨g, c, rfl, hO1, hb1⟩
  obtain ⟨_, hc1, hc2, hg1, hg2⟩ := own_cap hO1
  have hrd1 := h.grown (grownBU hb1)
  have hgr1 : w.grownBy w1 (some R) := grown_none (grownBU hb1) _
  obtain ⟨n, hn⟩ : ∃ n, zs.length = n := ⟨_, rfl⟩
  rw [hn] at hO1 hc1 hs ⊢
  have HN := Lib.hid hn
  clear hn hx hb1 hv h
  by_cases h0 : n = 0
  · subst h0
    have FIN := keptN (And.intro hO1 (And.intro hrd1 hgr1))
    clear hO1 hrd1 hgr1
    go_wp2
    go_ret
    exact ⟨g, 0, c, zs, p, rfl, FIN.out.1, by have := HN.out; omega, FIN.out.2.1, by omega, FIN.out.2.2⟩
  · have d0 : ((n : Int) == 0) = false := by simp; omega
    go_wp2_with fail
    refine (pick_any _ B R L p _ hrd1 (by omega) (by omega) (by omega)).mono ?_
    rintro e w2 ⟨k2, rfl, hk2, hrd2, hgr2⟩
    have hO2 := hO1.overR hgr2 hR
    have hg2' := grown_trans hgr1 hgr2
    clear hO1 hrd1 hgr1 hgr2
    by_cases hk0 : 0 < k2
    · have FIN := keptN (And.intro hO2 (And.intro hrd2 hg2'))
      clear hO2 hrd2 hg2'
      go_wp2
      go_ret
      exact ⟨g, n, c, zs, p + 1, rfl, FIN.out.1, by have := HN.out; omega, FIN.out.2.1, by omega, FIN.out.2.2⟩
    · obtain rfl : k2 = 0 := by omega
      go_wp2_with fail
      refine (pick_any _ B R L (p + 1) _ hrd2 (by omega) (by omega) (by omega)).mono ?_
      rintro e w3 ⟨k, rfl, hk, hrd3, hgr3⟩
      have hO3 := hO2.overR hgr3 hR
      have hg3 := grown_trans hg2' hgr3
      have hkn : k < n := by omega
      clear hO2 hrd2 hg2' hgr3
      go_wp2_with fail
      refine (pick_any _ B R L (p + 2) _ hrd3 (by omega) (by omega) (by omega)).mono ?_
      rintro e w4 ⟨k4, rfl, hk4, hrd4, hgr4⟩
      have hO4 := hO3.overR hgr4 hR
      have hg4 := grown_trans hg3 hgr4
      have hsz4 := hg4.size
      clear hO3 hrd3 hg3 hgr4
      obtain rfl | rfl | rfl | rfl : k4 = 0 ∨ k4 = 1 ∨ k4 = 2 ∨ k4 = 3 := by omega
      · have hdr := hO4.at.dropU (k := k + 1)
        have hhd := hO4.headU (k := k) (by omega) HN.out
        have hl1 : (zs.take k).length = k := by rw [List.length_take, HN.out, Nat.min_eq_left (by omega)]
        have hl2 : Hid ((ints (zs.drop (k + 1))).length = (n - (k + 1)) * 1) := by show _ = _; rw [ints_length, List.length_drop, HN.out, Nat.mul_one]
        unfold OwnInts at hhd
        rw [hl1] at hhd
        obtain ⟨ad, had, hdrop⟩ : ∃ ad, (if c = k + 1 then some (⟨g, 0, none⟩ : Addr) else some ⟨g, k + 1, none⟩) = some ad ∧ ∀ j u, (ints (zs.drop (k + 1)))[j]? = some u → w4.cell? (ad.add j) = some u := by
          by_cases hc : c = k + 1
          · refine ⟨_, if_pos hc, fun j u hj => ?_⟩
            have e : zs.drop (k + 1) = [] := List.drop_eq_nil_of_le (by rw [HN.out]; omega)
            rw [e] at hj
            simp [ints] at hj
          · exact ⟨_, if_neg hc, hdr⟩
        have HAD := keptN had
        have HDR := keptN hdrop
        have HOV := keptN hhd
        have FIX := keptN (And.intro hl1 (And.intro hrd4 hg4))
        have b1 : (0 : Int) ≤ (k : Int) := by omega
        have b2 : (k : Int) ≤ (c : Int) := by omega
        have b3 : (0 : Int) ≤ (k : Int) + 1 := by omega
        have b4 : (k : Int) + 1 ≤ (n : Int) := by omega
        have b5 : (n : Int) ≤ (c : Int) := by omega
        have u1 : IntKind.i64.wrap ((k : Int) + 1) = (k : Int) + 1 := IntWalk.i64_in _ (by omega)
        have u2 : ((k : Int) + 1).toNat = k + 1 := by omega
        have z1 : k + (n - (k + 1)) ≤ maxLen := by unfold maxLen; omega
        have z2 : (k + (n - (k + 1))) * 8 ≤ 140737488355328 := by omega
        have ZZ := keptN (And.intro z1 z2)
        clear hdr hhd hl1 had hdrop hO4 hrd4 hg4 z1 z2
        go_wp2_with fail
        go_region_law (refine step_ofU (by rfl) ?_; refine wp_append_own _ (.tmp 31) (.tmp 35) 28 rfl w.heap.size 3 i0 (.int .i64 0) 1 8 Try.underlying28 hi hz0 hz1 hz2 rfl (by decide) (.slice (some ⟨g, 0, none⟩) k c) k (ints (zs.take k)) rfl HOV.out ad (n - (k + 1)) (c - (k + 1)) (ints (zs.drop (k + 1))) (by show Value.slice (if c = k + 1 then some (⟨g, 0, none⟩ : Addr) else some ⟨g, k + 1, none⟩) (n - (k + 1)) (c - (k + 1)) = _; rw [HAD.out]) hl2.out HDR.out (ints_oneU _) ZZ.out.1 ZZ.out.2 hsz4 ?_; intro v3 w3 hown3 hgrow3 hnil3)
        have FIN := keptN (spoil_cut (p := p) hR hg1 hkn HN.out hs FIX.out.2.1 FIX.out.2.2 hown3 hgrow3 hnil3)
        clear hown3 hgrow3 hnil3 HAD HDR HOV FIX ZZ
        go_wp2
        all_goals
          go_ret
          exact FIN.out
      · go_wp2_with fail
        refine (pick_any _ B R L (p + 3) _ hrd4 (by omega) (by omega) (by omega)).mono ?_
        rintro e w5 ⟨k5, rfl, hk5, hrd5, hgr5⟩
        have hO5 := hO4.overR hgr5 hR
        have hg5 := grown_trans hg4 hgr5
        clear hO4 hrd4 hg4 hgr5
        have hO6 := hO5.store HN.out k (k5 : Int)
        have hgs := hO5.stored' HN.out k (.int .i64 (k5 : Int))
        have hrd6 := hrd5.over hgs (fun q hq => by injection hq with hq; omega) hR
        have hg6 := grown_own hg5 hgs (fun q hq => by injection hq with hq; omega)
        have hc := hO5.cell HN.out hkn
        have hf := hO5.free HN.out k
        have FIN := keptN (And.intro hO6 (And.intro hrd6 hg6))
        clear hO5 hrd5 hg5 hO6 hrd6 hg6 hgs
        go_wp2
        go_ret
        exact ⟨g, n, c, _, p + 4, rfl, FIN.out.1, by rw [List.length_set]; have := HN.out; omega, FIN.out.2.1, by omega, FIN.out.2.2⟩
      · have hlt4 := hrd4.lt
        go_wp2_with fail
        refine (one_any _ B R L (p + 3) w4.heap.size 6 6 [60, 32, 48, 1, 0, 64] (hrd4.alloc _) (heap_alloc_new w4 _) (by omega) (Lib.hid rfl) (by omega) (by omega) (by omega)).mono ?_
        rintro e w5 ⟨z, rfl, hz, hrd5, hgr5⟩
        have hgx : w4.grownBy w5 (some R) := grown_trans (World.grownBy_alloc w4 _ _) hgr5
        have hO5 := hO4.overR hgx hR
        have hg5 := grown_trans hg4 hgx
        have hsz5 := hg5.size
        clear hO4 hrd4 hg4 hgr5 hgx hz
        go_wp2_with (at_builtin; refine wpList_append_own _ rfl _ _ 28 rfl w.heap.size 3 i0 (.int .i64 0) 1 8 Try.underlying28 hi hz0 hz1 hz2 rfl (by decide) _ _ _ rfl (hO5.alloc _) ⟨w5.heap.size, 0, none⟩ 1 1 [.int .i64 z] rfl rfl new_one one_cell (by have := HN.out; unfold maxLen; omega) (by have := HN.out; omega) (by simp; omega) ?_)
        intro v7 w7 hown7 hgr7 hnil7
        obtain ⟨R1, R2, R3⟩ := snoc_step hR hO5 hrd5 hg5 hown7 hgr7
        have hnn : v7 ≠ .slice none 0 0 := by first | exact hnil7 | exact fun e => by have := (hnil7.1 e).1; simp at this
        have FIN := keptN (spoil_end (p := p) (most := m + 1) R1 hnn (by rw [List.length_append]; have := HN.out; simp; omega) R2 (by omega) R3)
        clear hown7 hgr7 hnil7 R1 R2 R3 hnn hO5 hrd5 hg5
        go_wp2
        go_ret
        exact FIN.out
      · have hlt4 := hrd4.lt
        go_wp2_with fail
        refine (one_any _ B R L (p + 3) w4.heap.size 5 5 [60, 32, 48, 1, 0] (hrd4.alloc _) (heap_alloc_new w4 _) (by omega) (Lib.hid rfl) (by omega) (by omega) (by omega)).mono ?_
        rintro e w5 ⟨z, rfl, hz, hrd5, hgr5⟩
        have hgx : w4.grownBy w5 (some R) := grown_trans (World.grownBy_alloc w4 _ _) hgr5
        have hO5 := hO4.overR hgx hR
        have hg5 := grown_trans hg4 hgx
        have hsz5 := hg5.size
        have hlit := own_litU w5 z
        have hx5 := hO5.at.below ((Below.refl _ _).alloc (Nat.le_refl _) (.cells #[.int .i64 z] 3))
        have hnews := Lib.hid hx5.newsU
        have hlz : Hid ((ints zs).length = n * 1) := by show _ = _; rw [ints_length, HN.out, Nat.mul_one]
        clear hO4 hrd4 hg4 hgr5 hgx hz hx5
        go_wp2_with (at_builtin; refine wpList_append_own _ rfl _ _ 28 rfl w5.heap.size 3 i0 (.int .i64 0) 1 8 Try.underlying28 hi hz0 hz1 hz2 rfl (by decide) _ _ _ rfl hlit ⟨g, 0, none⟩ n c (ints zs) rfl hlz.out hnews.out (ints_oneU zs) (by unfold maxLen; simp; omega) (by simp; omega) (by simp) ?_)
        intro v7 w7 hown7 hgr7 hnil7
        have hO7 : OwnInts w7 w.heap.size v7 ([z] ++ zs) := World.ownsRow.mono (OwnInts.addAllU (xs := [z]) hown7 (by simp [HN.out])) hsz5
        have hnn : v7 ≠ .slice none 0 0 := by first | exact hnil7 | exact fun e => by have := (hnil7.1 e).1; simp at this
        have hq7 : ∀ q, (Value.slice (some ⟨w5.heap.size, 0, none⟩) 1 1).ownBlock = some q → w.heap.size ≤ q := fun q hq => by simp [Value.ownBlock] at hq; omega
        have FIN := keptN (spoil_end (p := p) (most := m + 1) hO7 hnn (by rw [List.length_append]; have := HN.out; simp; omega) ((hrd5.alloc _).over hgr7 hq7 hR) (by omega) (grown_own (grown_own hg5 (World.grownBy_alloc w5 _ none) (by simp)) hgr7 hq7))
        clear hown7 hgr7 hnil7 hO7 hnn hq7 hO5 hrd5 hg5 hlit
        go_wp2
        go_ret
        exact FIN.out
end Go.Proofs.Ytekchmbbafjmmaa
