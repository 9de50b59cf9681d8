
/- spoilCells: its walk. -/
import Derived.Test.YtekchmbbafjmmaaDrL
import Derived.Test.YtekchmbbafjmmaaExS
import Derived.Deep.Slices
import Derived.Deep.Fields
import Derived.ChangeSame
import Derived.Deep.RegionHeld3
import Derived.Deep.QuietTactic
import Derived.BigQuiet
import Derived.Deep.Onto
import Derived.Handy
import Derived.Laws.AppendOwnNone
import Derived.Deep.RegionLaw
namespace Go.Proofs.Ytekchmbbafjmmaa
open Go.RowKit
theorem keptN {p : Prop} (h : p) : Hid p := h

theorem IntsAt.newsU {w : World} {g off n cp : Nat} {zs : List Int} (h : IntsAt w (.slice (some ⟨g, off, none⟩) n cp) zs) : ∀ j u, (ints zs)[j]? = some u → w.cell? ((⟨g, off, none⟩ : Addr).add j) = some u := by
  intro j u hj
  obtain ⟨a, c, h1, _, _, h4⟩ := h
  injection h1 with e1 _ _
  rcases h4 with rfl | ⟨g', off', h5, h6⟩
  · simp [ints] at hj
  · rw [← e1] at h5
    injection h5 with e
    injection e with e2 e3 _
    subst e2 e3
    have hjl : j < zs.length := by
      have := (List.getElem?_eq_some_iff.1 hj).1
      rw [ints_length] at this; exact this
    rw [Addr.add_lit, h6 j hjl]
    simp only [ints, List.getElem?_map, List.getElem?_eq_getElem hjl, Option.map_some] at hj
    rw [← hj, List.getD_eq_getElem?_getD, List.getElem?_eq_getElem hjl, Option.getD_some]
theorem OwnInts.addAllU {w : World} {base N : Nat} {v : Value} {xs ys : List Int} (h : w.ownsRow base 3 1 v N (ints xs ++ ints ys)) (hN : N = xs.length + ys.length) : OwnInts w base v (xs ++ ys) := by
  subst hN
  unfold OwnInts
  rw [show ints (xs ++ ys) = ints xs ++ ints ys from by simp [ints], List.length_append]
  exact h
theorem ints_oneU : ∀ (zs : List Int), ∀ u ∈ ints zs, u.oneCell' = true := by
  intro zs u hu
  simp [ints] at hu
  obtain ⟨z, _, rfl⟩ := hu
  rfl
theorem own_litU (w : World) (z : Int) : OwnInts (w.alloc (.cells #[.int .i64 z] 3)) w.heap.size (.slice (some ⟨w.heap.size, 0, none⟩) 1 1) [z] :=
  ⟨rfl, .inr ⟨w.heap.size, 1, #[.int .i64 z], rfl, Nat.le_refl _, by show (w.heap.push _)[w.heap.size]? = _; simp, Nat.le_refl _, by unfold maxLen; omega, rfl, rfl⟩⟩
/-- the head of an owned list -/
theorem OwnInts.headU {w : World} {S g n c k : Nat} {zs : List Int} (h : OwnInts w S (.slice (some ⟨g, 0, none⟩) n c) zs) (hk : k ≤ n) (hn : zs.length = n) : OwnInts w S (.slice (some ⟨g, 0, none⟩) k c) (zs.take k) := by
  subst hn
  rcases h with ⟨h0, ⟨hv, hn⟩ | ⟨g', cap, cur, hv, hb, hg, h1, h2, h3, h4⟩⟩
  · injection hv with e _ _; exact absurd e (by simp)
  · injection hv with e1 _ e3
    injection e1 with e1
    injection e1 with e1
    subst e1 e3
    have hl : (zs.take k).length = k := by rw [List.length_take, Nat.min_eq_left hk]
    unfold OwnInts
    rw [hl]
    refine ⟨by rw [ints_length, hl, Nat.mul_one], .inr ⟨g, c, cur, rfl, hb, hg, by omega, h2, h3, ?_⟩⟩
    rw [Nat.mul_one] at h4 ⊢
    have : ints (zs.take k) = (ints zs).take k := by simp [ints, List.map_take]
    rw [this, ← h4, List.take_take, Nat.min_eq_left hk]
theorem IntsAt.dropU {w : World} {g n c k : Nat} {zs : List Int} (h : IntsAt w (.slice (some ⟨g, 0, none⟩) n c) zs) : ∀ j u, (ints (zs.drop k))[j]? = some u → w.cell? ((⟨g, k, none⟩ : Addr).add j) = some u := by
  intro j u hj
  have hx := h.newsU (k + j) u (by
    simp only [ints, List.getElem?_map, List.getElem?_drop] at hj ⊢
    exact hj)
  rw [Addr.add_lit] at hx ⊢
  rw [Nat.zero_add] at hx
  exact hx
set_option maxHeartbeats 1000000 in
theorem s_copyInts_u (w : World) (v : Value) (zs : List Int) (hx : IntsAt w v zs) (hs : zs.length ≤ 1048576) (hv : (∃ g off n c, v = .slice (some ⟨g, off, none⟩) n c) ∨ v = .slice none 0 0) :
    Calls Try.prog 72 #[v] w fun e w' => ∃ g c, e = .returned (.slice (some ⟨g, 0, none⟩) zs.length c) ∧ OwnInts w' w.heap.size (.slice (some ⟨g, 0, none⟩) zs.length c) zs ∧ Below w.heap.size w w' := by
  obtain ⟨i0, hi, hz0, hz1, hz2⟩ := info_parts infoInt
  have hO1 : OwnInts (w.alloc (.cells #[] 3)) w.heap.size (.slice (some ⟨w.heap.size, 0, none⟩) 0 0) [] := OwnInts.made w w.heap.size (Nat.le_refl _)
  have hB1 : Below w.heap.size w (w.alloc (.cells #[] 3)) := (Below.refl _ _).alloc (Nat.le_refl _) _
  have hx1 := hx.below hB1
  rcases hv with ⟨g, off, n, cap, rfl⟩ | rfl
  · have hn : zs.length = n := by
      obtain ⟨_, _, e, _⟩ := hx
      injection e with _ e _
      exact e.symm
    have hnews := Lib.hid hx1.newsU
    have hlz : Hid ((ints zs).length = n * 1) := by show _ = _; rw [ints_length, hn, Nat.mul_one]
    have HN := Lib.hid hn
    rw [hn] at hs
    clear hx hx1 hn
    go_enter Try.func72, Try.ntmps72
    go_wp2_with (at_builtin; go_loud (refine wpList_append_own _ rfl _ _ 28 rfl w.heap.size 3 i0 (.int .i64 0) 1 8 Try.underlying28 hi hz0 hz1 hz2 rfl (by decide) _ _ _ rfl hO1 ⟨g, off, none⟩ n cap (ints zs) rfl hlz.out hnews.out (ints_oneU zs) (by unfold maxLen; simp; omega) (by simp; omega) (by simp) ?_))
    intro v' w3 hown' hgrow hnil
    have hO3 : OwnInts w3 w.heap.size v' ([] ++ zs) := OwnInts.addAllU hown' (by rw [HN.out]; simp)
    have hB3 : Below w.heap.size w w3 := hB1.grown hgrow (by simp) (fun q hq => (hO1.lt q hq).1)
    go_wp2
    go_ret
    rcases hO3.2 with ⟨h1, _⟩ | ⟨g', c', cur, h1, _⟩
    · exact absurd h1 hnil
    · subst h1
      exact ⟨g', c', rfl, hO3, hB3⟩
  · have h0 : zs = [] := by
      obtain ⟨_, _, e, _⟩ := hx
      injection e with _ e _
      exact List.length_eq_zero_iff.1 e.symm
    subst h0
    clear hx hx1 hs
    go_enter Try.func72, Try.ntmps72
    go_wp2_with (at_builtin; refine wpList_append_own_none rfl _ _ 28 rfl w.heap.size 3 i0 1 Try.underlying28 hi _ _ _ rfl hO1 rfl ?_)
    go_wp2
    go_ret
    exact ⟨_, _, rfl, hO1, hB1⟩
end Go.Proofs.Ytekchmbbafjmmaa

namespace Go.Proofs.Ytekchmbbafjmmaa
open Go.RowKit

theorem step_ofU {P : Program} {o : Oper} {a : Act} {w : World} {y : Nat → Option Bool} {K : Act → World → Prop} {Q : Exit → Act → World → Prop} {E : Prop} (hgd : o.guard = none) (h : Oper.wp P o a w K Q) : if Region.wanted o y = true then Oper.wp P o a w K Q else E := by
  have hw : Region.wanted o y = true := by simp [Region.wanted, hgd]
  rw [if_pos hw]; exact h
def SpoilDrawn (most : Nat) (w : World) (B R L p : Nat) (e : Ending) (w' : World) : Prop :=
  ∃ g n c zs q, e = .returned (.slice (some ⟨g, 0, none⟩) n c) ∧ OwnInts w' w.heap.size (.slice (some ⟨g, 0, none⟩) n c) zs ∧ zs.length ≤ most ∧ RD w' B R L q ∧ q ≤ p + 4 ∧ w.grownBy w' (some R)
theorem own_cap {w : World} {S g n c : Nat} {zs : List Int} (h : OwnInts w S (.slice (some ⟨g, 0, none⟩) n c) zs) : zs.length = n ∧ n ≤ c ∧ c ≤ 9223372036854775807 ∧ S ≤ g ∧ g < w.heap.size := by
  rcases h with ⟨h0, ⟨hv, hn⟩ | ⟨g', cap, cur, hv, hb, hg, h1, h2, h3, h4⟩⟩
  · injection hv with e _ _; exact absurd e (by simp)
  · injection hv with e1 e2 e3
    injection e1 with e1
    injection e1 with e1
    subst e1 e2 e3
    unfold maxLen at h2
    exact ⟨rfl, h1, h2, hb, (Array.getElem?_eq_some_iff.1 hg).1⟩
theorem grownBU {a b : World} (h : Below a.heap.size a b) : a.grownBy b none := ⟨h.os, h.tape, h.output, h.size, fun k hk _ => h.block k hk⟩
theorem spoil_end {w w' : World} {B R L p q most : Nat} {v : Value} {zs : List Int} (ho : OwnInts w' w.heap.size v zs) (hnn : v ≠ .slice none 0 0) (hl : zs.length ≤ most) (hrd : RD w' B R L q) (hq : q ≤ p + 4) (hg : w.grownBy w' (some R)) : SpoilDrawn most w B R L p (.returned v) w' := by
  rcases ho.2 with ⟨e, _⟩ | ⟨g, c, cur, e, _⟩
  · exact absurd e hnn
  · subst e
    exact ⟨g, zs.length, c, zs, q, rfl, ho, hl, hrd, hq, hg⟩
theorem spoil_cut {w w4 w3 : World} {B R L p m g k n c : Nat} {v3 : Value} {zs : List Int} (hR : R < w.heap.size) (hg1 : w.heap.size ≤ g) (hkn : k < n) (hn : zs.length = n) (hs : n ≤ m) (hrd : RD w4 B R L (p + 3)) (hg : w.grownBy w4 (some R))
    (hown3 : w3.ownsRow w.heap.size 3 1 v3 (k + (n - (k + 1))) (ints (zs.take k) ++ ints (zs.drop (k + 1)))) (hgrow3 : w4.drew.grownBy w3 (Value.slice (some ⟨g, 0, none⟩) k c).ownBlock)
    (hnil3 : v3 = .slice none 0 0 ↔ Value.slice (some ⟨g, 0, none⟩) k c = .slice none 0 0 ∧ n - (k + 1) = 0) : SpoilDrawn (m + 1) w B R L p (.returned v3) w3 := by
  have hl1 : (zs.take k).length = k := by rw [List.length_take, hn, Nat.min_eq_left (by omega)]
  have hd : w4.grownBy w4.drew none := grownBU (Below.refl _ _).drew
  have hO7 := OwnInts.addAllU hown3 (by rw [hl1, List.length_drop, hn])
  have hnn : v3 ≠ .slice none 0 0 := fun e => by have := (hnil3.1 e).1; simp at this
  have hq3 : ∀ q, (Value.slice (some ⟨g, 0, none⟩) k c).ownBlock = some q → w.heap.size ≤ q := fun q hq => by simp [Value.ownBlock] at hq; omega
  have hl7 : (zs.take k ++ zs.drop (k + 1)).length ≤ m + 1 := by rw [List.length_append, hl1, List.length_drop, hn]; omega
  exact spoil_end (p := p) hO7 hnn hl7 ((hrd.grown hd).over hgrow3 hq3 hR) (by omega) (grown_own (grown_trans hg (grown_none hd _)) hgrow3 hq3)
end Go.Proofs.Ytekchmbbafjmmaa

namespace Go.Proofs.Ytekchmbbafjmmaa
open Go.RowKit

set_option maxHeartbeats 4000000 in
theorem spoilCells_any (w : World) (B R L p m : Nat) (v : Value) (zs : List Int) (often : Nat) (h : RD w B R L p) (hp : p ≤ 10000000000) (hx : IntsAt w v zs) (hs : zs.length ≤ m) (hm : m ≤ 1000000) (hv : (∃ g off n c, v = .slice (some ⟨g, off, none⟩) n c) ∨ v = .slice none 0 0) (h1 : 1 ≤ often) (h2 : often ≤ 100) :
    Calls Try.prog 57 #[.pointer (some ⟨R, 0, none⟩), v, .int .i64 often] w fun e w' => SpoilDrawn (m + 1) w B R L p e w' := by
  have hR := h.lt
  obtain ⟨i0, hi, hz0, hz1, hz2⟩ := info_parts infoInt
  go_enter Try.func57, Try.ntmps57
  go_wp2_with fail
  refine (s_copyInts_u w v zs hx (by omega) hv).mono ?_
  rintro e w1 ⟨g, c, rfl, hO1, hb1⟩
  obtain ⟨_, hc1, hc2, hg1, hg2⟩ := own_cap hO1
  have hrd1 := h.grown (grownBU hb1)
  have hgr1 : w.grownBy w1 (some R) := grown_none (grownBU hb1) _
  obtain ⟨n, hn⟩ : ∃ n, zs.length = n := ⟨_, rfl⟩
  rw [hn] at hO1 hc1 hs ⊢
  have HN := Lib.hid hn
  clear hn hx hb1 hv h
  by_cases h0 : n = 0
  · subst h0
    have FIN := keptN (And.intro hO1 (And.intro hrd1 hgr1))
    clear hO1 hrd1 hgr1
    go_wp2
    go_ret
    exact ⟨g, 0, c, zs, p, rfl, FIN.out.1, by have := HN.out; omega, FIN.out.2.1, by omega, FIN.out.2.2⟩
  · have d0 : ((n : Int) == 0) = false := by simp; omega
    go_wp2_with fail
    refine (pick_any _ B R L p _ hrd1 (by omega) (by omega) (by omega)).mono ?_
    rintro e w2 ⟨k2, rfl, hk2, hrd2, hgr2⟩
    have hO2 := hO1.overR hgr2 hR
    have hg2' := grown_trans hgr1 hgr2
    clear hO1 hrd1 hgr1 hgr2
    by_cases hk0 : 0 < k2
    · have FIN := keptN (And.intro hO2 (And.intro hrd2 hg2'))
      clear hO2 hrd2 hg2'
      go_wp2
      go_ret
      exact ⟨g, n, c, zs, p + 1, rfl, FIN.out.1, by have := HN.out; omega, FIN.out.2.1, by omega, FIN.out.2.2⟩
    · obtain rfl : k2 = 0 := by omega
      go_wp2_with fail
      refine (pick_any _ B R L (p + 1) _ hrd2 (by omega) (by omega) (by omega)).mono ?_
      rintro e w3 ⟨k, rfl, hk, hrd3, hgr3⟩
      have hO3 := hO2.overR hgr3 hR
      have hg3 := grown_trans hg2' hgr3
      have hkn : k < n := by omega
      clear hO2 hrd2 hg2' hgr3
      go_wp2_with fail
      refine (pick_any _ B R L (p + 2) _ hrd3 (by omega) (by omega) (by omega)).mono ?_
      rintro e w4 ⟨k4, rfl, hk4, hrd4, hgr4⟩
      have hO4 := hO3.overR hgr4 hR
      have hg4 := grown_trans hg3 hgr4
      have hsz4 := hg4.size
      clear hO3 hrd3 hg3 hgr4
      obtain rfl | rfl | rfl | rfl : k4 = 0 ∨ k4 = 1 ∨ k4 = 2 ∨ k4 = 3 := by omega
      · have hdr := hO4.at.dropU (k := k + 1)
        have hhd := hO4.headU (k := k) (by omega) HN.out
        have hl1 : (zs.take k).length = k := by rw [List.length_take, HN.out, Nat.min_eq_left (by omega)]
        have hl2 : Hid ((ints (zs.drop (k + 1))).length = (n - (k + 1)) * 1) := by show _ = _; rw [ints_length, List.length_drop, HN.out, Nat.mul_one]
        unfold OwnInts at hhd
        rw [hl1] at hhd
        obtain ⟨ad, had, hdrop⟩ : ∃ ad, (if c = k + 1 then some (⟨g, 0, none⟩ : Addr) else some ⟨g, k + 1, none⟩) = some ad ∧ ∀ j u, (ints (zs.drop (k + 1)))[j]? = some u → w4.cell? (ad.add j) = some u := by
          by_cases hc : c = k + 1
          · refine ⟨_, if_pos hc, fun j u hj => ?_⟩
            have e : zs.drop (k + 1) = [] := List.drop_eq_nil_of_le (by rw [HN.out]; omega)
            rw [e] at hj
            simp [ints] at hj
          · exact ⟨_, if_neg hc, hdr⟩
        have HAD := keptN had
        have HDR := keptN hdrop
        have HOV := keptN hhd
        have FIX := keptN (And.intro hl1 (And.intro hrd4 hg4))
        have b1 : (0 : Int) ≤ (k : Int) := by omega
        have b2 : (k : Int) ≤ (c : Int) := by omega
        have b3 : (0 : Int) ≤ (k : Int) + 1 := by omega
        have b4 : (k : Int) + 1 ≤ (n : Int) := by omega
        have b5 : (n : Int) ≤ (c : Int) := by omega
        have u1 : IntKind.i64.wrap ((k : Int) + 1) = (k : Int) + 1 := IntWalk.i64_in _ (by omega)
        have u2 : ((k : Int) + 1).toNat = k + 1 := by omega
        have z1 : k + (n - (k + 1)) ≤ maxLen := by unfold maxLen; omega
        have z2 : (k + (n - (k + 1))) * 8 ≤ 140737488355328 := by omega
        have ZZ := keptN (And.intro z1 z2)
        clear hdr hhd hl1 had hdrop hO4 hrd4 hg4 z1 z2
        go_wp2_with fail
        go_region_law (refine step_ofU (by rfl) ?_; refine wp_append_own _ (.tmp 31) (.tmp 35) 28 rfl w.heap.size 3 i0 (.int .i64 0) 1 8 Try.underlying28 hi hz0 hz1 hz2 rfl (by decide) (.slice (some ⟨g, 0, none⟩) k c) k (ints (zs.take k)) rfl HOV.out ad (n - (k + 1)) (c - (k + 1)) (ints (zs.drop (k + 1))) (by show Value.slice (if c = k + 1 then some (⟨g, 0, none⟩ : Addr) else some ⟨g, k + 1, none⟩) (n - (k + 1)) (c - (k + 1)) = _; rw [HAD.out]) hl2.out HDR.out (ints_oneU _) ZZ.out.1 ZZ.out.2 hsz4 ?_; intro v3 w3 hown3 hgrow3 hnil3)
        have FIN := keptN (spoil_cut (p := p) hR hg1 hkn HN.out hs FIX.out.2.1 FIX.out.2.2 hown3 hgrow3 hnil3)
        clear hown3 hgrow3 hnil3 HAD HDR HOV FIX ZZ
        go_wp2
        all_goals
          go_ret
          exact FIN.out
      · go_wp2_with fail
        refine (pick_any _ B R L (p + 3) _ hrd4 (by omega) (by omega) (by omega)).mono ?_
        rintro e w5 ⟨k5, rfl, hk5, hrd5, hgr5⟩
        have hO5 := hO4.overR hgr5 hR
        have hg5 := grown_trans hg4 hgr5
        clear hO4 hrd4 hg4 hgr5
        have hO6 := hO5.store HN.out k (k5 : Int)
        have hgs := hO5.stored' HN.out k (.int .i64 (k5 : Int))
        have hrd6 := hrd5.over hgs (fun q hq => by injection hq with hq; omega) hR
        have hg6 := grown_own hg5 hgs (fun q hq => by injection hq with hq; omega)
        have hc := hO5.cell HN.out hkn
        have hf := hO5.free HN.out k
        have FIN := keptN (And.intro hO6 (And.intro hrd6 hg6))
        clear hO5 hrd5 hg5 hO6 hrd6 hg6 hgs
        go_wp2
        go_ret
        exact ⟨g, n, c, _, p + 4, rfl, FIN.out.1, by rw [List.length_set]; have := HN.out; omega, FIN.out.2.1, by omega, FIN.out.2.2⟩
      · have hlt4 := hrd4.lt
        go_wp2_with fail
        refine (one_any _ B R L (p + 3) w4.heap.size 6 6 [60, 32, 48, 1, 0, 64] (hrd4.alloc _) (heap_alloc_new w4 _) (by omega) (Lib.hid rfl) (by omega) (by omega) (by omega)).mono ?_
        rintro e w5 ⟨z, rfl, hz, hrd5, hgr5⟩
        have hgx : w4.grownBy w5 (some R) := grown_trans (World.grownBy_alloc w4 _ _) hgr5
        have hO5 := hO4.overR hgx hR
        have hg5 := grown_trans hg4 hgx
        have hsz5 := hg5.size
        clear hO4 hrd4 hg4 hgr5 hgx hz
        go_wp2_with (at_builtin; refine wpList_append_own _ rfl _ _ 28 rfl w.heap.size 3 i0 (.int .i64 0) 1 8 Try.underlying28 hi hz0 hz1 hz2 rfl (by decide) _ _ _ rfl (hO5.alloc _) ⟨w5.heap.size, 0, none⟩ 1 1 [.int .i64 z] rfl rfl new_one one_cell (by have := HN.out; unfold maxLen; omega) (by have := HN.out; omega) (by simp; omega) ?_)
        intro v7 w7 hown7 hgr7 hnil7
        obtain ⟨R1, R2, R3⟩ := snoc_step hR hO5 hrd5 hg5 hown7 hgr7
        have hnn : v7 ≠ .slice none 0 0 := by first | exact hnil7 | exact fun e => by have := (hnil7.1 e).1; simp at this
        have FIN := keptN (spoil_end (p := p) (most := m + 1) R1 hnn (by rw [List.length_append]; have := HN.out; simp; omega) R2 (by omega) R3)
        clear hown7 hgr7 hnil7 R1 R2 R3 hnn hO5 hrd5 hg5
        go_wp2
        go_ret
        exact FIN.out
      · have hlt4 := hrd4.lt
        go_wp2_with fail
        refine (one_any _ B R L (p + 3) w4.heap.size 5 5 [60, 32, 48, 1, 0] (hrd4.alloc _) (heap_alloc_new w4 _) (by omega) (Lib.hid rfl) (by omega) (by omega) (by omega)).mono ?_
        rintro e w5 ⟨z, rfl, hz, hrd5, hgr5⟩
        have hgx : w4.grownBy w5 (some R) := grown_trans (World.grownBy_alloc w4 _ _) hgr5
        have hO5 := hO4.overR hgx hR
        have hg5 := grown_trans hg4 hgx
        have hsz5 := hg5.size
        have hlit := own_litU w5 z
        have hx5 := hO5.at.below ((Below.refl _ _).alloc (Nat.le_refl _) (.cells #[.int .i64 z] 3))
        have hnews := Lib.hid hx5.newsU
        have hlz : Hid ((ints zs).length = n * 1) := by show _ = _; rw [ints_length, HN.out, Nat.mul_one]
        clear hO4 hrd4 hg4 hgr5 hgx hz hx5
        go_wp2_with (at_builtin; refine wpList_append_own _ rfl _ _ 28 rfl w5.heap.size 3 i0 (.int .i64 0) 1 8 Try.underlying28 hi hz0 hz1 hz2 rfl (by decide) _ _ _ rfl hlit ⟨g, 0, none⟩ n c (ints zs) rfl hlz.out hnews.out (ints_oneU zs) (by unfold maxLen; simp; omega) (by simp; omega) (by simp) ?_)
        intro v7 w7 hown7 hgr7 hnil7
        have hO7 : OwnInts w7 w.heap.size v7 ([z] ++ zs) := World.ownsRow.mono (OwnInts.addAllU (xs := [z]) hown7 (by simp [HN.out])) hsz5
        have hnn : v7 ≠ .slice none 0 0 := by first | exact hnil7 | exact fun e => by have := (hnil7.1 e).1; simp at this
        have hq7 : ∀ q, (Value.slice (some ⟨w5.heap.size, 0, none⟩) 1 1).ownBlock = some q → w.heap.size ≤ q := fun q hq => by simp [Value.ownBlock] at hq; omega
        have FIN := keptN (spoil_end (p := p) (most := m + 1) hO7 hnn (by rw [List.length_append]; have := HN.out; simp; omega) ((hrd5.alloc _).over hgr7 hq7 hR) (by omega) (grown_own (grown_own hg5 (World.grownBy_alloc w5 _ none) (by simp)) hgr7 hq7))
        clear hown7 hgr7 hnil7 hO7 hnn hq7 hO5 hrd5 hg5 hlit
        go_wp2
        go_ret
        exact FIN.out
end Go.Proofs.Ytekchmbbafjmmaa

