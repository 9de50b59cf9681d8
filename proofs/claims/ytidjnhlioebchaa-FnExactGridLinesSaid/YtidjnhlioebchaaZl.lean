
/- The lines of a grid: rowLine of the program. -/
import Derived.Test.YtidjnhlioebchaaZk
namespace Go.Proofs.Ytidjnhlioebchaa
open Go.RowKit

/-- the line of the first k entries of a row -/
def lineTo (L : List (List Int)) (Z : List Int) : Nat → List Int
  | 0 => []
  | k + 1 => (lineTo L Z k ++ (if k = 0 then [] else [0, 0])) ++ L.getD k [] ++ List.replicate ((Z.getD k 0).toNat - (L.getD k []).length) 0
/-- entries that fit their columns -/
def FitTo (L : List (List Int)) (Z : List Int) (n : Nat) : Prop := ∀ i, i < n → 0 ≤ Z.getD i 0 ∧ Z.getD i 0 ≤ 12 ∧ ((L.getD i []).length : Int) ≤ Z.getD i 0
theorem lineTo_len {L : List (List Int)} {Z : List Int} {n : Nat} (h : FitTo L Z n) : ∀ k, k ≤ n → (lineTo L Z k).length ≤ 14 * k := by
  intro k
  induction k with
  | zero => intro _; simp [lineTo]
  | succ k ih =>
    intro hk
    have h1 := ih (by omega)
    have h2 := h k (by omega)
    have h3 : (if k = 0 then ([] : List Int) else [0, 0]).length ≤ 2 := by split <;> simp
    simp only [lineTo, List.length_append, List.length_replicate]
    omega
/-- a row whose entries lie at addresses -/
def RowP (w : World) (v : Value) (L : List (List Int)) : Prop :=
  ∃ a n cp, v = .slice a n cp ∧ L.length = n ∧ n ≤ cp ∧ cp ≤ 9223372036854775807 ∧ (n = 0 ∨ ∃ g off, a = some ⟨g, off, none⟩ ∧ ∀ i, i < n → ∃ g2 off2 n2 c2, w.cell? ⟨g, off + i, none⟩ = some (.slice (some ⟨g2, off2, none⟩) n2 c2) ∧ IntsAt w (.slice (some ⟨g2, off2, none⟩) n2 c2) (L.getD i []) ∧ (L.getD i []).length = n2)
theorem RowP.below {w w' : World} {v : Value} {L : List (List Int)} (h : RowP w v L) (hb : Below w.heap.size w w') : RowP w' v L := by
  obtain ⟨a, n, cp, h1, h2, h3, h4, h5⟩ := h
  refine ⟨a, n, cp, h1, h2, h3, h4, h5.imp id ?_⟩
  rintro ⟨g, off, h6, h7⟩
  refine ⟨g, off, h6, fun i hi => ?_⟩
  obtain ⟨g2, off2, n2, c2, h8, h9, h10⟩ := h7 i hi
  exact ⟨g2, off2, n2, c2, (hb.cell (World.block_lt_of_cell? w _ h8)).trans h8, h9.below hb, h10⟩
theorem own_low {w : World} {B B' : Nat} {v : Value} {zs : List Int} (h : OwnInts w B v zs) (hB : B' ≤ B) : OwnInts w B' v zs := h.lowerZ hB
set_option maxHeartbeats 4000000 in
theorem i_rowLine_z (w : World) (v u : Value) (L : List (List Int)) (Z : List Int) (n : Nat) (hx : RowP w v L) (hy : IntsAt w u Z) (hn : Hid (L.length = n)) (hz : Hid (Z.length = n)) (h5 : n ≤ 5) (hf : Hid (FitTo L Z n)) :
    Calls Try.prog 50 #[v, u] w fun e w' => WidOut (lineTo L Z n) w e w' := by
  obtain ⟨i0, hi, hz0, hz1, hz2⟩ := info_parts infoInt
  obtain ⟨a, n', cp, rfl, hn', x1, x2, x3⟩ := hx
  obtain rfl : n' = n := hn'.symm.trans hn.out
  obtain ⟨b, n'', cq, rfl, hz', y1, y2, y3⟩ := hy.partsZ
  obtain rfl : n'' = n' := hz'.symm.trans hz.out
  clear hn' hz' hy
  go_enter Try.func50, Try.ntmps50
  go_wp2
  go_loopw [5, 10] (fun x i wr => ∃ k : Nat, k ≤ n'' ∧ i = .int .i64 k ∧ Hid (OwnInts wr w.heap.size x (lineTo L Z k)) ∧ Hid (Below w.heap.size w wr)) (fun _ i _ => n'' - (intOf i).toNat)
  case atStart => exact ⟨0, Nat.zero_le _, rfl, OwnInts.nil _ _, Below.refl _ _⟩
  case round =>
    obtain ⟨k, hk, rfl, HO, HB⟩ := hrel
    obtain ⟨ao, no, co, hs'⟩ := HO.out.isSliceZ
    subst hs'
    by_cases hlt : k < n''
    · rcases x3 with rfl | ⟨g, off, rfl, x3⟩
      · omega
      rcases y3 with rfl | ⟨gz, offz, rfl, y3⟩
      · omega
      obtain ⟨g2, off2, n2, c2, q0, hE, hl⟩ := x3 k hlt
      have q1 := y3 k hlt
      obtain ⟨zs, hzs⟩ : ∃ zs, L.getD k [] = zs := ⟨_, rfl⟩
      obtain ⟨z, hzz⟩ : ∃ z, Z.getD k 0 = z := ⟨_, rfl⟩
      have hft := hf.out k hlt
      have hln := lineTo_len hf.out k hk
      rw [hzs, hzz] at hft
      rw [hzs] at hE hl
      rw [hzz] at q1
      rw [hl] at hft
      have HLN : Hid (zs.length = n2) := hl
      have HZS : Hid (lineTo L Z (k + 1) = (lineTo L Z k ++ (if k = 0 then [] else [0, 0])) ++ zs ++ List.replicate (z.toNat - n2) 0) := by
        show (lineTo L Z k ++ (if k = 0 then [] else [0, 0])) ++ L.getD k [] ++ List.replicate ((Z.getD k 0).toNat - (L.getD k []).length) 0 = _
        rw [hzs, hzz, hl]
      obtain ⟨zn, rfl⟩ : ∃ zn : Nat, z = zn := ⟨z.toNat, by omega⟩
      have u1 : IntKind.i64.wrap ((zn : Int) - (n2 : Int)) = ((zn - n2 : Nat) : Int) := by rw [IntWalk.i64_in _ (by omega)]; omega
      have q0' := (HB.out.cell (World.block_lt_of_cell? w _ q0)).trans q0
      have HQ1 := keptZ q1
      have HE := keptZ hE
      have hsz := HB.out.size
      have H12 : Hid (zn ≤ 12 ∧ n2 ≤ zn) := ⟨by omega, by omega⟩
      clear hzs hzz hl hft hE q0 q1 x3 y3
      by_cases k0 : k = 0
      · have d0 : decide (0 < (k : Int)) = false := decide_eq_false (by omega)
        have HO3 := HO
        have K0 := keptZ k0
        have n0 : k ≤ 0 := by omega
        have n1 : decide (0 < k) = false := decide_eq_false (by omega)
        clear k0
        have HB3 := HB
        have hl3 : (lineTo L Z k).length ≤ 80 := by omega
        have HNW := Lib.hid (HE.out.below HB3.out).newsZ
        have hlz : Hid ((ints zs).length = n2 * 1) := by show _ = _; rw [ints_length, HLN.out, Nat.mul_one]
        have hn212 : n2 ≤ 12 := by have := H12.out; omega
        have hsz3 := HB3.out.size
        go_wp2_with (at_builtin; refine wpList_append_own _ rfl _ _ 27 rfl w.heap.size 3 i0 (.int .i64 0) 1 8 Try.underlying27 hi hz0 hz1 hz2 rfl (by decide) _ _ _ rfl HO3.out ⟨g2, off2, none⟩ n2 c2 (ints zs) rfl hlz.out HNW.out (ints_oneZ zs) (by unfold maxLen; omega) (by omega) hsz3 ?_)
        intro v4 w4 hown4 hgrow4 hnil4
        have HO4 := keptZ (OwnInts.addAllZ hown4 (by have := HLN.out; first | omega | (simp; omega)))
        have HB4 := keptZ (HB3.out.grown hgrow4 hsz3 (fun q hq => (HO3.out.lt q hq).1))
        have hl4 : (lineTo L Z k ++ zs).length ≤ 100 := by rw [List.length_append, HLN.out]; omega
        obtain ⟨a4, n4, c4, hv4⟩ := HO4.out.isSliceZ
        subst hv4
        have q2 := (HB4.out.cell (World.block_lt_of_cell? w _ HQ1.out)).trans HQ1.out
        have hsz4 := HB4.out.size
        clear hown4 hgrow4 hnil4 HO3 HB3 HNW hlz
        go_wp2_with fail
        refine (i_withSpaces_z w4 _ (lineTo L Z k ++ zs) (zn - n2) HO4.out.at (by omega) (by have := H12.out; omega) HO4.out.plain).mono ?_
        rintro e w5 ⟨a5, n5, c5, rfl, hO5, hb5⟩
        have HO5 : Hid (OwnInts w5 w.heap.size (.slice a5 n5 c5) (lineTo L Z (k + 1))) := by
          have := own_low hO5 hsz4
          show OwnInts _ _ _ _
          rw [HZS.out, if_pos K0.out, List.append_nil, Int.toNat_natCast]
          exact this
        have HB5 := keptZ (HB4.out.trans (hb5.mono hsz4))
        clear hO5 hb5 HO4 HB4 q2 hl4
        go_wp2
        go_roundw
        case rel => exact ⟨k + 1, by omega, by go_num, HO5, HB5⟩
        case measure => simp [intOf]; omega
      · have d0 : decide (0 < (k : Int)) = true := decide_eq_true (by omega)
        go_wp2_with fail
        refine (i_withSpaces_z wr _ (lineTo L Z k) 2 HO.out.at (by omega) (by omega) HO.out.plain).mono ?_
        rintro e w3 ⟨a3, n3, c3, rfl, hO3, hb3⟩
        have HO3 : Hid (OwnInts w3 w.heap.size (.slice a3 n3 c3) (lineTo L Z k ++ [0, 0])) := own_low hO3 hsz
        have HB3 := keptZ (HB.out.trans (hb3.mono hsz))
        have hl3 : (lineTo L Z k ++ [0, 0]).length ≤ 80 := by simp; omega
        clear hO3 hb3 HO HB q0'
        have HNW := Lib.hid (HE.out.below HB3.out).newsZ
        have hlz : Hid ((ints zs).length = n2 * 1) := by show _ = _; rw [ints_length, HLN.out, Nat.mul_one]
        have hn212 : n2 ≤ 12 := by have := H12.out; omega
        have hsz3 := HB3.out.size
        go_wp2_with (at_builtin; refine wpList_append_own _ rfl _ _ 27 rfl w.heap.size 3 i0 (.int .i64 0) 1 8 Try.underlying27 hi hz0 hz1 hz2 rfl (by decide) _ _ _ rfl HO3.out ⟨g2, off2, none⟩ n2 c2 (ints zs) rfl hlz.out HNW.out (ints_oneZ zs) (by unfold maxLen; omega) (by omega) hsz3 ?_)
        intro v4 w4 hown4 hgrow4 hnil4
        have HO4 := keptZ (OwnInts.addAllZ hown4 (by have := HLN.out; first | omega | (simp; omega)))
        have HB4 := keptZ (HB3.out.grown hgrow4 hsz3 (fun q hq => (HO3.out.lt q hq).1))
        have hl4 : (lineTo L Z k ++ [0, 0] ++ zs).length ≤ 100 := by rw [List.length_append, HLN.out]; omega
        obtain ⟨a4, n4, c4, hv4⟩ := HO4.out.isSliceZ
        subst hv4
        have q2 := (HB4.out.cell (World.block_lt_of_cell? w _ HQ1.out)).trans HQ1.out
        have hsz4 := HB4.out.size
        clear hown4 hgrow4 hnil4 HO3 HB3 HNW hlz
        go_wp2_with fail
        refine (i_withSpaces_z w4 _ (lineTo L Z k ++ [0, 0] ++ zs) (zn - n2) HO4.out.at (by omega) (by have := H12.out; omega) HO4.out.plain).mono ?_
        rintro e w5 ⟨a5, n5, c5, rfl, hO5, hb5⟩
        have HO5 : Hid (OwnInts w5 w.heap.size (.slice a5 n5 c5) (lineTo L Z (k + 1))) := by
          have := own_low hO5 hsz4
          show OwnInts _ _ _ _
          rw [HZS.out, if_neg k0, Int.toNat_natCast]
          exact this
        have HB5 := keptZ (HB4.out.trans (hb5.mono hsz4))
        clear hO5 hb5 HO4 HB4 q2 hl4
        go_wp2
        go_roundw
        case rel => exact ⟨k + 1, by omega, by go_num, HO5, HB5⟩
        case measure => simp [intOf]; omega
    · obtain rfl : k = n'' := by omega
      go_wp2
      go_ret
      exact ⟨_, _, _, rfl, HO.out, HB.out⟩
end Go.Proofs.Ytidjnhlioebchaa
