
/- ValidDisplay of both sides. -/
import Derived.Test.YtfgnckafpnobhaaDsa
namespace Go.Proofs.Ytfgnckafpnobhaa
open Go.RowKit

def Wd (t : Int) : Prop := 1 ≤ t ∧ t ≤ 40
def Wn (n lo hi : Int) : Prop := lo ≤ n ∧ n ≤ hi
set_option maxRecDepth 20000 in
set_option maxHeartbeats 4000000 in
theorem i_ValidDisplay (w : World) (c p : Value) (s t : Int) (C P : List Int) (b : Bool) (hC : IntsAt w c C) (hP : IntsAt w p P) (hs : -9223372036854775808 ≤ s ∧ s ≤ 9223372036854775807) (ht : -9223372036854775808 ≤ t ∧ t ≤ 9223372036854775807) (hb : Hid (b = true ↔ VDp C P s t)) :
    Calls Try.prog 17 #[dspV c p s t] w fun e w' => e = .returned (.bool b) ∧ Below w.heap.size w w' := by
  obtain ⟨ac, n, cc, rfl, hn, xc1, xc2, _⟩ := hC.partsI
  obtain ⟨ap, m, cp, rfl, hm, xp1, xp2, _⟩ := hP.partsI
  have HN := Lib.hid hn
  have HM := Lib.hid hm
  obtain ⟨hB, hbx⟩ := dbox w (.slice ac n cc) (.slice ap m cp) s t
  have HC := keptI (hC.below hbx)
  have HP := keptI (hP.below hbx)
  have HBX := keptI hbx
  clear hC hP hbx hn hm
  by_cases hV : ValidL C
  rotate_left
  · have HV1 := kepD hV
    have HF : Hid (b = false) := bool_no hb.out (fun h => hV h.1)
    clear hV
    go_enter Try.func17, Try.ntmps17
    go_wp2_with fail
    generalize w.alloc (.cells #[.slice ac n cc, .slice ap m cp, .int .i64 s, .int .i64 t] 25) = wA at hB HC HP HBX ⊢
    obtain ⟨c0, c1, c2, c3⟩ := hB.cells
    refine (i_valid_d _ _ C false HC.out ⟨fun e => (by cases e), fun h => absurd h HV1.out⟩).mono ?_
    rintro e w' ⟨rfl, rfl⟩
    go_wp2
    go_ret
    exact ⟨by rw [HF.out]; rfl, HBX.out⟩
  · have HV1 := kepD hV
    by_cases hPl : PlOk P n
    rotate_left
    · have HV2 := kepD hPl
      have HF : Hid (b = false) := bool_no hb.out (fun h => hPl (by rw [← HN.out]; exact h.2.1))
      clear hPl hV
      go_enter Try.func17, Try.ntmps17
      go_wp2_with fail
      generalize w.alloc (.cells #[.slice ac n cc, .slice ap m cp, .int .i64 s, .int .i64 t] 25) = wA at hB HC HP HBX ⊢
      obtain ⟨c0, c1, c2, c3⟩ := hB.cells
      refine (i_valid_d _ _ C true HC.out ⟨fun _ => HV1.out, fun _ => rfl⟩).mono ?_
      rintro e w' ⟨rfl, rfl⟩
      go_wp2_with fail
      refine (i_arePlaces wA _ P n false HP.out (by omega) ⟨fun e => (by cases e), fun h => absurd h HV2.out⟩).mono ?_
      rintro e w2 ⟨rfl, hb2'⟩
      have hB2 := hB.below hb2' hB.lt
      have HBX2 := keptI (below_next HBX.out hb2')
      clear c0 c1 c2 c3 hb2' hB HC HP HBX
      have HBX := HBX2
      clear HBX2
      obtain ⟨c0, c1, c2, c3⟩ := hB2.cells
      go_wp2
      go_ret
      exact ⟨by rw [HF.out]; rfl, HBX.out⟩
    · have HV2 := kepD hPl
      by_cases hT : Wd t
      rotate_left
      · have HV3 := kepD hT
        have HF : Hid (b = false) := bool_no hb.out (fun h => hT h.2.2.1)
        clear hT hV hPl
        go_enter Try.func17, Try.ntmps17
        go_wp2_with fail
        generalize w.alloc (.cells #[.slice ac n cc, .slice ap m cp, .int .i64 s, .int .i64 t] 25) = wA at hB HC HP HBX ⊢
        obtain ⟨c0, c1, c2, c3⟩ := hB.cells
        refine (i_valid_d _ _ C true HC.out ⟨fun _ => HV1.out, fun _ => rfl⟩).mono ?_
        rintro e w' ⟨rfl, rfl⟩
        go_wp2_with fail
        refine (i_arePlaces wA _ P n true HP.out (by omega) ⟨fun _ => HV2.out, fun _ => rfl⟩).mono ?_
        rintro e w2 ⟨rfl, hb2'⟩
        have hB2 := hB.below hb2' hB.lt
        have HBX2 := keptI (below_next HBX.out hb2')
        clear c0 c1 c2 c3 hb2' hB HC HP HBX
        have HBX := HBX2
        clear HBX2
        obtain ⟨c0, c1, c2, c3⟩ := hB2.cells
        go_wp2_with fail
        refine (i_isWidth_b _ t false ⟨fun e => (by cases e), fun h => absurd h HV3.out⟩).mono ?_
        rintro e w' ⟨rfl, rfl⟩
        go_wp2
        go_ret
        exact ⟨by rw [HF.out]; rfl, HBX.out⟩
      · have HV3 := kepD hT
        obtain ⟨h1t, h40t⟩ := hT
        by_cases hs0 : s = 0
        · subst hs0
          have HF : Hid (b = true) := hb.out.2 ⟨hV, by rw [HN.out]; exact hPl, ⟨h1t, h40t⟩, .inl rfl⟩
          clear hV hPl
          go_enter Try.func17, Try.ntmps17
          go_wp2_with fail
          generalize w.alloc (.cells #[.slice ac n cc, .slice ap m cp, .int .i64 0, .int .i64 t] 25) = wA at hB HC HP HBX ⊢
          obtain ⟨c0, c1, c2, c3⟩ := hB.cells
          refine (i_valid_d _ _ C true HC.out ⟨fun _ => HV1.out, fun _ => rfl⟩).mono ?_
          rintro e w' ⟨rfl, rfl⟩
          go_wp2_with fail
          refine (i_arePlaces wA _ P n true HP.out (by omega) ⟨fun _ => HV2.out, fun _ => rfl⟩).mono ?_
          rintro e w2 ⟨rfl, hb2'⟩
          have hB2 := hB.below hb2' hB.lt
          have HBX2 := keptI (below_next HBX.out hb2')
          clear c0 c1 c2 c3 hb2' hB HC HP HBX
          have HBX := HBX2
          clear HBX2
          obtain ⟨c0, c1, c2, c3⟩ := hB2.cells
          go_wp2_with fail
          refine (i_isWidth_b _ t true ⟨fun _ => HV3.out, fun _ => rfl⟩).mono ?_
          rintro e w' ⟨rfl, rfl⟩
          go_wp2
          go_ret
          exact ⟨by rw [HF.out]; rfl, HBX.out⟩
        · have e0 : (s == 0) = false := by simp [hs0]
          have e1 : decide (s = 0) = false := decide_eq_false hs0
          have u1 : IntKind.i64.wrap ((n : Int) - 1) = (n : Int) - 1 := IntWalk.i64_in _ (by omega)
          by_cases hS : Wn s 1 ((n : Int) - 1)
          rotate_left
          · have HV4 := kepD hS
            have HF : Hid (b = false) := bool_no hb.out (fun h => by rcases h.2.2.2 with h | h; exact hs0 h; exact hS (by have h2 := h.1; rw [HN.out] at h2; exact h2))
            clear hS hV hPl
            go_enter Try.func17, Try.ntmps17
            go_wp2_with fail
            generalize w.alloc (.cells #[.slice ac n cc, .slice ap m cp, .int .i64 s, .int .i64 t] 25) = wA at hB HC HP HBX ⊢
            obtain ⟨c0, c1, c2, c3⟩ := hB.cells
            refine (i_valid_d _ _ C true HC.out ⟨fun _ => HV1.out, fun _ => rfl⟩).mono ?_
            rintro e w' ⟨rfl, rfl⟩
            go_wp2_with fail
            refine (i_arePlaces wA _ P n true HP.out (by omega) ⟨fun _ => HV2.out, fun _ => rfl⟩).mono ?_
            rintro e w2 ⟨rfl, hb2'⟩
            have hB2 := hB.below hb2' hB.lt
            have HBX2 := keptI (below_next HBX.out hb2')
            clear c0 c1 c2 c3 hb2' hB HC HP HBX
            have HBX := HBX2
            clear HBX2
            obtain ⟨c0, c1, c2, c3⟩ := hB2.cells
            go_wp2_with fail
            refine (i_isWidth_b _ t true ⟨fun _ => HV3.out, fun _ => rfl⟩).mono ?_
            rintro e w' ⟨rfl, rfl⟩
            go_wp2_with fail
            refine (i_within_d _ _ _ _ false ⟨fun e => (by cases e), fun h => absurd h HV4.out⟩).mono ?_
            rintro e w' ⟨rfl, rfl⟩
            go_wp2
            go_ret
            exact ⟨by rw [HF.out]; rfl, HBX.out⟩
          · have HV4 := kepD hS
            obtain ⟨hS1, hS2⟩ := hS
            have hS : 1 ≤ s ∧ s ≤ (n : Int) - 1 := ⟨hS1, hS2⟩
            obtain ⟨r, hr⟩ : ∃ r, s.tmod t = r := ⟨_, rfl⟩
            have hr2 : r = s % t := by rw [← hr]; exact Int.tmod_eq_emod_of_nonneg (by omega)
            have hr3 : 0 ≤ r ∧ r < t := by rw [hr2]; exact ⟨Int.emod_nonneg _ (by omega), Int.emod_lt_of_pos _ (by omega)⟩
            have ur : IntKind.i64.wrap r = r := IntWalk.i64_in _ (by omega)
            have t0 : (t == 0) = false := by simp; omega
            have t1 : decide (t = 0) = false := decide_eq_false (by omega)
            have t2 : ¬ t = 0 := by omega
            have t3 : ¬ t = -1 := by omega
            clear hr2
            by_cases hr0 : r = 0
            · have HF : Hid (b = true) := hb.out.2 ⟨hV, by rw [HN.out]; exact hPl, ⟨h1t, h40t⟩, .inr ⟨by rw [HN.out]; exact hS, by rw [hr]; exact hr0⟩⟩
              subst hr0
              clear hV hPl hS
              go_enter Try.func17, Try.ntmps17
              go_wp2_with fail
              generalize w.alloc (.cells #[.slice ac n cc, .slice ap m cp, .int .i64 s, .int .i64 t] 25) = wA at hB HC HP HBX ⊢
              obtain ⟨c0, c1, c2, c3⟩ := hB.cells
              refine (i_valid_d _ _ C true HC.out ⟨fun _ => HV1.out, fun _ => rfl⟩).mono ?_
              rintro e w' ⟨rfl, rfl⟩
              go_wp2_with fail
              refine (i_arePlaces wA _ P n true HP.out (by omega) ⟨fun _ => HV2.out, fun _ => rfl⟩).mono ?_
              rintro e w2 ⟨rfl, hb2'⟩
              have hB2 := hB.below hb2' hB.lt
              have HBX2 := keptI (below_next HBX.out hb2')
              clear c0 c1 c2 c3 hb2' hB HC HP HBX
              have HBX := HBX2
              clear HBX2
              obtain ⟨c0, c1, c2, c3⟩ := hB2.cells
              go_wp2_with fail
              refine (i_isWidth_b _ t true ⟨fun _ => HV3.out, fun _ => rfl⟩).mono ?_
              rintro e w' ⟨rfl, rfl⟩
              go_wp2_with fail
              refine (i_within_d _ _ _ _ true ⟨fun _ => HV4.out, fun _ => rfl⟩).mono ?_
              rintro e w' ⟨rfl, rfl⟩
              go_wp2
              go_ret
              exact ⟨by rw [HF.out]; rfl, HBX.out⟩
            · have HF : Hid (b = false) := bool_no hb.out (fun h => by rcases h.2.2.2 with h | h; exact hs0 h; exact hr0 (by rw [← hr]; exact h.2))
              have r0 : (r == 0) = false := by simp [hr0]
              have r1 : decide (r = 0) = false := decide_eq_false hr0
              clear hV hPl hS
              go_enter Try.func17, Try.ntmps17
              go_wp2_with fail
              generalize w.alloc (.cells #[.slice ac n cc, .slice ap m cp, .int .i64 s, .int .i64 t] 25) = wA at hB HC HP HBX ⊢
              obtain ⟨c0, c1, c2, c3⟩ := hB.cells
              refine (i_valid_d _ _ C true HC.out ⟨fun _ => HV1.out, fun _ => rfl⟩).mono ?_
              rintro e w' ⟨rfl, rfl⟩
              go_wp2_with fail
              refine (i_arePlaces wA _ P n true HP.out (by omega) ⟨fun _ => HV2.out, fun _ => rfl⟩).mono ?_
              rintro e w2 ⟨rfl, hb2'⟩
              have hB2 := hB.below hb2' hB.lt
              have HBX2 := keptI (below_next HBX.out hb2')
              clear c0 c1 c2 c3 hb2' hB HC HP HBX
              have HBX := HBX2
              clear HBX2
              obtain ⟨c0, c1, c2, c3⟩ := hB2.cells
              go_wp2_with fail
              refine (i_isWidth_b _ t true ⟨fun _ => HV3.out, fun _ => rfl⟩).mono ?_
              rintro e w' ⟨rfl, rfl⟩
              go_wp2_with fail
              refine (i_within_d _ _ _ _ true ⟨fun _ => HV4.out, fun _ => rfl⟩).mono ?_
              rintro e w' ⟨rfl, rfl⟩
              go_wp2
              go_ret
              exact ⟨by rw [HF.out]; rfl, HBX.out⟩
set_option maxRecDepth 20000 in
set_option maxHeartbeats 4000000 in
theorem s_validDisplay (w : World) (c p : Value) (s t : Int) (C P : List Int) (b : Bool) (hC : IntsAt w c C) (hP : IntsAt w p P) (hs : -9223372036854775808 ≤ s ∧ s ≤ 9223372036854775807) (ht : -9223372036854775808 ≤ t ∧ t ≤ 9223372036854775807) (hb : Hid (b = true ↔ VDp C P s t)) :
    Calls Try.prog 50 #[dspV c p s t] w fun e w' => e = .returned (.bool b) ∧ Below w.heap.size w w' := by
  obtain ⟨ac, n, cc, rfl, hn, xc1, xc2, _⟩ := hC.partsI
  obtain ⟨ap, m, cp, rfl, hm, xp1, xp2, _⟩ := hP.partsI
  have HN := Lib.hid hn
  have HM := Lib.hid hm
  obtain ⟨hB, hbx⟩ := dbox w (.slice ac n cc) (.slice ap m cp) s t
  have HC := keptI (hC.below hbx)
  have HP := keptI (hP.below hbx)
  have HBX := keptI hbx
  clear hC hP hbx hn hm
  by_cases hV : ValidL C
  rotate_left
  · have HV1 := kepD hV
    have HF : Hid (b = false) := bool_no hb.out (fun h => hV h.1)
    clear hV
    go_enter Try.func50, Try.ntmps50
    go_wp2_with fail
    generalize w.alloc (.cells #[.slice ac n cc, .slice ap m cp, .int .i64 s, .int .i64 t] 25) = wA at hB HC HP HBX ⊢
    obtain ⟨c0, c1, c2, c3⟩ := hB.cells
    refine (s_valid_d _ _ C false HC.out ⟨fun e => (by cases e), fun h => absurd h HV1.out⟩).mono ?_
    rintro e w' ⟨rfl, rfl⟩
    go_wp2
    go_ret
    exact ⟨by rw [HF.out]; rfl, HBX.out⟩
  · have HV1 := kepD hV
    by_cases hnm : m = n
    · subst hnm
      by_cases hT : Wd t
      rotate_left
      · have HV3 := kepD hT
        have HF : Hid (b = false) := bool_no hb.out (fun h => hT h.2.2.1)
        clear hT hV
        go_enter Try.func50, Try.ntmps50
        go_wp2_with fail
        generalize w.alloc (.cells #[.slice ac m cc, .slice ap m cp, .int .i64 s, .int .i64 t] 25) = wA at hB HC HP HBX ⊢
        obtain ⟨c0, c1, c2, c3⟩ := hB.cells
        refine (s_valid_d _ _ C true HC.out ⟨fun _ => HV1.out, fun _ => rfl⟩).mono ?_
        rintro e w' ⟨rfl, rfl⟩
        go_wp2_with fail
        refine (s_range_d t 1 40 _ false ⟨fun e => (by cases e), fun h => absurd h HV3.out⟩).mono ?_
        rintro e w' ⟨rfl, rfl⟩
        go_wp2
        go_ret
        exact ⟨by rw [HF.out]; rfl, HBX.out⟩
      · have HV3 := kepD hT
        obtain ⟨h1t, h40t⟩ := hT
        have u1 : IntKind.i64.wrap ((m : Int) - 1) = (m : Int) - 1 := IntWalk.i64_in _ (by omega)
        have hm200 : C.length = m := HN.out
        by_cases hm2 : (0 : Int) < (m : Int) - 1
        · skip
          have dm : decide ((0 : Int) < (m : Int) - 1) = true := decide_eq_true hm2
          by_cases hS : Wn s 0 ((m : Int) - 1)
          rotate_left
          · have HV4 := kepD hS
            have HF : Hid (b = false) := bool_no hb.out (fun h => by
              have h3 := h.start
              rw [hm200] at h3
              exact hS ⟨by omega, by omega⟩)
            clear hS hV hm200
            go_enter Try.func50, Try.ntmps50
            go_wp2_with fail
            generalize w.alloc (.cells #[.slice ac m cc, .slice ap m cp, .int .i64 s, .int .i64 t] 25) = wA at hB HC HP HBX ⊢
            obtain ⟨c0, c1, c2, c3⟩ := hB.cells
            refine (s_valid_d _ _ C true HC.out ⟨fun _ => HV1.out, fun _ => rfl⟩).mono ?_
            rintro e w' ⟨rfl, rfl⟩
            go_wp2_with fail
            refine (s_range_d t 1 40 _ true ⟨fun _ => HV3.out, fun _ => rfl⟩).mono ?_
            rintro e w' ⟨rfl, rfl⟩
            go_wp2_with fail
            refine (s_range_d s 0 ((m : Int) - 1) _ false ⟨fun e => (by cases e), fun h => absurd h HV4.out⟩).mono ?_
            rintro e w' ⟨rfl, rfl⟩
            go_wp2
            go_ret
            exact ⟨by rw [HF.out]; rfl, HBX.out⟩
          · have HV4 := kepD hS
            obtain ⟨hS1, hS2⟩ := hS
            have hS : 0 ≤ s ∧ s ≤ ((m : Int) - 1) := ⟨hS1, hS2⟩
            obtain ⟨r, hr⟩ : ∃ r, s.tmod t = r := ⟨_, rfl⟩
            have hr2 : r = s % t := by rw [← hr]; exact Int.tmod_eq_emod_of_nonneg (by omega)
            have hr3 : 0 ≤ r ∧ r < t := by rw [hr2]; exact ⟨Int.emod_nonneg _ (by omega), Int.emod_lt_of_pos _ (by omega)⟩
            have ur : IntKind.i64.wrap r = r := IntWalk.i64_in _ (by omega)
            have t0 : (t == 0) = false := by simp; omega
            have t1 : decide (t = 0) = false := decide_eq_false (by omega)
            have t2 : ¬ t = 0 := by omega
            have t3 : ¬ t = -1 := by omega
            clear hr2
            by_cases hr0 : r = 0
            · have hst : s = 0 ∨ ((1 ≤ s ∧ s ≤ (C.length : Int) - 1) ∧ s.tmod t = 0) := by
                by_cases h : s = 0
                · exact .inl h
                · exact .inr ⟨by rw [hm200]; omega, by rw [hr]; exact hr0⟩
              have HPl : Hid (b = true ↔ PlOk P m) := ⟨fun e => by have := (hb.out.1 e).2.1; rw [hm200] at this; exact this, fun e => hb.out.2 ⟨hV, by rw [hm200]; exact e, ⟨h1t, h40t⟩, hst⟩⟩
              subst hr0
              clear hV hst hm200 hS
              go_enter Try.func50, Try.ntmps50
              go_wp2_with fail
              generalize w.alloc (.cells #[.slice ac m cc, .slice ap m cp, .int .i64 s, .int .i64 t] 25) = wA at hB HC HP HBX ⊢
              obtain ⟨c0, c1, c2, c3⟩ := hB.cells
              refine (s_valid_d _ _ C true HC.out ⟨fun _ => HV1.out, fun _ => rfl⟩).mono ?_
              rintro e w' ⟨rfl, rfl⟩
              go_wp2_with fail
              refine (s_range_d t 1 40 _ true ⟨fun _ => HV3.out, fun _ => rfl⟩).mono ?_
              rintro e w' ⟨rfl, rfl⟩
              go_wp2_with fail
              refine (s_range_d s 0 ((m : Int) - 1) _ true ⟨fun _ => HV4.out, fun _ => rfl⟩).mono ?_
              rintro e w' ⟨rfl, rfl⟩
              have HBk := keptI hB
              have HPk := HP
              clear hB
              go_wp2
              clear c0 c1 c2 c3
              go_loopw [3] (fun i wr => ∃ k : Nat, k ≤ m ∧ i = .int .i64 k ∧ Hid (InTo P 59 k ∧ SortedP P k) ∧ Below wA.heap.size wA wr) (fun i _ => m - (intOf i).toNat)
              case atStart => exact ⟨0, by omega, rfl, ⟨InTo.zero _ _, fun i hi => by omega⟩, Below.refl _ _⟩
              case round =>
                obtain ⟨k, hk, rfl, hS, hbb⟩ := hrel
                have hBr := HBk.out.below hbb HBk.out.lt
                obtain ⟨c0, c1, c2, c3⟩ := hBr.cells
                have HBXr := keptI (below_next HBX.out hbb)
                by_cases hlt : k < m
                · obtain ⟨g, off, rfl, hc⟩ : ∃ g off, ap = some ⟨g, off, none⟩ ∧ ∀ i, i < m → wA.cell? ⟨g, off + i, none⟩ = some (.int .i64 (P.getD i 0)) := by
                    obtain ⟨_, cq, eq, _, _, h⟩ := HP.out
                    injection eq with eq1 _ _
                    rcases h with h | ⟨g, off, e, h⟩
                    · have := HM.out; rw [h] at this; simp at this; omega
                    · exact ⟨g, off, by rw [eq1, e], fun i hi => h i (by rw [HM.out]; exact hi)⟩
                  obtain ⟨y, hy⟩ : ∃ y, P.getD k 0 = y := ⟨_, rfl⟩
                  have c5 := hc k hlt
                  rw [hy] at c5
                  have c5 := (hbb.cell (World.block_lt_of_cell? wA _ c5)).trans c5
                  have HYY := Lib.hid hy
                  have q1 : (k : Int) < (m : Int) := by omega
                  have q0 : (0 : Int) ≤ (k : Int) := by omega
                  obtain ⟨b5, hb5⟩ := boolOfD (0 ≤ y ∧ y ≤ 59)
                  have HR : Hid (∀ nn, Calls Try.prog 57 #[.int .i64 y, .int .i64 0, .int .i64 59] (wr.drewN nn) fun e w' => e = .returned (.bool b5) ∧ w' = wr.drewN nn) := fun nn => (s_range_d y 0 59 _ b5 (Lib.hid hb5)).mono fun _ _ ⟨h, k⟩ => ⟨h, k.symm⟩
                  cases b5 with
                  | false =>
                    have HF : Hid (b = false) := bool_no HPl.out (fun h => by
                      have := h.2.1 k (by rw [HM.out]; exact hlt)
                      rw [HYY.out] at this
                      have := hb5.2 this
                      cases this)
                    clear hb5 hy hc
                    go_wp2_with fail
                    go_quiet (first | (go_at_call 57; with_reducible exact Calls.quiet_of_same (HR.out _)))
                    go_wp2
                    go_ret
                    exact ⟨by rw [HF.out]; rfl, below_drewD HBXr.out _⟩
                  | true =>
                    have hy59 := hb5.1 rfl
                    clear hb5
                    have HI : Hid (InTo P 59 (k + 1)) := hS.out.1.succ (by rw [hy]; exact hy59)
                    by_cases hk0 : k = 0
                    · subst hk0
                      have HS2 : Hid (InTo P 59 1 ∧ SortedP P 1) := ⟨HI.out, fun i hi => by omega⟩
                      have c5 : wr.cell? ⟨g, off, none⟩ = some (.int .i64 y) := c5
                      clear hy hc hS hy59 HI
                      go_wp2_with fail
                      go_quiet (first | (go_at_call 57; with_reducible exact Calls.quiet_of_same (HR.out _)))
                      go_wp2
                      go_roundw
                      case rel => exact ⟨1, by omega, by go_num, HS2, below_drewD hbb _⟩
                      case measure => simp [intOf]; omega
                    · obtain ⟨j, hj⟩ : ∃ j, j + 1 = k := ⟨k - 1, by omega⟩
                      obtain ⟨x, hx⟩ : ∃ x, P.getD j 0 = x := ⟨_, rfl⟩
                      have c6 := hc j (by omega)
                      rw [hx] at c6
                      have c6 := (hbb.cell (World.block_lt_of_cell? wA _ c6)).trans c6
                      have u2 : IntKind.i64.wrap ((k : Int) - 1) = (j : Int) := by rw [show ((k : Int) - 1) = (j : Int) from by omega]; exact IntWalk.i64_in _ (by omega)
                      have q2 : (j : Int) < (m : Int) := by omega
                      have q3 : (0 : Int) ≤ (j : Int) := by omega
                      have q4 : j < m := by omega
                      have q5 : decide ((0 : Int) < (k : Int)) = true := decide_eq_true (by omega)
                      have q6 : decide (0 < k) = true := decide_eq_true (by omega)
                      have q7 : 0 < k := by omega
                      have HXX := Lib.hid hx
                      have HJ := Lib.hid hj
                      clear hx hy hj hc hy59
                      by_cases hyx : y < x
                      · have d1 : decide (y < x) = true := decide_eq_true hyx
                        have HF : Hid (b = false) := bool_no HPl.out (fun h => by
                          have := h.2.2 j (by have := HM.out; have := HJ.out; omega)
                          rw [HJ.out, HXX.out, HYY.out] at this
                          omega)
                        clear hyx
                        go_wp2_with fail
                        go_quiet (first | (go_at_call 57; with_reducible exact Calls.quiet_of_same (HR.out _)))
                        go_wp2
                        go_ret
                        exact ⟨by rw [HF.out]; rfl, below_drewD HBXr.out _⟩
                      · have d1 : decide (y < x) = false := decide_eq_false hyx
                        have HS : Hid (InTo P 59 (k + 1) ∧ SortedP P (k + 1)) := ⟨HI.out, fun i hi => by
                          by_cases hij : i + 1 < k
                          · exact hS.out.2 i hij
                          · have e : i = j := by have := HJ.out; omega
                            subst e
                            rw [HJ.out, HXX.out, HYY.out]
                            omega⟩
                        clear hyx hS HI
                        go_wp2_with fail
                        go_quiet (first | (go_at_call 57; with_reducible exact Calls.quiet_of_same (HR.out _)))
                        go_wp2
                        go_roundw
                        case rel => exact ⟨k + 1, by omega, by go_num, HS, below_drewD hbb _⟩
                        case measure => simp [intOf]; omega
                · obtain rfl : k = m := by omega
                  have HF : Hid (b = true) := HPl.out.2 ⟨HM.out, by rw [HM.out]; exact hS.out.1, by rw [HM.out]; exact hS.out.2⟩
                  clear hS
                  go_wp2
                  go_ret
                  exact ⟨by rw [HF.out]; rfl, HBXr.out⟩
            · have HF : Hid (b = false) := bool_no hb.out (fun h => hr0 (by rw [← hr]; exact h.start.2.2))
              have r0 : (r == 0) = false := by simp [hr0]
              have r1 : decide (r = 0) = false := decide_eq_false hr0
              have r2 : (r != 0) = true := by simp [bne, hr0]
              clear hV hm200 hS
              go_enter Try.func50, Try.ntmps50
              go_wp2_with fail
              generalize w.alloc (.cells #[.slice ac m cc, .slice ap m cp, .int .i64 s, .int .i64 t] 25) = wA at hB HC HP HBX ⊢
              obtain ⟨c0, c1, c2, c3⟩ := hB.cells
              refine (s_valid_d _ _ C true HC.out ⟨fun _ => HV1.out, fun _ => rfl⟩).mono ?_
              rintro e w' ⟨rfl, rfl⟩
              go_wp2_with fail
              refine (s_range_d t 1 40 _ true ⟨fun _ => HV3.out, fun _ => rfl⟩).mono ?_
              rintro e w' ⟨rfl, rfl⟩
              go_wp2_with fail
              refine (s_range_d s 0 ((m : Int) - 1) _ true ⟨fun _ => HV4.out, fun _ => rfl⟩).mono ?_
              rintro e w' ⟨rfl, rfl⟩
              go_wp2
              go_ret
              exact ⟨by rw [HF.out]; rfl, HBX.out⟩
        · skip
          have dm : decide ((0 : Int) < (m : Int) - 1) = false := decide_eq_false hm2
          by_cases hS : Wn s 0 0
          rotate_left
          · have HV4 := kepD hS
            have HF : Hid (b = false) := bool_no hb.out (fun h => by
              have h3 := h.start
              rw [hm200] at h3
              exact hS ⟨by omega, by omega⟩)
            clear hS hV hm200
            go_enter Try.func50, Try.ntmps50
            go_wp2_with fail
            generalize w.alloc (.cells #[.slice ac m cc, .slice ap m cp, .int .i64 s, .int .i64 t] 25) = wA at hB HC HP HBX ⊢
            obtain ⟨c0, c1, c2, c3⟩ := hB.cells
            refine (s_valid_d _ _ C true HC.out ⟨fun _ => HV1.out, fun _ => rfl⟩).mono ?_
            rintro e w' ⟨rfl, rfl⟩
            go_wp2_with fail
            refine (s_range_d t 1 40 _ true ⟨fun _ => HV3.out, fun _ => rfl⟩).mono ?_
            rintro e w' ⟨rfl, rfl⟩
            go_wp2_with fail
            refine (s_range_d s 0 0 _ false ⟨fun e => (by cases e), fun h => absurd h HV4.out⟩).mono ?_
            rintro e w' ⟨rfl, rfl⟩
            go_wp2
            go_ret
            exact ⟨by rw [HF.out]; rfl, HBX.out⟩
          · have HV4 := kepD hS
            obtain ⟨hS1, hS2⟩ := hS
            have hS : 0 ≤ s ∧ s ≤ 0 := ⟨hS1, hS2⟩
            obtain ⟨r, hr⟩ : ∃ r, s.tmod t = r := ⟨_, rfl⟩
            have hr2 : r = s % t := by rw [← hr]; exact Int.tmod_eq_emod_of_nonneg (by omega)
            have hr3 : 0 ≤ r ∧ r < t := by rw [hr2]; exact ⟨Int.emod_nonneg _ (by omega), Int.emod_lt_of_pos _ (by omega)⟩
            have ur : IntKind.i64.wrap r = r := IntWalk.i64_in _ (by omega)
            have t0 : (t == 0) = false := by simp; omega
            have t1 : decide (t = 0) = false := decide_eq_false (by omega)
            have t2 : ¬ t = 0 := by omega
            have t3 : ¬ t = -1 := by omega
            clear hr2
            by_cases hr0 : r = 0
            · have hst : s = 0 ∨ ((1 ≤ s ∧ s ≤ (C.length : Int) - 1) ∧ s.tmod t = 0) := by
                by_cases h : s = 0
                · exact .inl h
                · exact .inr ⟨by rw [hm200]; omega, by rw [hr]; exact hr0⟩
              have HPl : Hid (b = true ↔ PlOk P m) := ⟨fun e => by have := (hb.out.1 e).2.1; rw [hm200] at this; exact this, fun e => hb.out.2 ⟨hV, by rw [hm200]; exact e, ⟨h1t, h40t⟩, hst⟩⟩
              subst hr0
              clear hV hst hm200 hS
              go_enter Try.func50, Try.ntmps50
              go_wp2_with fail
              generalize w.alloc (.cells #[.slice ac m cc, .slice ap m cp, .int .i64 s, .int .i64 t] 25) = wA at hB HC HP HBX ⊢
              obtain ⟨c0, c1, c2, c3⟩ := hB.cells
              refine (s_valid_d _ _ C true HC.out ⟨fun _ => HV1.out, fun _ => rfl⟩).mono ?_
              rintro e w' ⟨rfl, rfl⟩
              go_wp2_with fail
              refine (s_range_d t 1 40 _ true ⟨fun _ => HV3.out, fun _ => rfl⟩).mono ?_
              rintro e w' ⟨rfl, rfl⟩
              go_wp2_with fail
              refine (s_range_d s 0 0 _ true ⟨fun _ => HV4.out, fun _ => rfl⟩).mono ?_
              rintro e w' ⟨rfl, rfl⟩
              have HBk := keptI hB
              have HPk := HP
              clear hB
              go_wp2
              clear c0 c1 c2 c3
              go_loopw [3] (fun i wr => ∃ k : Nat, k ≤ m ∧ i = .int .i64 k ∧ Hid (InTo P 59 k ∧ SortedP P k) ∧ Below wA.heap.size wA wr) (fun i _ => m - (intOf i).toNat)
              case atStart => exact ⟨0, by omega, rfl, ⟨InTo.zero _ _, fun i hi => by omega⟩, Below.refl _ _⟩
              case round =>
                obtain ⟨k, hk, rfl, hS, hbb⟩ := hrel
                have hBr := HBk.out.below hbb HBk.out.lt
                obtain ⟨c0, c1, c2, c3⟩ := hBr.cells
                have HBXr := keptI (below_next HBX.out hbb)
                by_cases hlt : k < m
                · obtain ⟨g, off, rfl, hc⟩ : ∃ g off, ap = some ⟨g, off, none⟩ ∧ ∀ i, i < m → wA.cell? ⟨g, off + i, none⟩ = some (.int .i64 (P.getD i 0)) := by
                    obtain ⟨_, cq, eq, _, _, h⟩ := HP.out
                    injection eq with eq1 _ _
                    rcases h with h | ⟨g, off, e, h⟩
                    · have := HM.out; rw [h] at this; simp at this; omega
                    · exact ⟨g, off, by rw [eq1, e], fun i hi => h i (by rw [HM.out]; exact hi)⟩
                  obtain ⟨y, hy⟩ : ∃ y, P.getD k 0 = y := ⟨_, rfl⟩
                  have c5 := hc k hlt
                  rw [hy] at c5
                  have c5 := (hbb.cell (World.block_lt_of_cell? wA _ c5)).trans c5
                  have HYY := Lib.hid hy
                  have q1 : (k : Int) < (m : Int) := by omega
                  have q0 : (0 : Int) ≤ (k : Int) := by omega
                  obtain ⟨b5, hb5⟩ := boolOfD (0 ≤ y ∧ y ≤ 59)
                  have HR : Hid (∀ nn, Calls Try.prog 57 #[.int .i64 y, .int .i64 0, .int .i64 59] (wr.drewN nn) fun e w' => e = .returned (.bool b5) ∧ w' = wr.drewN nn) := fun nn => (s_range_d y 0 59 _ b5 (Lib.hid hb5)).mono fun _ _ ⟨h, k⟩ => ⟨h, k.symm⟩
                  cases b5 with
                  | false =>
                    have HF : Hid (b = false) := bool_no HPl.out (fun h => by
                      have := h.2.1 k (by rw [HM.out]; exact hlt)
                      rw [HYY.out] at this
                      have := hb5.2 this
                      cases this)
                    clear hb5 hy hc
                    go_wp2_with fail
                    go_quiet (first | (go_at_call 57; with_reducible exact Calls.quiet_of_same (HR.out _)))
                    go_wp2
                    go_ret
                    exact ⟨by rw [HF.out]; rfl, below_drewD HBXr.out _⟩
                  | true =>
                    have hy59 := hb5.1 rfl
                    clear hb5
                    have HI : Hid (InTo P 59 (k + 1)) := hS.out.1.succ (by rw [hy]; exact hy59)
                    by_cases hk0 : k = 0
                    · subst hk0
                      have HS2 : Hid (InTo P 59 1 ∧ SortedP P 1) := ⟨HI.out, fun i hi => by omega⟩
                      have c5 : wr.cell? ⟨g, off, none⟩ = some (.int .i64 y) := c5
                      clear hy hc hS hy59 HI
                      go_wp2_with fail
                      go_quiet (first | (go_at_call 57; with_reducible exact Calls.quiet_of_same (HR.out _)))
                      go_wp2
                      go_roundw
                      case rel => exact ⟨1, by omega, by go_num, HS2, below_drewD hbb _⟩
                      case measure => simp [intOf]; omega
                    · omega
                · obtain rfl : k = m := by omega
                  have HF : Hid (b = true) := HPl.out.2 ⟨HM.out, by rw [HM.out]; exact hS.out.1, by rw [HM.out]; exact hS.out.2⟩
                  clear hS
                  go_wp2
                  go_ret
                  exact ⟨by rw [HF.out]; rfl, HBXr.out⟩
            · have HF : Hid (b = false) := bool_no hb.out (fun h => hr0 (by rw [← hr]; exact h.start.2.2))
              have r0 : (r == 0) = false := by simp [hr0]
              have r1 : decide (r = 0) = false := decide_eq_false hr0
              have r2 : (r != 0) = true := by simp [bne, hr0]
              clear hV hm200 hS
              go_enter Try.func50, Try.ntmps50
              go_wp2_with fail
              generalize w.alloc (.cells #[.slice ac m cc, .slice ap m cp, .int .i64 s, .int .i64 t] 25) = wA at hB HC HP HBX ⊢
              obtain ⟨c0, c1, c2, c3⟩ := hB.cells
              refine (s_valid_d _ _ C true HC.out ⟨fun _ => HV1.out, fun _ => rfl⟩).mono ?_
              rintro e w' ⟨rfl, rfl⟩
              go_wp2_with fail
              refine (s_range_d t 1 40 _ true ⟨fun _ => HV3.out, fun _ => rfl⟩).mono ?_
              rintro e w' ⟨rfl, rfl⟩
              go_wp2_with fail
              refine (s_range_d s 0 0 _ true ⟨fun _ => HV4.out, fun _ => rfl⟩).mono ?_
              rintro e w' ⟨rfl, rfl⟩
              go_wp2
              go_ret
              exact ⟨by rw [HF.out]; rfl, HBX.out⟩
    · have HF : Hid (b = false) := bool_no hb.out (fun h => hnm (by have := h.2.1.1; rw [HN.out, HM.out] at this; exact this))
      have d1 : ((m : Int) == (n : Int)) = false := by simp; omega
      have d2 : ((m : Int) != (n : Int)) = true := by simp [bne]; omega
      have d3 : decide (m = n) = false := decide_eq_false hnm
      have d4 : (m == n) = false := by simp [hnm]
      have d5 : (m != n) = true := by simp [bne, hnm]
      clear hV hnm
      go_enter Try.func50, Try.ntmps50
      go_wp2_with fail
      generalize w.alloc (.cells #[.slice ac n cc, .slice ap m cp, .int .i64 s, .int .i64 t] 25) = wA at hB HC HP HBX ⊢
      obtain ⟨c0, c1, c2, c3⟩ := hB.cells
      refine (s_valid_d _ _ C true HC.out ⟨fun _ => HV1.out, fun _ => rfl⟩).mono ?_
      rintro e w' ⟨rfl, rfl⟩
      go_wp2
      go_ret
      exact ⟨by rw [HF.out]; rfl, HBX.out⟩
set_option maxHeartbeats 1000000 in
theorem s_ValidDisplay (w : World) (c p : Value) (s t : Int) (C P : List Int) (b : Bool) (hC : IntsAt w c C) (hP : IntsAt w p P) (hs : -9223372036854775808 ≤ s ∧ s ≤ 9223372036854775807) (ht : -9223372036854775808 ≤ t ∧ t ≤ 9223372036854775807) (hb : Hid (b = true ↔ VDp C P s t)) :
    Calls Try.prog 18 #[dspV c p s t] w fun e w' => e = .returned (.bool b) ∧ Below w.heap.size w w' := by
  obtain ⟨ac, n, cc, rfl, hn, xc1, xc2, _⟩ := hC.partsI
  obtain ⟨ap, m, cp, rfl, hm, xp1, xp2, _⟩ := hP.partsI
  obtain ⟨hB, hbx⟩ := dbox w (.slice ac n cc) (.slice ap m cp) s t
  have HC := keptI (hC.below hbx)
  have HP := keptI (hP.below hbx)
  have HBX := keptI hbx
  clear hC hP hbx
  go_enter Try.func18, Try.ntmps18
  go_wp2_with fail
  refine (s_validDisplay _ _ _ s t C P b HC.out HP.out hs ht hb).mono ?_
  rintro e w2 ⟨rfl, hb2⟩
  go_wp2
  go_ret
  exact ⟨rfl, below_next HBX.out hb2⟩
end Go.Proofs.Ytfgnckafpnobhaa
