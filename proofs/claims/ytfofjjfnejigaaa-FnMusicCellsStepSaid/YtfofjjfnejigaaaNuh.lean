
/- The law that steps need no marks. -/
import Derived.Test.YtfofjjfnejigaaaNuf
namespace Go.Proofs.Ytfofjjfnejigaaa
open Go.RowKit

theorem mus_first {P : List PNote} {p v : Int} (h : P.getD 0 noN = ⟨p, v⟩) (hp : 0 ≤ p) : ∀ k, ∃ R, musTo P (k + 1) = octL.getD (p / 7).toNat 0 :: noteC ⟨p, v⟩ :: R := by
  intro k
  induction k with
  | zero =>
    refine ⟨[], ?_⟩
    simp only [musTo, lastP, h, musC]
    rw [if_neg (show ¬ (p = -1) by omega), markC, if_pos (.inl (by omega))]
    rfl
  | succ k ih =>
    obtain ⟨R, hR⟩ := ih
    refine ⟨R ++ musC (lastP P (k + 1)) (P.getD (k + 1) noN), ?_⟩
    show musTo P (k + 1) ++ _ = _
    rw [hR]; rfl
theorem mus_two {p v : Int} (hp : 0 ≤ p) (h47 : p ≤ 47) (h0 : 0 ≤ v) (h3 : v ≤ 3) : MusIs [⟨p, v⟩, ⟨p + 1, v⟩] [octL.getD (p / 7).toNat 0, noteC ⟨p, v⟩, noteC ⟨p + 1, v⟩] := by
  refine .inl ⟨⟨by simp, fun i hi => ?_⟩, ?_⟩
  · have : i = 0 ∨ i = 1 := by simp at hi; omega
    rcases this with rfl | rfl
    · exact ⟨by show -1 ≤ p; omega, by show p ≤ 48; omega, h0, h3⟩
    · exact ⟨by show -1 ≤ p + 1; omega, by show p + 1 ≤ 48; omega, h0, h3⟩
  · have e1 : ([⟨p, v⟩, ⟨p + 1, v⟩] : List PNote).getD 0 noN = ⟨p, v⟩ := rfl
    have e2 : ([⟨p, v⟩, ⟨p + 1, v⟩] : List PNote).getD 1 noN = ⟨p + 1, v⟩ := rfl
    show _ = musTo _ 2
    simp only [musTo, lastP, e1, e2, musC]
    rw [if_neg (show ¬ (p = -1) by omega), if_neg (show ¬ (p = -1) by omega), if_neg (show ¬ (p + 1 = -1) by omega), markC, if_pos (.inl (by omega)), markC, if_neg (by unfold NeedM; omega)]
    rfl
theorem two_notes (w : World) (p v q u : Int) : NotesAt (w.alloc (.cells #[.int .i64 p, .int .i64 v, .int .i64 q, .int .i64 u] 35)) (.slice (some ⟨w.heap.size, 0, none⟩) 2 2) [⟨p, v⟩, ⟨q, u⟩] := by
  refine ⟨_, 2, rfl, by simp, by omega, .inr ⟨w.heap.size, 0, rfl, fun i hi => ?_⟩⟩
  have : i = 0 ∨ i = 1 := by simp at hi; omega
  rcases this with rfl | rfl
  · exact ⟨by rw [cell_of_row _ w.heap.size _ _ _ _ (heap_alloc_new w _)]; rfl, by rw [cell_of_row _ w.heap.size _ _ _ _ (heap_alloc_new w _)]; rfl⟩
  · exact ⟨by rw [cell_of_row _ w.heap.size _ _ _ _ (heap_alloc_new w _)]; rfl, by rw [cell_of_row _ w.heap.size _ _ _ _ (heap_alloc_new w _)]; rfl⟩
set_option maxHeartbeats 2000000 in
theorem musicStep_walk (a : Option Addr) (len cap : Nat) (zs : List Int) (w : World) (h : RowIn .u8 w a len cap zs) :
    Calls Try.prog 5 #[.slice a len cap] w fun e w' => e = .returned (.bool true) ∧ Below w.heap.size w w' := by
  have hlen : len ≤ 9223372036854775807 := by
    obtain ⟨_, h2, h3⟩ := bytesAt_of_row h; unfold maxLen at h3; omega
  by_cases hbig : len ≤ 1048576
  · go_enter Try.func5, Try.ntmps5
    go_wp2_with fail
    refine (drawMusicCells_any w a len cap zs h).mono ?_
    rintro e w1 ⟨a1, n1, c1, P, rfl, hx, hl, hb1⟩
    clear h
    obtain ⟨L, hr⟩ := musIs_ex P
    have HR := keptN hr
    have HX := keptN hx
    clear hx
    go_wp2_with fail
    refine (i_MusicCells w1 _ P L HX.out HR).mono ?_
    rintro e w2 ⟨a2, n2, c2, rfl, hO2, hb2⟩
    have hB2 := below_next hb1 hb2
    have HI2 := keptN hO2.at
    have HX2 := keptN (HX.out.below hb2)
    clear hO2 hb1 hb2 HX
    go_wp2_with fail
    refine (s_MusicCells w2 _ P L HX2.out HR).mono ?_
    rintro e w3 ⟨a3, n3, c3, rfl, hO3, hb3⟩
    have hB3 := below_next hB2 hb3
    have HI3 := keptN hO3.at
    have HI23 := keptN (HI2.out.below hb3)
    have HX3 := keptN (HX2.out.below hb3)
    clear hO3 hb3 hB2 HI2 HX2
    go_wp2_with fail
    refine (equalInts_u w3 _ _ L HI23.out HI3.out).mono ?_
    rintro e w4 ⟨rfl, hb4⟩
    have hB4 := below_next hB3 hb4
    have HI4 := keptN (HI23.out.below hb4)
    have HX4 := keptN (HX3.out.below hb4)
    have hn2 := HI4.out.lenU
    have hn1 := HX4.out.len
    have HN1 := Lib.hid hn1
    have HN2 := Lib.hid hn2
    clear hB3 hb4 HI23 HX3 HI3
    by_cases h0 : n2 = 0
    · subst h0
      clear hn2 hn1
      go_wp2_with fail
      refine (s_MusicCells w4 _ P L HX4.out HR).mono ?_
      rintro e w5 ⟨a5, n5, c5, rfl, hO5, hb5⟩
      have hB5 := below_next hB4 hb5
      have HI5 := keptN hO5.at
      have HI45 := keptN (HI4.out.below hb5)
      clear hO5 hb5 hB4
      go_wp2_with fail
      refine (equalInts_u w5 _ _ L HI45.out HI5.out).mono ?_
      rintro e w6 ⟨rfl, hb6⟩
      have hB6 := below_next hB5 hb6
      go_wp2
      go_ret
      exact ⟨rfl, hB6⟩
    · have d0 : ((n2 : Int) == 0) = false := by simp; omega
      obtain ⟨hP, hL⟩ : NtsOk P ∧ L = musTo P P.length := by
        rcases hr with ⟨h, k⟩ | ⟨_, h⟩
        · exact ⟨h, k⟩
        · rw [h] at hn2; simp at hn2; omega
      have hn0 : 0 < n1 := by
        rcases Nat.eq_zero_or_pos n1 with h | h
        · rw [hL, hn1, h] at hn2; simp [musTo] at hn2; omega
        · exact h
      obtain ⟨g1, o1, c1', hv, e0, e1⟩ := HX4.out.nth (k := 0) (by omega)
      injection hv with v1 v9 v2
      subst v1 v2
      clear v9
      have hok := hP.2 0 (by omega)
      obtain ⟨x, hxx⟩ : ∃ x, P.getD 0 noN = x := ⟨_, rfl⟩
      rw [hxx] at e0 e1 hok
      obtain ⟨p, v⟩ := x
      obtain ⟨q1, q2, q3, q4⟩ := hok
      simp only at e0 e1 q1 q2 q3 q4
      rw [Nat.zero_mul, Nat.add_zero] at e0 e1
      have b0 : (0 : Int) < (n1 : Int) := by omega
      have same : ∀ (wz : World), True := fun _ => trivial
      clear same
      by_cases hp : p < 0
      · have d1 : decide (p < 0) = true := decide_eq_true hp
        clear hn2 hn1 hr hxx hL hP
        go_wp2_with fail
        refine (s_MusicCells w4 _ P L HX4.out HR).mono ?_
        rintro e w5 ⟨a5, n5, c5, rfl, hO5, hb5⟩
        have hB5 := below_next hB4 hb5
        have HI5 := keptN hO5.at
        have HI45 := keptN (HI4.out.below hb5)
        clear hO5 hb5 hB4
        go_wp2_with fail
        refine (equalInts_u w5 _ _ L HI45.out HI5.out).mono ?_
        rintro e w6 ⟨rfl, hb6⟩
        have hB6 := below_next hB5 hb6
        go_wp2
        go_ret
        exact ⟨rfl, hB6⟩
      · have d1 : decide (p < 0) = false := decide_eq_false hp
        by_cases hp48 : p = 48
        · subst hp48
          clear hn2 hn1 hr hxx hL hP
          go_wp2_with fail
          refine (s_MusicCells w4 _ P L HX4.out HR).mono ?_
          rintro e w5 ⟨a5, n5, c5, rfl, hO5, hb5⟩
          have hB5 := below_next hB4 hb5
          have HI5 := keptN hO5.at
          have HI45 := keptN (HI4.out.below hb5)
          clear hO5 hb5 hB4
          go_wp2_with fail
          refine (equalInts_u w5 _ _ L HI45.out HI5.out).mono ?_
          rintro e w6 ⟨rfl, hb6⟩
          have hB6 := below_next hB5 hb6
          go_wp2
          go_ret
          exact ⟨rfl, hB6⟩
        · have d2 : (p == 48) = false := by simpa using hp48
          have HM2 := keptN (mus_two (p := p) (v := v) (by omega) (by omega) q3 q4)
          obtain ⟨R, hR⟩ := mus_first hxx (by omega) (n1 - 1)
          rw [show n1 - 1 + 1 = n1 from by omega] at hR
          rw [hn1] at hL
          rw [hR] at hL
          have hoc := octL_mem (k := p / 7) (by omega) (by omega)
          obtain ⟨oc, hocc⟩ : ∃ oc, octL.getD (p / 7).toNat 0 = oc := ⟨_, rfl⟩
          obtain ⟨nc, hncc⟩ : ∃ nc, noteC ⟨p, v⟩ = nc := ⟨_, rfl⟩
          obtain ⟨nd, hndd⟩ : ∃ nd, noteC ⟨p + 1, v⟩ = nd := ⟨_, rfl⟩
          rw [hocc, hncc] at hL
          rw [hocc] at hoc
          rw [hocc, hncc, hndd] at HM2
          have H1 : Hid (decide (oc ∈ octL) = true) := decide_eq_true hoc
          have hn22 : 2 ≤ n2 := by rw [← hn2, hL]; simp
          obtain ⟨lL, g2, o2, rfl, f0⟩ := HI4.out.nthU (k := 0) (by omega)
          obtain ⟨_, g2', o2', e2', f1⟩ := HI4.out.nthU (k := 1) (by omega)
          injection e2' with e2'
          injection e2' with e5 e6 _
          subst e5 e6
          rw [hL] at f0 f1
          rw [Nat.add_zero] at f0
          simp only [List.getD_cons_zero, List.getD_cons_succ] at f0 f1
          have us : IntKind.i64.wrap (p + 1) = p + 1 := IntWalk.i64_in _ (by omega)
          have b2 : (0 : Int) < (n2 : Int) := by omega
          have b3 : (1 : Int) < (n2 : Int) := by omega
          have b2n : 0 < n2 := by omega
          have b3n : 1 < n2 := by omega
          have hl1 := World.block_lt_of_cell? w4 _ e0
          have hl2 := World.block_lt_of_cell? w4 _ f0
          have HF := keptN (And.intro (And.intro e0 e1) (And.intro f0 f1))
          have HK : Hid (∀ wy : World, Below w4.heap.size w4 wy → (wy.cell? ⟨g1, o1, none⟩ = some (.int .i64 p) ∧ wy.cell? ⟨g1, o1 + 1, none⟩ = some (.int .i64 v)) ∧ (wy.cell? ⟨g2, o2, none⟩ = some (.int .i64 oc) ∧ wy.cell? ⟨g2, o2 + 1, none⟩ = some (.int .i64 nc))) := fun wy h => by
            obtain ⟨⟨x0, x1⟩, y0, y1⟩ := HF.out
            exact ⟨⟨(h.cell (World.block_lt_of_cell? _ _ x0)).trans x0, (h.cell (World.block_lt_of_cell? _ _ x1)).trans x1⟩, (h.cell (World.block_lt_of_cell? _ _ y0)).trans y0, (h.cell (World.block_lt_of_cell? _ _ y1)).trans y1⟩
          clear hn2 hn1 hr hxx hL hP hR hocc hncc hndd hoc lL f0 f1 hl1 hl2 HF hp hp48 HI4 HX4 hn22 h0 hl
          go_wp2_with fail
          go_region_held3 (fun wy => wy.cell? ⟨g1, o1, none⟩ = some (.int .i64 p) ∧ wy.cell? ⟨g1, o1 + 1, none⟩ = some (.int .i64 v)) (first | assumption | exact (HK.out _ (Below.refl _ _)).1 | exact (HK.out _ (Below.refl _ _).drew).1 | exact (HK.out _ ((Below.refl _ _).alloc (Nat.le_refl _) _).drew).1 | exact (HK.out _ B5).1) (first | (go_at_call 10; (refine (i_MusicCells _ _ [⟨p, v⟩, ⟨p + 1, v⟩] [oc, nc, nd] ((two_notes w4 p v (p + 1) v).below (Below.refl _ _).drew) HM2).mono ?_); rintro e w5 ⟨a5, n5, c5, rfl, hO5, hb5⟩; have B5 : Below w4.heap.size w4 w5 := (((Below.refl _ _).alloc (Nat.le_refl _) _).drew).trans (hb5.mono (by show _ ≤ (w4.alloc _).heap.size; rw [World.size_alloc]; omega))))
          all_goals
            have hI5 := hO5.at
            have hl5 := hI5.lenU
            have hl5' : n5 = 3 := hl5.symm
            subst hl5'
            obtain ⟨_, g5, o5, rfl, h0⟩ := hI5.nthU (k := 0) (by omega)
            obtain ⟨_, g5', o5', e5', h1⟩ := hI5.nthU (k := 1) (by omega)
            injection e5' with e5'
            injection e5' with e5 e6 _
            subst e5 e6
            simp only [List.getD_cons_zero, List.getD_cons_succ, Nat.add_zero] at h0 h1
            have hf := (HK.out w5 B5).2
            have HF5 := keptN (And.intro (And.intro h0 h1) hf)
            have HK5 : Hid (∀ wy : World, Below w5.heap.size w5 wy → wy.cell? ⟨g5, o5, none⟩ = some (.int .i64 oc) ∧ wy.cell? ⟨g5, o5 + 1, none⟩ = some (.int .i64 nc) ∧ wy.cell? ⟨g2, o2, none⟩ = some (.int .i64 oc) ∧ wy.cell? ⟨g2, o2 + 1, none⟩ = some (.int .i64 nc)) := fun wy h => by
              obtain ⟨⟨x0, x1⟩, y0, y1⟩ := HF5.out
              exact ⟨(h.cell (World.block_lt_of_cell? _ _ x0)).trans x0, (h.cell (World.block_lt_of_cell? _ _ x1)).trans x1, (h.cell (World.block_lt_of_cell? _ _ y0)).trans y0, (h.cell (World.block_lt_of_cell? _ _ y1)).trans y1⟩
            have HB5 := keptN (hB4.trans (B5.mono hB4.size))
            clear hO5 hb5 hI5 hl5 h0 h1 hf HF5 B5 e0 e1 HM2 HK hB4
            go_wp2_with fail
            go_region_held3 (fun wy => wy.cell? ⟨g5, o5, none⟩ = some (.int .i64 oc) ∧ wy.cell? ⟨g5, o5 + 1, none⟩ = some (.int .i64 nc) ∧ wy.cell? ⟨g2, o2, none⟩ = some (.int .i64 oc) ∧ wy.cell? ⟨g2, o2 + 1, none⟩ = some (.int .i64 nc)) (first | assumption | exact HK5.out _ (Below.refl _ _) | exact HK5.out _ (Below.refl _ _).drew | exact HK5.out _ ((Below.refl _ _).alloc (Nat.le_refl _) _).drew) (first | (go_at_call 16; (refine (isIn_o _ _ oc true ((lit_ints w5 octL 7 rfl (by omega)).below (Below.refl _ _).drew) H1).mono ?_); rintro e w6 ⟨rfl, rfl⟩))
            all_goals
              go_wp2
              go_ret
              exact ⟨rfl, (HB5.out.alloc HB5.out.size _).drew⟩
  · go_enter Try.func5, Try.ntmps5
    go_wp2
    go_ret
    exact ⟨rfl, Below.refl _ _⟩
end Go.Proofs.Ytfofjjfnejigaaa
