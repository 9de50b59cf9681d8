
/- The law that octaves change marks alone. -/
import Derived.Test.YtfofjjfnejigaaaNuf
import Derived.BigRegion
namespace Go.Proofs.Ytfofjjfnejigaaa
open Go.RowKit

set_option maxHeartbeats 2000000 in
theorem musicOctave_walk (a : Option Addr) (len cap : Nat) (zs : List Int) (w : World) (h : RowIn .u8 w a len cap zs) :
    Calls Try.prog 4 #[.slice a len cap] w fun e w' => e = .returned (.bool true) ∧ Below w.heap.size w w' := by
  have hlen : len ≤ 9223372036854775807 := by
    obtain ⟨_, h2, h3⟩ := bytesAt_of_row h; unfold maxLen at h3; omega
  by_cases hbig : len ≤ 1048576
  · go_enter Try.func4, Try.ntmps4
    go_wp2_with fail
    refine (drawMusicCells_any w a len cap zs h).mono ?_
    rintro e w1 ⟨a1, n1, c1, P, rfl, hx, hl, hb1⟩
    clear h
    obtain ⟨L, hr⟩ := musIs_ex P
    have HR := keptN hr
    have HX := keptN hx
    clear hx
    go_wp2_with fail
    refine (i_MusicCells w1 _ P L HX.out HR).mono ?_
    rintro e w2 ⟨a2, n2, c2, rfl, hO2, hb2⟩
    have hB2 := below_next hb1 hb2
    have HI2 := keptN hO2.at
    have HX2 := keptN (HX.out.below hb2)
    clear hO2 hb1 hb2 HX
    go_wp2_with fail
    refine (s_MusicCells w2 _ P L HX2.out HR).mono ?_
    rintro e w3 ⟨a3, n3, c3, rfl, hO3, hb3⟩
    have hB3 := below_next hB2 hb3
    have HI3 := keptN hO3.at
    have HI23 := keptN (HI2.out.below hb3)
    have HX3 := keptN (HX2.out.below hb3)
    clear hO3 hb3 hB2 HI2 HX2
    go_wp2_with fail
    refine (equalInts_u w3 _ _ L HI23.out HI3.out).mono ?_
    rintro e w4 ⟨rfl, hb4⟩
    have hB4 := below_next hB3 hb4
    have HI4 := keptN (HI23.out.below hb4)
    have HX4 := keptN (HX3.out.below hb4)
    have hn2 := HI4.out.lenU
    have HN2 := Lib.hid hn2
    clear hB3 hb4 HI23 HX3 HI3 hn2
    by_cases h0 : n2 = 0
    · subst h0
      go_wp2_with fail
      refine (s_MusicCells w4 _ P L HX4.out HR).mono ?_
      rintro e w5 ⟨a5, n5, c5, rfl, hO5, hb5⟩
      have hB5 := below_next hB4 hb5
      have HI5 := keptN hO5.at
      have HI45 := keptN (HI4.out.below hb5)
      clear hO5 hb5 hB4
      go_wp2_with fail
      refine (equalInts_u w5 _ _ L HI45.out HI5.out).mono ?_
      rintro e w6 ⟨rfl, hb6⟩
      have hB6 := below_next hB5 hb6
      go_wp2
      go_ret
      exact ⟨rfl, hB6⟩
    · have d0 : ((n2 : Int) == 0) = false := by simp; omega
      obtain ⟨Q, fine, hq⟩ := transIs_ex P 7
      have HQ := keptN hq
      go_wp2_with fail
      refine (i_Transpose w4 _ P 7 Q fine HX4.out HQ).mono ?_
      rintro e w5 ⟨a5, n5, c5, rfl, hO5, hb5⟩
      have hB5 := below_next hB4 hb5
      have HQ5 := keptN hO5.at
      have HI5 := keptN (HI4.out.below hb5)
      clear hO5 hb5 hB4 HI4 HX4
      cases fine with
      | false =>
        clear hq
        go_wp2
        go_ret
        exact ⟨rfl, hB5⟩
      | true =>
        obtain ⟨q1, q2, q3⟩ := mus_up hq
        have hP : NtsOk P := by
          rcases hq with ⟨_, h, _⟩ | ⟨h, _⟩
          · exact h.1
          · simp at h
        have hL : L = musTo P P.length := by
          rcases hr with ⟨_, h⟩ | ⟨h, _⟩
          · exact h
          · exact absurd hP h
        have hM := (q3 P.length (Nat.le_refl _)).1
        rw [← hL] at hM
        have hMI : MusIs Q (musTo Q P.length) := .inl ⟨q2, by rw [q1]⟩
        obtain ⟨M, hMM⟩ : ∃ M, musTo Q P.length = M := ⟨_, rfl⟩
        rw [hMM] at hM hMI
        have HMI := keptN hMI
        have HM := keptN hM
        have hll := hr.len
        have hn80 : n2 ≤ 80 := by have := HN2.out; omega
        have HMN : Hid (M.length = n2) := by show _ = _; rw [hM.1]; exact HN2.out
        clear hq q1 q2 q3 hP hL hM hMM hMI hr hll
        go_wp2_with fail
        refine (i_MusicCells w5 _ Q M HQ5.out HMI).mono ?_
        rintro e w6 ⟨a6, n6, c6, rfl, hO6, hb6⟩
        have hB6 := below_next hB5 hb6
        have hI6 := hO6.at
        have hn6 := hI6.lenU
        rw [HMN.out] at hn6
        subst hn6
        have HI6 := keptN (hI6.below ((Below.refl _ _).alloc (Nat.le_refl _) (.cells #[.int .i64 8, .int .i64 24, .int .i64 56, .int .i64 16, .int .i64 40, .int .i64 48, .int .i64 32] 3)))
        have HI56 := keptN ((HI5.out.below hb6).below ((Below.refl _ _).alloc (Nat.le_refl _) (.cells #[.int .i64 8, .int .i64 24, .int .i64 56, .int .i64 16, .int .i64 40, .int .i64 48, .int .i64 32] 3)))
        have HB7 := keptN (hB6.alloc hB6.size (.cells #[.int .i64 8, .int .i64 24, .int .i64 56, .int .i64 16, .int .i64 40, .int .i64 48, .int .i64 32] 3))
        have HO7 := keptN (lit_ints w6 octL 7 rfl (by omega))
        clear hO6 hb6 hB5 hI6 HI5 HQ5 hB6
        go_wp2_with fail
        go_loopw [9] (fun i wr => ∃ k : Nat, k ≤ n2 ∧ i = .int .i64 k ∧ Below (w6.heap.size + 1) (w6.alloc (.cells #[.int .i64 8, .int .i64 24, .int .i64 56, .int .i64 16, .int .i64 40, .int .i64 48, .int .i64 32] 3)) wr) (fun i _ => n2 - (intOf i).toNat)
        case atStart => exact ⟨0, Nat.zero_le _, rfl, by have := Below.refl (w6.heap.size + 1) (w6.alloc (.cells #[.int .i64 8, .int .i64 24, .int .i64 56, .int .i64 16, .int .i64 40, .int .i64 48, .int .i64 32] 3)); exact this⟩
        case round =>
          obtain ⟨k, hk, rfl, hbr0⟩ := hrel
          have hbr : Below (w6.alloc (.cells #[.int .i64 8, .int .i64 24, .int .i64 56, .int .i64 16, .int .i64 40, .int .i64 48, .int .i64 32] 3)).heap.size (w6.alloc (.cells #[.int .i64 8, .int .i64 24, .int .i64 56, .int .i64 16, .int .i64 40, .int .i64 48, .int .i64 32] 3)) wr := by rw [World.size_alloc]; exact hbr0
          have HBR0 := keptN hbr0
          have HBR := keptN hbr
          clear hbr0 hbr
          by_cases hlt : k < n2
          · obtain ⟨l6, g6, o6, rfl, e6⟩ := (HI6.out.below HBR.out).nthU hlt
            obtain ⟨l2, g2, o2, rfl, e2⟩ := (HI56.out.below HBR.out).nthU hlt
            have HOC := keptN (HO7.out.below HBR.out)
            have hrel := HM.out.2 k (by rw [HMN.out]; exact hlt)
            obtain ⟨x, hx⟩ : ∃ x, M.getD k 0 = x := ⟨_, rfl⟩
            obtain ⟨y, hy⟩ : ∃ y, L.getD k 0 = y := ⟨_, rfl⟩
            rw [hx] at e6 hrel
            rw [hy] at e2 hrel
            have b1 : (0 : Int) ≤ (k : Int) := by omega
            have b2 : (k : Int) < (n2 : Int) := by omega
            have b3 : decide ((n2 : Int) ≤ (k : Int)) = false := decide_eq_false (by omega)
            have b4 : decide (n2 ≤ k) = false := decide_eq_false (by omega)
            clear hx hy l6 l2
            by_cases hxy : x = y
            · subst hxy
              clear hrel HM HMN HN2 HI6 HI56 HB7 HO7 HOC HR HMI HQ HBR
              go_wp2_with fail
              go_quiet (fail)
              go_wp2
              go_roundw
              case rel => exact ⟨k + 1, by omega, by go_num, below_drewN HBR0.out _⟩
              case measure => simp [intOf]; omega
            · rcases hrel with h | ⟨h1, h2⟩
              · exact absurd h hxy
              · have H1 : Hid (decide (x ∈ octL) = true) := decide_eq_true h1
                have H2 : Hid (decide (y ∈ octL) = true) := decide_eq_true h2
                have dxy : (x != y) = true := by simpa using hxy
                clear h1 h2 hxy
                have HL1 : Hid (∀ n, Calls Try.prog 16 #[.slice (some ⟨w6.heap.size, 0, none⟩) 7 7, .int .i64 x] (wr.drewN n) fun e w' => e = .returned (.bool true) ∧ w' = wr.drewN n) := fun n => (isIn_o _ _ x true (HOC.out.drewN n) H1).mono fun _ _ ⟨h, k⟩ => ⟨h, k.symm⟩
                have HL2 : Hid (∀ n, Calls Try.prog 16 #[.slice (some ⟨w6.heap.size, 0, none⟩) 7 7, .int .i64 y] (wr.drewN n) fun e w' => e = .returned (.bool true) ∧ w' = wr.drewN n) := fun n => (isIn_o _ _ y true (HOC.out.drewN n) H2).mono fun _ _ ⟨h, k⟩ => ⟨h, k.symm⟩
                clear HM HMN HN2 HI6 HI56 HB7 HO7 HR HMI HQ HBR HOC H1 H2
                go_wp2_with fail
                go_quiet (first | (go_at_call 16; with_reducible exact Calls.quiet_of_same (HL1.out _)) | (go_at_call 16; with_reducible exact Calls.quiet_of_same (HL2.out _)))
                go_wp2
                go_roundw
                case rel => exact ⟨k + 1, by omega, by go_num, below_drewN HBR0.out _⟩
                case measure => simp [intOf]; omega
          · obtain rfl : k = n2 := by omega
            go_wp2
            go_ret
            exact ⟨rfl, HB7.out.trans (HBR0.out.mono (by have := HB7.out.size; rw [World.size_alloc] at this; exact this))⟩
  · go_enter Try.func4, Try.ntmps4
    go_wp2
    go_ret
    exact ⟨rfl, Below.refl _ _⟩
end Go.Proofs.Ytfofjjfnejigaaa
