
/- The rules that apply to a word at a place, in the model. -/
import Derived.Test.YtohgglhjcklbaaaTbI
namespace Go.Proofs.Ytohgglhjcklbaaa
open Go.RowKit

theorem s_validWord (s : ByteArray) (w : World) (hs : s.size ≤ 9223372036854775807) :
    Calls Try.prog 62 #[.string s] w fun e w' => e = .returned (.bool (decide (WordB 16 s.data.toList))) ∧ w = w' := by
  have hl := wd_size s
  obtain ⟨b, hb⟩ : ∃ b, decide (SmallB s.data.toList) = b := ⟨_, rfl⟩
  have HW : Hid (∀ wx, Calls Try.prog 89 #[.string s] wx fun e w' => e = .returned (.bool b) ∧ wx = w') := fun wx => by
    have := s_isWord s wx hs
    rw [hb] at this
    exact this
  have HV : Hid (WordB 16 s.data.toList ↔ b = true ∧ s.size ≤ 16) := by
    rw [← hb]
    exact ⟨fun h => ⟨decide_eq_true ⟨h.1, h.2.2⟩, by have := h.2.1; omega⟩, fun h => by
      have h1 : SmallB s.data.toList := of_decide_eq_true h.1
      exact ⟨h1.1, by omega, h1.2⟩⟩
  clear hb hl
  cases b with
  | false =>
    have HO : Hid (¬ WordB 16 s.data.toList) := fun h => absurd (HV.out.1 h).1 (by simp)
    go_enter Try.func62, Try.ntmps62
    go_wp2_with fail
    refine (HW.out _).mono ?_
    rintro e w' ⟨rfl, rfl⟩
    go_wp2
    go_ret
    exact ⟨ret_bool (decide_eq_false HO.out).symm, rfl⟩
  | true =>
    by_cases c : s.size ≤ 16
    · have HO : Hid (WordB 16 s.data.toList) := HV.out.2 ⟨rfl, c⟩
      have d1 : decide ((s.size : Int) ≤ 16) = true := decide_eq_true (by omega)
      go_enter Try.func62, Try.ntmps62
      go_wp2_with fail
      refine (HW.out _).mono ?_
      rintro e w' ⟨rfl, rfl⟩
      go_wp2
      go_ret
      exact ⟨ret_bool (decide_eq_true HO.out).symm, rfl⟩
    · have HO : Hid (¬ WordB 16 s.data.toList) := fun h => c (HV.out.1 h).2
      have d1 : decide ((s.size : Int) ≤ 16) = false := decide_eq_false (by omega)
      go_enter Try.func62, Try.ntmps62
      go_wp2_with fail
      refine (HW.out _).mono ?_
      rintro e w' ⟨rfl, rfl⟩
      go_wp2
      go_ret
      exact ⟨ret_bool (decide_eq_false HO.out).symm, rfl⟩

set_option maxHeartbeats 2000000 in
theorem s_RulesAt (w : World) (v : Value) (T : List PRule) (s : ByteArray) (a : Int) (hx : TableAt w v T) (hf : TableFits T) (hv : Hid (ValidTb T)) (hs : s.size ≤ 9223372036854775807) (hw : Hid (WordB 16 s.data.toList)) :
    Calls Try.prog 25 #[v, .string s, .int .i64 a] w fun e w' => ListMade (rulesL T s a) w e w' := by
  obtain ⟨i0, hi, hz0, hz1, hz2⟩ := info_parts infoInt
  have hsl : 1 ≤ s.size ∧ s.size ≤ 16 := by have := hw.out.1; have := hw.out.2.1; have := wd_size s; omega
  have HX := Lib.hid hx
  have HF := Lib.hid hf
  obtain ⟨aa, cp, rfl, x1, x2, x3⟩ := hx
  obtain ⟨n, hn⟩ : ∃ n, T.length = n := ⟨_, rfl⟩
  rw [hn] at x1 x3 HX ⊢
  have hbig : n ≤ 16 := by have := hv.out.1; omega
  have HN := Lib.hid hn
  clear hn
  have HIT : Hid (∀ wx u, TableAt wx u T → Calls Try.prog 56 #[u] wx fun e w' => e = .returned (.bool true) ∧ Below wx.heap.size wx w') := fun wx u h => s_validTable wx u T true h HF.out ⟨fun _ => hv.out, fun _ => rfl⟩
  have HIW : Hid (∀ wx, Calls Try.prog 62 #[.string s] wx fun e w' => e = .returned (.bool true) ∧ wx = w') := fun wx => by
    have := s_validWord s wx hs
    rw [decide_eq_true hw.out] at this
    exact this
  have uw : IntKind.i64.wrap ((s.size : Int) - 1) = (s.size : Int) - 1 := IntWalk.i64_in _ (by omega)
  by_cases ha : 0 ≤ a ∧ a ≤ (s.size : Int) - 1
  · obtain ⟨p, rfl⟩ : ∃ p : Nat, a = p := ⟨a.toNat, by omega⟩
    have hp : p ≤ 1000 := by omega
    have hp2 : (p : Int) ≤ (s.size : Int) - 1 := ha.2
    clear ha
    go_enter Try.func25, Try.ntmps25
    go_wp2_with fail
    refine (HIT.out _ _ HX.out).mono ?_
    rintro e w1 ⟨rfl, hb1⟩
    go_wp2_with fail
    refine (HIW.out _).mono ?_
    rintro e w' ⟨rfl, rfl⟩
    go_wp2_with fail
    refine (inRange_yes _ _ _ _ (by omega) (by omega)).mono ?_
    rintro e w' ⟨rfl, rfl⟩
    have hO1 : OwnInts (w1.alloc (.cells #[] 3)) w.heap.size (.slice (some ⟨w1.heap.size, 0, none⟩) 0 0) [] := OwnInts.made w1 w.heap.size hb1.size
    have hB1 := hb1.alloc hb1.size (.cells #[] 3)
    go_wp2
    go_loopw [7, 8] (fun o i wr => ∃ k : Nat, k ≤ n ∧ i = .int .i64 k ∧ OwnInts wr w.heap.size o (rulesTo T s (p : Int) k) ∧ Below w.heap.size w wr) (fun _ i _ => n - (intOf i).toNat)
    case atStart => exact ⟨0, Nat.zero_le _, rfl, hO1, hB1⟩
    case round =>
      clear hO1 hB1 hb1
      obtain ⟨k, hk, rfl, hO, hb1⟩ := hrel
      have hsz := hb1.size
      by_cases hlt : k < n
      · rcases x3 with rfl | ⟨g, off, rfl, x3⟩
        · exact absurd HN.out (by simp; omega)
        obtain ⟨r, hr⟩ : ∃ r, T.getD k noR = r := ⟨_, rfl⟩
        have hra := x3 k hlt
        have hvr := hv.out.2.1 k (by rw [HN.out]; exact hlt)
        rw [hr] at hra hvr
        have HR := Lib.hid hr
        clear hr x3
        obtain ⟨t, zs, q⟩ := r
        have HVR := Lib.hid hvr
        obtain ⟨c0, ⟨u, c1, hu⟩, c2⟩ := hra
        have HU : Hid (IntsAt w u zs) := hu
        obtain ⟨a2, cp2, rfl, _⟩ := hu
        simp only at c0 c1 c2
        have c0 := (hb1.cell (World.block_lt_of_cell? w _ c0)).trans c0
        have c1 := (hb1.cell (World.block_lt_of_cell? w _ c1)).trans c1
        have c2 := (hb1.cell (World.block_lt_of_cell? w _ c2)).trans c2
        have hU1 := HU.out.below hb1
        go_wp2_with fail
        by_cases hA : App ⟨t, zs, q⟩ s (p : Int)
        · have HA := Lib.hid (decide_eq_true hA)
          have HL := Lib.hid (rulesTo_yes (T := T) (s := s) (a := (p : Int)) (k := k) (by rw [HR.out]; exact hA))
          have hle := rulesTo_le T s (p : Int) k
          clear hA
          refine (s_applies_v _ _ t zs q s p true hU1 HVR hp HA).mono ?_
          rintro e w2 ⟨rfl, hb2⟩
          have hB2 := hb1.trans (hb2.mono hsz)
          have hO2 := hO.below hb2
          have hs2 := hB2.size
          clear hO c0 c1 c2
          obtain ⟨L, hL⟩ : ∃ L, rulesTo T s (p : Int) k = L := ⟨_, rfl⟩
          rw [hL] at hO2 hle HL
          clear hL
          obtain ⟨a3, n3, c3, rfl⟩ := hO2.isSlice'
          go_wp2_with (at_builtin; refine wpList_append_own _ rfl _ _ 36 rfl w.heap.size 3 i0 (.int .i64 0) 1 8 Try.underlying36 hi hz0 hz1 hz2 rfl (by decide) _ _ _ rfl (hO2.alloc _) ⟨w2.heap.size, 0, none⟩ 1 1 [.int .i64 (k : Int)] rfl rfl new_one one_cell (by unfold maxLen; omega) (by omega) (by simp; omega) ?_)
          intro v' w3 hown' hgrow _
          have hO3 := OwnInts.snoc hown'
          have hB3 := below_append hB2 hs2 hO2 hgrow
          rw [← HL.out] at hO3
          have HL3 := Lib.hid hO3
          clear hown' hgrow hO2 hO3
          go_wp2
          go_roundw
          case rel => exact ⟨k + 1, by omega, by go_num, HL3.out, hB3⟩
          case measure => simp [intOf]; omega
        · have HA := Lib.hid (decide_eq_false hA)
          have HL := Lib.hid (rulesTo_no (T := T) (s := s) (a := (p : Int)) (k := k) (by rw [HR.out]; exact hA))
          clear hA
          refine (s_applies_v _ _ t zs q s p false hU1 HVR hp HA).mono ?_
          rintro e w2 ⟨rfl, hb2⟩
          have hB2 := hb1.trans (hb2.mono hsz)
          have hO2 := hO.below hb2
          rw [← HL.out] at hO2
          have HO2 := Lib.hid hO2
          clear hO hO2 c0 c1 c2
          go_wp2
          go_roundw
          case rel => exact ⟨k + 1, by omega, by go_num, HO2.out, hB2⟩
          case measure => simp [intOf]; omega
      · go_wp2
        go_ret
        obtain rfl : k = n := by omega
        exact ⟨_, rfl, by rw [rulesL, HN.out]; exact hO, hb1, hO.isSlice'⟩
  · have HL : Hid (rulesL T s a = []) := rulesTo_out (by omega) hv.out.2.1 _ (Nat.le_refl _)
    have ha' : a < 0 ∨ (s.size : Int) - 1 < a := by omega
    clear ha
    go_enter Try.func25, Try.ntmps25
    go_wp2_with fail
    refine (HIT.out _ _ HX.out).mono ?_
    rintro e w1 ⟨rfl, hb1⟩
    go_wp2_with fail
    refine (HIW.out _).mono ?_
    rintro e w' ⟨rfl, rfl⟩
    go_wp2_with fail
    refine (inRange_no _ _ _ _ ha').mono ?_
    rintro e w' ⟨rfl, rfl⟩
    go_wp2
    go_ret
    exact ⟨_, rfl, by rw [HL.out]; exact OwnInts.nil _ _, hb1, _, _, _, rfl⟩
set_option maxHeartbeats 2000000 in
theorem s_RulesAt_no (w : World) (v : Value) (T : List PRule) (s : ByteArray) (a : Int) (hx : TableAt w v T) (hf : TableFits T) (hs : s.size ≤ 9223372036854775807) (hv : Hid (¬ (ValidTb T ∧ WordB 16 s.data.toList))) :
    Calls Try.prog 25 #[v, .string s, .int .i64 a] w fun e w' => ListMade [] w e w' := by
  have HX := Lib.hid hx
  have HF := Lib.hid hf
  obtain ⟨_, _, rfl, _⟩ := hx
  by_cases hT : ValidTb T
  · have HW : Hid (¬ WordB 16 s.data.toList) := fun h => hv.out ⟨hT, h⟩
    have HIT : Hid (∀ wx u, TableAt wx u T → Calls Try.prog 56 #[u] wx fun e w' => e = .returned (.bool true) ∧ Below wx.heap.size wx w') := fun wx u h => s_validTable wx u T true h HF.out ⟨fun _ => hT, fun _ => rfl⟩
    have HIW : Hid (∀ wx, Calls Try.prog 62 #[.string s] wx fun e w' => e = .returned (.bool false) ∧ wx = w') := fun wx => by
      have := s_validWord s wx hs
      rw [decide_eq_false HW.out] at this
      exact this
    clear hT
    go_enter Try.func25, Try.ntmps25
    go_wp2_with fail
    refine (HIT.out _ _ HX.out).mono ?_
    rintro e w1 ⟨rfl, hb1⟩
    go_wp2_with fail
    refine (HIW.out _).mono ?_
    rintro e w' ⟨rfl, rfl⟩
    go_wp2
    go_ret
    exact ⟨_, rfl, OwnInts.nil _ _, hb1, _, _, _, rfl⟩
  · have HIT : Hid (∀ wx u, TableAt wx u T → Calls Try.prog 56 #[u] wx fun e w' => e = .returned (.bool false) ∧ Below wx.heap.size wx w') := fun wx u h => s_validTable wx u T false h HF.out (bool_iff_false hT)
    clear hT
    go_enter Try.func25, Try.ntmps25
    go_wp2_with fail
    refine (HIT.out _ _ HX.out).mono ?_
    rintro e w1 ⟨rfl, hb1⟩
    go_wp2
    go_ret
    exact ⟨_, rfl, OwnInts.nil _ _, hb1, _, _, _, rfl⟩
end Go.Proofs.Ytohgglhjcklbaaa
