
/- plainCells in the model, the whole. -/
import Derived.Test.YtjedkmhmkipkdaaPlS
namespace Go.Proofs.Ytjedkmhmkipkdaa
open Go.RowKit

theorem OwnInts.lower {w : World} {B B' : Nat} {v : Value} {zs : List Int} (h : OwnInts w B v zs) (hB : B' ≤ B) : OwnInts w B' v zs := by
  refine ⟨h.1, ?_⟩
  rcases h.2 with h | ⟨g, cap, cur, h1, h2, h3⟩
  · exact .inl h
  · exact .inr ⟨g, cap, cur, h1, Nat.le_trans hB h2, h3⟩
theorem own_one (w : World) (z : Int) : OwnInts (w.alloc (.cells #[.int .i64 z] 3)) w.heap.size (.slice (some ⟨w.heap.size, 0, none⟩) 1 1) [z] :=
  ⟨rfl, .inr ⟨w.heap.size, 1, #[.int .i64 z], rfl, Nat.le_refl _, heap_alloc_new w _, Nat.le_refl _, by unfold maxLen; omega, rfl, rfl⟩⟩
theorem own_two (w : World) (y z : Int) : OwnInts (w.alloc (.cells #[.int .i64 y, .int .i64 z] 3)) w.heap.size (.slice (some ⟨w.heap.size, 0, none⟩) 2 2) [y, z] :=
  ⟨rfl, .inr ⟨w.heap.size, 2, #[.int .i64 y, .int .i64 z], rfl, Nat.le_refl _, heap_alloc_new w _, Nat.le_refl _, by unfold maxLen; omega, rfl, rfl⟩⟩
theorem made_one {w w' : World} {z : Int} (hb : Below w.heap.size w w') : CellsMade [z] w (.returned (.slice (some ⟨w'.heap.size, 0, none⟩) 1 1)) (w'.alloc (.cells #[.int .i64 z] 3)) :=
  ⟨_, rfl, (own_one w' z).lower hb.size, hb.alloc hb.size _, _, _, _, rfl⟩
theorem made_two {w w' : World} {y z : Int} (hb : Below w.heap.size w w') : CellsMade [y, z] w (.returned (.slice (some ⟨w'.heap.size, 0, none⟩) 2 2)) (w'.alloc (.cells #[.int .i64 y, .int .i64 z] 3)) :=
  ⟨_, rfl, (own_two w' y z).lower hb.size, hb.alloc hb.size _, _, _, _, rfl⟩
theorem s_digitCell_n (n z : Int) (w : World) (h0 : 0 ≤ n) (h1 : n < 10) (hz : Hid (digL.getD n.toNat 0 = z)) :
    Calls Try.prog 83 #[.int .i64 n] w fun e w' => e = .returned (.int .i64 z) ∧ Below w.heap.size w w' := by
  have := s_digitCell n w h0 h1
  rw [hz.out] at this
  exact this
theorem ext_size2 {s : ByteArray} {a b : Nat} (_h : a ≤ b) (h2 : b ≤ s.size) : (s.extract a b).size = b - a := by
  rw [← size_data, extract_list, sub_length (by rw [size_data]; exact h2)]
theorem othC_len (b : UInt8) (d : Bool) : 1 ≤ (othC b d).length ∧ (othC b d).length ≤ 2 := by unfold othC; split <;> simp

set_option maxHeartbeats 2000000 in
theorem s_otherCells (b : UInt8) (d : Bool) (w : World) (hl : Hid (letB b.toNat = false)) (hok : Hid (okB b.toNat = true)) :
    Calls Try.prog 68 #[.int .u8 b.toNat, .bool d] w fun e w' => CellsMade (othC b d) w e w' := by
  have h256 := b.toNat_lt
  by_cases h32 : b.toNat = 32
  · have HO : Hid (othC b d = [0]) := by
      show _ = _
      have h1 : digBt b.toNat = false := by rw [h32]; rfl
      have h2 : charZ b.toNat = 0 := by rw [charZ, if_pos h32]
      rw [othC, h1, h2]; rfl
    have e1 : ((b.toNat : Int) == 32) = true := by rw [h32]; rfl
    clear h32
    go_enter Try.func68, Try.ntmps68
    go_wp2
    go_ret
    rw [HO.out]
    exact made_one (Below.refl _ _)
  · have e1 : ((b.toNat : Int) == 32) = false := by simp; omega
    cases hd : digBt b.toNat with
    | true =>
      have HD : Hid (decide (48 ≤ b.toNat ∧ b.toNat ≤ 57) = true) := hd
      have hd2 : 48 ≤ b.toNat ∧ b.toNat ≤ 57 := of_decide_eq_true hd
      obtain ⟨z, hz⟩ : ∃ z, charZ b.toNat = z := ⟨_, rfl⟩
      have HV : Hid (digL.getD ((b.toNat : Int) - 48).toNat 0 = z) := by
        show _ = _
        rw [← hz, charZ, if_neg h32, if_pos hd2]
        rw [show ((b.toNat : Int) - 48).toNat = b.toNat - 48 from by omega]
      obtain ⟨d1, d2⟩ := hd2
      cases d with
      | true =>
        have HO : Hid (othC b true = [z]) := by show _ = _; rw [othC, hd, hz]; rfl
        clear h32 hd hz
        go_enter Try.func68, Try.ntmps68
        go_wp2_with fail
        refine (s_isDigit_b _ true _ HD).mono ?_
        rintro e w' ⟨rfl, rfl⟩
        go_wp2_with fail
        refine (s_digitCell_n _ z _ (by omega) (by omega) HV).mono ?_
        rintro e w2 ⟨rfl, hb⟩
        go_wp2
        go_ret
        rw [HO.out]
        exact made_one hb
      | false =>
        have HO : Hid (othC b false = [60, z]) := by show _ = _; rw [othC, hd, hz]; rfl
        clear h32 hd hz
        go_enter Try.func68, Try.ntmps68
        go_wp2_with fail
        refine (s_isDigit_b _ true _ HD).mono ?_
        rintro e w' ⟨rfl, rfl⟩
        go_wp2_with fail
        refine (s_digitCell_n _ z _ (by omega) (by omega) HV).mono ?_
        rintro e w2 ⟨rfl, hb⟩
        go_wp2
        go_ret
        rw [HO.out]
        exact made_two hb
    | false =>
      have HD : Hid (decide (48 ≤ b.toNat ∧ b.toNat ≤ 57) = false) := hd
      have hd2 : ¬ (48 ≤ b.toNat ∧ b.toNat ≤ 57) := of_decide_eq_false hd
      rcases mark_cases b.toNat (by omega) with ⟨k, hk, hr, hc⟩ | ⟨hr, hc⟩
      · obtain ⟨z, hz⟩ : ∃ z, markC.getD k 0 = z := ⟨_, rfl⟩
        have HZ := Lib.hid hz
        have HR := Lib.hid hr
        have HO : Hid (othC b d = [z]) := by
          show _ = _
          have h2 : charZ b.toNat = z := by
            rw [charZ, if_neg h32, if_neg hd2, hr, if_neg (show ¬ (k : Int) = -1 from by omega)]
            rw [show ((k : Int)).toNat = k from by omega, hz]
          rw [othC, hd, h2]; rfl
        have b1 : (0 : Int) ≤ (k : Int) := by omega
        have b2 : (k : Int) < 8 := by omega
        clear h32 hd hd2 hr hc hz
        go_enter Try.func68, Try.ntmps68
        go_wp2_with fail
        refine (s_isDigit_b _ false _ HD).mono ?_
        rintro e w' ⟨rfl, rfl⟩
        go_wp2_with fail
        refine (s_markCells k z _ hk HZ).mono ?_
        rintro e w2 ⟨g, rfl, hcell, hb2⟩
        go_wp2_with fail
        refine (s_markOf_v _ k _ HR).mono ?_
        rintro e w' ⟨rfl, rfl⟩
        go_wp2
        go_ret
        rw [HO.out]
        exact made_one hb2
      · exfalso
        have h1 := hok.out
        have h2 : charZ b.toNat = -1 := by rw [charZ, if_neg h32, if_neg hd2, if_pos hr]
        rw [okB, hl.out, h2] at h1
        simp at h1

set_option maxHeartbeats 8000000 in
theorem s_plainCells (s : ByteArray) (l : List UInt8) (w : World) (hT : Txt s l) (hL : s.data.toList = l) (hv : ValidT l) :
    Calls Try.prog 50 #[.string s] w fun e w' => CellsMade (plainC l) w e w' := by
  obtain ⟨i0, hi, hz0, hz1, hz2⟩ := info_parts infoInt
  have HT := Lib.hid hT
  have HL := Lib.hid hL
  have hs60 : s.size ≤ 60 := by have := hv.1; have := hT.1; omega
  have hokb : Hid (∀ b ∈ l, okB b.toNat = true) := hv.2
  clear hT hL hv
  go_enter Try.func50, Try.ntmps50
  go_wp2
  go_loopw [3, 4] (fun v i wr => ∃ (k : Nat) (acc : List Int), k ≤ s.size ∧ i = .int .i64 k ∧ OwnInts wr w.heap.size v acc ∧ acc.length ≤ 4 * k ∧ Hid (acc ++ restC l k = plainC l) ∧ Below w.heap.size w wr) (fun _ i _ => s.size - (intOf i).toNat)
  case atStart => exact ⟨0, [], by omega, rfl, OwnInts.made _ _ (Nat.le_refl _), by simp, rfl, (Below.refl _ _).alloc (Nat.le_refl _) _⟩
  case round =>
    obtain ⟨k, acc, hk, rfl, hown, hal, hac, hb⟩ := hrel
    have hsw := hb.size
    by_cases hlt : k < s.size
    · obtain ⟨h2, hbk⟩ := HT.out.2 k hlt
      have hll := HT.out.1
      have hokb := fun b h => hokb.out b h
      cases k with
      | zero =>
        have HDB : Hid (dB l 0 = false) := rfl
        cases hlet : letB (s[0]).toNat with
        | true =>
          have HLt := Lib.hid hlet
          obtain ⟨e, he⟩ : ∃ e, re l 0 = e := ⟨_, rfl⟩
          have hke : 0 < e := by rw [← he]; exact re_gt h2 (by rw [hbk]; exact hlet)
          have hes : e ≤ s.size := by rw [← he, ← hll]; exact re_le (by omega)
          have HE := Lib.hid he
          have hrest := rest_run h2 (by rw [hbk]; exact hlet)
          rw [he] at hrest
          have HX : Hid (Txt (s.extract 0 e) (sub l 0 e)) := by
            show Txt _ _
            have := Txt.of (s.extract 0 e)
            rw [extract_list, HL.out] at this
            exact this
          have hxs : (s.extract 0 e).size = e - 0 := ext_size2 (by omega) hes
          have HXS := Lib.hid hxs
          have HA : Hid (∀ q (h : q < (s.extract 0 e).size), letB ((s.extract 0 e)[q]).toNat = true) := by
            intro q h
            obtain ⟨hq2, hq3⟩ := HX.out.2 q h
            rw [← hq3]
            have hq4 : (sub l 0 e)[q] = l[0 + q]'(by rw [sub_length (by omega)] at hq2; omega) := by simp [sub]
            rw [hq4]
            exact re_let (k := 0) _ (by omega) (by rw [he]; rw [sub_length (by omega)] at hq2; omega)
          obtain ⟨hr1, hr2⟩ := runC_len (l := l) (dB l 0) hke (by omega)
          obtain ⟨R, hR⟩ : ∃ R, runC (sub l 0 e) (dB l 0) = R := ⟨_, rfl⟩
          rw [hR] at hrest hr1 hr2
          have hac' : Hid ((acc ++ R) ++ restC l e = plainC l) := by show _ = _; rw [← hac.out, hrest]; simp
          rw [HDB.out] at hR
          have HR := Lib.hid hR
          have q1 : (0 : Int) ≤ (e : Int) := by omega
          have q2 : (e : Int) ≤ (s.size : Int) := by omega
          clear hlet hbk he hrest hR hac hll h2 hxs
          go_wp2_with fail
          refine (s_isLetter_b _ true _ HLt).mono ?_
          rintro e' w' ⟨rfl, rfl⟩
          go_wp2_with fail
          refine (s_runEnd s l 0 e _ HT.out (by omega) hk HE).mono ?_
          rintro e' w' ⟨rfl, rfl⟩
          go_wp2_with fail
          refine (s_runCells (s.extract 0 e) (sub l 0 e) false _ HX.out (by have := HXS.out; omega) (by have := HXS.out; omega) HA.out).mono ?_
          rintro e' w1 ⟨v1, rfl, ho1, hb1, a1, n1, c1, rfl⟩
          rw [HR.out] at ho1
          have hn1 : Hid (R.length = n1) := by obtain ⟨_, _, h, _⟩ := ho1.at; injection h with _ h2; exact h2.symm
          have hsh : ∃ g, a1 = some ⟨g, 0, none⟩ := by
            rcases ho1.2 with ⟨_, hn⟩ | ⟨g, cap, cur, hv, _⟩
            · omega
            · injection hv with h1; exact ⟨g, h1⟩
          obtain ⟨g, rfl⟩ := hsh
          have hcells := ho1.cells (g := g) rfl
          have hown1 := hown.below hb1
          have hB1 := hb.trans (hb1.mono hsw)
          have hsz1 := hB1.size
          have hrl : Hid ((ints R).length = n1 * 1) := by show _ = _; rw [ints_length, hn1.out, Nat.mul_one]
          have hn1b : n1 ≤ 240 := by have := hn1.out; omega
          clear hown hb hb1 ho1
          go_wp2_with (at_builtin; go_loud (refine wpList_append_own _ rfl _ _ 23 rfl w.heap.size 3 i0 (.int .i64 0) 1 8 Try.underlying23 hi hz0 hz1 hz2 rfl (by decide) _ _ _ rfl hown1 ⟨g, 0, none⟩ n1 c1 (ints R) rfl hrl.out hcells (ints_oneCell2 R) (by unfold maxLen; omega) (by omega) (by omega) ?_))
          intro v' w2 hown' hgrow _
          have R1 := OwnInts.addAll hown' (by rw [hn1.out])
          have R2 : Below w.heap.size w w2 := hB1.grown hgrow hsz1 (fun q hq => (hown1.lt q hq).1)
          have hal' : (acc ++ R).length ≤ 4 * e := by rw [List.length_append]; omega
          clear hown' hgrow hown1 hB1 hcells
          go_wp2
          go_roundw
          case rel => exact ⟨e, acc ++ R, hes, rfl, R1, hal', hac', R2⟩
          case measure => simp [intOf]; omega
        | false =>
          have HLt := Lib.hid hlet
          have hrest := rest_oth h2 (by rw [hbk]; exact hlet)
          rw [hbk] at hrest
          have HOK := hokb (s[0]) (by rw [← hbk]; exact List.getElem_mem _)
          have HO := Lib.hid HOK
          obtain ⟨hr1, hr2⟩ := othC_len (s[0]) (dB l 0)
          obtain ⟨R, hR⟩ : ∃ R, othC (s[0]) (dB l 0) = R := ⟨_, rfl⟩
          rw [hR] at hrest hr1 hr2
          have hac' : Hid ((acc ++ R) ++ restC l (0 + 1) = plainC l) := by show _ = _; rw [← hac.out, hrest]; simp
          rw [HDB.out] at hR
          have HR := Lib.hid hR
          clear hlet hbk hrest hR hac hll h2 HOK
          go_wp2_with fail
          refine (s_isLetter_b _ false _ HLt).mono ?_
          rintro e' w' ⟨rfl, rfl⟩
          go_wp2_with fail
          refine (s_otherCells (s[0]) false _ HLt HO).mono ?_
          rintro e' w1 ⟨v1, rfl, ho1, hb1, a1, n1, c1, rfl⟩
          rw [HR.out] at ho1
          have hn1 : Hid (R.length = n1) := by obtain ⟨_, _, h, _⟩ := ho1.at; injection h with _ h2; exact h2.symm
          have hsh : ∃ g, a1 = some ⟨g, 0, none⟩ := by
            rcases ho1.2 with ⟨_, hn⟩ | ⟨g, cap, cur, hv, _⟩
            · omega
            · injection hv with h1; exact ⟨g, h1⟩
          obtain ⟨g, rfl⟩ := hsh
          have hcells := ho1.cells (g := g) rfl
          have hown1 := hown.below hb1
          have hB1 := hb.trans (hb1.mono hsw)
          have hsz1 := hB1.size
          have hrl : Hid ((ints R).length = n1 * 1) := by show _ = _; rw [ints_length, hn1.out, Nat.mul_one]
          have hn1b : n1 ≤ 240 := by have := hn1.out; omega
          clear hown hb hb1 ho1
          go_wp2_with (at_builtin; go_loud (refine wpList_append_own _ rfl _ _ 23 rfl w.heap.size 3 i0 (.int .i64 0) 1 8 Try.underlying23 hi hz0 hz1 hz2 rfl (by decide) _ _ _ rfl hown1 ⟨g, 0, none⟩ n1 c1 (ints R) rfl hrl.out hcells (ints_oneCell2 R) (by unfold maxLen; omega) (by omega) (by omega) ?_))
          intro v' w2 hown' hgrow _
          have R1 := OwnInts.addAll hown' (by rw [hn1.out])
          have R2 : Below w.heap.size w w2 := hB1.grown hgrow hsz1 (fun q hq => (hown1.lt q hq).1)
          have hal' : (acc ++ R).length ≤ 4 * (0 + 1) := by rw [List.length_append]; omega
          clear hown' hgrow hown1 hB1 hcells
          go_wp2
          go_roundw
          case rel => exact ⟨0 + 1, acc ++ R, by omega, by go_num, R1, hal', hac', R2⟩
          case measure => simp [intOf]; omega
      | succ j =>
        have hj : j < s.size := by omega
        obtain ⟨hj2, hbj⟩ := HT.out.2 j hj
        obtain ⟨dd, hdd⟩ : ∃ dd, dB l (j + 1) = dd := ⟨_, rfl⟩
        have HDB := Lib.hid hdd
        have HDJ : Hid (decide (48 ≤ (s[j]).toNat ∧ (s[j]).toNat ≤ 57) = dd) := by show _ = _; rw [← hdd, dB, getD_at hj2, hbj]; rfl
        clear hdd hbj hj2
        cases hlet : letB (s[(j + 1)]).toNat with
        | true =>
          have HLt := Lib.hid hlet
          obtain ⟨e, he⟩ : ∃ e, re l (j + 1) = e := ⟨_, rfl⟩
          have hke : (j + 1) < e := by rw [← he]; exact re_gt h2 (by rw [hbk]; exact hlet)
          have hes : e ≤ s.size := by rw [← he, ← hll]; exact re_le (by omega)
          have HE := Lib.hid he
          have hrest := rest_run h2 (by rw [hbk]; exact hlet)
          rw [he] at hrest
          have HX : Hid (Txt (s.extract (j + 1) e) (sub l (j + 1) e)) := by
            show Txt _ _
            have := Txt.of (s.extract (j + 1) e)
            rw [extract_list, HL.out] at this
            exact this
          have hxs : (s.extract (j + 1) e).size = e - (j + 1) := ext_size2 (by omega) hes
          have HXS := Lib.hid hxs
          have HA : Hid (∀ q (h : q < (s.extract (j + 1) e).size), letB ((s.extract (j + 1) e)[q]).toNat = true) := by
            intro q h
            obtain ⟨hq2, hq3⟩ := HX.out.2 q h
            rw [← hq3]
            have hq4 : (sub l (j + 1) e)[q] = l[(j + 1) + q]'(by rw [sub_length (by omega)] at hq2; omega) := by simp [sub]
            rw [hq4]
            exact re_let (k := (j + 1)) _ (by omega) (by rw [he]; rw [sub_length (by omega)] at hq2; omega)
          obtain ⟨hr1, hr2⟩ := runC_len (l := l) (dB l (j + 1)) hke (by omega)
          obtain ⟨R, hR⟩ : ∃ R, runC (sub l (j + 1) e) (dB l (j + 1)) = R := ⟨_, rfl⟩
          rw [hR] at hrest hr1 hr2
          have hac' : Hid ((acc ++ R) ++ restC l e = plainC l) := by show _ = _; rw [← hac.out, hrest]; simp
          rw [HDB.out] at hR
          have HR := Lib.hid hR
          have q1 : ((j + 1) : Int) ≤ (e : Int) := by omega
          have q2 : (e : Int) ≤ (s.size : Int) := by omega
          clear hlet hbk he hrest hR hac hll h2 hxs
          go_wp2_with fail
          refine (s_isDigit_b _ dd _ HDJ).mono ?_
          rintro e' w' ⟨rfl, rfl⟩
          go_wp2_with fail
          refine (s_isLetter_b _ true _ HLt).mono ?_
          rintro e' w' ⟨rfl, rfl⟩
          go_wp2_with fail
          refine (s_runEnd s l (j + 1) e _ HT.out (by omega) hk HE).mono ?_
          rintro e' w' ⟨rfl, rfl⟩
          go_wp2_with fail
          refine (s_runCells (s.extract (j + 1) e) (sub l (j + 1) e) dd _ HX.out (by have := HXS.out; omega) (by have := HXS.out; omega) HA.out).mono ?_
          rintro e' w1 ⟨v1, rfl, ho1, hb1, a1, n1, c1, rfl⟩
          rw [HR.out] at ho1
          have hn1 : Hid (R.length = n1) := by obtain ⟨_, _, h, _⟩ := ho1.at; injection h with _ h2; exact h2.symm
          have hsh : ∃ g, a1 = some ⟨g, 0, none⟩ := by
            rcases ho1.2 with ⟨_, hn⟩ | ⟨g, cap, cur, hv, _⟩
            · omega
            · injection hv with h1; exact ⟨g, h1⟩
          obtain ⟨g, rfl⟩ := hsh
          have hcells := ho1.cells (g := g) rfl
          have hown1 := hown.below hb1
          have hB1 := hb.trans (hb1.mono hsw)
          have hsz1 := hB1.size
          have hrl : Hid ((ints R).length = n1 * 1) := by show _ = _; rw [ints_length, hn1.out, Nat.mul_one]
          have hn1b : n1 ≤ 240 := by have := hn1.out; omega
          clear hown hb hb1 ho1
          go_wp2_with (at_builtin; go_loud (refine wpList_append_own _ rfl _ _ 23 rfl w.heap.size 3 i0 (.int .i64 0) 1 8 Try.underlying23 hi hz0 hz1 hz2 rfl (by decide) _ _ _ rfl hown1 ⟨g, 0, none⟩ n1 c1 (ints R) rfl hrl.out hcells (ints_oneCell2 R) (by unfold maxLen; omega) (by omega) (by omega) ?_))
          intro v' w2 hown' hgrow _
          have R1 := OwnInts.addAll hown' (by rw [hn1.out])
          have R2 : Below w.heap.size w w2 := hB1.grown hgrow hsz1 (fun q hq => (hown1.lt q hq).1)
          have hal' : (acc ++ R).length ≤ 4 * e := by rw [List.length_append]; omega
          clear hown' hgrow hown1 hB1 hcells
          go_wp2
          go_roundw
          case rel => exact ⟨e, acc ++ R, hes, rfl, R1, hal', hac', R2⟩
          case measure => simp [intOf]; omega
        | false =>
          have HLt := Lib.hid hlet
          have hrest := rest_oth h2 (by rw [hbk]; exact hlet)
          rw [hbk] at hrest
          have HOK := hokb (s[(j + 1)]) (by rw [← hbk]; exact List.getElem_mem _)
          have HO := Lib.hid HOK
          obtain ⟨hr1, hr2⟩ := othC_len (s[(j + 1)]) (dB l (j + 1))
          obtain ⟨R, hR⟩ : ∃ R, othC (s[(j + 1)]) (dB l (j + 1)) = R := ⟨_, rfl⟩
          rw [hR] at hrest hr1 hr2
          have hac' : Hid ((acc ++ R) ++ restC l ((j + 1) + 1) = plainC l) := by show _ = _; rw [← hac.out, hrest]; simp
          rw [HDB.out] at hR
          have HR := Lib.hid hR
          clear hlet hbk hrest hR hac hll h2 HOK
          go_wp2_with fail
          refine (s_isDigit_b _ dd _ HDJ).mono ?_
          rintro e' w' ⟨rfl, rfl⟩
          go_wp2_with fail
          refine (s_isLetter_b _ false _ HLt).mono ?_
          rintro e' w' ⟨rfl, rfl⟩
          go_wp2_with fail
          refine (s_otherCells (s[(j + 1)]) dd _ HLt HO).mono ?_
          rintro e' w1 ⟨v1, rfl, ho1, hb1, a1, n1, c1, rfl⟩
          rw [HR.out] at ho1
          have hn1 : Hid (R.length = n1) := by obtain ⟨_, _, h, _⟩ := ho1.at; injection h with _ h2; exact h2.symm
          have hsh : ∃ g, a1 = some ⟨g, 0, none⟩ := by
            rcases ho1.2 with ⟨_, hn⟩ | ⟨g, cap, cur, hv, _⟩
            · omega
            · injection hv with h1; exact ⟨g, h1⟩
          obtain ⟨g, rfl⟩ := hsh
          have hcells := ho1.cells (g := g) rfl
          have hown1 := hown.below hb1
          have hB1 := hb.trans (hb1.mono hsw)
          have hsz1 := hB1.size
          have hrl : Hid ((ints R).length = n1 * 1) := by show _ = _; rw [ints_length, hn1.out, Nat.mul_one]
          have hn1b : n1 ≤ 240 := by have := hn1.out; omega
          clear hown hb hb1 ho1
          go_wp2_with (at_builtin; go_loud (refine wpList_append_own _ rfl _ _ 23 rfl w.heap.size 3 i0 (.int .i64 0) 1 8 Try.underlying23 hi hz0 hz1 hz2 rfl (by decide) _ _ _ rfl hown1 ⟨g, 0, none⟩ n1 c1 (ints R) rfl hrl.out hcells (ints_oneCell2 R) (by unfold maxLen; omega) (by omega) (by omega) ?_))
          intro v' w2 hown' hgrow _
          have R1 := OwnInts.addAll hown' (by rw [hn1.out])
          have R2 : Below w.heap.size w w2 := hB1.grown hgrow hsz1 (fun q hq => (hown1.lt q hq).1)
          have hal' : (acc ++ R).length ≤ 4 * ((j + 1) + 1) := by rw [List.length_append]; omega
          clear hown' hgrow hown1 hB1 hcells
          go_wp2
          go_roundw
          case rel => exact ⟨(j + 1) + 1, acc ++ R, by omega, by go_num, R1, hal', hac', R2⟩
          case measure => simp [intOf]; omega
    · have hfin : Hid (acc = plainC l) := by show _ = _; rw [← hac.out, rest_end (by have := HT.out.1; omega)]; simp
      obtain ⟨_, _, _, hvv⟩ := (show ∃ a n c, _ = Value.slice a n c from (by rcases hown.2 with ⟨h, _⟩ | ⟨g, cap, _, h, _⟩ <;> exact ⟨_, _, _, h⟩))
      rw [hfin.out] at hown
      go_wp2
      go_ret
      exact ⟨_, rfl, hown, hb, _, _, _, hvv⟩
theorem s_PlainCells (s : ByteArray) (l : List UInt8) (w : World) (hT : Txt s l) (hL : s.data.toList = l) (hv : ValidT l) :
    Calls Try.prog 29 #[.string s] w fun e w' => CellsMade (plainC l) w e w' := by
  have HB : Hid (decide (ValidT s.data.toList) = true) := by show _ = _; rw [hL]; exact decide_eq_true hv
  have hs60 : s.size ≤ 60 := by have := hv.1; have := hT.1; omega
  have HP : Hid (∀ w, Calls Try.prog 50 #[.string s] w fun e w' => CellsMade (plainC l) w e w') := fun w => s_plainCells s l w hT hL hv
  clear hT hL hv
  go_enter Try.func29, Try.ntmps29
  go_wp2_with fail
  refine (s_validText_v s true _ (by omega) HB).mono ?_
  rintro e w' ⟨rfl, rfl⟩
  go_wp2_with fail
  refine (HP.out _).mono ?_
  rintro e w1 ⟨v1, rfl, ho1, hb1, a1, n1, c1, rfl⟩
  go_wp2
  go_ret
  exact ⟨_, rfl, ho1, hb1, _, _, _, rfl⟩
theorem s_PlainCells_no (s : ByteArray) (w : World) (hs : s.size ≤ 9223372036854775000) (hv : ¬ ValidT s.data.toList) :
    Calls Try.prog 29 #[.string s] w fun e w' => CellsNil w e w' := by
  have HB := Lib.hid (decide_eq_false hv)
  clear hv
  go_enter Try.func29, Try.ntmps29
  go_wp2_with fail
  refine (s_validText_v s false _ (by omega) HB).mono ?_
  rintro e w' ⟨rfl, rfl⟩
  go_wp2
  go_ret
  exact ⟨rfl, Below.refl _ _⟩
theorem plainC_len {l : List UInt8} : ∀ n k, l.length < n + k → k ≤ l.length → (pf n l k).length ≤ 4 * (l.length - k) := by
  intro n
  induction n with
  | zero => intro k h1 h2; omega
  | succ n ih =>
    intro k h1 h2
    rw [pf]
    by_cases hk : k < l.length
    · rw [if_pos hk]
      by_cases hl : letB (l.getD k 0).toNat = true
      · have hgt := re_gt hk (by rw [← getD_at hk]; exact hl)
        have hle := re_le h2
        have := ih (re l k) (by omega) hle
        have := (runC_len (l := l) (dB l k) hgt hle).2
        rw [if_pos hl, List.length_append]; omega
      · have := ih (k + 1) (by omega) (by omega)
        have := (othC_len (l.getD k 0) (dB l k)).2
        rw [if_neg hl, List.length_append]; omega
    · rw [if_neg hk]; simp
theorem plainC_le {l : List UInt8} (hv : ValidT l) : (plainC l).length ≤ 240 := by
  have := plainC_len (l := l) (l.length + 1) 0 (by omega) (by omega)
  have := hv.1
  unfold plainC restC
  omega
end Go.Proofs.Ytjedkmhmkipkdaa
