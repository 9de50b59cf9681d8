
/- Where words may be divided: both sides. -/
import Derived.Test.YtpohkeenfbaklaaQk
import Derived.Maps.AppendAt
namespace Go.Proofs.Ytpohkeenfbaklaa
open Go.RowKit

/-- the places below k where the word may be divided -/
def ptL (T : List PPat) (s : ByteArray) : Nat → List Int
  | 0 => []
  | k + 1 => ptL T s k ++ (if 2 ≤ k ∧ lev T s k % 2 = 1 then [(k : Int)] else [])
theorem ptL_yes {T : List PPat} {s : ByteArray} {k : Nat} (h2 : 2 ≤ k) (h : lev T s k % 2 = 1) : ptL T s (k + 1) = ptL T s k ++ [(k : Int)] := by
  show _ ++ _ = _
  rw [if_pos ⟨h2, h⟩]
theorem ptL_no {T : List PPat} {s : ByteArray} {k : Nat} (h : ¬ lev T s k % 2 = 1) : ptL T s (k + 1) = ptL T s k := by
  show _ ++ _ = _
  rw [if_neg fun h' => h h'.2, List.append_nil]
theorem ptL_small (T : List PPat) (s : ByteArray) : ∀ k, k ≤ 2 → ptL T s k = [] := by
  intro k
  induction k with
  | zero => intro _; rfl
  | succ k ih =>
    intro hk
    show ptL T s k ++ (if 2 ≤ k ∧ lev T s k % 2 = 1 then [(k : Int)] else []) = []
    rw [ih (by omega), if_neg (by omega)]; rfl
theorem ptL_len (T : List PPat) (s : ByteArray) : ∀ k, (ptL T s k).length ≤ k := by
  intro k
  induction k with
  | zero => exact Nat.le_refl _
  | succ k ih =>
    show (ptL T s k ++ (if 2 ≤ k ∧ lev T s k % 2 = 1 then [(k : Int)] else [])).length ≤ _
    rw [List.length_append]
    split
    · simp; omega
    · simp; omega
theorem lev_bd {T : List PPat} {s : ByteArray} {q : Nat} (hv : ValidPs T) : 0 ≤ lev T s q ∧ lev T s q ≤ 9 := lvT_bd hv _ (Nat.le_refl _)
set_option maxHeartbeats 4000000 in
theorem i_hyphenPoints (w : World) (v : Value) (T : List PPat) (s : ByteArray) (hx : PatsAt w v T) (hv : Hid (OkH T s)) :
    Calls Try.prog 49 #[v, .string s] w fun e w' => LM (ptL T s (s.size - 1)) w e w' := by
  obtain ⟨i0, hi, hz0, hz1, hz2⟩ := info_parts infoInt
  have hsl : 1 ≤ s.size ∧ s.size ≤ 16 := by have h1 := hv.out.2.1; have h2 := hv.out.2.2.1; rw [wd_size] at h1 h2; exact ⟨h1, h2⟩
  have HX := keptQ hx
  obtain ⟨a, cp, rfl, _⟩ := hx
  have HV : Hid (ValidPs T) := hv.out.1
  obtain ⟨n, hn⟩ : ∃ n, T.length = n := ⟨_, rfl⟩
  rw [hn] at HX ⊢
  have HSM := Lib.hid (ptL_small T s 2 (Nat.le_refl _))
  clear hn
  have HO0 : Hid (OwnInts w w.heap.size (.slice none 0 0) (ptL T s 2)) := by rw [HSM.out]; exact OwnInts.nil _ _
  have HB0 := keptQ (Below.refl w.heap.size w)
  have u2 : IntKind.i64.wrap ((s.size : Int) - 2) = (s.size : Int) - 2 := IntWalk.i64_in _ (by omega)
  go_enter Try.func49, Try.ntmps49
  go_wp2
  go_loopw [5, 6] (fun o y wr => ∃ k : Nat, 2 ≤ k ∧ (k = 2 ∨ k ≤ s.size - 1) ∧ y = .int .i64 k ∧ Hid (OwnInts wr w.heap.size o (ptL T s k)) ∧ Hid (Below w.heap.size w wr)) (fun _ y _ => s.size + 2 - (intOf y).toNat)
  case atStart => exact ⟨2, Nat.le_refl _, .inl rfl, rfl, HO0, HB0⟩
  case round =>
    clear HO0 HB0
    obtain ⟨wo, rfl⟩ : ∃ wo, wo = wr := ⟨wr, rfl⟩
    obtain ⟨k, hk2, hk, rfl, HO, HB⟩ := hrel
    obtain ⟨ao, no, co, hoo⟩ := HO.out.sliceQ
    subst hoo
    have hsz := HB.out.size
    by_cases hlt : k + 2 ≤ s.size
    · have d1 : decide ((k : Int) ≤ (s.size : Int) - 2) = true := decide_eq_true (by omega)
      go_wp2_with fail
      refine (i_levelAt wo _ T s k (HX.out.below HB.out) HV (by omega)).mono ?_
      rintro e w2 ⟨rfl, hb2⟩
      have hlv : lvT T s k T.length = lev T s k := rfl
      have hbd := lev_bd (s := s) (q := k) HV.out
      rw [hlv]
      obtain ⟨z, hz⟩ : ∃ z, lev T s k = z := ⟨_, rfl⟩
      rw [hz] at hbd ⊢
      have HZ := Lib.hid hz
      have hO2 := HO.out.below hb2
      have hB2 := HB.out.trans (hb2.mono hsz)
      have hs2 := hB2.size
      obtain ⟨r, hr⟩ : ∃ r, z % 2 = r := ⟨_, rfl⟩
      have t1 : z.tmod 2 = r := by rw [Int.tmod_eq_emod_of_nonneg (by omega), hr]
      have k1 : IntKind.i64.wrap r = r := IntWalk.i64_in _ (by omega)
      have HRR := Lib.hid hr
      have HLE : Hid ((ptL T s k).length ≤ 16) := by show _ ≤ _; have := ptL_len T s k; omega
      have uk : IntKind.i64.wrap ((k : Int) + 1) = (k : Int) + 1 := IntWalk.i64_in _ (by omega)
      clear hb2 hlv hz HO HB
      by_cases h1 : r = 1
      · have d2 : (r == 1) = true := by simp [h1]
        have HSU : Hid (ptL T s (k + 1) = ptL T s k ++ [(k : Int)]) := ptL_yes hk2 (by rw [HZ.out, HRR.out]; exact h1)
        clear h1
        go_wp2_with (at_builtin; refine wpList_append_own _ rfl _ _ 26 rfl w.heap.size 3 i0 (.int .i64 0) 1 8 Try.underlying26 hi hz0 hz1 hz2 rfl (by decide) _ _ _ rfl (hO2.alloc _) ⟨w2.heap.size, 0, none⟩ 1 1 [.int .i64 (k : Int)] rfl rfl new_one one_cell (by unfold maxLen; have := HLE.out; omega) (by have := HLE.out; omega) (by simp; omega) ?_)
        intro v' w3 hown' hgrow _
        have hO3 := OwnInts.snoc hown'
        have HB3 := keptQ (below_append hB2 hs2 hO2 hgrow)
        rw [← HSU.out] at hO3
        have HO3 := keptQ hO3
        clear hown' hgrow hO2 hO3 hB2 hr
        go_wp2
        go_roundw
        case rel => exact ⟨k + 1, by omega, by omega, by go_num, HO3, HB3⟩
        case measure => simp [intOf]; omega
      · have d2 : (r == 1) = false := by simp [h1]
        have HO3 : Hid (OwnInts w2 w.heap.size (.slice ao no co) (ptL T s (k + 1))) := by rw [ptL_no (by rw [HZ.out, HRR.out]; exact h1)]; exact hO2
        have HB3 := keptQ hB2
        clear h1 hO2 hB2 hr
        go_wp2
        go_roundw
        case rel => exact ⟨k + 1, by omega, by omega, by go_num, HO3, HB3⟩
        case measure => simp [intOf]; omega
    · have d1 : decide ((k : Int) ≤ (s.size : Int) - 2) = false := decide_eq_false (by omega)
      have HF : Hid (OwnInts wo w.heap.size (.slice ao no co) (ptL T s (s.size - 1))) := by
        rcases hk with rfl | hk
        · rw [ptL_small T s (s.size - 1) (by omega), ← HSM.out]; exact HO.out
        · rw [show s.size - 1 = k from by omega]; exact HO.out
      clear HO
      go_wp2
      go_ret
      exact ⟨_, rfl, HF.out, HB.out, _, _, _, rfl⟩
set_option maxHeartbeats 4000000 in
theorem s_points (w : World) (v : Value) (T : List PPat) (s : ByteArray) (hx : PatsAt w v T) (hv : Hid (OkH T s)) :
    Calls Try.prog 50 #[v, .string s] w fun e w' => LM (ptL T s (s.size - 1)) w e w' := by
  obtain ⟨i0, hi, hz0, hz1, hz2⟩ := info_parts infoInt
  have hsl : 1 ≤ s.size ∧ s.size ≤ 16 := by have h1 := hv.out.2.1; have h2 := hv.out.2.2.1; rw [wd_size] at h1 h2; exact ⟨h1, h2⟩
  have HX := keptQ hx
  obtain ⟨a, cp, rfl, _⟩ := hx
  have HV : Hid (ValidPs T) := hv.out.1
  obtain ⟨n, hn⟩ : ∃ n, T.length = n := ⟨_, rfl⟩
  rw [hn] at HX ⊢
  have HSM := Lib.hid (ptL_small T s 2 (Nat.le_refl _))
  clear hn
  have HOa : Hid (OwnInts (w.alloc (.cells #[] 3)) w.heap.size (.slice (some ⟨w.heap.size, 0, none⟩) 0 0) []) := OwnInts.made w w.heap.size (Nat.le_refl _)
  have hBa : Below w.heap.size w (w.alloc (.cells #[] 3)) := (Below.refl _ _).alloc (Nat.le_refl _) _
  have HBa := keptQ hBa
  clear hBa
  go_enter Try.func50, Try.ntmps50
  go_wp2_with fail
  refine (s_levels _ _ T s (HX.out.below HBa.out) hv).mono ?_
  rintro e w1 ⟨v1, rfl, hO1, hb1, a1, n1, c1, rfl⟩
  have HLV : Hid (OwnInts w1 (w.heap.size + 1) (.slice a1 n1 c1) (levL T s (s.size + 1))) := by have h9 := hO1; rw [World.size_alloc] at h9; exact h9
  have HLB : Hid (∀ b, (Value.slice a1 n1 c1).ownBlock = some b → w.heap.size + 1 ≤ b ∧ b < w1.heap.size) := fun b hb => HLV.out.lt b hb
  have HL1 : Hid (n1 = s.size + 1) := by
    obtain ⟨_, _, e, _⟩ := hO1.at
    injection e with _ e2 _
    show n1 = _
    rw [e2, levL_len]
  have HO0 : Hid (OwnInts w1 w.heap.size (.slice (some ⟨w.heap.size, 0, none⟩) 0 0) (ptL T s 2)) := by rw [HSM.out]; exact HOa.out.below hb1
  have HB0 := keptQ (HBa.out.trans (hb1.mono HBa.out.size))
  have hw1 := HB0.out.size
  clear hO1 hb1 HOa
  go_wp2
  go_loopw [5, 7] (fun o y wr => ∃ k : Nat, 2 ≤ k ∧ (k = 2 ∨ k ≤ s.size - 1) ∧ y = .int .i64 k ∧ Hid (OwnInts wr w.heap.size o (ptL T s k)) ∧ Hid (Below w.heap.size w wr) ∧ Hid (OwnInts wr (w.heap.size + 1) (.slice a1 n1 c1) (levL T s (s.size + 1))) ∧ Hid (∀ b, o.ownBlock = some b → b = w.heap.size ∨ w1.heap.size ≤ b) ∧ Hid (w1.heap.size ≤ wr.heap.size)) (fun _ y _ => s.size + 2 - (intOf y).toNat)
  case atStart => exact ⟨2, Nat.le_refl _, .inl rfl, rfl, HO0, HB0, (show OwnInts _ _ _ _ from HLV.out), fun b hb => .inl (by simp [Value.ownBlock] at hb; exact hb.symm), Nat.le_refl _⟩
  case round =>
    clear HO0 HB0 HLV
    obtain ⟨wo, rfl⟩ : ∃ wo, wo = wr := ⟨wr, rfl⟩
    obtain ⟨k, hk2, hk, rfl, HO, HB, HLV, HAP, HSZ⟩ := hrel
    obtain ⟨ao, no, co, hoo⟩ := HO.out.sliceQ
    subst hoo
    have hsz := HB.out.size
    have uk2 : IntKind.i64.wrap ((k : Int) + 2) = (k : Int) + 2 := IntWalk.i64_in _ (by omega)
    by_cases hlt : k + 2 ≤ s.size
    · have d1 : decide ((k : Int) + 2 ≤ (s.size : Int)) = true := decide_eq_true (by omega)
      obtain ⟨g1, off1, rfl, cz⟩ := HLV.out.at.cellQ (k := k) (by rw [levL_len]; omega)
      rw [levL_at (by omega)] at cz
      have hbd := lev_bd (s := s) (q := k) HV.out
      obtain ⟨z, hz⟩ : ∃ z, lev T s k = z := ⟨_, rfl⟩
      rw [hz] at hbd cz
      have HZ := Lib.hid hz
      have hL1 := HL1.out
      have c1' : (0 : Int) ≤ (k : Int) := by omega
      have c2' : (k : Int) < (n1 : Int) := by omega
      obtain ⟨r, hr⟩ : ∃ r, z % 2 = r := ⟨_, rfl⟩
      have t1 : z.tmod 2 = r := by rw [Int.tmod_eq_emod_of_nonneg (by omega), hr]
      have k1 : IntKind.i64.wrap r = r := IntWalk.i64_in _ (by omega)
      have HRR := Lib.hid hr
      have HLE : Hid ((ptL T s k).length ≤ 16) := by show _ ≤ _; have := ptL_len T s k; omega
      have uk : IntKind.i64.wrap ((k : Int) + 1) = (k : Int) + 1 := IntWalk.i64_in _ (by omega)
      have hO2 := HO.out
      have hB2 := HB.out
      clear hz hL1 HO HB
      by_cases h1 : r = 1
      · have d2 : (r == 1) = true := by simp [h1]
        have HSU : Hid (ptL T s (k + 1) = ptL T s k ++ [(k : Int)]) := ptL_yes hk2 (by rw [HZ.out, HRR.out]; exact h1)
        clear h1
        go_wp2_with (at_builtin; refine wpList_append_own_at _ rfl _ _ 26 rfl w.heap.size 3 i0 (.int .i64 0) 1 8 Try.underlying26 hi hz0 hz1 hz2 rfl (by decide) _ _ _ rfl (hO2.alloc _) ⟨wo.heap.size, 0, none⟩ 1 1 [.int .i64 (k : Int)] rfl rfl new_one one_cell (by unfold maxLen; have := HLE.out; omega) (by have := HLE.out; omega) (by simp; omega) ?_)
        intro v' w3 hown' hgrow _ hat
        have hO3 := OwnInts.snoc hown'
        have HB3 := keptQ (below_append hB2 hsz hO2 hgrow)
        rw [← HSU.out] at hO3
        have HO3 := keptQ hO3
        have HAP3 : Hid (∀ b, v'.ownBlock = some b → b = w.heap.size ∨ w1.heap.size ≤ b) := fun b hb => by
          rcases hat with h9 | h9
          · exact HAP.out b (h9.symm.trans hb)
          · rw [h9] at hb
            injection hb with hb
            right
            have := HSZ.out
            omega
        have HLV3 : Hid (OwnInts w3 (w.heap.size + 1) (.slice (some ⟨g1, off1, none⟩) n1 c1) (levL T s (s.size + 1))) := (HLV.out.below ((Below.refl _ _).alloc (Nat.le_refl _) (.cells #[.int .i64 (k : Int)] 3))).kept hgrow (by
          cases hob : (Value.slice (some ⟨g1, off1, none⟩) n1 c1).ownBlock with
          | none => exact .inl rfl
          | some b =>
            refine .inr fun e => ?_
            have h1 := HLB.out b hob
            have h2 := HAP.out b e.symm
            omega)
        have HSZ3 : Hid (w1.heap.size ≤ w3.heap.size) := by show _ ≤ _; have h1 := hgrow.size; have h2 := HSZ.out; rw [World.size_alloc] at h1; omega
        clear hown' hgrow hO2 hO3 hB2 hr hat HLV HAP
        go_wp2
        go_roundw
        case rel => exact ⟨k + 1, by omega, by omega, by go_num, HO3, HB3, HLV3, HAP3, HSZ3⟩
        case measure => simp [intOf]; omega
      · have d2 : (r == 1) = false := by simp [h1]
        have HO3 : Hid (OwnInts wo w.heap.size (.slice ao no co) (ptL T s (k + 1))) := by rw [ptL_no (by rw [HZ.out, HRR.out]; exact h1)]; exact hO2
        have HB3 := keptQ hB2
        clear h1 hO2 hB2 hr
        go_wp2
        go_roundw
        case rel => exact ⟨k + 1, by omega, by omega, by go_num, HO3, HB3, HLV, HAP, HSZ⟩
        case measure => simp [intOf]; omega
    · have d1 : decide ((k : Int) + 2 ≤ (s.size : Int)) = false := decide_eq_false (by omega)
      have HF : Hid (OwnInts wo w.heap.size (.slice ao no co) (ptL T s (s.size - 1))) := by
        rcases hk with rfl | hk
        · rw [ptL_small T s (s.size - 1) (by omega), ← HSM.out]; exact HO.out
        · rw [show s.size - 1 = k from by omega]; exact HO.out
      clear HO
      go_wp2
      go_ret
      exact ⟨_, rfl, HF.out, HB.out, _, _, _, rfl⟩
set_option maxHeartbeats 1000000 in
theorem s_HyphenLevels (w : World) (v : Value) (T : List PPat) (s : ByteArray) (hx : PatsAt w v T) (hf : PatsMid T) (hv : Hid (OkH T s)) :
    Calls Try.prog 19 #[v, .string s] w fun e w' => LM (levL T s (s.size + 1)) w e w' := by
  have hsl : s.size ≤ 16 := by have h2 := hv.out.2.2.1; rw [wd_size] at h2; exact h2
  have HX := keptQ hx
  obtain ⟨a, cp, rfl, _⟩ := hx
  have HF := keptQ hf
  have HV : Hid (ValidPs T) := hv.out.1
  have HWD : Hid (decide (WordB 16 s.data.toList) = true) := decide_eq_true hv.out.2
  clear hf
  go_enter Try.func19, Try.ntmps19
  go_wp2_with fail
  refine (s_validPatterns w _ T true HX.out HF.out (show _ ↔ _ from ⟨fun _ => HV.out, fun _ => rfl⟩)).mono ?_
  rintro e w1 ⟨rfl, hb1⟩
  have HB1 := keptQ hb1
  clear hb1
  go_wp2_with fail
  refine (s_validWord_qt s true w1 (by omega) HWD).mono ?_
  rintro e w' ⟨rfl, rfl⟩
  go_wp2_with fail
  refine (s_levels w1 _ T s (HX.out.below HB1.out) hv).mono ?_
  rintro e w2 ⟨v2, rfl, hO2, hb2, a2, n2, c2, rfl⟩
  have FIN := keptQ (And.intro (World.ownsRow.mono hO2 HB1.out.size) (below_next HB1.out hb2))
  clear hO2 hb2
  go_wp2
  go_ret
  exact ⟨_, rfl, FIN.out.1, FIN.out.2, _, _, _, rfl⟩
set_option maxHeartbeats 1000000 in
theorem i_HyphenPoints (w : World) (v : Value) (T : List PPat) (s : ByteArray) (hx : PatsAt w v T) (hf : PatsMid T) (hv : Hid (OkH T s)) :
    Calls Try.prog 21 #[v, .string s] w fun e w' => LM (ptL T s (s.size - 1)) w e w' := by
  have hsl : s.size ≤ 16 := by have h2 := hv.out.2.2.1; rw [wd_size] at h2; exact h2
  have HX := keptQ hx
  obtain ⟨a, cp, rfl, _⟩ := hx
  have HF := keptQ hf
  have HV : Hid (ValidPs T) := hv.out.1
  have HWD : Hid (decide (WordB 16 s.data.toList) = true) := decide_eq_true hv.out.2
  clear hf
  go_enter Try.func21, Try.ntmps21
  go_wp2_with fail
  refine (i_ValidPatterns w _ T true HX.out HF.out (show _ ↔ _ from ⟨fun _ => HV.out, fun _ => rfl⟩)).mono ?_
  rintro e w1 ⟨rfl, hb1⟩
  have HB1 := keptQ hb1
  clear hb1
  go_wp2_with fail
  refine (i_isWord_q s true w1 (by omega) HWD).mono ?_
  rintro e w' ⟨rfl, rfl⟩
  go_wp2_with fail
  refine (i_hyphenPoints w1 _ T s (HX.out.below HB1.out) hv).mono ?_
  rintro e w2 ⟨v2, rfl, hO2, hb2, a2, n2, c2, rfl⟩
  have FIN := keptQ (And.intro (World.ownsRow.mono hO2 HB1.out.size) (below_next HB1.out hb2))
  clear hO2 hb2
  go_wp2
  go_ret
  exact ⟨_, rfl, FIN.out.1, FIN.out.2, _, _, _, rfl⟩
set_option maxHeartbeats 1000000 in
theorem s_HyphenPoints (w : World) (v : Value) (T : List PPat) (s : ByteArray) (hx : PatsAt w v T) (hf : PatsMid T) (hv : Hid (OkH T s)) :
    Calls Try.prog 22 #[v, .string s] w fun e w' => LM (ptL T s (s.size - 1)) w e w' := by
  have hsl : s.size ≤ 16 := by have h2 := hv.out.2.2.1; rw [wd_size] at h2; exact h2
  have HX := keptQ hx
  obtain ⟨a, cp, rfl, _⟩ := hx
  have HF := keptQ hf
  have HV : Hid (ValidPs T) := hv.out.1
  have HWD : Hid (decide (WordB 16 s.data.toList) = true) := decide_eq_true hv.out.2
  clear hf
  go_enter Try.func22, Try.ntmps22
  go_wp2_with fail
  refine (s_validPatterns w _ T true HX.out HF.out (show _ ↔ _ from ⟨fun _ => HV.out, fun _ => rfl⟩)).mono ?_
  rintro e w1 ⟨rfl, hb1⟩
  have HB1 := keptQ hb1
  clear hb1
  go_wp2_with fail
  refine (s_validWord_qt s true w1 (by omega) HWD).mono ?_
  rintro e w' ⟨rfl, rfl⟩
  go_wp2_with fail
  refine (s_points w1 _ T s (HX.out.below HB1.out) hv).mono ?_
  rintro e w2 ⟨v2, rfl, hO2, hb2, a2, n2, c2, rfl⟩
  have FIN := keptQ (And.intro (World.ownsRow.mono hO2 HB1.out.size) (below_next HB1.out hb2))
  clear hO2 hb2
  go_wp2
  go_ret
  exact ⟨_, rfl, FIN.out.1, FIN.out.2, _, _, _, rfl⟩
set_option maxHeartbeats 1000000 in
theorem i_HyphenLevels_no (w : World) (v : Value) (T : List PPat) (s : ByteArray) (hx : PatsAt w v T) (hf : PatsMid T) (hs : s.size ≤ 9223372036854775807) (hv : Hid (¬ OkH T s)) :
    Calls Try.prog 17 #[v, .string s] w fun e w' => LM [] w e w' := by
  have HX := keptQ hx
  obtain ⟨a, cp, rfl, _⟩ := hx
  have HF := keptQ hf
  clear hf
  by_cases hT : ValidPs T
  · have HWD : Hid (decide (WordB 16 s.data.toList) = false) := decide_eq_false fun h => hv.out ⟨hT, h⟩
    have HT := keptQ hT
    clear hT
    go_enter Try.func17, Try.ntmps17
    go_wp2_with fail
    refine (i_ValidPatterns w _ T true HX.out HF.out (show _ ↔ _ from ⟨fun _ => HT.out, fun _ => rfl⟩)).mono ?_
    rintro e w1 ⟨rfl, hb1⟩
    have HB1 := keptQ hb1
    clear hb1
    go_wp2_with fail
    refine (i_isWord_q s false w1 hs HWD).mono ?_
    rintro e w' ⟨rfl, rfl⟩
    go_wp2
    go_ret
    exact ⟨_, rfl, OwnInts.nil _ _, HB1.out, _, _, _, rfl⟩
  · have HT := keptQ hT
    clear hT
    go_enter Try.func17, Try.ntmps17
    go_wp2_with fail
    refine (i_ValidPatterns w _ T false HX.out HF.out (iff_no HT.out)).mono ?_
    rintro e w1 ⟨rfl, hb1⟩
    have HB1 := keptQ hb1
    clear hb1
    go_wp2
    go_ret
    exact ⟨_, rfl, OwnInts.nil _ _, HB1.out, _, _, _, rfl⟩
set_option maxHeartbeats 1000000 in
theorem s_HyphenLevels_no (w : World) (v : Value) (T : List PPat) (s : ByteArray) (hx : PatsAt w v T) (hf : PatsMid T) (hs : s.size ≤ 9223372036854775807) (hv : Hid (¬ OkH T s)) :
    Calls Try.prog 19 #[v, .string s] w fun e w' => LM [] w e w' := by
  have HX := keptQ hx
  obtain ⟨a, cp, rfl, _⟩ := hx
  have HF := keptQ hf
  clear hf
  by_cases hT : ValidPs T
  · have HWD : Hid (decide (WordB 16 s.data.toList) = false) := decide_eq_false fun h => hv.out ⟨hT, h⟩
    have HT := keptQ hT
    clear hT
    go_enter Try.func19, Try.ntmps19
    go_wp2_with fail
    refine (s_validPatterns w _ T true HX.out HF.out (show _ ↔ _ from ⟨fun _ => HT.out, fun _ => rfl⟩)).mono ?_
    rintro e w1 ⟨rfl, hb1⟩
    have HB1 := keptQ hb1
    clear hb1
    go_wp2_with fail
    refine (s_validWord_qt s false w1 hs HWD).mono ?_
    rintro e w' ⟨rfl, rfl⟩
    go_wp2
    go_ret
    exact ⟨_, rfl, OwnInts.nil _ _, HB1.out, _, _, _, rfl⟩
  · have HT := keptQ hT
    clear hT
    go_enter Try.func19, Try.ntmps19
    go_wp2_with fail
    refine (s_validPatterns w _ T false HX.out HF.out (iff_no HT.out)).mono ?_
    rintro e w1 ⟨rfl, hb1⟩
    have HB1 := keptQ hb1
    clear hb1
    go_wp2
    go_ret
    exact ⟨_, rfl, OwnInts.nil _ _, HB1.out, _, _, _, rfl⟩
set_option maxHeartbeats 1000000 in
theorem i_HyphenPoints_no (w : World) (v : Value) (T : List PPat) (s : ByteArray) (hx : PatsAt w v T) (hf : PatsMid T) (hs : s.size ≤ 9223372036854775807) (hv : Hid (¬ OkH T s)) :
    Calls Try.prog 21 #[v, .string s] w fun e w' => LM [] w e w' := by
  have HX := keptQ hx
  obtain ⟨a, cp, rfl, _⟩ := hx
  have HF := keptQ hf
  clear hf
  by_cases hT : ValidPs T
  · have HWD : Hid (decide (WordB 16 s.data.toList) = false) := decide_eq_false fun h => hv.out ⟨hT, h⟩
    have HT := keptQ hT
    clear hT
    go_enter Try.func21, Try.ntmps21
    go_wp2_with fail
    refine (i_ValidPatterns w _ T true HX.out HF.out (show _ ↔ _ from ⟨fun _ => HT.out, fun _ => rfl⟩)).mono ?_
    rintro e w1 ⟨rfl, hb1⟩
    have HB1 := keptQ hb1
    clear hb1
    go_wp2_with fail
    refine (i_isWord_q s false w1 hs HWD).mono ?_
    rintro e w' ⟨rfl, rfl⟩
    go_wp2
    go_ret
    exact ⟨_, rfl, OwnInts.nil _ _, HB1.out, _, _, _, rfl⟩
  · have HT := keptQ hT
    clear hT
    go_enter Try.func21, Try.ntmps21
    go_wp2_with fail
    refine (i_ValidPatterns w _ T false HX.out HF.out (iff_no HT.out)).mono ?_
    rintro e w1 ⟨rfl, hb1⟩
    have HB1 := keptQ hb1
    clear hb1
    go_wp2
    go_ret
    exact ⟨_, rfl, OwnInts.nil _ _, HB1.out, _, _, _, rfl⟩
set_option maxHeartbeats 1000000 in
theorem s_HyphenPoints_no (w : World) (v : Value) (T : List PPat) (s : ByteArray) (hx : PatsAt w v T) (hf : PatsMid T) (hs : s.size ≤ 9223372036854775807) (hv : Hid (¬ OkH T s)) :
    Calls Try.prog 22 #[v, .string s] w fun e w' => LM [] w e w' := by
  have HX := keptQ hx
  obtain ⟨a, cp, rfl, _⟩ := hx
  have HF := keptQ hf
  clear hf
  by_cases hT : ValidPs T
  · have HWD : Hid (decide (WordB 16 s.data.toList) = false) := decide_eq_false fun h => hv.out ⟨hT, h⟩
    have HT := keptQ hT
    clear hT
    go_enter Try.func22, Try.ntmps22
    go_wp2_with fail
    refine (s_validPatterns w _ T true HX.out HF.out (show _ ↔ _ from ⟨fun _ => HT.out, fun _ => rfl⟩)).mono ?_
    rintro e w1 ⟨rfl, hb1⟩
    have HB1 := keptQ hb1
    clear hb1
    go_wp2_with fail
    refine (s_validWord_qt s false w1 hs HWD).mono ?_
    rintro e w' ⟨rfl, rfl⟩
    go_wp2
    go_ret
    exact ⟨_, rfl, OwnInts.nil _ _, HB1.out, _, _, _, rfl⟩
  · have HT := keptQ hT
    clear hT
    go_enter Try.func22, Try.ntmps22
    go_wp2_with fail
    refine (s_validPatterns w _ T false HX.out HF.out (iff_no HT.out)).mono ?_
    rintro e w1 ⟨rfl, hb1⟩
    have HB1 := keptQ hb1
    clear hb1
    go_wp2
    go_ret
    exact ⟨_, rfl, OwnInts.nil _ _, HB1.out, _, _, _, rfl⟩
end Go.Proofs.Ytpohkeenfbaklaa
