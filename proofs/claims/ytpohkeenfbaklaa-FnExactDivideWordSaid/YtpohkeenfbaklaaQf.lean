
/- Valid patterns: both sides. -/
import Derived.Test.YtpohkeenfbaklaaQd
import Derived.Test.YtpohkeenfbaklaaTbA
import Derived.Test.YtpohkeenfbaklaaQv
namespace Go.Proofs.Ytpohkeenfbaklaa
open Go.RowKit

def ValidPt (r : PPat) : Prop := WordB 6 r.t.data.toList ∧ r.c.length = r.t.size + 1 ∧ ∀ z ∈ r.c, 0 ≤ z ∧ z ≤ 9
def ValidPs (T : List PPat) : Prop := T.length ≤ 12 ∧ ∀ i, i < T.length → ValidPt (T.getD i noQ)
def LvUp (zs : List Int) (k : Nat) : Prop := ∀ i, i < k → 0 ≤ zs.getD i 0 ∧ zs.getD i 0 ≤ 9
theorem LvUp.zero (zs : List Int) : LvUp zs 0 := fun i h => absurd h (by omega)
theorem LvUp.succ {zs : List Int} {k : Nat} (h : LvUp zs k) (e : 0 ≤ zs.getD k 0 ∧ zs.getD k 0 ≤ 9) : LvUp zs (k + 1) := fun i hi => by
  by_cases hik : i = k
  · subst hik; exact e
  · exact h i (by omega)
theorem LvUp.all {zs : List Int} (h : LvUp zs zs.length) : ∀ z ∈ zs, 0 ≤ z ∧ z ≤ 9 := fun z hz => by
  obtain ⟨i, hi, rfl⟩ := List.getElem_of_mem hz
  have := h i hi
  rw [List.getD_eq_getElem?_getD, List.getElem?_eq_getElem hi] at this
  exact this
theorem getD_memQ {zs : List Int} {k : Nat} (h : k < zs.length) : zs.getD k 0 ∈ zs := by
  rw [List.getD_eq_getElem?_getD, List.getElem?_eq_getElem h, Option.getD_some]
  exact List.getElem_mem _
theorem i_onlySmall_t (s : ByteArray) (n : Nat) (b : Bool) (w : World) (hs : s.size ≤ 9223372036854775807) (hn : n ≤ 1000) (hb : Hid (decide (WordB n s.data.toList) = b)) :
    Calls Try.prog 59 #[.string s, .int .i64 n] w fun e w' => e = .returned (.bool b) ∧ w = w' := by
  have := i_onlySmall s n w hs hn
  rw [hb.out] at this
  exact this
theorem retb {a b : Bool} (h : a = b) : Ending.returned (.bool a) = .returned (.bool b) := by rw [h]
set_option maxHeartbeats 2000000 in
theorem i_isPattern (w : World) (u : Value) (t : ByteArray) (p1 p2 : Bool) (zs : List Int) (b : Bool) (hx : IntsAt w u zs) (hs : t.size ≤ 9223372036854775807) (hb : Hid (b = true ↔ ValidPt ⟨t, p1, p2, zs⟩)) :
    Calls Try.prog 42 #[.agg #[.string t, .bool p1, .bool p2, u]] w fun e w' => e = .returned (.bool b) ∧ Below w.heap.size w w' := by
  obtain ⟨a, cp, rfl, x1, x2, x3⟩ := hx
  obtain ⟨n, hn⟩ : ∃ n, zs.length = n := ⟨_, rfl⟩
  rw [hn] at x1 x3 ⊢
  have HN := Lib.hid hn
  have hB : Below w.heap.size w (w.alloc (.cells #[.string t, .bool p1, .bool p2, .slice a n cp] 28)) := (Below.refl _ _).alloc (Nat.le_refl _) _
  have k0 := heap_alloc_new w (.cells #[.string t, .bool p1, .bool p2, .slice a n cp] 28)
  have HNO : Hid (¬ ValidPt ⟨t, p1, p2, zs⟩ → b = false) := fun h => by
    cases b
    · rfl
    · exact absurd (hb.out.1 rfl) h
  have HYE : Hid (ValidPt ⟨t, p1, p2, zs⟩ → b = true) := fun h => hb.out.2 h
  clear hn hb
  by_cases hw : WordB 6 t.data.toList
  · have HWD : Hid (decide (WordB 6 t.data.toList) = true) := decide_eq_true hw
    have ht6 : t.size ≤ 6 := by have := hw.2.1; rw [wd_size] at this; exact this
    have HW := keptQ hw
    have HB := keptQ hB
    have c0 : (w.alloc (.cells #[.string t, .bool p1, .bool p2, .slice a n cp] 28)).cell? ⟨w.heap.size, 0, none⟩ = some (.string t) := by rw [cell_of_row _ _ 0 _ _ _ k0]; rfl
    have c3 : (w.alloc (.cells #[.string t, .bool p1, .bool p2, .slice a n cp] 28)).cell? ⟨w.heap.size, 3, none⟩ = some (.slice a n cp) := by rw [cell_of_row _ _ 3 _ _ _ k0]; rfl
    have u1 : IntKind.i64.wrap ((t.size : Int) + 1) = (t.size : Int) + 1 := IntWalk.i64_in _ (by omega)
    clear hw hB k0
    by_cases hl : n = t.size + 1
    · have d1 : ((n : Int) == (t.size : Int) + 1) = true := by simp; omega
      have HL := Lib.hid hl
      have X3 : Hid (∀ k, k < n → ∃ g off, a = some ⟨g, off, none⟩ ∧ (w.alloc (.cells #[.string t, .bool p1, .bool p2, .slice a n cp] 28)).cell? ⟨g, off + k, none⟩ = some (.int .i64 (zs.getD k 0))) := fun k hk => by
        rcases x3 with rfl | ⟨g, off, e, x3⟩
        · exact absurd HN.out (by simp; omega)
        · exact ⟨g, off, e, (HB.out.cell (World.block_lt_of_cell? w _ (x3 k hk))).trans (x3 k hk)⟩
      clear x3 hl
      go_enter Try.func42, Try.ntmps42
      go_wp2_with fail
      refine (i_onlySmall_t t 6 true _ hs (by omega) HWD).mono ?_
      rintro e w2 ⟨rfl, rfl⟩
      go_wp2
      go_loop [22] (fun i => ∃ k : Nat, k ≤ n ∧ i = .int .i64 k ∧ Hid (LvUp zs k)) (fun i => n - (intOf i).toNat)
      case atStart => exact ⟨0, Nat.zero_le _, rfl, LvUp.zero _⟩
      case round =>
        obtain ⟨k, hk, rfl, HU⟩ := hrel
        by_cases hlt : k < n
        · obtain ⟨g, off, rfl, cz⟩ := X3.out k hlt
          have hm := getD_memQ (zs := zs) (k := k) (by rw [HN.out]; exact hlt)
          obtain ⟨z, hz⟩ : ∃ z, zs.getD k 0 = z := ⟨_, rfl⟩
          rw [hz] at cz hm
          have HZ := Lib.hid hz
          have HM := keptQ hm
          clear hz hm
          by_cases hz0 : z < 0
          · have d2 : decide (z < 0) = true := decide_eq_true hz0
            have HF : Hid (b = false) := HNO.out fun h => by have := h.2.2 z HM.out; omega
            go_wp2
            go_ret
            exact ⟨retb HF.out.symm, HB.out⟩
          · have d2 : decide (z < 0) = false := decide_eq_false hz0
            by_cases hz9 : 9 < z
            · have d3 : decide (9 < z) = true := decide_eq_true hz9
              have HF : Hid (b = false) := HNO.out fun h => by have := h.2.2 z HM.out; omega
              go_wp2
              go_ret
              exact ⟨retb HF.out.symm, HB.out⟩
            · have d3 : decide (9 < z) = false := decide_eq_false hz9
              have HU' : Hid (LvUp zs (k + 1)) := HU.out.succ (by rw [HZ.out]; omega)
              go_wp2
              go_round
              case rel => exact ⟨k + 1, by omega, by go_num, HU'⟩
              case measure => simp [intOf]; omega
        · obtain rfl : k = n := by omega
          have HF : Hid (b = true) := HYE.out ⟨HW.out, by show zs.length = _; rw [HN.out]; exact HL.out, LvUp.all (by rw [HN.out]; exact HU.out)⟩
          go_wp2
          go_ret
          exact ⟨retb HF.out.symm, HB.out⟩
    · have d1 : ((n : Int) == (t.size : Int) + 1) = false := by simp; omega
      have HF : Hid (b = false) := HNO.out fun h => hl (by have := h.2.1; rw [show zs.length = n from HN.out] at this; exact this)
      clear hl
      go_enter Try.func42, Try.ntmps42
      go_wp2_with fail
      refine (i_onlySmall_t t 6 true _ hs (by omega) HWD).mono ?_
      rintro e w2 ⟨rfl, rfl⟩
      go_wp2
      go_ret
      exact ⟨retb HF.out.symm, HB.out⟩
  · have HWD : Hid (decide (WordB 6 t.data.toList) = false) := decide_eq_false hw
    have HF : Hid (b = false) := HNO.out fun h => hw h.1
    have HB := keptQ hB
    clear hw hB k0
    go_enter Try.func42, Try.ntmps42
    go_wp2_with fail
    refine (i_onlySmall_t t 6 false _ hs (by omega) HWD).mono ?_
    rintro e w2 ⟨rfl, rfl⟩
    go_wp2
    go_ret
    exact ⟨retb HF.out.symm, HB.out⟩
theorem small_word {t : ByteArray} : WordB 6 t.data.toList ↔ SmallB t.data.toList ∧ t.size ≤ 6 := by
  constructor
  · intro h; exact ⟨⟨h.1, h.2.2⟩, by have := h.2.1; rw [wd_size] at this; exact this⟩
  · intro h; exact ⟨h.1.1, by rw [wd_size]; exact h.2, h.1.2⟩
theorem s_isWord_t (s : ByteArray) (b : Bool) (w : World) (hs : s.size ≤ 9223372036854775807) (hb : Hid (decide (SmallB s.data.toList) = b)) :
    Calls Try.prog 63 #[.string s] w fun e w' => e = .returned (.bool b) ∧ w = w' := by
  have := s_isWord s w hs
  rw [hb.out] at this
  exact this
set_option maxHeartbeats 2000000 in
theorem s_validPattern (w : World) (u : Value) (t : ByteArray) (p1 p2 : Bool) (zs : List Int) (b : Bool) (hx : IntsAt w u zs) (hs : t.size ≤ 9223372036854775000) (hb : Hid (b = true ↔ ValidPt ⟨t, p1, p2, zs⟩)) :
    Calls Try.prog 60 #[.agg #[.string t, .bool p1, .bool p2, u]] w fun e w' => e = .returned (.bool b) ∧ Below w.heap.size w w' := by
  obtain ⟨a, cp, rfl, x1, x2, x3⟩ := hx
  obtain ⟨n, hn⟩ : ∃ n, zs.length = n := ⟨_, rfl⟩
  rw [hn] at x1 x3 ⊢
  have HN := Lib.hid hn
  have hB : Below w.heap.size w (w.alloc (.cells #[.string t, .bool p1, .bool p2, .slice a n cp] 28)) := (Below.refl _ _).alloc (Nat.le_refl _) _
  have k0 := heap_alloc_new w (.cells #[.string t, .bool p1, .bool p2, .slice a n cp] 28)
  have HNO : Hid (¬ ValidPt ⟨t, p1, p2, zs⟩ → b = false) := fun h => by
    cases b
    · rfl
    · exact absurd (hb.out.1 rfl) h
  have HYE : Hid (ValidPt ⟨t, p1, p2, zs⟩ → b = true) := fun h => hb.out.2 h
  have HB := keptQ hB
  have c0 : (w.alloc (.cells #[.string t, .bool p1, .bool p2, .slice a n cp] 28)).cell? ⟨w.heap.size, 0, none⟩ = some (.string t) := by rw [cell_of_row _ _ 0 _ _ _ k0]; rfl
  have c3 : (w.alloc (.cells #[.string t, .bool p1, .bool p2, .slice a n cp] 28)).cell? ⟨w.heap.size, 3, none⟩ = some (.slice a n cp) := by rw [cell_of_row _ _ 3 _ _ _ k0]; rfl
  have X3 : Hid (∀ k, k < n → ∃ g off, a = some ⟨g, off, none⟩ ∧ (w.alloc (.cells #[.string t, .bool p1, .bool p2, .slice a n cp] 28)).cell? ⟨g, off + k, none⟩ = some (.int .i64 (zs.getD k 0))) := fun k hk => by
    rcases x3 with rfl | ⟨g, off, e, x3⟩
    · exact absurd HN.out (by simp; omega)
    · exact ⟨g, off, e, (HB.out.cell (World.block_lt_of_cell? w _ (x3 k hk))).trans (x3 k hk)⟩
  have u1 : IntKind.i64.wrap ((t.size : Int) + 1) = (t.size : Int) + 1 := IntWalk.i64_in _ (by omega)
  clear hn hb hB k0 x3
  go_enter Try.func60, Try.ntmps60
  go_wp2
  go_loop [3] (fun i => ∃ k : Nat, k ≤ n ∧ i = .int .i64 k ∧ Hid (LvUp zs k)) (fun i => n - (intOf i).toNat)
  case atStart => exact ⟨0, Nat.zero_le _, rfl, LvUp.zero _⟩
  case round =>
    obtain ⟨k, hk, rfl, HU⟩ := hrel
    by_cases hlt : k < n
    · obtain ⟨g, off, rfl, cz⟩ := X3.out k hlt
      have hm := getD_memQ (zs := zs) (k := k) (by rw [HN.out]; exact hlt)
      obtain ⟨z, hz⟩ : ∃ z, zs.getD k 0 = z := ⟨_, rfl⟩
      rw [hz] at cz hm
      have HZ := Lib.hid hz
      have HM := keptQ hm
      have b1 : (0 : Int) ≤ (k : Int) := by omega
      have b2 : (k : Int) < (n : Int) := by omega
      clear hz hm
      by_cases hzz : 0 ≤ z ∧ z ≤ 9
      · have HU' : Hid (LvUp zs (k + 1)) := HU.out.succ (by rw [HZ.out]; exact hzz)
        go_wp2_with fail
        refine (inRange_yes z 0 9 _ hzz.1 hzz.2).mono ?_
        rintro e w2 ⟨rfl, rfl⟩
        clear hzz
        go_wp2
        go_round
        case rel => exact ⟨k + 1, by omega, by go_num, HU'⟩
        case measure => simp [intOf]; omega
      · have HF : Hid (b = false) := HNO.out fun h => hzz (h.2.2 z HM.out)
        go_wp2_with fail
        refine (inRange_no z 0 9 _ (by omega)).mono ?_
        rintro e w2 ⟨rfl, rfl⟩
        clear hzz
        go_wp2
        go_ret
        exact ⟨retb HF.out.symm, HB.out⟩
    · obtain rfl : k = n := by omega
      have HLV : Hid (∀ z ∈ zs, 0 ≤ z ∧ z ≤ 9) := LvUp.all (by rw [HN.out]; exact HU.out)
      clear HU
      by_cases hw : SmallB t.data.toList
      · have HWD : Hid (decide (SmallB t.data.toList) = true) := decide_eq_true hw
        have HW := keptQ hw
        clear hw
        by_cases h6 : t.size ≤ 6
        · have d6 : decide ((t.size : Int) ≤ 6) = true := decide_eq_true (by omega)
          by_cases hl : k = t.size + 1
          · have d1 : ((k : Int) == (t.size : Int) + 1) = true := by simp; omega
            have HF : Hid (b = true) := HYE.out ⟨small_word.2 ⟨HW.out, h6⟩, by show zs.length = _; rw [HN.out]; exact hl, HLV.out⟩
            clear hl
            go_wp2_with fail
            refine (s_isWord_t t true _ (by omega) HWD).mono ?_
            rintro e w2 ⟨rfl, rfl⟩
            go_wp2
            go_ret
            exact ⟨retb HF.out.symm, HB.out⟩
          · have d1 : ((k : Int) == (t.size : Int) + 1) = false := by simp; omega
            have HF : Hid (b = false) := HNO.out fun h => hl (by have := h.2.1; rw [show zs.length = k from HN.out] at this; exact this)
            clear hl
            go_wp2_with fail
            refine (s_isWord_t t true _ (by omega) HWD).mono ?_
            rintro e w2 ⟨rfl, rfl⟩
            go_wp2
            go_ret
            exact ⟨retb HF.out.symm, HB.out⟩
        · have d6 : decide ((t.size : Int) ≤ 6) = false := decide_eq_false (by omega)
          have HF : Hid (b = false) := HNO.out fun h => h6 (small_word.1 h.1).2
          go_wp2_with fail
          refine (s_isWord_t t true _ (by omega) HWD).mono ?_
          rintro e w2 ⟨rfl, rfl⟩
          go_wp2
          go_ret
          exact ⟨retb HF.out.symm, HB.out⟩
      · have HWD : Hid (decide (SmallB t.data.toList) = false) := decide_eq_false hw
        have HF : Hid (b = false) := HNO.out fun h => hw (small_word.1 h.1).1
        clear hw
        go_wp2_with fail
        refine (s_isWord_t t false _ (by omega) HWD).mono ?_
        rintro e w2 ⟨rfl, rfl⟩
        go_wp2
        go_ret
        exact ⟨retb HF.out.symm, HB.out⟩
end Go.Proofs.Ytpohkeenfbaklaa
