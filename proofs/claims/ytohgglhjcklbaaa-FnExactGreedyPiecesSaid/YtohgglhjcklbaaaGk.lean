
/- Greedy pieces: both sides for what is valid and what is not. -/
import Derived.Test.YtohgglhjcklbaaaGf
namespace Go.Proofs.Ytohgglhjcklbaaa
open Go.RowKit

def PcsMade (P : List PPiece) (w : World) (e : Ending) (w' : World) : Prop := ∃ v, e = .returned v ∧ OwnPn w' w.heap.size v P ∧ Below w.heap.size w w' ∧ ∃ a n c, v = .slice a n c
theorem greedy_end {T : List PRule} (hv : ValidTb T) (s : ByteArray) : ∃ j, (∀ i, i < j → gpos T s i < s.size) ∧ s.size ≤ gpos T s j ∧ j ≤ s.size := by
  have key : ∀ m, (∃ j, j ≤ m ∧ (∀ i, i < j → gpos T s i < s.size) ∧ s.size ≤ gpos T s j) ∨ (∀ i, i ≤ m → gpos T s i < s.size ∧ i ≤ gpos T s i) := by
    intro m
    induction m with
    | zero =>
      by_cases h : 0 < s.size
      · right; intro i hi
        obtain rfl : i = 0 := by omega
        exact ⟨h, Nat.le_refl _⟩
      · left; exact ⟨0, Nat.le_refl _, fun i hi => by omega, by omega⟩
    | succ m ih =>
      rcases ih with ⟨j, h1, h2, h3⟩ | ih
      · exact .inl ⟨j, by omega, h2, h3⟩
      · obtain ⟨h1, h2⟩ := ih m (Nat.le_refl _)
        obtain ⟨_, _, p3, p4, _⟩ := pcG_bd hv h1
        have hg : gpos T s (m + 1) = (pcG T s (gpos T s m)).t.toNat := rfl
        by_cases h : gpos T s (m + 1) < s.size
        · right; intro i hi
          by_cases him : i = m + 1
          · subst him; exact ⟨h, by omega⟩
          · exact ih i (by omega)
        · left; exact ⟨m + 1, Nat.le_refl _, fun i hi => (ih i (by omega)).1, by omega⟩
  rcases key s.size with ⟨j, h1, h2, h3⟩ | h
  · exact ⟨j, h2, h3, h1⟩
  · have := h s.size (Nat.le_refl _); omega
theorem made_of_greedy {T : List PRule} {s : ByteArray} {j : Nat} {w w' : World} {e : Ending} (h : GreedyMade T s w e w') (h1 : ∀ i, i < j → gpos T s i < s.size) (h2 : s.size ≤ gpos T s j) : PcsMade (grL T s j) w e w' := by
  obtain ⟨v, i, rfl, hO, h3, h4, _, hb⟩ := h
  obtain rfl := greedy_same h3 h4 h1 h2
  exact ⟨v, rfl, hO, hb, hO.isSlice⟩
set_option maxHeartbeats 1000000 in
theorem i_Greedy_no (w : World) (v : Value) (T : List PRule) (s : ByteArray) (hx : TableAt w v T) (hf : TableFits T) (hs : s.size ≤ 9223372036854775807) (hv : Hid (¬ (ValidTb T ∧ WordB 16 s.data.toList))) :
    Calls Try.prog 49 #[v, .string s] w fun e w' => PcsMade [] w e w' := by
  have HX := keptH hx
  obtain ⟨ta, tc, hv0, _⟩ := hx
  subst hv0
  have HF := keptH hf
  clear hf
  by_cases hT : ValidTb T
  · have HWD : Hid (decide (WordB 16 s.data.toList) = false) := decide_eq_false fun h => hv.out ⟨hT, h⟩
    have HT := keptH hT
    clear hT
    go_enter Try.func49, Try.ntmps49
    go_wp2_with fail
    refine (i_ValidTable w _ T true HX.out HF.out (show _ ↔ _ from ⟨fun _ => HT.out, fun _ => rfl⟩)).mono ?_
    rintro e w1 ⟨rfl, hb1⟩
    have HB1 := keptH hb1
    clear hb1
    go_wp2_with fail
    refine (i_isWord_t s false w1 hs HWD).mono ?_
    rintro e w' ⟨rfl, rfl⟩
    go_wp2
    go_ret
    exact ⟨_, rfl, OwnPn.nil _ _, HB1.out, _, _, _, rfl⟩
  · have HT := keptH hT
    clear hT
    go_enter Try.func49, Try.ntmps49
    go_wp2_with fail
    refine (i_ValidTable w _ T false HX.out HF.out (bool_iff_false HT.out)).mono ?_
    rintro e w1 ⟨rfl, hb1⟩
    have HB1 := keptH hb1
    clear hb1
    go_wp2
    go_ret
    exact ⟨_, rfl, OwnPn.nil _ _, HB1.out, _, _, _, rfl⟩
set_option maxHeartbeats 1000000 in
theorem s_Greedy_no (w : World) (v : Value) (T : List PRule) (s : ByteArray) (hx : TableAt w v T) (hf : TableFits T) (hs : s.size ≤ 9223372036854775807) (hv : Hid (¬ (ValidTb T ∧ WordB 16 s.data.toList))) :
    Calls Try.prog 48 #[v, .string s] w fun e w' => PcsMade [] w e w' := by
  have HX := keptH hx
  obtain ⟨ta, tc, hv0, _⟩ := hx
  subst hv0
  have HF := keptH hf
  clear hf
  by_cases hT : ValidTb T
  · have HWD : Hid (decide (WordB 16 s.data.toList) = false) := decide_eq_false fun h => hv.out ⟨hT, h⟩
    have HT := keptH hT
    clear hT
    go_enter Try.func48, Try.ntmps48
    go_wp2_with fail
    refine (s_validTable w _ T true HX.out HF.out (show _ ↔ _ from ⟨fun _ => HT.out, fun _ => rfl⟩)).mono ?_
    rintro e w1 ⟨rfl, hb1⟩
    have HB1 := keptH hb1
    clear hb1
    go_wp2_with fail
    refine (s_validWord_t s false w1 hs HWD).mono ?_
    rintro e w' ⟨rfl, rfl⟩
    go_wp2
    go_ret
    exact ⟨_, rfl, OwnPn.nil _ _, HB1.out, _, _, _, rfl⟩
  · have HT := keptH hT
    clear hT
    go_enter Try.func48, Try.ntmps48
    go_wp2_with fail
    refine (s_validTable w _ T false HX.out HF.out (bool_iff_false HT.out)).mono ?_
    rintro e w1 ⟨rfl, hb1⟩
    have HB1 := keptH hb1
    clear hb1
    go_wp2
    go_ret
    exact ⟨_, rfl, OwnPn.nil _ _, HB1.out, _, _, _, rfl⟩

end Go.Proofs.Ytohgglhjcklbaaa
