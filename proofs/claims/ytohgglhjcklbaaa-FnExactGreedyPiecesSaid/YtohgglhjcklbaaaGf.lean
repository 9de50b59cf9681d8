
/- GreedyPieces, in the model. -/
import Derived.Test.YtohgglhjcklbaaaGe
namespace Go.Proofs.Ytohgglhjcklbaaa
open Go.RowKit

theorem s_validWord_t (s : ByteArray) (b : Bool) (w : World) (hs : s.size ≤ 9223372036854775807) (hb : Hid (decide (WordB 16 s.data.toList) = b)) :
    Calls Try.prog 62 #[.string s] w fun e w' => e = .returned (.bool b) ∧ w = w' := by
  have := s_validWord s w hs
  rw [hb.out] at this
  exact this
set_option maxHeartbeats 4000000 in
theorem s_greedy (w : World) (g n c : Nat) (T : List PRule) (s : ByteArray) (hx : TableAt w (.slice (some ⟨g, 0, none⟩) n c) T) (hn : T.length = n) (hv : Hid (ValidTb T)) (hs : s.size ≤ 16) :
    Calls Try.prog 77 #[.slice (some ⟨g, 0, none⟩) n c, .string s] w fun e w' => GreedyMade T s w e w' := by
  have HX := keptH hx
  have HN := Lib.hid hn
  have hO0 := (OwnPc.made w w.heap.size (Nat.le_refl _)).1
  have HO0 : Hid (OwnPn _ w.heap.size _ []) := hO0
  have HB0 : Hid (Below w.heap.size w (w.alloc (.cells #[] 59))) := (Below.refl _ _).alloc (Nat.le_refl _) _
  clear hx hn hO0
  go_enter Try.func77, Try.ntmps77
  go_wp2
  go_loopw [5, 6] (fun o i wr => ∃ j : Nat, i = .int .i64 (gpos T s j) ∧ OwnPn wr w.heap.size o (grL T s j) ∧ (∀ i, i < j → gpos T s i < s.size) ∧ j ≤ gpos T s j ∧ gpos T s j ≤ s.size ∧ Below w.heap.size w wr) (fun _ i _ => 100 - (intOf i).toNat)
  case atStart => exact ⟨0, rfl, HO0.out, fun i h => absurd h (by omega), by simp [gpos], by simp [gpos], HB0.out⟩
  case round =>
    obtain ⟨j, rfl, hO, hlt, hj, hle, hb⟩ := hrel
    have hsz := hb.size
    obtain ⟨k, hk⟩ : ∃ k, gpos T s j = k := ⟨_, rfl⟩
    rw [hk] at hj hle
    have HK := Lib.hid hk
    rw [hk]
    have HLT := keptH hlt
    have HO := keptH hO
    obtain ⟨ao, no, co, hoo⟩ := hO.isSlice
    subst hoo
    have HB := keptH hb
    have hxr := HX.out.below hb
    clear hk hlt hO hb
    by_cases hks : k < s.size
    · obtain ⟨p1, p2, p3, p4, p5⟩ := pcG_bd hv.out hks
      have HST : Hid (gpos T s (j + 1) = (pcG T s k).t.toNat ∧ grL T s (j + 1) = grL T s j ++ [pcG T s k]) := by
        show _ ∧ _
        exact ⟨by show (pcG T s (gpos T s j)).t.toNat = _; rw [HK.out], by show grL T s j ++ [pcG T s (gpos T s j)] = _; rw [HK.out]⟩
      clear p1 p5
      go_wp2_with fail
      refine (choices_head wr g n c T s k hxr HN.out hv (by omega)).mono ?_
      rintro e w4 ⟨v4, P4, rfl, hO4, ⟨R, hR⟩, hl4, hb4⟩
      subst hR
      obtain ⟨g3, c3, hv3⟩ := hO4.2
      obtain ⟨q0, q1, q2, _⟩ := (show OwnPc w4 wr.heap.size (.slice (some ⟨g3, 0, none⟩) (pcG T s k :: R).length c3) (pcG T s k :: R) from hv3 ▸ hO4).cell3 (i := 0) (by simp)
      obtain ⟨n3, hn3⟩ : ∃ n3, (pcG T s k :: R).length = n3 := ⟨_, rfl⟩
      have hn31 : 1 ≤ n3 := by rw [← hn3]; simp
      rw [hn3] at hv3
      subst hv3
      have hgd : (pcG T s k :: R).getD 0 noP = pcG T s k := rfl
      rw [hgd] at q0 q1 q2
      clear hgd hn3 hO4 hl4
      generalize pcG T s k = x at p2 p3 p4 HST q0 q1 q2
      obtain ⟨r, f, t⟩ := x
      simp only at p2 p3 p4 HST q0 q1 q2
      subst p2
      obtain ⟨t', rfl⟩ : ∃ t' : Nat, t = t' := ⟨t.toNat, by omega⟩
      have hOP4 := HO.out.below hb4
      have hB4 := HB.out.trans (hb4.mono hsz)
      have hs4 := hB4.size
      have b2 : (0 : Int) < (n3 : Int) := by omega
      clear hxr hb4
      have hO8 := keptH ((hOP4.below (Below.alloc (Below.refl _ _) (Nat.le_refl _) (.cells #[.int .i64 r, .int .i64 (k : Int), .int .i64 (t' : Int)] 59))).below (Below.alloc (Below.refl _ _) (Nat.le_refl _) (.cells #[.int .i64 r, .int .i64 (k : Int), .int .i64 (t' : Int)] 59)))
      have hA8 := pieceAt_alloc (w4.alloc (.cells #[.int .i64 r, .int .i64 (k : Int), .int .i64 (t' : Int)] 59)) ⟨r, (k : Int), (t' : Int)⟩
      rw [World.size_alloc] at hA8
      have hblk : Hid (((w4.alloc (.cells #[.int .i64 r, .int .i64 (k : Int), .int .i64 (t' : Int)] 59)).alloc (.cells #[.int .i64 r, .int .i64 (k : Int), .int .i64 (t' : Int)] 59)).heap[w4.heap.size]? = some (.cells #[.int .i64 r, .int .i64 (k : Int), .int .i64 (t' : Int)] 59 (0, 0))) := by
        show _ = _
        rw [Below.heap_alloc _ _ _ (by rw [World.size_alloc]; omega)]
        exact heap_alloc_new w4 _
      have HA8 := keptH hA8
      have HOP4 := keptH hOP4
      have HB4 := keptH hB4
      clear hA8 hOP4 hB4
      have hl9 : (grL T s j).length ≤ 100000 := by rw [grL_len]; omega
      have hl10 : w.heap.size ≤ ((w4.alloc (.cells #[.int .i64 r, .int .i64 (k : Int), .int .i64 (t' : Int)] 59)).alloc (.cells #[.int .i64 r, .int .i64 (k : Int), .int .i64 (t' : Int)] 59)).heap.size := by rw [World.size_alloc, World.size_alloc]; omega
      have HL9 := keptH (And.intro hl9 hl10)
      clear hl9 hl10
      go_wp2_with (at_builtin; go_loud (refine wpList_append_pn rfl _ _ rfl w.heap.size (w4.heap.size + 1) ⟨r, (k : Int), (t' : Int)⟩ rfl rfl hO8.out HA8.out HL9.out.1 HL9.out.2 ?_))
      intro v5 w5 hO9 hg9
      have e9 : w5.cell? ⟨w4.heap.size, 2, none⟩ = some (.int .i64 (t' : Int)) := by
        rw [cell_of_row w5 w4.heap.size 2 _ _ _ ((hg9.block w4.heap.size (by simp; omega) (fun e => by have := (World.ownsRow.lt HOP4.out _ e.symm).2; omega)).trans hblk.out)]
        rfl
      have hB9 : Below w.heap.size w w5 := ((HB4.out.alloc hs4 _).alloc (by rw [World.size_alloc]; omega) _).grown hg9 (by simp; omega) (fun q hq => (World.ownsRow.lt hO8.out q hq).1)
      rw [← HST.out.2] at hO9
      have NXT := keptH (And.intro hO9 hB9)
      have HG1 : Hid (gpos T s (j + 1) = t') := by show _ = _; rw [HST.out.1]; omega
      clear hO9 hg9 hB9 hblk HA8 hO8 q0 q1 q2
      go_wp2
      go_roundw
      case rel => exact ⟨j + 1, by rw [HG1.out], NXT.out.1, fun i hi => by
        by_cases hij : i < j
        · exact HLT.out i hij
        · have : i = j := by omega
          rw [this, HK.out]; exact hks, by rw [HG1.out]; omega, by rw [HG1.out]; omega, NXT.out.2⟩
      case measure => simp [intOf]; omega
    · go_wp2
      go_ret
      exact ⟨_, j, rfl, HO.out, HLT.out, by rw [HK.out]; omega, by omega, HB.out⟩

set_option maxHeartbeats 1000000 in
theorem s_GreedyPieces (w : World) (g n c : Nat) (T : List PRule) (s : ByteArray) (hx : TableAt w (.slice (some ⟨g, 0, none⟩) n c) T) (hn : T.length = n) (hf : TableFits T) (hv : Hid (ValidTb T)) (hw : Hid (WordB 16 s.data.toList)) :
    Calls Try.prog 48 #[.slice (some ⟨g, 0, none⟩) n c, .string s] w fun e w' => GreedyMade T s w e w' := by
  have hsl : s.size ≤ 16 := by have h2 := hw.out.2.1; rw [wd_size] at h2; exact h2
  have HX := keptH hx
  have HN := Lib.hid hn
  have HF := keptH hf
  have HWD : Hid (decide (WordB 16 s.data.toList) = true) := decide_eq_true hw.out
  clear hx hn hf
  go_enter Try.func48, Try.ntmps48
  go_wp2_with fail
  refine (s_validTable w _ T true HX.out HF.out (show _ ↔ _ from ⟨fun _ => hv.out, fun _ => rfl⟩)).mono ?_
  rintro e w1 ⟨rfl, hb1⟩
  have hx1 := HX.out.below hb1
  have HB1 := keptH hb1
  clear hb1
  go_wp2_with fail
  refine (s_validWord_t s true w1 (by omega) HWD).mono ?_
  rintro e w' ⟨rfl, rfl⟩
  go_wp2_with fail
  refine (s_greedy w1 g n c T s hx1 HN.out hv hsl).mono ?_
  rintro e w2 ⟨v, j, rfl, hO, h1, h2, h3, hb2⟩
  have FIN := keptH (And.intro (World.ownsRow.mono hO HB1.out.size) (And.intro h1 (below_next HB1.out hb2)))
  clear hO h1 hb2 hx1
  go_wp2
  go_ret
  exact ⟨v, j, rfl, FIN.out.1, FIN.out.2.1, h2, h3, FIN.out.2.2⟩
/-- both runs end at the same piece -/
theorem greedy_same {T : List PRule} {s : ByteArray} {i j : Nat} (hi : ∀ m, m < i → gpos T s m < s.size) (hi2 : s.size ≤ gpos T s i) (hj : ∀ m, m < j → gpos T s m < s.size) (hj2 : s.size ≤ gpos T s j) : i = j := by
  rcases Nat.lt_trichotomy i j with h | h | h
  · have := hj i h; omega
  · exact h
  · have := hi j h; omega
end Go.Proofs.Ytohgglhjcklbaaa
