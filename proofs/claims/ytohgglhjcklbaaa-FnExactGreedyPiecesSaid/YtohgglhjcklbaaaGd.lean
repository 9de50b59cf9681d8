
/- GreedyPieces, in the program. -/
import Derived.Test.YtohgglhjcklbaaaGc
namespace Go.Proofs.Ytohgglhjcklbaaa
open Go.RowKit

theorem i_isWord_t (s : ByteArray) (b : Bool) (w : World) (hs : s.size ≤ 9223372036854775807) (hb : Hid (decide (WordB 16 s.data.toList) = b)) :
    Calls Try.prog 64 #[.string s] w fun e w' => e = .returned (.bool b) ∧ w = w' := by
  have := i_isWord s w hs
  rw [hb.out] at this
  exact this
set_option maxHeartbeats 4000000 in
theorem i_GreedyPieces (w : World) (v : Value) (T : List PRule) (s : ByteArray) (hx : TableAt w v T) (hf : TableFits T) (hv : Hid (ValidTb T)) (hw : Hid (WordB 16 s.data.toList)) :
    Calls Try.prog 49 #[v, .string s] w fun e w' => GreedyMade T s w e w' := by
  have hsl : 1 ≤ s.size ∧ s.size ≤ 16 := by have h1 := hw.out.1; have h2 := hw.out.2.1; rw [wd_size] at h1 h2; exact ⟨h1, h2⟩
  have HX := keptH hx
  obtain ⟨ta, tc, hv0, _⟩ := hx
  subst hv0
  have HSZ := Lib.hid (sz_small hv.out)
  have HWD : Hid (decide (WordB 16 s.data.toList) = true) := decide_eq_true hw.out
  have hT16 : T.length ≤ 16 := hv.out.1
  obtain ⟨tn, htn⟩ : ∃ tn, T.length = tn := ⟨_, rfl⟩
  rw [htn] at HX hT16 ⊢
  have HTN := Lib.hid htn
  have HF := keptH hf
  clear htn hf
  go_enter Try.func49, Try.ntmps49
  go_wp2_with fail
  refine (i_ValidTable w _ T true HX.out HF.out (show _ ↔ _ from ⟨fun _ => hv.out, fun _ => rfl⟩)).mono ?_
  rintro e w1 ⟨rfl, hb1⟩
  have HX1 := keptH (HX.out.below hb1)
  go_wp2_with fail
  refine (i_isWord_t s true w1 (by omega) HWD).mono ?_
  rintro e w' ⟨rfl, rfl⟩
  have hs1 := hb1.size
  have HB1 := keptH hb1
  clear hb1
  go_wp2_with fail
  go_loopw [5, 6] (fun o i wr => ∃ j : Nat, i = .int .i64 (gpos T s j) ∧ OwnPn wr w.heap.size o (grL T s j) ∧ (∀ i, i < j → gpos T s i < s.size) ∧ j ≤ gpos T s j ∧ gpos T s j ≤ s.size ∧ Below w.heap.size w wr) (fun _ i _ => 100 - (intOf i).toNat)
  case atStart => exact ⟨0, rfl, OwnPn.nil _ _, fun i h => absurd h (by omega), by simp [gpos], by simp [gpos], HB1.out⟩
  case round =>
    obtain ⟨j, rfl, hO, hlt, hj, hle, hb⟩ := hrel
    have hsz := hb.size
    obtain ⟨k, hk⟩ : ∃ k, gpos T s j = k := ⟨_, rfl⟩
    rw [hk] at hj hle
    have HK := Lib.hid hk
    rw [hk]
    have HLT := keptH hlt
    have HO := keptH hO
    obtain ⟨ao, no, co, hoo⟩ := hO.isSlice
    subst hoo
    have HB := keptH hb
    have HXr := keptH (HX.out.below hb)
    clear hk hlt hO hb
    by_cases hks : k < s.size
    · obtain ⟨p1, p2, p3, p4, p5⟩ := pcG_bd hv.out hks
      have HST : Hid (gpos T s (j + 1) = (pcG T s k).t.toNat ∧ grL T s (j + 1) = grL T s j ++ [pcG T s k]) := by
        show _ ∧ _
        exact ⟨by show (pcG T s (gpos T s j)).t.toNat = _; rw [HK.out], by show grL T s j ++ [pcG T s (gpos T s j)] = _; rw [HK.out]⟩
      have hr0 : Hid (pcB T k (bst T s k) = pcG T s k) := (show pcB T k (bst T s k) = pcG T s k from rfl)
      have HP1 := keptH p1
      clear p1
      go_wp2_with fail
      refine (i_rulesAt wr _ T s k HXr.out hv hsl.1 hsl.2 (by omega) (by omega)).mono ?_
      rintro e w2 ⟨v2, rfl, hO2, hb2, a2, n2, c2, rfl⟩
      have hx2 := HXr.out.below hb2
      have hI2 := hO2.at
      have hOP2 := HO.out.below hb2
      have hB2 := HB.out.trans (hb2.mono hsz)
      clear hO2 hb2
      go_wp2_with fail
      refine (i_longestRule w2 _ _ T (rulesL T s k) hx2 HSZ hI2 (fun z hz => rulesTo_nn T.length hz)).mono ?_
      rintro e w3 ⟨rfl, hb3⟩
      have hx3 := hx2.below hb3
      have hs2 := hB2.size
      have hOP3 := hOP2.below hb3
      have hB3 := hB2.trans (hb3.mono hs2)
      have hs3 := hB3.size
      clear hx2 hI2 hOP2 hB2 hb3
      go_wp2_with fail
      refine (i_pieceAt w3 _ T (bst T s k) k hx3 HSZ HP1.out (by omega) (by rw [HTN.out]; omega)).mono ?_
      rw [hr0.out]
      generalize pcG T s k = x at p2 p3 p4 p5 HST
      obtain ⟨r, f, t⟩ := x
      simp only at p2 p3 p4 p5 HST ⊢
      rintro e w4 ⟨rfl, hb4⟩
      subst p2
      clear p5
      obtain ⟨t', rfl⟩ : ∃ t' : Nat, t = t' := ⟨t.toNat, by omega⟩
      have hOP4 := hOP3.below hb4
      have hB4 := hB3.trans (hb4.mono hs3)
      have hs4 := hB4.size
      clear hx3 hOP3 hB3 hb4
      have hO8 := keptH ((hOP4.below (Below.alloc (Below.refl _ _) (Nat.le_refl _) (.cells #[.int .i64 r, .int .i64 (k : Int), .int .i64 (t' : Int)] 59))).below (Below.alloc (Below.refl _ _) (Nat.le_refl _) (.cells #[.int .i64 r, .int .i64 (k : Int), .int .i64 (t' : Int)] 59)))
      have hA8 := pieceAt_alloc (w4.alloc (.cells #[.int .i64 r, .int .i64 (k : Int), .int .i64 (t' : Int)] 59)) ⟨r, (k : Int), (t' : Int)⟩
      rw [World.size_alloc] at hA8
      have hblk : Hid (((w4.alloc (.cells #[.int .i64 r, .int .i64 (k : Int), .int .i64 (t' : Int)] 59)).alloc (.cells #[.int .i64 r, .int .i64 (k : Int), .int .i64 (t' : Int)] 59)).heap[w4.heap.size]? = some (.cells #[.int .i64 r, .int .i64 (k : Int), .int .i64 (t' : Int)] 59 (0, 0))) := by
        show _ = _
        rw [Below.heap_alloc _ _ _ (by rw [World.size_alloc]; omega)]
        exact heap_alloc_new w4 _
      have HA8 := keptH hA8
      have HOP4 := keptH hOP4
      have HB4 := keptH hB4
      clear hA8 hOP4 hB4
      have hl9 : (grL T s j).length ≤ 100000 := by rw [grL_len]; omega
      have hl10 : w.heap.size ≤ ((w4.alloc (.cells #[.int .i64 r, .int .i64 (k : Int), .int .i64 (t' : Int)] 59)).alloc (.cells #[.int .i64 r, .int .i64 (k : Int), .int .i64 (t' : Int)] 59)).heap.size := by rw [World.size_alloc, World.size_alloc]; omega
      have HL9 := keptH (And.intro hl9 hl10)
      clear hl9 hl10
      go_wp2_with (at_builtin; go_loud (refine wpList_append_pn rfl _ _ rfl w.heap.size (w4.heap.size + 1) ⟨r, (k : Int), (t' : Int)⟩ rfl rfl hO8.out HA8.out HL9.out.1 HL9.out.2 ?_))
      intro v5 w5 hO9 hg9
      have e9 : w5.cell? ⟨w4.heap.size, 2, none⟩ = some (.int .i64 (t' : Int)) := by
        rw [cell_of_row w5 w4.heap.size 2 _ _ _ ((hg9.block w4.heap.size (by simp; omega) (fun e => by have := (World.ownsRow.lt HOP4.out _ e.symm).2; omega)).trans hblk.out)]
        rfl
      have hB9 : Below w.heap.size w w5 := ((HB4.out.alloc hs4 _).alloc (by rw [World.size_alloc]; omega) _).grown hg9 (by simp; omega) (fun q hq => (World.ownsRow.lt hO8.out q hq).1)
      rw [← HST.out.2] at hO9
      have NXT := keptH (And.intro hO9 hB9)
      have HG1 : Hid (gpos T s (j + 1) = t') := by show _ = _; rw [HST.out.1]; omega
      clear hO9 hg9 hB9 hblk HA8 hO8
      go_wp2
      go_roundw
      case rel => exact ⟨j + 1, by rw [HG1.out], NXT.out.1, fun i hi => by
        by_cases hij : i < j
        · exact HLT.out i hij
        · have : i = j := by omega
          rw [this, HK.out]; exact hks, by rw [HG1.out]; omega, by rw [HG1.out]; omega, NXT.out.2⟩
      case measure => simp [intOf]; omega
    · go_wp2
      go_ret
      exact ⟨_, j, rfl, HO.out, HLT.out, by rw [HK.out]; omega, by omega, HB.out⟩
end Go.Proofs.Ytohgglhjcklbaaa
