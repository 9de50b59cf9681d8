
/- The draw of BarsOf. -/
import Derived.Test.YtdkmbkojipkojaaNto
namespace Go.Proofs.Ytdkmbkojipkojaa
open Go.RowKit

set_option maxHeartbeats 4000000 in
theorem drawBarsOf_any (w : World) (a : Option Addr) (len cap : Nat) (zs : List Int) (h : RowIn .u8 w a len cap zs) :
    Calls Try.prog 14 #[.slice a len cap] w fun e w' => NotesIntOut w e w' := by
  obtain ⟨h1, h2, h3⟩ := bytesAt_of_row h
  clear h
  go_enter Try.func14, Try.ntmps14
  go_wp2_with fail
  refine (newReader_any w _ a len cap h1 (Nat.le_refl _) h2 h3).mono ?_
  rintro e w1 ⟨L, rfl, hrd, hgr⟩
  have HGR := keptN hgr
  have hlt1 := hrd.lt
  have ho1 := OwnNt.made w1 w1.heap.size (Nat.le_refl _)
  have hrdA := hrd.alloc (.cells #[] 37)
  have hg1 : w1.grownBy (w1.alloc (.cells #[] 37)) (some w.heap.size) := World.grownBy_alloc w1 _ _
  have hsz1 : (w1.alloc (.cells #[] 37)).heap.size = w1.heap.size + 1 := World.size_alloc _ _
  clear hgr hrd
  go_wp2_with fail
  obtain ⟨w0, hw0⟩ : ∃ w0, w1.alloc (.cells #[] 37) = w0 := ⟨_, rfl⟩
  rw [hw0] at ho1 hrdA hg1 hsz1 ⊢
  clear hw0
  refine (one_any (w0.alloc (.cells #[.int .i64 8, .int .i64 6, .int .i64 4, .int .i64 2, .int .i64 16, .int .i64 0, .int .i64 17] 3)) _ _ L 0 (w1.heap.size + 1) 7 7 [8, 6, 4, 2, 16, 0, 17] (hrdA.alloc _) (by have hh := heap_alloc_new w0 (.cells #[.int .i64 8, .int .i64 6, .int .i64 4, .int .i64 2, .int .i64 16, .int .i64 0, .int .i64 17] 3); rw [hsz1] at hh; exact hh) (by omega) (Lib.hid rfl) (by omega) (by omega) (by omega)).mono ?_
  rintro e w2 ⟨s, rfl, hz, hrd2, hgr2⟩
  have hs : 0 ≤ s ∧ s ≤ 17 ∧ (s ≤ 8 ∨ s = 16 ∨ s = 17) := by simp at hz; omega
  have HS := keptN hs
  have hgx : w0.grownBy w2 (some w.heap.size) := grown_trans (World.grownBy_alloc w0 _ _) hgr2
  have ho2 := ho1.overR hgx hlt1
  have hg2 := grown_trans hg1 hgx
  have hlt2 := hrd2.lt
  clear hgx hgr2 ho1 hg1 hrdA hz hsz1 hs
  go_wp2_with fail
  refine (one_any _ _ _ L 1 w2.heap.size 5 5 [3, 2, 4, 1, 0] (hrd2.alloc _) (heap_alloc_new w2 _) (by omega) (Lib.hid rfl) (by omega) (by omega) (by omega)).mono ?_
  rintro e w3 ⟨z, rfl, hz, hrd3, hgr3⟩
  obtain ⟨K, rfl, hK⟩ : ∃ K : Nat, z = K ∧ K ≤ 4 := by
    refine ⟨z.toNat, ?_, ?_⟩ <;> (simp at hz; omega)
  have hgx : w2.grownBy w3 (some w.heap.size) := grown_trans (World.grownBy_alloc w2 _ _) hgr3
  have ho3 := ho2.overR hgx hlt1
  have hg3 := grown_trans hg2 hgx
  clear hgx hgr3 ho2 hg2 hrd2 hz
  go_wp2_with fail
  go_loopw [5, 7] (fun o i wr => ∃ (k : Nat) (P : List PNote) (q : Nat), i = .int .i64 k ∧ k ≤ 4 ∧ P.length + 8 * k ≤ 32 ∧ OwnNt wr w1.heap.size o P ∧ RD wr w.heap.size w.heap.size L q ∧ q + 16 * k ≤ 66 ∧ w1.grownBy wr (some w.heap.size)) (fun _ i _ => (intOf i).toNat)
  case atStart => exact ⟨K, [], 2, rfl, hK, by simp; omega, ho3, hrd3, by omega, hg3⟩
  case round =>
    clear ho3 hrd3 hg3
    obtain ⟨k, P, q, rfl, hk, hPk, hown, hrd, hq, hg⟩ := hrel
    obtain ⟨ao, no, co, hoo⟩ := hown.isSlice
    subst hoo
    have HOW := keptN hown
    have HRD := keptN hrd
    have HG := keptN hg
    clear hown hrd hg
    by_cases hlt : 0 < k
    · rcases (show s = 0 ∨ (0 < s ∧ s < 8) ∨ s = 8 ∨ s = 16 ∨ s = 17 by have := HS.out; omega) with rfl | ⟨c1, c2⟩ | rfl | rfl | rfl
      all_goals
        go_wp2_with fail
        go_loopw [5, 8] (fun o l w4 => ∃ (x : Nat) (Q : List PNote) (q' : Nat), l = .int .i64 x ∧ x ≤ 8 ∧ Q.length + x ≤ P.length + 8 ∧ OwnNt w4 w1.heap.size o Q ∧ RD w4 w.heap.size w.heap.size L q' ∧ q' + 2 * x ≤ q + 16 ∧ w1.grownBy w4 (some w.heap.size)) (fun _ l _ => (intOf l).toNat)
        case atStart => first
          | exact ⟨0, P, q, rfl, by omega, by omega, HOW.out, HRD.out, by omega, HG.out⟩
          | exact ⟨8, P, q, rfl, by omega, by omega, HOW.out, HRD.out, by omega, HG.out⟩
          | exact ⟨s.toNat, P, q, by rw [Int.toNat_of_nonneg (by omega)], by omega, by omega, HOW.out, HRD.out, by omega, HG.out⟩
        case round =>
          clear HOW HRD HG
          obtain ⟨x, Q, q', rfl, hx, hQx, hown, hrd, hq', hg⟩ := hrel
          obtain ⟨ao, no, co, hoo⟩ := hown.isSlice
          subst hoo
          have hltR := hrd.lt
          by_cases hx0 : 0 < x
          · go_wp2_with fail
            refine (pick_any _ _ _ L q' _ hrd (by omega) (by omega) (by omega)).mono ?_
            rintro e w5 ⟨v, rfl, hv, hrd5, hgr5⟩
            have hown5 := hown.overR hgr5 hlt1
            have hg5 := grown_trans hg hgr5
            obtain ⟨r, hr⟩ : ∃ r, lenV (v : Int) = r := ⟨_, rfl⟩
            have hrb := lenV_bd (v : Int)
            rw [hr] at hrb
            have HR := keptN hr
            have hs5 := hg5.size
            clear hown hrd hg hgr5 hr
            go_wp2_with fail
            refine (s_lengthOf _ (v : Int) r (by omega) (by omega) HR).mono ?_
            rintro e w6 ⟨rfl, hb6⟩
            have hown6 := hown5.below hb6
            have hrd6 := hrd5.below hb6 hrd5.lt
            have hg6 : w1.grownBy w6 (some w.heap.size) := grown_trans hg5 ⟨hb6.os, hb6.tape, hb6.output, hb6.size, fun k hk _ => hb6.block k hk⟩
            have hs6 := hg6.size
            clear hown5 hrd5 hg5 hb6
            by_cases e1 : r ≤ (x : Int)
            · have d1 : decide (r ≤ (x : Int)) = true := decide_eq_true e1
              go_wp2_with fail
              refine (pick_any _ _ _ L (q' + 1) _ hrd6 (by omega) (by omega) (by omega)).mono ?_
              rintro e w7 ⟨p, rfl, hp, hrd7, hgr7⟩
              have hown7 := hown6.overR hgr7 hlt1
              have hg7 := grown_trans hg6 hgr7
              have hs7 := hg7.size
              have HA := keptN (noteAt_alloc w7 ⟨(p : Int), (v : Int)⟩)
              have HOA := keptN (hown7.below ((Below.refl _ _).alloc (Nat.le_refl _) (.cells #[.int .i64 (p : Int), .int .i64 (v : Int)] 37)))
              have HO7 := keptN hown7
              have HRG := keptN (And.intro hrd7 hg7)
              clear hown6 hrd6 hg6 hgr7 hown7 hrd7 hg7
              go_wp2_with (at_builtin; go_loud (refine wpList_append_note rfl _ _ rfl w1.heap.size w7.heap.size ⟨(p : Int), (v : Int)⟩ rfl rfl HOA.out HA.out (by omega) (by simp; omega) ?_))
              intro v8 w8 hown8 hgr8
              obtain ⟨R1, R2, R3⟩ := note_step hlt1 HO7.out HRG.out.1 HRG.out.2 hown8 hgr8
              have hlt8 := R2.lt
              have hs8 := R3.size
              clear hown8 hgr8 HO7 HRG HOA HA
              go_wp2_with fail
              refine (s_lengthOf _ (v : Int) r (by omega) (by omega) HR).mono ?_
              rintro e w9 ⟨rfl, hb9⟩
              have hown9 := R1.below hb9
              have hrd9 := R2.below hb9 hlt8
              have hg9 : w1.grownBy w9 (some w.heap.size) := grown_trans R3 ⟨hb9.os, hb9.tape, hb9.output, hb9.size, fun k hk _ => hb9.block k hk⟩
              have NXT := keptN (And.intro hown9 (And.intro hrd9 hg9))
              have hxr : ((x : Int) - r) = ((x - r.toNat : Nat) : Int) := by omega
              have us : IntKind.i64.wrap ((x : Int) - r) = ((x - r.toNat : Nat) : Int) := by rw [IntWalk.i64_in _ (by omega), hxr]
              clear R1 R2 R3 hb9 hown9 hrd9 hg9 hxr
              go_wp2
              go_roundw
              case rel => exact ⟨x - r.toNat, Q ++ [⟨(p : Int), (v : Int)⟩], q' + 2, rfl, by omega, by simp; omega, NXT.out.1, NXT.out.2.1, by omega, NXT.out.2.2⟩
              case measure => simp [intOf]; omega
            · have d1 : decide (r ≤ (x : Int)) = false := decide_eq_false e1
              have e1' : (x : Int) < r := by omega
              have d2 : decide ((x : Int) < 8) = true := decide_eq_true (by omega)
              have HA := keptN (noteAt_alloc w6 ⟨-1, 3⟩)
              have HOA := keptN (hown6.below ((Below.refl _ _).alloc (Nat.le_refl _) (.cells #[.int .i64 (-1), .int .i64 3] 37)))
              have HO7 := keptN hown6
              have HRG := keptN (And.intro hrd6 hg6)
              clear hown6 hrd6 hg6 e1
              go_wp2_with (at_builtin; go_loud (refine wpList_append_note rfl _ _ rfl w1.heap.size w6.heap.size ⟨-1, 3⟩ rfl rfl HOA.out HA.out (by omega) (by simp; omega) ?_))
              intro v8 w8 hown8 hgr8
              obtain ⟨R1, R2, R3⟩ := note_step hlt1 HO7.out HRG.out.1 HRG.out.2 hown8 hgr8
              have NXT := keptN (And.intro R1 (And.intro R2 R3))
              clear hown8 hgr8 HO7 HRG HOA HA R1 R2 R3
              go_wp2
              go_roundw
              case rel => exact ⟨x - 1, Q ++ [⟨-1, 3⟩], q' + 1, by go_num, by omega, by simp; omega, NXT.out.1, NXT.out.2.1, by omega, NXT.out.2.2⟩
              case measure => simp [intOf]; omega
          · obtain rfl : x = 0 := by omega
            have NXT := keptN (And.intro hown (And.intro hrd hg))
            clear hown hrd hg
            go_wp2
            go_roundw
            case rel => exact ⟨k - 1, Q, q', by go_num, by omega, by omega, NXT.out.1, NXT.out.2.1, by omega, NXT.out.2.2⟩
            case measure => simp [intOf]; omega
    · obtain rfl : k = 0 := by omega
      have hltR := HRD.out.lt
      have hgs := HG.out.size
      go_wp2_with fail
      refine (pick_any _ _ _ L q _ HRD.out (by omega) (by omega) (by omega)).mono ?_
      rintro e w5 ⟨v, rfl, hv, hrd5, hgr5⟩
      have HO5 := keptN (HOW.out.overR hgr5 hlt1)
      have hg5 := grown_trans HG.out hgr5
      clear HOW HRD HG hgr5
      by_cases hv0 : v = 0
      · subst hv0
        go_wp2_with fail
        refine (anyNotes_any _ _ _ L (q + 1) hrd5 (by omega)).mono ?_
        rintro e w6 ⟨a6, n6, c6, P6, q6, rfl, hown6, hl6, hrd6, hq6, hg6⟩
        have NXT := keptN (And.intro hown6.at (below_of_grownR HGR.out (grown_trans hg5 hg6) (Nat.le_refl _)))
        clear hown6 hrd6 hg6 hg5 hrd5
        go_wp2
        refine bodyPost_ret (results_twoN rfl _ _ _) rfl ?_
        exact ⟨_, _, _, P6, s, rfl, NXT.out.1, by omega, by have := HS.out; omega, NXT.out.2⟩
      · have d1 : ((v : Int) == 0) = false := by simp; omega
        have NXT := keptN (And.intro HO5.out.at (below_of_grownR HGR.out hg5 (Nat.le_refl _)))
        clear hg5 hrd5 HO5
        go_wp2
        refine bodyPost_ret (results_twoN rfl _ _ _) rfl ?_
        exact ⟨_, _, _, P, s, rfl, NXT.out.1, by omega, by have := HS.out; omega, NXT.out.2⟩
end Go.Proofs.Ytdkmbkojipkojaa
