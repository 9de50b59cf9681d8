
/- FnPlaceFits and FnExactPlaceFits: their walks. -/
import Derived.Test.YtohgglhjcklbaaaPF
import Derived.Test.YtohgglhjcklbaaaDrC
import Derived.Deep.RegionHeld3
namespace Go.Proofs.Ytohgglhjcklbaaa
open Go.RowKit

theorem i_PlaceFits_v (p f t m : Int) (b : Bool) (w : World) (h : Hid (decide (PF p f t m) = b)) :
    Calls Try.prog 16 #[.int .i64 p, .int .i64 f, .int .i64 t, .int .i64 m] w fun e w' => e = .returned (.bool b) ∧ w = w' := by
  have := i_PlaceFits p f t m w
  rw [h.out] at this
  exact this
theorem inRange_v (n lo hi : Int) (w : World) :
    Calls Try.prog 51 #[.int .i64 n, .int .i64 lo, .int .i64 hi] w fun e w' => e = .returned (.bool (decide (lo ≤ n) && decide (n ≤ hi))) ∧ w = w' := by
  by_cases h0 : lo ≤ n
  · by_cases h1 : n ≤ hi
    · rw [decide_eq_true h0, decide_eq_true h1]; exact inRange_yes n lo hi w h0 h1
    · rw [decide_eq_true h0, decide_eq_false h1]; exact inRange_no n lo hi w (by omega)
  · rw [decide_eq_false h0]; exact inRange_no n lo hi w (by omega)
theorem pf_not {p f t m : Int} (h : ¬ PF p f t m) (h2 : 1 ≤ m ∧ m ≤ 16) (h3 : 1 ≤ t ∧ t ≤ m) (h4 : 0 ≤ f ∧ f ≤ t - 1) : ¬ PFin p f t m :=
  fun hp => h ⟨by omega, by omega, by omega, by omega, hp⟩
set_option maxHeartbeats 1000000 in
theorem s_PlaceFits (p f t m : Int) (w : World) :
    Calls Try.prog 15 #[.int .i64 p, .int .i64 f, .int .i64 t, .int .i64 m] w fun e w' => e = .returned (.bool (decide (PF p f t m))) ∧ w = w' := by
  by_cases h1 : 0 ≤ p ∧ p ≤ 4
  · by_cases h2 : 1 ≤ m ∧ m ≤ 16
    · by_cases h3 : 1 ≤ t ∧ t ≤ m
      · by_cases h4 : 0 ≤ f ∧ f ≤ t - 1
        · have hd : decide (PF p f t m) = decide (PFin p f t m) := by
            by_cases hp : PFin p f t m
            · rw [decide_eq_true hp, decide_eq_true (show PF p f t m from ⟨by omega, by omega, by omega, by omega, hp⟩)]
            · rw [decide_eq_false hp, decide_eq_false (fun h : PF p f t m => hp h.2.2.2.2)]
          rw [hd]
          have ht : IntKind.i64.wrap (t - 1) = t - 1 := IntWalk.i64_in _ (by omega)
          go_enter Try.func15, Try.ntmps15
          go_wp2_with (first | (go_at_call 51; refine (inRange_yes _ _ _ _ (by omega) (by omega)).mono ?_; rintro e w' ⟨rfl, rfl⟩) | (go_at_call 52; refine (s_placeFits p f t m _ h1).mono ?_; rintro e w' ⟨rfl, rfl⟩))
          go_ret
          exact ⟨rfl, rfl⟩
        · rw [decide_eq_false (show ¬ PF p f t m from fun h => by unfold PF at h; omega)]
          have h4' : f < 0 ∨ t - 1 < f := by omega
          have ht : IntKind.i64.wrap (t - 1) = t - 1 := IntWalk.i64_in _ (by omega)
          go_enter Try.func15, Try.ntmps15
          go_wp2_with (go_at_call 51; first | (refine (inRange_yes _ _ _ _ (by omega) (by omega)).mono ?_; rintro e w' ⟨rfl, rfl⟩) | (refine (inRange_no _ _ _ _ (by omega)).mono ?_; rintro e w' ⟨rfl, rfl⟩))
          go_ret
          exact ⟨rfl, rfl⟩
      · rw [decide_eq_false (show ¬ PF p f t m from fun h => by unfold PF at h; omega)]
        have h3' : t < 1 ∨ m < t := by omega
        go_enter Try.func15, Try.ntmps15
        go_wp2_with (go_at_call 51; first | (refine (inRange_yes _ _ _ _ (by omega) (by omega)).mono ?_; rintro e w' ⟨rfl, rfl⟩) | (refine (inRange_no _ _ _ _ (by omega)).mono ?_; rintro e w' ⟨rfl, rfl⟩))
        go_ret
        exact ⟨rfl, rfl⟩
    · rw [decide_eq_false (show ¬ PF p f t m from fun h => by unfold PF at h; omega)]
      have h2' : m < 1 ∨ 16 < m := by omega
      go_enter Try.func15, Try.ntmps15
      go_wp2_with (go_at_call 51; first | (refine (inRange_yes _ _ _ _ (by omega) (by omega)).mono ?_; rintro e w' ⟨rfl, rfl⟩) | (refine (inRange_no _ _ _ _ (by omega)).mono ?_; rintro e w' ⟨rfl, rfl⟩))
      go_ret
      exact ⟨rfl, rfl⟩
  · rw [decide_eq_false (show ¬ PF p f t m from fun h => by unfold PF PFin at h; omega)]
    have h1' : p < 0 ∨ 4 < p := by omega
    go_enter Try.func15, Try.ntmps15
    go_wp2_with (go_at_call 51; refine (inRange_no _ _ _ _ (by omega)).mono ?_; rintro e w' ⟨rfl, rfl⟩)
    go_ret
    exact ⟨rfl, rfl⟩
theorem s_PlaceFits_v (p f t m : Int) (b : Bool) (w : World) (h : Hid (decide (PF p f t m) = b)) :
    Calls Try.prog 15 #[.int .i64 p, .int .i64 f, .int .i64 t, .int .i64 m] w fun e w' => e = .returned (.bool b) ∧ w = w' := by
  have := s_PlaceFits p f t m w
  rw [h.out] at this
  exact this

set_option maxHeartbeats 1000000 in
theorem exPlaceFits_walk (p f t m : Int) (w : World) :
    Calls Try.prog 3 #[.int .i64 p, .int .i64 f, .int .i64 t, .int .i64 m] w fun e w' => e = .returned (.bool true) ∧ Below w.heap.size w w' := by
  obtain ⟨b, hb⟩ : ∃ b, decide (PF p f t m) = b := ⟨_, rfl⟩
  have HB := Lib.hid hb
  clear hb
  go_enter Try.func3, Try.ntmps3
  go_wp2_with (first | (go_at_call 15; refine (s_PlaceFits_v _ _ _ _ b _ HB).mono ?_; rintro e w' ⟨rfl, rfl⟩) | (go_at_call 16; refine (i_PlaceFits_v _ _ _ _ b _ HB).mono ?_; rintro e w' ⟨rfl, rfl⟩))
  go_ret
  exact ⟨rfl, Below.refl _ _⟩

theorem results_four {fn : Func} {t u v x : Tmp} (h : fn.results = #[.tmp t, .tmp u, .tmp v, .tmp x]) (tmps : Array Value) (P : Program) (w : World) :
    (results fn tmps).run P w = .ok (.tuple #[tmps.getD t undef, tmps.getD u undef, tmps.getD v undef, tmps.getD x undef]) w := by
  simp [results, h]
/-- a draw of a place and a part -/
def PlaceDrawn (w : World) (e : Ending) (w' : World) : Prop :=
  ∃ p f t m : Int, e = .returned (.tuple #[.int .i64 p, .int .i64 f, .int .i64 t, .int .i64 m]) ∧ Below w.heap.size w w'
set_option maxHeartbeats 1000000 in
theorem drawPlaceFits_any (w : World) (a : Option Addr) (len cap : Nat) (zs : List Int) (h : RowIn .u8 w a len cap zs) :
    Calls Try.prog 17 #[.slice a len cap] w fun e w' => PlaceDrawn w e w' := by
  obtain ⟨h1, h2, h3⟩ := bytesAt_of_row h
  clear h
  go_enter Try.func17, Try.ntmps17
  go_wp2_with fail
  refine (newReader_any w _ a len cap h1 (Nat.le_refl _) h2 h3).mono ?_
  rintro e w1 ⟨L, rfl, hrd, hgr⟩
  have hs1 := hgr.size
  go_wp2_with fail
  refine (one_any _ _ _ L 0 w1.heap.size 7 7 [3, 5, 1, 16, 17, 0, 4] (hrd.alloc _) (heap_alloc_new w1 _) (by have := hrd.lt; omega) (Lib.hid rfl) (by omega) (by omega) (by omega)).mono ?_
  rintro e w2 ⟨m, rfl, hm, hrd2, hgr2⟩
  have hm' : 0 ≤ m ∧ m ≤ 17 := by simp at hm; omega
  have hg2 := grown_trans (World.grownBy_alloc w1 _ _) hgr2
  clear hm hrd
  go_wp2_with fail
  refine (one_any _ _ _ L 1 w2.heap.size 6 6 [0, 0, 1, 2, -1, m - 1] (hrd2.alloc _) (heap_alloc_new w2 _) (by have := hrd2.lt; omega) (Lib.hid rfl) (by omega) (by omega) (by omega)).mono ?_
  rintro e w3 ⟨f, rfl, hf, hrd3, hgr3⟩
  have hf' : -1 ≤ f ∧ f ≤ 16 := by simp at hf; omega
  have hg3 := grown_trans hg2 (grown_trans (World.grownBy_alloc w2 _ _) hgr3)
  clear hf hrd2 hg2 hgr2 hgr3
  have hB3 : Below w.heap.size w w3 := below_of_grown (grown_new hgr hg3 (Nat.le_refl _))
  have hl3 := hrd3.lt
  go_wp2_with fail
  refine (one_any _ _ _ L 2 w3.heap.size 7 7 [0, 1, 2, 3, 4, 5, -1] (hrd3.alloc _) (heap_alloc_new w3 _) (by omega) (Lib.hid rfl) (by omega) (by omega) (by omega)).mono ?_
  rintro e w4 ⟨x1, rfl, hx1, hrd4, hgr4⟩
  have hg4 := grown_trans hg3 (grown_trans (World.grownBy_alloc w3 _ _) hgr4)
  have hl4 := hrd4.lt
  clear hx1 hrd3 hg3 hgr4 hB3
  go_wp2_with fail
  refine (one_any _ _ _ L 3 w4.heap.size 6 6 [f + 1, m, m, f, m + 1, f + 2] (hrd4.alloc _) (heap_alloc_new w4 _) (by omega) (Lib.hid rfl) (by omega) (by omega) (by omega)).mono ?_
  rintro e w5 ⟨x2, rfl, hx2, hrd5, hgr5⟩
  have hx2' : -1 ≤ x2 ∧ x2 ≤ 18 := by simp at hx2; omega
  have hg5 := grown_trans hg4 (grown_trans (World.grownBy_alloc w4 _ _) hgr5)
  clear hx2 hrd4 hg4 hgr5
  go_wp2
  refine bodyPost_ret (results_four rfl _ _ _) rfl ?_
  exact ⟨x1, f, x2, m, rfl, below_of_grown (grown_new hgr hg5 (Nat.le_refl _))⟩

/-- how many of the places 1 to k have the part -/
def pfCount (f t m : Int) : Nat → Int
  | 0 => 0
  | k + 1 => pfCount f t m k + (if PF (k + 1 : Nat) f t m then 1 else 0)
theorem pfCount_le (f t m : Int) (k : Nat) : 0 ≤ pfCount f t m k ∧ pfCount f t m k ≤ k := by
  induction k with
  | zero => simp [pfCount]
  | succ k ih => unfold pfCount; split <;> omega
theorem pf_one {f t m : Int} (h : PF 0 f t m) : pfCount f t m 4 = 1 := by
  unfold PF PFin at h
  have e1 : ∀ p : Int, PF p f t m ↔ PFin p f t m := fun p => ⟨fun h => h.2.2.2.2, fun hp => ⟨by omega, by omega, by omega, by omega, hp⟩⟩
  simp only [pfCount, e1, PFin]
  by_cases a : f = 0 <;> by_cases b : t = m
  · rw [if_pos (by omega), if_neg (by omega), if_neg (by omega), if_neg (by omega)]; rfl
  · rw [if_neg (by omega), if_pos (by omega), if_neg (by omega), if_neg (by omega)]; rfl
  · rw [if_neg (by omega), if_neg (by omega), if_neg (by omega), if_pos (by omega)]; rfl
  · rw [if_neg (by omega), if_neg (by omega), if_pos (by omega), if_neg (by omega)]; rfl
theorem pf_zero {f t m : Int} (h : ¬ PF 0 f t m) : ∀ p, ¬ PF p f t m := fun _ hp => h ⟨hp.1, hp.2.1, hp.2.2.1, hp.2.2.2.1, .inl rfl⟩
theorem pf_none {f t m : Int} (h : ¬ PF 0 f t m) : pfCount f t m 4 = 0 := by
  have := pf_zero h
  simp only [pfCount, if_neg (this _)]; rfl

set_option maxHeartbeats 1000000 in
theorem placeFits_walk (a : Option Addr) (len cap : Nat) (zs : List Int) (w : World) (h : RowIn .u8 w a len cap zs) :
    Calls Try.prog 4 #[.slice a len cap] w fun e w' => e = .returned (.bool true) ∧ Below w.heap.size w w' := by
  have hlen : len ≤ 9223372036854775807 := by
    obtain ⟨_, h2, h3⟩ := bytesAt_of_row h; unfold maxLen at h3; omega
  by_cases hbig : len ≤ 1048576
  · go_enter Try.func4, Try.ntmps4
    go_wp2_with fail
    refine (drawPlaceFits_any w a len cap zs h).mono ?_
    rintro e w1 ⟨p, f, t, m, rfl, hb1⟩
    obtain ⟨b, hb⟩ : ∃ b, decide (PF p f t m) = b := ⟨_, rfl⟩
    have HB := Lib.hid hb
    obtain ⟨c, hc⟩ : ∃ c, decide (PF 0 f t m) = c := ⟨_, rfl⟩
    have HC := Lib.hid hc
    clear hb hc
    go_wp2_with (first | (go_at_call 15; refine (s_PlaceFits_v _ _ _ _ b _ HB).mono ?_; rintro e w' ⟨rfl, rfl⟩) | (go_at_call 16; refine (i_PlaceFits_v _ _ _ _ b _ HB).mono ?_; rintro e w' ⟨rfl, rfl⟩))
    go_loop [8, 9] (fun n i => ∃ k : Nat, k ≤ 4 ∧ i = .int .i64 (k + 1) ∧ n = .int .i64 (pfCount f t m k)) (fun _ i => 6 - (intOf i).toNat)
    case atStart => exact ⟨0, by omega, rfl, rfl⟩
    case round =>
      obtain ⟨k, hk, rfl, rfl⟩ := hrel
      obtain ⟨q, hq⟩ : ∃ q, pfCount f t m k = q := ⟨_, rfl⟩
      have hq' := pfCount_le f t m k
      rw [hq] at hq' ⊢
      have HQ := Lib.hid hq
      clear hq
      by_cases hlt : k < 4
      · obtain ⟨d, hd⟩ : ∃ d, decide (PF ((k : Int) + 1) f t m) = d := ⟨_, rfl⟩
        have HD := Lib.hid hd
        have hk1 : ((k + 1 : Nat) : Int) = (k : Int) + 1 := by omega
        cases d
        · have hn : pfCount f t m (k + 1) = q := by
            have := of_decide_eq_false hd
            unfold pfCount; rw [if_neg (by rw [hk1]; exact this), HQ.out]; omega
          clear hd
          go_wp2_with (go_at_call 16; refine (i_PlaceFits_v _ _ _ _ false _ HD).mono ?_; rintro e w' ⟨rfl, rfl⟩)
          go_round
          case rel => exact ⟨k + 1, by omega, by go_num, by rw [hn]⟩
          case measure => simp [intOf]; omega
        · have hn : pfCount f t m (k + 1) = q + 1 := by
            have := of_decide_eq_true hd
            unfold pfCount; rw [if_pos (by rw [hk1]; exact this), HQ.out]
          clear hd
          go_wp2_with (go_at_call 16; refine (i_PlaceFits_v _ _ _ _ true _ HD).mono ?_; rintro e w' ⟨rfl, rfl⟩)
          go_round
          case rel => exact ⟨k + 1, by omega, by go_num, by rw [hn]⟩
          case measure => simp [intOf]; omega
      · obtain rfl : k = 4 := by omega
        cases c
        · have h0 : ¬ PF 0 f t m := of_decide_eq_false HC.out
          have hq0 : q = 0 := by rw [← HQ.out]; exact pf_none h0
          have hb0 : b = false := by rw [← HB.out]; exact decide_eq_false (pf_zero h0 p)
          subst hq0 hb0
          clear h0
          go_wp2_with (go_at_call 16; refine (i_PlaceFits_v _ _ _ _ false _ HC).mono ?_; rintro e w' ⟨rfl, rfl⟩)
          go_ret
          exact ⟨rfl, hb1⟩
        · have hq0 : q = 1 := by rw [← HQ.out]; exact pf_one (of_decide_eq_true HC.out)
          subst hq0
          go_wp2_with (go_at_call 16; refine (i_PlaceFits_v _ _ _ _ true _ HC).mono ?_; rintro e w' ⟨rfl, rfl⟩)
          go_ret
          exact ⟨rfl, hb1⟩
  · have hbig' : 1048576 < len := by omega
    go_enter Try.func4, Try.ntmps4
    go_wp2
    go_ret
    exact ⟨rfl, Below.refl _ _⟩
end Go.Proofs.Ytohgglhjcklbaaa
