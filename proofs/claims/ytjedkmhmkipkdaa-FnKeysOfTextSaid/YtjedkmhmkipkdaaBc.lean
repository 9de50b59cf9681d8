
/- ValidKeys and PlayKeys in the program. -/
import Derived.Test.YtjedkmhmkipkdaaBb
import Derived.Test.YtjedkmhmkipkdaaOwn
namespace Go.Proofs.Ytjedkmhmkipkdaa
open Go.RowKit

theorem OwnInts.isSliceB {w : World} {base : Nat} {v : Value} {zs : List Int} (h : OwnInts w base v zs) : ∃ a n c, v = .slice a n c := by
  rcases h.2 with ⟨h, _⟩ | ⟨g, cap, _, h, _⟩ <;> exact ⟨_, _, _, h⟩
theorem okKs_long {zs : List Int} (h : 280 < zs.length) : okKs zs = false := by
  unfold okKs; rw [decide_eq_false (by omega)]; rfl
theorem okKs_none {zs : List Int} (h : runK ks0 zs = none) : okKs zs = false := by
  unfold okKs; rw [h]; simp
theorem okKs_some {zs : List Int} {t : KS} (hl : zs.length ≤ 280) (h : runK ks0 zs = some t) : okKs zs = decide (t.d = 0) := by
  unfold okKs; rw [h, decide_eq_true hl]; rfl
/-- the keys behind the first k events -/
def Up (zs : List Int) (k : Nat) (t : KS) : Prop := runK ks0 (zs.take k) = some t ∧ KInv t
theorem Up.zero (zs : List Int) : Up zs 0 ks0 := ⟨by simp [runK], KInv.zero⟩
theorem Up.succ {zs : List Int} {k : Nat} {t : KS} {e : Int} (h : Up zs k t) (hk : k < zs.length) (he : zs.getD k 0 = e) (hc : CanB e t.d) : Up zs (k + 1) (nxtK t e) := by
  subst he
  exact ⟨runK_succ h.1 hk hc, h.2.next hc⟩
theorem Up.bad {zs : List Int} {k : Nat} {t : KS} {e : Int} (h : Up zs k t) (hk : k < zs.length) (he : zs.getD k 0 = e) (hc : ¬ CanB e t.d) : okKs zs = false := by
  subst he
  exact okKs_none (runK_bad h.1 hk hc)
theorem Up.ok {zs : List Int} {n : Nat} {t : KS} (h : Up zs n t) (hn : zs.length = n) (hl : n ≤ 280) : okKs zs = decide (t.d = 0) := by
  subst hn
  have := h.1
  rw [List.take_length] at this
  exact okKs_some hl this
theorem nxtK_d (t : KS) (e : Int) : (nxtK t e).d = aft e t.d := by unfold nxtK; split <;> simp_all
set_option maxHeartbeats 1000000 in
theorem i_ValidKeys (w : World) (u : Value) (zs : List Int) (b : Bool) (hx : IntsAt w u zs) (hf : Fits zs) (hb : Hid (okKs zs = b)) :
    Calls Try.prog 15 #[u] w fun e w' => e = .returned (.bool b) ∧ w = w' := by
  obtain ⟨a, c, rfl, x1, x2, x3⟩ := hx
  obtain ⟨n, hn⟩ : ∃ n, zs.length = n := ⟨_, rfl⟩
  rw [hn] at x1 x3 ⊢
  have HN := Lib.hid hn
  have HF := Lib.hid hf
  clear hn hf
  by_cases hbig : n ≤ 280
  · go_enter Try.func15, Try.ntmps15
    go_wp2
    go_loop [3, 11] (fun d i => ∃ (k : Nat) (t : KS) (m : Nat), k ≤ n ∧ i = .int .i64 k ∧ d = .int .i64 m ∧ Hid (t.d = m) ∧ Hid (Up zs k t)) (fun _ i => n - (intOf i).toNat)
    case atStart => exact ⟨0, ks0, 0, Nat.zero_le _, rfl, rfl, rfl, Up.zero _⟩
    case round =>
      obtain ⟨k, t, m, hk, rfl, rfl, hm, hs⟩ := hrel
      by_cases hlt : k < n
      · rcases x3 with rfl | ⟨g, off, rfl, x3⟩
        · exact absurd HN.out (by simp; omega)
        have cx := x3 k hlt
        have hfit := HF.out.at k
        obtain ⟨y, hy⟩ : ∃ y, zs.getD k 0 = y := ⟨_, rfl⟩
        rw [hy] at cx hfit
        have HY := Lib.hid hy
        have hm128 : m < 128 := by rw [← hm.out]; exact hs.out.2.1
        clear hy x3
        by_cases e : CanB y m
        · have he : Hid (decide (CanB y m) = true) := decide_eq_true e
          obtain ⟨m', hm'⟩ : ∃ m', aft y m = m' := ⟨_, rfl⟩
          have HM' := Lib.hid hm'
          have hs' : Hid (Up zs (k + 1) (nxtK t y)) := hs.out.succ (by rw [HN.out]; exact hlt) HY.out (by rw [hm.out]; exact e)
          have hd' : Hid ((nxtK t y).d = m') := by show _ = _; rw [nxtK_d, hm.out, HM'.out]
          clear hm'
          go_wp2_with (first | (go_at_call 36; refine (i_canHappen _ m _ true hm128 hfit he).mono ?_; rintro e w' ⟨rfl, rfl⟩) | (go_at_call 37; refine (i_downAfter _ m m' _ hm128 e HM').mono ?_; rintro e w' ⟨rfl, rfl⟩))
          go_round
          case rel => exact ⟨k + 1, nxtK t y, m', by omega, by go_num, rfl, hd', hs'⟩
          case measure => simp [intOf]; omega
        · have he : Hid (decide (CanB y m) = false) := decide_eq_false e
          have hbad : Hid (okKs zs = false) := hs.out.bad (by rw [HN.out]; exact hlt) HY.out (by rw [hm.out]; exact e)
          clear e
          go_wp2_with (go_at_call 36; refine (i_canHappen _ m _ false hm128 hfit he).mono ?_; rintro e w' ⟨rfl, rfl⟩)
          go_ret
          exact ⟨ret_bool (by rw [← hb.out, hbad.out]), rfl⟩
      · obtain rfl : k = n := by omega
        have hok := hs.out.ok HN.out hbig
        rw [hb.out, hm.out] at hok
        have hd : ((m : Int) == 0) = b := by rw [hok]; by_cases h0 : m = 0 <;> simp [h0]
        clear hok
        go_wp2
        go_ret
        exact ⟨rfl, rfl⟩
  · have hbig' : 280 < n := by omega
    have hbf : b = false := by rw [← hb.out]; exact okKs_long (by rw [HN.out]; exact hbig')
    subst hbf
    clear hb
    go_enter Try.func15, Try.ntmps15
    go_wp2
    go_ret
    exact ⟨rfl, rfl⟩
theorem playL_at {zs : List Int} {n : Nat} {t : KS} (h : Up zs n t) (hn : zs.length = n) (hok : okKs zs = true) : playL zs = t.out := by
  subst hn
  have := h.1
  rw [List.take_length] at this
  unfold playL
  rw [if_pos hok, this]
theorem Up.good {zs : List Int} {k : Nat} {t : KS} {e : Int} (h : Up zs k t) (hk : k < zs.length) (he : zs.getD k 0 = e) (hok : okKs zs = true) : CanB e t.d := by
  by_cases hc : CanB e t.d
  · exact hc
  · have := h.bad hk he hc
    rw [hok] at this
    simp at this
theorem Up.outs {zs : List Int} {k : Nat} {t : KS} (h : Up zs k t) (hk : k ≤ zs.length) : t.out.length ≤ k := by
  have := run_bounds _ KInv.zero h.1 (by intro z hz; simp [ks0] at hz)
  have h2 := this.2
  simp only [ks0, List.length_nil, List.length_take] at h2
  simp at h2
  split at h2 <;> omega
theorem or_tab : ∀ a : Nat, a < 128 → ∀ b : Nat, b < 128 → bits .or .i64 (a : Int) (b : Int) = ((a ||| b : Nat) : Int) := by decide +kernel
set_option maxHeartbeats 2000000 in
theorem i_PlayKeys (w : World) (u : Value) (zs L : List Int) (hx : IntsAt w u zs) (hf : Fits zs) (hL : Hid (playL zs = L)) :
    Calls Try.prog 20 #[u] w fun e w' => ∃ a n c, e = .returned (.slice a n c) ∧ OwnInts w' w.heap.size (.slice a n c) L ∧ Below w.heap.size w w' := by
  obtain ⟨i0, hi, hz0, hz1, hz2⟩ := info_parts infoInt
  have HX := Lib.hid hx
  obtain ⟨a, c, rfl, x1, x2, x3⟩ := hx
  obtain ⟨n, hn⟩ : ∃ n, zs.length = n := ⟨_, rfl⟩
  rw [hn] at x1 x3 HX ⊢
  have HN := Lib.hid hn
  have HF := Lib.hid hf
  clear hn hf
  obtain ⟨b, hb⟩ : ∃ b, okKs zs = b := ⟨_, rfl⟩
  have HB := Lib.hid hb
  clear hb
  cases b with
  | false =>
    have hl0 : Hid (L = []) := by show _ = _; rw [← hL.out]; exact playL_bad HB.out
    go_enter Try.func20, Try.ntmps20
    go_wp2_with (go_at_call 15; refine (i_ValidKeys _ _ zs false HX.out HF.out HB).mono ?_; rintro e w' ⟨rfl, rfl⟩)
    go_ret
    exact ⟨_, _, _, rfl, by rw [hl0.out]; exact OwnInts.nil _ _, Below.refl _ _⟩
  | true =>
    have hn280 : n ≤ 280 := by rw [← HN.out]; exact ((okKs_iff zs).1 HB.out).1
    go_enter Try.func20, Try.ntmps20
    go_wp2_with (go_at_call 15; refine (i_ValidKeys _ _ zs true HX.out HF.out HB).mono ?_; rintro e w' ⟨rfl, rfl⟩)
    go_loopw [3, 4, 5, 13] (fun v d c i wr => ∃ (k : Nat) (t : KS) (m q : Nat) (O : List Int), k ≤ n ∧ i = .int .i64 k ∧ d = .int .i64 m ∧ c = .int .i64 q ∧ Hid (t.d = m) ∧ Hid (t.c = q) ∧ Hid (t.out = O) ∧ Hid (Up zs k t) ∧ OwnInts wr w.heap.size v O ∧ Below w.heap.size w wr) (fun _ _ _ i _ => n - (intOf i).toNat)
    case atStart => exact ⟨0, ks0, 0, 0, [], Nat.zero_le _, rfl, rfl, rfl, rfl, rfl, rfl, Up.zero _, OwnInts.nil _ _, Below.refl _ _⟩
    case round =>
      obtain ⟨k, t, m, q, O, hk, rfl, rfl, rfl, hm, hq, hO, hs, hown, hbl⟩ := hrel
      have hsz := hbl.size
      by_cases hlt : k < n
      · rcases x3 with rfl | ⟨g, off, rfl, x3⟩
        · exact absurd HN.out (by simp; omega)
        have cx := (hbl.cell (World.block_lt_of_cell? w _ (x3 k hlt))).trans (x3 k hlt)
        obtain ⟨y, hy⟩ : ∃ y, zs.getD k 0 = y := ⟨_, rfl⟩
        rw [hy] at cx
        have hkl : k < zs.length := by rw [HN.out]; exact hlt
        have e : CanB y m := by rw [← hm.out]; exact hs.out.good hkl hy HB.out
        have HY := Lib.hid hy
        have hm128 : m < 128 := by rw [← hm.out]; exact hs.out.2.1
        have hq128 : q < 128 := by rw [← hq.out]; exact hs.out.2.2.1
        obtain ⟨m', hm'⟩ : ∃ m', aft y m = m' := ⟨_, rfl⟩
        have HM' := Lib.hid hm'
        have hm'128 : m' < 128 := by rw [← hm']; exact aft_lt hm128 e
        have hs' : Hid (Up zs (k + 1) (nxtK t y)) := hs.out.succ hkl HY.out (by rw [hm.out]; exact e)
        have hor := or_tab q hq128 m' hm'128
        have hOl : O.length ≤ 280 := by rw [← hO.out]; have := hs.out.outs (Nat.le_of_lt hkl); omega
        obtain ⟨q', hq'⟩ : ∃ q', q ||| m' = q' := ⟨_, rfl⟩
        rw [hq'] at hor
        have HQ' := Lib.hid hq'
        clear hy x3 hm' hkl hq'
        by_cases h0 : m' = 0
        · subst h0
          have hnx : nxtK t y = ⟨0, 0, O ++ [(q' : Int)]⟩ := by
            unfold nxtK
            rw [hm.out, HM'.out, if_pos rfl, hO.out, hq.out, HQ'.out]
          rw [hnx] at hs'
          have hor0 : bits .or .i64 (q : Int) (0 : Int) = (q' : Int) := hor
          clear hnx hor
          go_wp2_with (first | (go_at_call 37; refine (i_downAfter _ m 0 _ hm128 e HM').mono ?_; rintro e w' ⟨rfl, rfl⟩) | (at_builtin; refine wpList_append_own _ rfl _ _ 23 rfl w.heap.size 3 i0 (.int .i64 0) 1 8 Try.underlying23 hi hz0 hz1 hz2 rfl (by decide) _ _ _ rfl (hown.alloc _) ⟨wr.heap.size, 0, none⟩ 1 1 [.int .i64 (q' : Int)] rfl rfl new_one one_cell (by unfold maxLen; omega) (by omega) (by simp; omega) ?_))
          intro v' w1 hown' hgrow _
          have R1 := OwnInts.snoc hown'
          have R2 := below_append hbl hsz hown hgrow
          clear hown' hgrow hown hbl
          go_wp2
          go_roundw
          case rel => exact ⟨k + 1, ⟨0, 0, O ++ [(q' : Int)]⟩, 0, 0, _, by omega, by go_num, rfl, rfl, rfl, rfl, rfl, hs', R1, R2⟩
          case measure => simp [intOf]; omega
        · have h0' : ((m' : Int) == 0) = false := by simp; omega
          have hnx : nxtK t y = ⟨m', q', O⟩ := by
            unfold nxtK
            rw [hm.out, HM'.out, if_neg h0, hO.out, hq.out, HQ'.out]
          rw [hnx] at hs'
          clear hnx h0
          go_wp2_with (go_at_call 37; refine (i_downAfter _ m m' _ hm128 e HM').mono ?_; rintro e w' ⟨rfl, rfl⟩)
          go_roundw
          case rel => exact ⟨k + 1, ⟨m', q', O⟩, m', q', _, by omega, by go_num, rfl, rfl, rfl, rfl, rfl, hs', hown, hbl⟩
          case measure => simp [intOf]; omega
      · obtain rfl : k = n := by omega
        have hLO : Hid (L = O) := by show _ = _; rw [← hL.out, ← hO.out]; exact playL_at hs.out HN.out HB.out
        obtain ⟨_, _, _, rfl⟩ := hown.isSliceB
        go_wp2
        go_ret
        exact ⟨_, _, _, rfl, by rw [hLO.out]; exact hown, hbl⟩
end Go.Proofs.Ytjedkmhmkipkdaa
