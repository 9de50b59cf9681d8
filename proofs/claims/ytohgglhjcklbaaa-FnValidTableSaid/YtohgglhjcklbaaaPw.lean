
/- Whether pieces make up a word, in the model. -/
import Derived.Test.YtohgglhjcklbaaaPv
namespace Go.Proofs.Ytohgglhjcklbaaa
open Go.RowKit

set_option maxHeartbeats 8000000 in
theorem s_validPieces (w : World) (v u : Value) (T : List PRule) (s : ByteArray) (P : List PPiece) (b : Bool) (hx : TableAt w v T) (hT : Hid (ValidTb T)) (h1 : 1 ≤ s.size) (h2 : s.size ≤ 16) (hy : PiecesAt w u P) (hp : PiecesFit P) (hb : Hid (b = true ↔ ValidPv T s P)) :
    Calls Try.prog 68 #[v, .string s, u] w fun e w' => e = .returned (.bool b) ∧ Below w.heap.size w w' := by
  have HX := Lib.hid hx
  have HP := Lib.hid hp
  obtain ⟨at', ct, rfl, t1, t2, t3⟩ := hx
  obtain ⟨a, cp, rfl, x1, x2, x3⟩ := hy
  obtain ⟨n, hn⟩ : ∃ n, P.length = n := ⟨_, rfl⟩
  rw [hn] at x1 x3 ⊢
  have HN := Lib.hid hn
  clear hn hp
  obtain ⟨tn, htn⟩ : ∃ tn, T.length = tn := ⟨_, rfl⟩
  rw [htn] at t1 t3 HX ⊢
  have tn16 : tn ≤ 16 := by have := hT.out.1; omega
  have HTN := Lib.hid htn
  clear htn
  have BNO : Hid (¬ ValidPv T s P → Hid (b = false)) := fun h => by
    show b = false
    cases b
    · rfl
    · exact absurd (hb.out.1 rfl) h
  have ut : IntKind.i64.wrap ((tn : Int) - 1) = (tn : Int) - 1 := IntWalk.i64_in _ (by omega)
  go_enter Try.func68, Try.ntmps68
  go_wp2
  go_loopw [7, 8] (fun q i wr => ∃ (k : Nat) (m : Nat), k ≤ n ∧ i = .int .i64 k ∧ q = .int .i64 m ∧ (m : Int) = endAt P k ∧ PvUp T s P k ∧ Below w.heap.size w wr) (fun _ i _ => n - (intOf i).toNat)
  case atStart => exact ⟨0, 0, Nat.zero_le _, rfl, rfl, rfl, PvUp.zero _ _ _, Below.refl _ _⟩
  case round =>
    obtain ⟨k, m, hk, rfl, rfl, hm, hok, hb1⟩ := hrel
    have hsz := hb1.size
    have hmb := endAt_bd hok hT.out.2.1
    rw [← hm] at hmb
    have HM := Lib.hid hm
    clear hm
    by_cases hlt : k < n
    · rcases x3 with rfl | ⟨g, off, rfl, x3⟩
      · exact absurd HN.out (by simp; omega)
      obtain ⟨q, hq⟩ : ∃ q, P.getD k noP = q := ⟨_, rfl⟩
      have hra := x3 k hlt
      have hpf := HP.out.at k
      rw [hq] at hra hpf
      have HQ := Lib.hid hq
      clear hq x3
      obtain ⟨r, f, t⟩ := q
      obtain ⟨⟨hr0, hr1⟩, ⟨hf0, hf1⟩, ht0, ht1⟩ := hpf
      simp only at hr0 hr1 hf0 hf1 ht0 ht1
      obtain ⟨c0, c1, c2⟩ := hra
      simp only at c0 c1 c2
      have c0 := (hb1.cell (World.block_lt_of_cell? w _ c0)).trans c0
      have c1 := (hb1.cell (World.block_lt_of_cell? w _ c1)).trans c1
      have c2 := (hb1.cell (World.block_lt_of_cell? w _ c2)).trans c2
      have hBW := hb1.alloc hsz (.cells #[.int .i64 r, .int .i64 f, .int .i64 t] 59)
      have HNO : Hid (¬ ((⟨r, f, t⟩ : PPiece).f = (m : Int) ∧ PcOk T s ⟨r, f, t⟩) → Hid (b = false)) := fun h => BNO.out fun hh => by
        have := hh.1 k (by rw [HN.out]; exact hlt)
        rw [HQ.out, ← HM.out] at this
        exact h this
      by_cases e1 : f = m
      · subst e1
        by_cases e2 : m < s.size
        · have d2 : decide ((s.size : Int) ≤ (m : Int)) = false := decide_eq_false (by omega)
          by_cases e3 : -1 ≤ r ∧ r ≤ (tn : Int) - 1
          · have e3' : -1 ≤ r := e3.1
            have e3'' : r ≤ (tn : Int) - 1 := e3.2
            clear e3
            have um : IntKind.i64.wrap ((m : Int) + 1) = (m : Int) + 1 := IntWalk.i64_in _ (by omega)
            by_cases e4 : r = -1
            · subst e4
              by_cases e5 : t = (m : Int) + 1
              · have hok' := hok.succ (by rw [HQ.out]; exact ⟨HM.out, by simp only; omega, by simp only; omega, .inl ⟨rfl, e5⟩⟩)
                have HE : Hid (((m + 1 : Nat) : Int) = endAt P (k + 1)) := by show _ = (P.getD k noP).t; rw [HQ.out]; simp only; omega
                have d5 : (t != (m : Int) + 1) = false := by simpa using e5
                clear hok e5
                go_wp2_with (go_at_call 51; refine (inRange_yes _ _ _ _ (by omega) (by omega)).mono ?_; rintro e w' ⟨rfl, rfl⟩)
                go_roundw
                case rel => exact ⟨k + 1, m + 1, by omega, by go_num, by go_num, HE.out, hok', hBW⟩
                case measure => simp [intOf]; omega
              · have HB := HNO.out fun h => by
                  rcases h.2.2.2 with ⟨_, h4⟩ | ⟨h3, _⟩
                  · exact e5 h4
                  · simp only at h3; omega
                have d5 : (t != (m : Int) + 1) = true := by simpa using e5
                clear hok e5
                go_wp2_with (go_at_call 51; refine (inRange_yes _ _ _ _ (by omega) (by omega)).mono ?_; rintro e w' ⟨rfl, rfl⟩)
                go_ret
                exact ⟨by rw [HB.out]; rfl, hBW⟩
            · obtain ⟨j, rfl⟩ : ∃ j : Nat, r = j := ⟨r.toNat, by omega⟩
              have hj : j < tn := by omega
              rcases t3 with rfl | ⟨gt, offt, rfl, t3⟩
              · exact absurd HTN.out (by simp; omega)
              obtain ⟨rr, hrr⟩ : ∃ rr, T.getD j noR = rr := ⟨_, rfl⟩
              have hta := t3 j hj
              have hvr := hT.out.2.1 j (by rw [HTN.out]; exact hj)
              rw [hrr] at hta hvr
              have HRR := Lib.hid hrr
              clear hrr t3
              obtain ⟨rt, zs, rp⟩ := rr
              have HVR := Lib.hid hvr
              have hrt : rt.size ≤ 6 := by have := hvr.1.2.1; rw [wd_size] at this; exact this
              obtain ⟨g0, ⟨uu, g1, hu⟩, g2⟩ := hta
              have HU : Hid (IntsAt w uu zs) := hu
              obtain ⟨a2, cp2, rfl, _⟩ := hu
              simp only at g0 g1 g2
              have k0 := (hBW.cell (World.block_lt_of_cell? w _ g0)).trans g0
              have k1 := (hBW.cell (World.block_lt_of_cell? w _ g1)).trans g1
              have k2 := (hBW.cell (World.block_lt_of_cell? w _ g2)).trans g2
              have p0 : (wr.alloc (.cells #[.int .i64 (j : Int), .int .i64 (m : Int), .int .i64 t] 59)).cell? ⟨wr.heap.size, 0, none⟩ = some (.int .i64 (j : Int)) := by rw [cell_of_row _ wr.heap.size 0 _ _ _ (heap_alloc_new wr _)]; rfl
              have p2 : (wr.alloc (.cells #[.int .i64 (j : Int), .int .i64 (m : Int), .int .i64 t] 59)).cell? ⟨wr.heap.size, 2, none⟩ = some (.int .i64 t) := by rw [cell_of_row _ wr.heap.size 2 _ _ _ (heap_alloc_new wr _)]; rfl
              have u2 : IntKind.i64.wrap ((m : Int) + (rt.size : Int)) = (m : Int) + (rt.size : Int) := IntWalk.i64_in _ (by omega)
              have hT' : Hid (T.getD (j : Int).toNat noR = ⟨rt, zs, rp⟩) := by show _ = _; rw [Int.toNat_natCast]; exact HRR.out
              clear e4
              go_wp2_with (go_at_call 51; refine (inRange_yes _ _ _ _ (by omega) (by omega)).mono ?_; rintro e w' ⟨rfl, rfl⟩)
              generalize wr.alloc (.cells #[.int .i64 (j : Int), .int .i64 (m : Int), .int .i64 t] 59) = W1 at hBW k0 k1 k2 p0 p2 ⊢
              clear c0 c1 c2 g1 g2
              have hU1 := HU.out.below hBW
              by_cases hA : App ⟨rt, zs, rp⟩ s (m : Int)
              · have HA := Lib.hid (decide_eq_true hA)
                refine (s_applies_v W1 _ rt zs rp s m true hU1 HVR (by omega) HA).mono ?_
                rintro e w3 ⟨rfl, hb3⟩
                have hB3 := hBW.trans (hb3.mono hBW.size)
                have q0 := (hb3.cell (World.block_lt_of_cell? W1 _ p0)).trans p0
                have q2 := (hb3.cell (World.block_lt_of_cell? W1 _ p2)).trans p2
                have q3 := (hb3.cell (World.block_lt_of_cell? W1 _ k0)).trans k0
                clear p0 p2 k0 k1 k2 g0
                by_cases e5 : t = (m : Int) + (rt.size : Int)
                · have hok' := hok.succ (by rw [HQ.out]; exact ⟨HM.out, by simp only; omega, by simp only; omega, .inr ⟨by simp only; omega, by have := HTN.out; simp only; omega, by simp only; rw [hT'.out]; exact hA, by simp only; rw [hT'.out]; exact e5⟩⟩)
                  have HE : Hid (((m + rt.size : Nat) : Int) = endAt P (k + 1)) := by show _ = (P.getD k noP).t; rw [HQ.out]; simp only; omega
                  have d5 : (t != (m : Int) + (rt.size : Int)) = false := by simpa using e5
                  clear hok e5 hA
                  go_wp2
                  go_roundw
                  case rel => exact ⟨k + 1, m + rt.size, by omega, by go_num, by go_num, HE.out, hok', hB3⟩
                  case measure => simp [intOf]; omega
                · have HB := HNO.out fun h => by
                    rcases h.2.2.2 with ⟨h3, _⟩ | ⟨_, _, _, h6⟩
                    · simp only at h3; omega
                    · simp only at h6; rw [hT'.out] at h6; exact e5 h6
                  have d5 : (t != (m : Int) + (rt.size : Int)) = true := by simpa using e5
                  clear hok e5 hA
                  go_wp2
                  go_ret
                  exact ⟨by rw [HB.out]; rfl, hB3⟩
              · have HA := Lib.hid (decide_eq_false hA)
                have HB := HNO.out fun h => by
                  rcases h.2.2.2 with ⟨h3, _⟩ | ⟨_, _, h5, _⟩
                  · simp only at h3; omega
                  · simp only at h5; rw [hT'.out] at h5; exact hA h5
                clear hA
                refine (s_applies_v W1 _ rt zs rp s m false hU1 HVR (by omega) HA).mono ?_
                rintro e w3 ⟨rfl, hb3⟩
                clear hok
                go_wp2
                go_ret
                exact ⟨by rw [HB.out]; rfl, hBW.trans (hb3.mono hBW.size)⟩
          · have HB := HNO.out fun h => by
              rcases h.2.2.2 with ⟨h3, _⟩ | ⟨h3, h4, _⟩
              · simp only at h3; omega
              · have := HTN.out; simp only at h3 h4; omega
            have e3' : r < -1 ∨ (tn : Int) - 1 < r := by omega
            clear hok e3
            go_wp2_with (go_at_call 51; refine (inRange_no _ _ _ _ (by omega)).mono ?_; rintro e w' ⟨rfl, rfl⟩)
            go_ret
            exact ⟨by rw [HB.out]; rfl, hBW⟩
        · have HB := HNO.out fun h => by have := h.2.2.1; simp only at this; omega
          have d2 : decide ((s.size : Int) ≤ (m : Int)) = true := decide_eq_true (by omega)
          clear hok
          go_wp2
          go_ret
          exact ⟨by rw [HB.out]; rfl, hBW⟩
      · have HB := HNO.out fun h => e1 h.1
        have d1 : (f != (m : Int)) = true := by simpa using e1
        clear hok e1
        go_wp2
        go_ret
        exact ⟨by rw [HB.out]; rfl, hBW⟩
    · obtain rfl : k = n := by omega
      by_cases e1 : m = s.size
      · have HB : Hid (b = true) := hb.out.2 (by rw [ValidPv, HN.out]; exact ⟨hok, by rw [← HM.out, e1]⟩)
        have d1 : ((m : Int) == (s.size : Int)) = true := by simp; omega
        clear hok e1
        go_wp2
        go_ret
        exact ⟨by rw [HB.out]; rfl, hb1⟩
      · have HB := BNO.out fun h => by
          have := h.2
          rw [HN.out, ← HM.out] at this
          omega
        have d1 : ((m : Int) == (s.size : Int)) = false := by simp; omega
        clear hok e1
        go_wp2
        go_ret
        exact ⟨by rw [HB.out]; rfl, hb1⟩

set_option maxHeartbeats 2000000 in
theorem s_ValidPieces (w : World) (v u : Value) (T : List PRule) (s : ByteArray) (P : List PPiece) (b : Bool) (hx : TableAt w v T) (hf : TableFits T) (hs : s.size ≤ 9223372036854775807) (hy : PiecesAt w u P) (hp : PiecesFit P) (hb : Hid (b = true ↔ (ValidTb T ∧ WordB 16 s.data.toList) ∧ ValidPv T s P)) :
    Calls Try.prog 37 #[v, .string s, u] w fun e w' => e = .returned (.bool b) ∧ Below w.heap.size w w' := by
  have HX := Lib.hid hx
  have HY := Lib.hid hy
  have HF := Lib.hid hf
  have HP := Lib.hid hp
  obtain ⟨_, _, rfl, _⟩ := hx
  obtain ⟨_, _, rfl, _⟩ := hy
  have BNO : Hid (¬ ((ValidTb T ∧ WordB 16 s.data.toList) ∧ ValidPv T s P) → Hid (b = false)) := fun h => by
    show b = false
    cases b
    · rfl
    · exact absurd (hb.out.1 rfl) h
  by_cases hT : ValidTb T
  · have HT := Lib.hid hT
    have HIT : Hid (∀ wx u, TableAt wx u T → Calls Try.prog 56 #[u] wx fun e w' => e = .returned (.bool true) ∧ Below wx.heap.size wx w') := fun wx u h => s_validTable wx u T true h HF.out ⟨fun _ => HT.out, fun _ => rfl⟩
    clear hT
    by_cases hW : WordB 16 s.data.toList
    · have hsl : 1 ≤ s.size ∧ s.size ≤ 16 := by have := hW.1; have := hW.2.1; have := wd_size s; omega
      have HIW : Hid (∀ wx, Calls Try.prog 62 #[.string s] wx fun e w' => e = .returned (.bool true) ∧ wx = w') := fun wx => by
        have := s_validWord s wx hs
        rw [decide_eq_true hW] at this
        exact this
      have HB2 : Hid (b = true ↔ ValidPv T s P) := hb.out.trans ⟨fun h => h.2, fun h => ⟨⟨HT.out, hW⟩, h⟩⟩
      clear hW
      go_enter Try.func37, Try.ntmps37
      go_wp2_with fail
      refine (HIT.out _ _ HX.out).mono ?_
      rintro e w1 ⟨rfl, hb1⟩
      go_wp2_with fail
      refine (HIW.out _).mono ?_
      rintro e w' ⟨rfl, rfl⟩
      go_wp2_with fail
      refine (s_validPieces w1 _ _ T s P b (HX.out.below hb1) HT hsl.1 hsl.2 (HY.out.below hb1) HP.out HB2).mono ?_
      rintro e w2 ⟨rfl, hb2⟩
      go_wp2
      go_ret
      exact ⟨rfl, below_next hb1 hb2⟩
    · have HB := BNO.out fun h => hW h.1.2
      have HIW : Hid (∀ wx, Calls Try.prog 62 #[.string s] wx fun e w' => e = .returned (.bool false) ∧ wx = w') := fun wx => by
        have := s_validWord s wx hs
        rw [decide_eq_false hW] at this
        exact this
      clear hW
      go_enter Try.func37, Try.ntmps37
      go_wp2_with fail
      refine (HIT.out _ _ HX.out).mono ?_
      rintro e w1 ⟨rfl, hb1⟩
      go_wp2_with fail
      refine (HIW.out _).mono ?_
      rintro e w' ⟨rfl, rfl⟩
      go_wp2
      go_ret
      exact ⟨by rw [HB.out]; rfl, hb1⟩
  · have HB := BNO.out fun h => hT h.1.1
    have HIT : Hid (∀ wx u, TableAt wx u T → Calls Try.prog 56 #[u] wx fun e w' => e = .returned (.bool false) ∧ Below wx.heap.size wx w') := fun wx u h => s_validTable wx u T false h HF.out (bool_iff_false hT)
    clear hT
    go_enter Try.func37, Try.ntmps37
    go_wp2_with fail
    refine (HIT.out _ _ HX.out).mono ?_
    rintro e w1 ⟨rfl, hb1⟩
    go_wp2
    go_ret
    exact ⟨by rw [HB.out]; rfl, hb1⟩
end Go.Proofs.Ytohgglhjcklbaaa
