
/- CellsOfAscii of the model, and the exact laws. -/
import Derived.Test.YthojahknocageaaAd
import Derived.Deep.QuietTactic
import Derived.BigQuiet
namespace Go.Proofs.Ythojahknocageaa
open Go.RowKit

/-- the model's reader: all cells, and whether they are few -/
def SA (l : List UInt8) (L : List Int) (b : Bool) : Prop := (AUp l l.length ∧ L = acL l l.length ∧ b = decide (l.length ≤ 200)) ∨ (¬ AUp l l.length ∧ L = [] ∧ b = false)
theorem sa_ex (l : List UInt8) : ∃ L b, SA l L b := by
  by_cases h : AUp l l.length
  · exact ⟨_, _, .inl ⟨h, rfl, rfl⟩⟩
  · exact ⟨_, _, .inr ⟨h, rfl, rfl⟩⟩
theorem not_all {l : List UInt8} {k : Nat} (hk : k < l.length) (h : ¬ acell l[k] < 64) : ¬ AUp l l.length := fun h' => h (h' _ (by rw [List.take_length]; exact List.getElem_mem _))
theorem SA.bad {l : List UInt8} {L : List Int} {b : Bool} (h : SA l L b) (hn : ¬ AUp l l.length) : L = [] ∧ b = false := by
  rcases h with ⟨h, _⟩ | ⟨_, h1, h2⟩
  · exact absurd h hn
  · exact ⟨h1, h2⟩
theorem SA.good {l : List UInt8} {L : List Int} {b : Bool} (h : SA l L b) (hn : AUp l l.length) : L = acL l l.length ∧ b = decide (l.length ≤ 200) := by
  rcases h with ⟨_, h1, h2⟩ | ⟨h, _⟩
  · exact ⟨h1, h2⟩
  · exact absurd hn h
/-- the first q characters of the table are others -/
def NotUp (b : UInt8) (q : Nat) : Prop := ∀ j, j < q → amap.getD j 0 ≠ b
theorem NotUp.zero (b : UInt8) : NotUp b 0 := fun j h => absurd h (by omega)
theorem NotUp.succ {b : UInt8} {q : Nat} (h : NotUp b q) (e : amap.getD q 0 ≠ b) : NotUp b (q + 1) := fun j hj => by
  by_cases hjq : j = q
  · subst hjq; exact e
  · exact h j (by omega)
theorem amapB_getElem {m : Nat} (h : m < 64) : amapB[m]'(by show m < 64; exact h) = amap.getD m 0 := by
  have := ach_nat h
  unfold ach at this
  rw [Int.toNat_natCast] at this
  exact this
set_option maxRecDepth 20000 in
set_option maxHeartbeats 2000000 in
theorem s_cellsOfAscii (s : ByteArray) (l : List UInt8) (L : List Int) (b : Bool) (w : World) (hL : Hid (s.data.toList = l)) (hs : s.size ≤ 1048576) (hr : Hid (SA l L b)) :
    Calls Try.prog 33 #[.string s] w fun e w' => ∃ a n c, e = .returned (.tuple #[.slice a n c, .bool b]) ∧ OwnInts w' w.heap.size (.slice a n c) L ∧ Below w.heap.size w w' := by
  obtain ⟨i0, hi, hz0, hz1, hz2⟩ := info_parts infoInt
  have HL : Hid (l.length = s.size) := by show _ = _; rw [← hL.out, data_size]
  have HE : Hid (∀ k (h : k < s.size), ∃ h2 : k < l.length, l[k] = s[k]) := fun k h => by
    have := hL.out
    subst this
    exact ⟨by rw [data_size]; exact h, rfl⟩
  obtain ⟨A, hA⟩ : ∃ A, amapB = A := ⟨_, rfl⟩
  have HAS : Hid (A.size = 64) := by show _ = _; rw [← hA]; rfl
  have HAG : Hid (∀ m (h : m < 64) (h2 : m < A.size), A[m]'h2 = amap.getD m 0) := fun m hm h2 => by subst hA; exact amapB_getElem hm
  have HM : Hid (∀ w, Calls Try.prog 43 #[] w fun e w' => e = .returned (.string A) ∧ w' = w) := fun w => by rw [← hA]; exact s_asciiMap w
  have hO0 : OwnInts (w.alloc (.cells #[] 3)) w.heap.size (.slice (some ⟨w.heap.size, 0, none⟩) 0 0) [] := OwnInts.made w w.heap.size (Nat.le_refl _)
  have hB0 : Below w.heap.size w (w.alloc (.cells #[] 3)) := (Below.refl _ _).alloc (Nat.le_refl _) _
  have HO0 := keptA hO0
  have HB0 := keptA hB0
  clear hA hO0 hB0
  go_enter Try.func33, Try.ntmps33
  go_wp2_with fail
  go_loopw [4, 5, 6] (fun v i cell wr => ∃ k : Nat, k ≤ s.size ∧ i = .int .i64 k ∧ Hid (AUp l k) ∧ Hid (OwnInts wr w.heap.size v (acL l k)) ∧ Hid (Below w.heap.size w wr)) (fun _ i _ _ => s.size - (intOf i).toNat)
  case atStart => exact ⟨0, Nat.zero_le _, rfl, AUp.zero _, HO0, HB0⟩
  case round =>
    clear HO0 HB0
    obtain ⟨wo, rfl⟩ : ∃ wo, wo = wr := ⟨wr, rfl⟩
    obtain ⟨k, hk, rfl, hu, hown, hb⟩ := hrel
    have hsw := hb.out.size
    obtain ⟨ao, no, co, hoo⟩ := hown.out.isSliceA
    subst hoo
    by_cases hlt : k < s.size
    · obtain ⟨h2, hbk⟩ := HE.out k hlt
      obtain ⟨x, hx⟩ : ∃ x, s[k] = x := ⟨_, rfl⟩
      have HX := keptA hx
      have HBK := keptA hbk
      clear hbk
      go_wp2_with fail
      go_loopw [6] (fun c wr => ∃ q : Nat, q ≤ 64 ∧ c = .int .i64 q ∧ Hid (NotUp x q) ∧ ∃ p, wr = wo.drewN p) (fun c _ => 64 - (intOf c).toNat)
      case atStart => exact ⟨0, by omega, rfl, NotUp.zero _, 0, rfl⟩
      case round =>
        obtain ⟨q, hq, rfl, hn, p, rfl⟩ := hrel
        obtain ⟨wq, hwq⟩ : ∃ wq, wo.drewN p = wq := ⟨_, rfl⟩
        have HWQ := keptA hwq
        rw [hwq]
        clear hwq
        by_cases hq64 : q < 64
        · have d1 : decide ((q : Int) < 64) = true := decide_eq_true (by omega)
          have q0 : (0 : Int) ≤ (q : Int) := by omega
          have q1 : (q : Int) < 64 := by omega
          have k0 : (0 : Int) ≤ (k : Int) := by omega
          have k1 : (k : Int) < (s.size : Int) := by omega
          have hAs := HAS.out
          have hqa : q < A.size := by omega
          have hG := HAG.out q hq64 hqa
          have HMq : Hid (∀ j, Calls Try.prog 43 #[] (wq.drewN j) fun e w' => e = .returned (.string A) ∧ w' = wq.drewN j) := fun j => HM.out _
          by_cases e : amap.getD q 0 = x
          · have e1 : (((A[q]'hqa).toNat : Int) != ((s[k]'hlt).toNat : Int)) = false := u8_int_eq (by rw [hG, hx, e])
            have HC : Hid (acell x = q) := by show _ = _; rw [← e]; exact acell_tab q hq64
            clear hG e hx
            go_wp2_with fail
            go_quiet (first | (go_at_call 43; with_reducible exact Calls.quiet_of_same (HMq.out _)))
            clear HMq e1
            have hOd : OwnInts (wq.drewN nq) w.heap.size (.slice ao no co) (acL l k) := by
              have : OwnInts (wo.drewN p) w.heap.size (.slice ao no co) (acL l k) := hown.out
              rw [HWQ.out] at this
              exact this
            have hBd : Below w.heap.size w (wq.drewN nq) := by
              have := below_drewN (below_drewN hb.out p) nq
              rw [HWQ.out] at this
              exact this
            have hsd := hBd.size
            generalize wq.drewN nq = wd at hOd hBd hsd ⊢
            have e64 : ((q : Int) == 64) = false := by simp; omega
            have hu' : Hid (AUp l (k + 1)) := hu.out.succ h2 (by rw [HBK.out, HX.out, HC.out]; omega)
            have hS : Hid (acL l (k + 1) = acL l k ++ [(q : Int)]) := by show _ = _; rw [acL_succ h2, HBK.out, HX.out, HC.out]
            have hll := acL_len l k
            obtain ⟨D, hD⟩ : ∃ D, acL l k = D := ⟨_, rfl⟩
            rw [hD] at hOd hS hll
            clear hown hb hn hD
            go_wp2_with (at_builtin; refine wpList_append_own _ rfl _ _ 23 rfl w.heap.size 3 i0 (.int .i64 0) 1 8 Try.underlying23 hi hz0 hz1 hz2 rfl (by decide) _ _ _ rfl (hOd.alloc _) ⟨wd.heap.size, 0, none⟩ 1 1 [.int .i64 (q : Int)] rfl rfl new_one one_cell (by unfold maxLen; omega) (by omega) (by simp; omega) ?_)
            intro v' w1 hown' hgrow _
            have R1 := keptA (OwnInts.snoc hown')
            have R2 := keptA (below_append hBd hsd hOd hgrow)
            clear hown' hgrow hOd hBd
            go_wp2
            go_roundw
            case rel => exact ⟨k + 1, by omega, by go_num, hu', keptA (by rw [hS.out]; exact R1.out), R2⟩
            case measure => simp [intOf]; omega
          · have e1 : (((A[q]'hqa).toNat : Int) != ((s[k]'hlt).toNat : Int)) = true := u8_int_ne (by rw [hG, hx]; exact e)
            have hn' : Hid (NotUp x (q + 1)) := hn.out.succ e
            clear hG e hx
            go_wp2_with fail
            go_quiet (first | (go_at_call 43; with_reducible exact Calls.quiet_of_same (HMq.out _)))
            clear HMq e1
            go_wp2
            go_roundw
            case rel => exact ⟨q + 1, by omega, by go_num, hn', p + nq, by rw [← HWQ.out, World.drewN_drewN]⟩
            case measure => simp [intOf]; omega
        · obtain rfl : q = 64 := by omega
          have HC : Hid (acell x = 64) := acell_end hn.out
          obtain ⟨hb1, hb2⟩ := hr.out.bad (not_all h2 (by rw [HBK.out, HX.out, HC.out]; omega))
          subst hb1 hb2
          have hBq : Below w.heap.size w wq := by
            have := below_drewN hb.out p
            rw [HWQ.out] at this
            exact this
          have HBq := keptA hBq
          have d1 : decide (((64 : Nat) : Int) < 64) = false := by decide
          clear hown hb hn hx hBq
          go_wp2_with fail
          go_quiet (fail)
          go_wp2
          refine bodyPost_ret (results_twoA rfl _ _ _) rfl ?_
          exact ⟨_, _, _, rfl, OwnInts.nil _ _, below_drewN HBq.out _⟩
    · obtain rfl : k = s.size := by omega
      obtain ⟨h1, h2⟩ := hr.out.good (by rw [HL.out]; exact hu.out)
      rw [HL.out] at h1 h2
      have hH := keptA h1
      have hO9 : Hid (OwnInts wo w.heap.size (.slice ao no co) L) := keptA (by rw [h1]; exact hown.out)
      have hno : no = L.length := by
        obtain ⟨_, _, e, _⟩ := hO9.out.at
        injection e with _ e2 _
      have hNo : Hid (decide ((no : Int) ≤ 200) = b) := by
        show _ = _
        rw [h2, hno, h1]
        have : (acL l s.size).length = s.size := by unfold acL; rw [List.length_map, List.length_take, HL.out]; omega
        rw [this]
        apply decide_eq_decide.2
        omega
      clear h1 h2 hno hown
      go_wp2
      refine bodyPost_ret (results_twoA rfl _ _ _) rfl ?_
      refine ⟨ao, no, co, ?_, hO9.out, hb.out⟩
      rw [← hNo.out]
      rfl
theorem ra_of_sa {l : List UInt8} {L M : List Int} {b c : Bool} (h : SA l L b) (k : RA l M c) : b = c ∧ (c = true → L = M) ∧ (c = false → M = []) := by
  rcases h with ⟨h1, h2, h3⟩ | ⟨h1, h2, h3⟩
  · by_cases hl : l.length ≤ 200
    · obtain ⟨k1, k2⟩ := k.good (readA_all h1 hl)
      subst k1 k2
      exact ⟨by rw [h3]; simpa using hl, fun _ => h2, fun h => by simp at h⟩
    · obtain ⟨k1, k2⟩ := k.bad (readA_long (by omega))
      subst k1 k2
      exact ⟨by rw [h3]; simpa using hl, fun h => by simp at h, fun _ => rfl⟩
  · have hn : readA l = none := if_neg fun h' => h1 (by unfold AUp; rw [List.take_length]; exact h'.2)
    obtain ⟨k1, k2⟩ := k.bad hn
    subst k1 k2
    exact ⟨h3, fun h => by simp at h, fun _ => rfl⟩
set_option maxHeartbeats 1000000 in
theorem s_CellsOfAscii (s : ByteArray) (l : List UInt8) (L : List Int) (b : Bool) (w : World) (hL : Hid (s.data.toList = l)) (hs : s.size ≤ 1048576) (hr : Hid (RA l L b)) :
    Calls Try.prog 16 #[.string s] w fun e w' => ∃ a n c, e = .returned (.tuple #[.slice a n c, .bool b]) ∧ OwnInts w' w.heap.size (.slice a n c) L ∧ Below w.heap.size w w' := by
  obtain ⟨M, c, hm⟩ := sa_ex l
  have HM := keptA hm
  obtain ⟨h1, h2, h3⟩ := ra_of_sa hm hr.out
  subst h1
  go_enter Try.func16, Try.ntmps16
  go_wp2_with fail
  refine (s_cellsOfAscii s l M c w hL hs HM).mono ?_
  rintro e w1 ⟨a1, n1, c1, rfl, hO, hb⟩
  cases c with
  | true =>
    have HML := keptA (h2 rfl)
    clear h2 h3 hm
    go_wp2
    refine bodyPost_ret (results_twoA rfl _ _ _) rfl ?_
    exact ⟨_, _, _, rfl, by rw [← HML.out]; exact hO, hb⟩
  | false =>
    have HML := keptA (h3 rfl)
    clear h2 h3 hm
    go_wp2
    refine bodyPost_ret (results_twoA rfl _ _ _) rfl ?_
    exact ⟨_, _, _, rfl, by rw [HML.out]; exact OwnInts.nil _ _, hb⟩
end Go.Proofs.Ythojahknocageaa
