
/- FnParseCellsCount: its walk. -/
import Derived.Test.YtbngkgfjhegkmaaParM
import Derived.Test.YtbngkgfjhegkmaaParY
import Derived.Test.YtbngkgfjhegkmaaEqInts
import Derived.Test.YtbngkgfjhegkmaaDrQ
namespace Go.Proofs.Ytbngkgfjhegkmaa
open Go.RowKit

theorem equalInts_same4 (w : World) (u v : Value) (xs : List Int) (hx : IntsAt w u xs) (hy : IntsAt w v xs) :
    Calls Try.prog 12 #[u, v] w fun e w' => e = .returned (.bool true) ∧ Below w.heap.size w w' := by
  have := equalInts_any w u v xs xs hx hy
  rw [decide_eq_true rfl] at this
  exact this
theorem count_take {l : List UInt8} {k : Nat} (h : k < l.length) : (l.take (k + 1)).count 45 = (l.take k).count 45 + if l[k] = 45 then 1 else 0 := by
  rw [List.take_succ_eq_append_getElem h, List.count_append]
  by_cases e : l[k] = 45
  · rw [if_pos e, e]; simp
  · rw [if_neg e, List.count_singleton]; simp [e]
theorem parse_count {l : List UInt8} {zs : List Int} (h : parseL l = some zs) (hl : l ≠ []) : zs.length = l.count 45 + 1 := by
  rw [parseL, if_neg hl] at h
  split at h
  · rw [parseL_len _ _ h, parts_count]
  · cases h

set_option maxHeartbeats 2000000 in
theorem parseCellsCount_walk (a : Option Addr) (len cap : Nat) (zs : List Int) (w : World) (h : RowIn .u8 w a len cap zs) :
    Calls Try.prog 5 #[.slice a len cap] w fun e w' => e = .returned (.bool true) ∧ Below w.heap.size w w' := by
  have hlen : len ≤ 9223372036854775807 := by
    obtain ⟨_, h2, h3⟩ := bytesAt_of_row h; unfold maxLen at h3; omega
  by_cases hbig : len ≤ 1048576
  · go_enter Try.func5, Try.ntmps5
    go_wp2_with fail
    refine (drawParseCells_any w a len cap zs h).mono ?_
    rintro e w1 ⟨s, rfl, hs, hb1⟩
    clear h
    have HQ : s.toList = s.data.toList := toList_data s
    cases hp : parseL s.data.toList with
    | some D =>
      have HI : Hid (∀ w, Calls Try.prog 11 #[.string s] w fun e w' => ParseYes D w e w') := fun w => (i_ParseCells s w (by omega)).mono fun _ _ h => parse_yes hp h
      have HS : Hid (∀ w, Calls Try.prog 14 #[.string s] w fun e w' => ParseYes D w e w') := fun w => (s_ParseCells s w (by omega)).mono fun _ _ h => parse_yes hp h
      have HCT : Hid (s.data.toList ≠ [] → D.length = s.data.toList.count 45 + 1) := fun h => parse_count hp h
      clear hp
      go_wp2_with fail
      refine (HI.out _).mono ?_
      rintro e w2 ⟨a2, n2, c2, rfl, ho2, hb2⟩
      have hB2 := below_next hb1 hb2
      have hx2 := ho2.at
      have hn2 : Hid (D.length = n2) := by obtain ⟨_, _, h, _⟩ := hx2; injection h with _ h2; exact h2.symm
      clear ho2
      go_wp2_with fail
      refine (HS.out _).mono ?_
      rintro e w3 ⟨a3, n3, c3, rfl, ho3, hb3⟩
      have hB3 := below_next hB2 hb3
      have hx3 := hx2.below hb3
      go_wp2_with fail
      refine (equalInts_same4 _ _ _ D hx3 ho3.at).mono ?_
      rintro e w4 ⟨rfl, hb4⟩
      have hB4 := below_next hB3 hb4
      have hx4 := hx3.below hb4
      by_cases hB : s.data.toList = []
      · have e2 : s.toList.isEmpty = true := by rw [HQ, hB]; rfl
        have hx5 := ho3.at.below hb4
        clear HQ hB ho3
        go_wp2_with fail
        refine (equalInts_same4 _ _ _ D hx4 hx5).mono ?_
        rintro e w5 ⟨rfl, hb5⟩
        go_wp2
        go_ret
        exact ⟨rfl, below_next hB4 hb5⟩
      · have e2 : s.toList.isEmpty = false := by rw [HQ]; simpa using hB
        have hct := HCT.out hB
        have hl := size_data s
        obtain ⟨l, hL⟩ : ∃ l, s.data.toList = l := ⟨_, rfl⟩
        have HE : ∀ k (h : k < s.size), ∃ h2 : k < l.length, l[k] = s[k] := fun k h => ⟨by rw [← hL, hl]; exact h, by subst hL; exact byte_eq h _⟩
        rw [hL] at hl hct
        have HL := Lib.hid hl
        have HHE := Lib.hid HE
        have HCT2 : Hid (n2 = l.count 45 + 1) := by show _ = _; rw [← hn2.out]; exact hct
        clear HQ hB ho3 hL hl HE hct HCT
        go_wp2_with fail
        go_loop [8, 9] (fun n i => ∃ k q : Nat, k ≤ s.size ∧ i = .int .i64 k ∧ n = .int .i64 (1 + (q : Int)) ∧ q ≤ k ∧ Hid ((l.take k).count 45 = q)) (fun _ i => s.size - (intOf i).toNat)
        case atStart => exact ⟨0, 0, by omega, rfl, rfl, by omega, rfl⟩
        case round =>
          obtain ⟨k, q, hk, rfl, rfl, hqk, hq⟩ := hrel
          by_cases hlt : k < s.size
          · obtain ⟨h2, hbk⟩ := HHE.out k hlt
            by_cases e : s[k] = 45
            · have e1 : ((((s[k]'hlt).toNat : Nat) : Int) == 45) = true := by rw [e]; rfl
              have hq' : Hid ((l.take (k + 1)).count 45 = q + 1) := by show _ = _; rw [count_take h2, if_pos (hbk.trans e), hq.out]
              clear e hbk
              go_wp2
              go_round
              case rel => exact ⟨k + 1, q + 1, by omega, by go_num, by go_num, by omega, hq'⟩
              case measure => simp [intOf]; omega
            · have e1 : ((((s[k]'hlt).toNat : Nat) : Int) == 45) = false := by
                have := u8_ne e
                simp at this ⊢
                omega
              have hq' : Hid ((l.take (k + 1)).count 45 = q) := by show _ = _; rw [count_take h2, if_neg (by rw [hbk]; exact e), hq.out]; rfl
              clear e hbk
              go_wp2
              go_round
              case rel => exact ⟨k + 1, q, by omega, by go_num, by go_num, by omega, hq'⟩
              case measure => simp [intOf]; omega
          · have hqn : n2 = q + 1 := by
              rw [HCT2.out, ← hq.out, List.take_of_length_le (by have := HL.out; omega)]
            have e3 : ((n2 : Int) == 1 + (q : Int)) = true := by simp; omega
            clear hqn
            go_wp2
            go_ret
            exact ⟨rfl, hB4⟩
    | none =>
      have HI : Hid (∀ w, Calls Try.prog 11 #[.string s] w fun e w' => ParseNo w e w') := fun w => (i_ParseCells s w (by omega)).mono fun _ _ h => parse_no hp h
      have HS : Hid (∀ w, Calls Try.prog 14 #[.string s] w fun e w' => ParseNo w e w') := fun w => (s_ParseCells s w (by omega)).mono fun _ _ h => parse_no hp h
      clear hp HQ
      go_wp2_with fail
      refine (HI.out _).mono ?_
      rintro e w2 ⟨rfl, hb2⟩
      have hB2 := below_next hb1 hb2
      go_wp2_with fail
      refine (HS.out _).mono ?_
      rintro e w3 ⟨rfl, hb3⟩
      have hB3 := below_next hB2 hb3
      go_wp2_with fail
      refine (equalInts_same4 _ _ _ [] (IntsAt.nil _) (IntsAt.nil _)).mono ?_
      rintro e w4 ⟨rfl, hb4⟩
      have hB4 := below_next hB3 hb4
      go_wp2_with fail
      refine (equalInts_same4 _ _ _ [] (IntsAt.nil _) (IntsAt.nil _)).mono ?_
      rintro e w5 ⟨rfl, hb5⟩
      go_wp2
      go_ret
      exact ⟨rfl, below_next hB4 hb5⟩
  · have hbig' : 1048576 < len := by omega
    go_enter Try.func5, Try.ntmps5
    go_wp2
    go_ret
    exact ⟨rfl, Below.refl _ _⟩
end Go.Proofs.Ytbngkgfjhegkmaa
