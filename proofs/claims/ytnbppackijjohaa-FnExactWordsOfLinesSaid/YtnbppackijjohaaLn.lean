
/- The words of lines: the document's side. -/
import Derived.Test.YtnbppackijjohaaLm
namespace Go.Proofs.Ytnbppackijjohaa
open Go.RowKit

/-- the state behind k cells, or behind the line's end -/
def WAt (line : List Int) (m k : Nat) (P : List (List Int)) (z : List Int) : Prop := (k ≤ m ∧ WSt line k P z) ∨ (k = m + 1 ∧ P = wol line)
theorem WAt.st {line : List Int} {m k : Nat} {P : List (List Int)} {z : List Int} (h : WAt line m k P z) (hk : k ≤ m) : WSt line k P z := by
  rcases h with h | h
  · exact h.2
  · omega
theorem WAt.fin {line : List Int} {m k : Nat} {P : List (List Int)} {z : List Int} (h : WAt line m k P z) (hk : m < k) : P = wol line := by
  rcases h with h | h
  · omega
  · exact h.2
set_option maxHeartbeats 4000000 in
theorem s_WordsOfLines (w : World) (v : Value) (L : List (List Int)) (W : Int) (b : Bool) (hx : ListsAt w v L) (hb : Hid (b = true ↔ LinesOk L W)) :
    Calls Try.prog 27 #[v, .int .i64 W] w fun e w' => LsOut (wlR L b) w e w' := by
  obtain ⟨i0, hi, hz0, hz1, hz2⟩ := info_parts infoInt
  have HX := keptL hx
  obtain ⟨a, cp, rfl, x1, x2, _⟩ := hx
  obtain ⟨n, hn⟩ : ∃ n, L.length = n := ⟨_, rfl⟩
  rw [hn] at x1 HX ⊢
  have HN := Lib.hid hn
  clear hn
  cases b with
  | false =>
    go_enter Try.func27, Try.ntmps27
    go_wp2_with fail
    refine (s_validLines_b w _ L W false HX.out hb).mono ?_
    rintro e w1 ⟨rfl, rfl⟩
    clear hb
    go_wp2
    go_ret
    exact ⟨_, _, _, rfl, OwnLs.nil _ _ _ (Nat.zero_le _), Below.refl _ _⟩
  | true =>
    have HOK : Hid (LinesOk L W) := hb.out.1 rfl
    have hn30 : n ≤ 30 := by have := HOK.out.1; rw [HN.out] at this; exact this
    have hO0 := OwnLs.made w w.heap.size 0 (Nat.zero_le _) (Nat.le_refl _)
    have hB0 : Below w.heap.size w (w.alloc (.cells #[] 28)) := (Below.refl _ _).alloc (Nat.le_refl _) _
    go_enter Try.func27, Try.ntmps27
    go_wp2_with fail
    refine (s_validLines_b w _ L W true HX.out (show _ ↔ _ from ⟨fun _ => HOK.out, fun _ => rfl⟩)).mono ?_
    rintro e w1 ⟨rfl, rfl⟩
    clear hb
    go_wp2_with fail
    go_loopw [5, 6] (fun o i wr => ∃ (k : Nat) (P : List (List Int)), k ≤ n ∧ i = .int .i64 k ∧ OwnLs wr w.heap.size 0 o P ∧ Below w.heap.size w wr ∧ Hid (P = wolAll (L.take k))) (fun _ i _ => n - (intOf i).toNat)
    case atStart => exact ⟨0, [], Nat.zero_le _, rfl, hO0, hB0, rfl⟩
    case round =>
      clear hO0 hB0
      obtain ⟨k, P, hk, rfl, hO, hB, HP⟩ := hrel
      obtain ⟨ao, no, co, hoo⟩ := hO.isSlice
      subst hoo
      have hno : no = P.length := by
        obtain ⟨_, _, e, _⟩ := hO.at
        injection e with _ e2 _
      have HNO := keptL hno
      have HO := keptL hO
      have HB := keptL hB
      have hsz := hB.size
      have hPl : P.length ≤ 40 * k := by have := wolAll_len HOK.out.len k (by rw [HN.out]; exact hk); rw [← HP.out] at this; exact this
      by_cases hlt : k < n
      · obtain ⟨wo, rfl⟩ : ∃ wo, wo = wr := ⟨wr, rfl⟩
        obtain ⟨g, off, u, rfl, c0, hu⟩ := HX.out.someNth hlt
        have C0 := keptL c0
        obtain ⟨zs, hzs⟩ : ∃ zs, L.getD k [] = zs := ⟨_, rfl⟩
        rw [hzs] at hu
        have hz40 : zs.length ≤ 40 := by rw [← hzs]; exact HOK.out.len k
        have hw40 := wol_len zs
        have HP' : Hid (P ++ wol zs = wolAll (L.take (k + 1))) := by
          show _ = _
          rw [wolAll_succ L (by rw [HN.out]; exact hlt), hzs, ← HP.out]
        obtain ⟨a3, c3, rfl, y1, y2, x3⟩ := hu
        obtain ⟨m, hm⟩ : ∃ m, zs.length = m := ⟨_, rfl⟩
        rw [hm] at C0 y1 hz40 hw40 x3
        have HM := Lib.hid hm
        have X3 := keptL x3
        have q1 : (0 : Int) ≤ (k : Int) := by omega
        have q2 : (k : Int) < (n : Int) := by omega
        have HB1 : Hid (Below wo.heap.size wo (wo.alloc (.cells #[] 3))) := (Below.refl _ _).alloc (Nat.le_refl _) _
        have HI1 : Hid (OwnInts (wo.alloc (.cells #[] 3)) wo.heap.size (.slice (some ⟨wo.heap.size, 0, none⟩) 0 0) []) := OwnInts.made wo wo.heap.size (Nat.le_refl _)
        have HO1 : Hid (OwnLs wo w.heap.size 0 (.slice ao no co) (P ++ [])) := by rw [List.append_nil]; exact HO.out
        have HW0 : Hid (WAt zs m 0 [] []) := .inl ⟨Nat.zero_le _, WSt.zero _⟩
        clear hzs hm hO hB hno c0 HP x3 HO
        go_wp2
        go_loopw [5, 7, 8] (fun o z' j wi => ∃ (j' : Nat) (Q : List (List Int)) (z : List Int) (wm : World), j' ≤ m + 1 ∧ j = .int .i64 j' ∧ Hid (WAt zs m j' Q z) ∧ Hid (OwnLs wm w.heap.size 0 o (P ++ Q)) ∧ Hid (Below w.heap.size w wm) ∧ Hid (Below wm.heap.size wm wi) ∧ Hid (OwnInts wi wm.heap.size z' z) ∧ Q.length + z.length ≤ j') (fun _ _ j _ => m + 1 - (intOf j).toNat)
        case atStart => exact ⟨0, [], [], wo, by omega, rfl, HW0, HO1, HB, HB1, HI1, by simp⟩
        case round =>
          clear HW0 HO1 HB1 HI1
          obtain ⟨j, Q, z, wm, hj, rfl, HS, HOm, HBm, HB2, HI, hlen⟩ := hrel
          obtain ⟨wi, rfl⟩ : ∃ wi, wi = wr := ⟨wr, rfl⟩
          obtain ⟨ao, no, co, hoo⟩ := HOm.out.isSlice
          subst hoo
          obtain ⟨az, cz, hoo⟩ := HI.out.isSliceL
          subst hoo
          have hszm := HB2.out.size
          have hszw := HBm.out.size
          have HBW := keptL (below_nextL HBm.out hszw HB2.out)
          have cl : wi.cell? ⟨g, off + k, none⟩ = some (.slice a3 m c3) := (HBW.out.cell (World.block_lt_of_cell? w _ C0.out)).trans C0.out
          obtain ⟨l, hl⟩ : ∃ l, z.length = l := ⟨_, rfl⟩
          rw [hl] at HI hlen ⊢
          have HL := Lib.hid hl
          clear hl
          by_cases hjm : j ≤ m
          · have d0 : decide ((j : Int) ≤ (m : Int)) = true := decide_eq_true (by omega)
            have HS0 : Hid (WSt zs j Q z) := HS.out.st hjm
            clear HS
            by_cases hlt2 : j < m
            · have d1 : decide ((j : Int) < (m : Int)) = true := decide_eq_true (by omega)
              rcases X3.out with rfl | ⟨g2, off2, rfl, x3⟩
              · exact absurd HM.out (by simp; omega)
              have cx := x3 j hlt2
              have cx := (HBW.out.cell (World.block_lt_of_cell? w _ cx)).trans cx
              obtain ⟨y, hy⟩ : ∃ y, zs.getD j 0 = y := ⟨_, rfl⟩
              rw [hy] at cx
              have HY := Lib.hid hy
              have b1 : (0 : Int) ≤ (j : Int) := by omega
              clear hy x3
              by_cases e : y = 0
              · subst e
                by_cases hl0 : l = 0
                · subst hl0
                  have HS' : Hid (WAt zs m (j + 1) Q z) := .inl ⟨by omega, by
                    have hz : z = [] := List.length_eq_zero_iff.1 HL.out
                    subst hz
                    exact HS0.out.skip (by rw [HM.out]; exact hlt2) HY.out⟩
                  clear HS0
                  go_wp2
                  go_roundw
                  case rel => exact ⟨j + 1, Q, z, wm, by omega, by go_num, HS', HOm, HBm, HB2, HI, by rw [HL.out]; omega⟩
                  case measure => simp [intOf] <;> omega
                · have HS' : Hid (WAt zs m (j + 1) (Q ++ [z]) []) := .inl ⟨by omega, HS0.out.push (by rw [HM.out]; exact hlt2) HY.out (by intro h; have := HL.out; rw [h] at this; simp at this; omega)⟩
                  have dl : decide (0 < (l : Int)) = true := decide_eq_true (by omega)
                  have HOr := keptL (HOm.out.below HB2.out)
                  clear HS0
                  have hal : Below wi.heap.size wi (wi.alloc (.cells #[.slice az l cz] 28)) := (Below.refl _ _).alloc (Nat.le_refl _) _
                  have HO8 := keptL (HOr.out.below hal)
                  have HE8 : Hid (ElOk (wi.alloc (.cells #[.slice az l cz] 28)) 0 (.slice az l cz) z) := ElOk.of_own (HI.out.below hal)
                  have HC8 : Hid ((wi.alloc (.cells #[.slice az l cz] 28)).cell? ⟨wi.heap.size, 0, none⟩ = some (.slice az l cz)) := by
                    show _ = _
                    rw [cell_of_row _ wi.heap.size 0 _ _ _ (heap_alloc_new wi _)]; rfl
                  have HS8 : Hid ((P ++ Q).length ≤ 100000 ∧ w.heap.size ≤ (wi.alloc (.cells #[.slice az l cz] 28)).heap.size) := ⟨by rw [List.length_append]; omega, Nat.le_trans (Nat.le_trans hszw hszm) hal.size⟩
                  clear hal
                  go_wp2_with (at_builtin; go_loud (refine wpList_append_ls rfl _ _ rfl w.heap.size 0 wi.heap.size z rfl rfl HO8.out HC8.out HE8.out rfl HS8.out.1 HS8.out.2 ?_))
                  intro v9 w9 hown9 hgrow9
                  have HO9 : Hid (OwnLs w9 w.heap.size 0 v9 (P ++ (Q ++ [z]))) := hown9
                  have HB9 := keptL (grown_ls HBW.out (Nat.le_trans hszw hszm) HOr.out hgrow9)
                  have HB10 : Hid (Below w9.heap.size w9 (w9.alloc (.cells #[] 3))) := (Below.refl _ _).alloc (Nat.le_refl _) _
                  have HI10 : Hid (OwnInts (w9.alloc (.cells #[] 3)) w9.heap.size (.slice (some ⟨w9.heap.size, 0, none⟩) 0 0) []) := OwnInts.made w9 w9.heap.size (Nat.le_refl _)
                  have hl9 : (Q ++ [z]).length + ([] : List Int).length ≤ j + 1 := by rw [List.length_append, List.length_singleton, List.length_nil]; omega
                  clear hown9 hgrow9
                  go_wp2
                  go_roundw
                  case rel => exact ⟨j + 1, Q ++ [z], [], w9, by omega, by go_num, HS', HO9, HB9, HB10, HI10, hl9⟩
                  case measure => simp [intOf] <;> omega
              · have e1 : (y != 0) = true := by simpa using e
                have HS' : Hid (WAt zs m (j + 1) Q (z ++ [y])) := .inl ⟨by omega, HS0.out.add (by rw [HM.out]; exact hlt2) HY.out e⟩
                have hzl : z.length ≤ 1000 := by have := HL.out; omega
                clear HS0 e
                go_wp2_with (at_builtin; go_loud (refine wpList_append_own _ rfl _ _ 28 rfl wm.heap.size 3 i0 (.int .i64 0) 1 8 Try.underlying28 hi hz0 hz1 hz2 rfl (by decide) _ _ _ rfl (HI.out.alloc _) ⟨wi.heap.size, 0, none⟩ 1 1 [.int .i64 y] rfl rfl new_one one_cell (by unfold maxLen; omega) (by omega) (by simp; omega) ?_))
                intro v5 w5 hown5 hgrow5 hnil5
                have HI5 := keptL (OwnInts.snoc hown5)
                have HB5 := keptL (below_append HB2.out hszm HI.out hgrow5)
                clear hown5 hgrow5 hnil5
                go_wp2
                go_roundw
                case rel => exact ⟨j + 1, Q, z ++ [y], wm, by omega, by go_num, HS', HOm, HBm, HB5, HI5, by rw [List.length_append, List.length_singleton, HL.out]; omega⟩
                case measure => simp [intOf] <;> omega
            · obtain rfl : j = m := by omega
              have d1 : decide ((j : Int) < (j : Int)) = false := decide_eq_false (by omega)
              by_cases hl0 : l = 0
              · subst hl0
                have HS' : Hid (WAt zs j (j + 1) Q z) := .inr ⟨rfl, by
                  have hz : z = [] := List.length_eq_zero_iff.1 HL.out
                  subst hz
                  exact (HS0.out.end0 (by rw [HM.out]; omega)).symm⟩
                clear HS0
                go_wp2
                go_roundw
                case rel => exact ⟨j + 1, Q, z, wm, by omega, by go_num, HS', HOm, HBm, HB2, HI, by rw [HL.out]; omega⟩
                case measure => simp [intOf] <;> omega
              · have HS' : Hid (WAt zs j (j + 1) (Q ++ [z]) []) := .inr ⟨rfl, (HS0.out.end1 (by rw [HM.out]; omega) (by intro h; have := HL.out; rw [h] at this; simp at this; omega)).symm⟩
                have dl : decide (0 < (l : Int)) = true := decide_eq_true (by omega)
                have HOr := keptL (HOm.out.below HB2.out)
                clear HS0
                have hal : Below wi.heap.size wi (wi.alloc (.cells #[.slice az l cz] 28)) := (Below.refl _ _).alloc (Nat.le_refl _) _
                have HO8 := keptL (HOr.out.below hal)
                have HE8 : Hid (ElOk (wi.alloc (.cells #[.slice az l cz] 28)) 0 (.slice az l cz) z) := ElOk.of_own (HI.out.below hal)
                have HC8 : Hid ((wi.alloc (.cells #[.slice az l cz] 28)).cell? ⟨wi.heap.size, 0, none⟩ = some (.slice az l cz)) := by
                  show _ = _
                  rw [cell_of_row _ wi.heap.size 0 _ _ _ (heap_alloc_new wi _)]; rfl
                have HS8 : Hid ((P ++ Q).length ≤ 100000 ∧ w.heap.size ≤ (wi.alloc (.cells #[.slice az l cz] 28)).heap.size) := ⟨by rw [List.length_append]; omega, Nat.le_trans (Nat.le_trans hszw hszm) hal.size⟩
                clear hal
                go_wp2_with (at_builtin; go_loud (refine wpList_append_ls rfl _ _ rfl w.heap.size 0 wi.heap.size z rfl rfl HO8.out HC8.out HE8.out rfl HS8.out.1 HS8.out.2 ?_))
                intro v9 w9 hown9 hgrow9
                have HO9 : Hid (OwnLs w9 w.heap.size 0 v9 (P ++ (Q ++ [z]))) := hown9
                have HB9 := keptL (grown_ls HBW.out (Nat.le_trans hszw hszm) HOr.out hgrow9)
                have HB10 : Hid (Below w9.heap.size w9 (w9.alloc (.cells #[] 3))) := (Below.refl _ _).alloc (Nat.le_refl _) _
                have HI10 : Hid (OwnInts (w9.alloc (.cells #[] 3)) w9.heap.size (.slice (some ⟨w9.heap.size, 0, none⟩) 0 0) []) := OwnInts.made w9 w9.heap.size (Nat.le_refl _)
                have hl9 : (Q ++ [z]).length + ([] : List Int).length ≤ j + 1 := by rw [List.length_append, List.length_singleton, List.length_nil]; omega
                clear hown9 hgrow9
                go_wp2
                go_roundw
                case rel => exact ⟨j + 1, Q ++ [z], [], w9, by omega, by go_num, HS', HO9, HB9, HB10, HI10, hl9⟩
                case measure => simp [intOf] <;> omega
          · have d0 : decide ((j : Int) ≤ (m : Int)) = false := decide_eq_false (by omega)
            have HQ : Hid (Q = wol zs) := HS.out.fin (by omega)
            have HOf := keptL (HOm.out.below HB2.out)
            have HF : Hid (P ++ Q = wolAll (L.take (k + 1))) := by show _ = _; rw [HQ.out]; exact HP'.out
            clear HS HQ
            go_wp2
            go_roundw
            case rel => exact ⟨k + 1, P ++ Q, by omega, by go_num, HOf.out, HBW.out, HF⟩
            case measure => simp [intOf] <;> omega
      · obtain rfl : k = n := by omega
        have HA : Hid (P = wolAll L) := by
          show _ = _
          rw [HP.out, ← HN.out, List.take_length]
        clear hO hB hno HP
        by_cases hmany : no ≤ 30
        · have d1 : decide (30 < (no : Int)) = false := decide_eq_false (by omega)
          have HF : Hid (wlR L true = P) := by
            show _ = _
            rw [wlR_few (by rw [← HA.out, ← HNO.out]; exact hmany), HA.out]
          clear HA
          go_wp2
          go_ret
          exact ⟨_, _, _, rfl, by rw [HF.out]; exact HO.out, HB.out⟩
        · have d1 : decide (30 < (no : Int)) = true := decide_eq_true (by omega)
          have HF : Hid (wlR L true = []) := wlR_many (by rw [← HA.out, ← HNO.out]; exact hmany)
          clear HA
          go_wp2
          go_ret
          exact ⟨_, _, _, rfl, by rw [HF.out]; exact OwnLs.nil _ _ _ (Nat.zero_le _), HB.out⟩
end Go.Proofs.Ytnbppackijjohaa
