
/- Grow in the model. -/
import Derived.Test.YthpbpdnlnmldeaaIw
namespace Go.Proofs.Ythpbpdnlnmldeaa
open Go.RowKit

theorem s_one_yes (w : World) :
    Calls Try.prog 50 #[.bool true] w fun e w' => e = .returned (.int .i64 1) ∧ w = w' := by
  go_enter Try.func50, Try.ntmps50
  go_wp2
  go_ret
  exact ⟨rfl, rfl⟩
theorem s_one_no (w : World) :
    Calls Try.prog 50 #[.bool false] w fun e w' => e = .returned (.int .i64 0) ∧ w = w' := by
  go_enter Try.func50, Try.ntmps50
  go_wp2
  go_ret
  exact ⟨rfl, rfl⟩
set_option maxHeartbeats 2000000 in
theorem sl_Grow (w : World) (v : Value) (L R : List (List Int)) (hx : ListsAt w v L) (hR : GrowIs L R) :
    Calls Try.prog 28 #[v] w fun e w' => PlOut R w e w' := by
  obtain ⟨i0, hi, hz0, hz1, hz2⟩ := info_parts infoInt
  have HX := keptI hx
  have HR := keptI hR
  obtain ⟨a, n, cp, rfl, hn, x1, x2, _⟩ := hx.partsI
  clear hx hR hn
  go_enter Try.func28, Try.ntmps28
  go_wp2_with fail
  refine (s_validPicture w _ L HX.out).mono ?_
  rintro e w0 ⟨b, rfl, hb0, hbb⟩
  cases b with
  | false =>
    have HZ : Hid (R = []) := HR.out.no fun h => by simpa using hbb.2 h
    clear hbb
    go_wp2
    go_ret
    exact plOut_nil HZ.out hb0
  | true =>
    have HOK : Hid (BlockOk L 24 24 1) := keptI (hbb.1 rfl)
    have HZ : Hid (R = _) := HR.out.yes HOK.out
    obtain ⟨hn, hp⟩ := HOK.out.pic HX.out
    obtain ⟨hd1, hd2, hd3, hd4⟩ := HOK.out.bd
    have HN := Lib.hid hn
    rw [← hn] at hd1 hd2
    obtain ⟨m, hm⟩ : ∃ m, wdt L = m := ⟨_, rfl⟩
    rw [hm] at hd3 hd4 hp
    have HM := Lib.hid hm
    obtain ⟨f, hf⟩ : ∃ f : Nat → Nat → Int, f = growF (px L) n m := ⟨_, rfl⟩
    have HFY : Hid (∀ y x, (px L y x = 1 ∨ NearP (px L) n m y x 2) → f y x = 1) := fun y x h => by rw [hf]; exact grow_yes h
    have HFN : Hid (∀ y x, ¬ (px L y x = 1 ∨ NearP (px L) n m y x 2) → f y x = 0) := fun y x h => by rw [hf]; exact grow_no h
    have HZ : Hid (R = gridOf n m f) := by show _ = _; rw [HZ.out, ← HN.out, HM.out, hf]
    have HP := keptI hp
    have HB0 := keptI hb0
    have hs0 := hb0.size
    obtain ⟨_, _, g, off, rfl, _⟩ := hp
    have hal : Below w.heap.size w (w0.alloc (.cells #[] 30)) := hb0.alloc hs0 _
    have HO0 : Hid (OwnLL (w0.alloc (.cells #[] 30)) w.heap.size (w0.alloc (.cells #[] 30)).heap.size (.slice (some ⟨w0.heap.size, 0, none⟩) 0 0) (gridOf 0 m f)) := OwnLL.madeI w0 w.heap.size hs0
    have HA0 := keptI hal
    clear hbb hf hn hm hb0 hal
    go_wp2
    go_loopw [3, 4] (fun o i wr => ∃ k : Nat, k ≤ n ∧ i = .int .i64 k ∧ OwnLL wr w.heap.size wr.heap.size o (gridOf k m f) ∧ Below w.heap.size w wr) (fun _ i _ => n - (intOf i).toNat)
    case atStart => exact ⟨0, Nat.zero_le _, rfl, HO0.out, HA0.out⟩
    case round =>
      clear HO0 HA0
      rename World => wo
      obtain ⟨k, hk, rfl, hO, hB⟩ := hrel
      have hsz := hB.size
      have HO := keptI hO
      have HB := keptI hB
      obtain ⟨ao, no, co, hoo⟩ := hO.ls.isSlice
      subst hoo
      clear hO hB
      by_cases hlt : k < n
      · obtain ⟨_, _, b, o, d, e1, c0, hd5, hd6, hcx⟩ := HP.out.row hlt
        injection e1 with e1
        injection e1 with e1 e2
        subst e1 e2
        have HC0 := keptI c0
        have HCX := keptI hcx
        clear c0 hcx
        have hal : Below wo.heap.size wo (wo.alloc (.cells #[] 3)) := (Below.refl _ _).alloc (Nat.le_refl _) _
        have HI0 : Hid (OwnInts (wo.alloc (.cells #[] 3)) wo.heap.size (.slice (some ⟨wo.heap.size, 0, none⟩) 0 0) (rowOf 0 (f k))) := OwnInts.made _ _ (Nat.le_refl _)
        have HA1 := keptI hal
        clear hal
        have q1 : (0 : Int) ≤ (k : Int) := by omega
        have q2 : (k : Int) < (n : Int) := by omega
        go_wp2
        go_loopw [5, 6] (fun r j wx => ∃ q : Nat, q ≤ m ∧ j = .int .i64 q ∧ OwnInts wx wo.heap.size r (rowOf q (f k)) ∧ Below wo.heap.size wo wx) (fun _ j _ => m - (intOf j).toNat)
        case atStart => exact ⟨0, Nat.zero_le _, rfl, HI0.out, HA1.out⟩
        case round =>
          clear HI0 HA1
          obtain ⟨q, hq, rfl, hI, hb⟩ := hrel
          have hsx := hb.size
          have hbw := HB.out.trans (hb.mono hsz)
          have c0 := (hbw.cell (World.block_lt_of_cell? w _ HC0.out)).trans HC0.out
          have hrl := rowOf_len q (f k)
          obtain ⟨P, hP⟩ : ∃ P, rowOf q (f k) = P := ⟨_, rfl⟩
          rw [hP] at hI hrl
          have HP2 := Lib.hid hP
          have HI := keptI hI
          have HBx := keptI hb
          clear hP hI hb
          by_cases hqm : q < m
          · have c1 := (hbw.cell (World.block_lt_of_cell? w _ (HCX.out q hqm))).trans (HCX.out q hqm)
            have hnr := s_near wr _ n cp m (px L) k q 2 (HP.out.below hbw) (by omega) (by omega) hlt hqm (by omega)
            have HNR := keptI hnr
            obtain ⟨z, hz⟩ : ∃ z, px L k q = z := ⟨_, rfl⟩
            rw [hz] at c1
            have HZ9 := Lib.hid hz
            have hl9 : P.length ≤ 1000 := by omega
            have HRL := Lib.hid hrl
            clear hz hbw hrl hnr
            by_cases h1 : z = 1
            · have HV1 : Hid (f k q = 1) := HFY.out k q (.inl (HZ9.out.trans h1))
              have d1 : (z == 1) = true := by simp [h1]
              clear h1
              go_wp2_with (first | (go_at_call 50; refine (s_one_yes _).mono ?_; rintro e w' ⟨rfl, rfl⟩) | (at_builtin; refine wpList_append_own _ rfl _ _ 30 rfl wo.heap.size 3 i0 (.int .i64 0) 1 8 Try.underlying30 hi hz0 hz1 hz2 rfl (by decide) _ _ _ rfl (HI.out.alloc _) ⟨_, 0, none⟩ 1 1 [.int .i64 1] rfl rfl new_one one_cell (by unfold maxLen; omega) (by omega) (by simp; omega) ?_))
              intro v' w1 hown' hgrow _
              have R1 := OwnInts.snoc hown'
              have R2 := below_append HBx.out hsx HI.out hgrow
              have HR1 : Hid (OwnInts w1 wo.heap.size v' (rowOf (q + 1) (f k))) := by show OwnInts _ _ _ _; rw [rowOf_succ, HP2.out, HV1.out]; exact R1
              have HR2 := keptI R2
              clear hown' hgrow R1 R2
              go_wp2
              go_roundw
              case rel => exact ⟨q + 1, by omega, by go_num, HR1.out, HR2.out⟩
              case measure => simp [intOf]; omega
            · have d1 : (z == 1) = false := by simp [h1]
              have HN1 : Hid (¬ px L k q = 1) := fun h => h1 (HZ9.out.symm.trans h)
              clear h1
              go_wp2_with fail
              refine HNR.out.mono ?_
              rintro e w' ⟨b, rfl, rfl, hbb⟩
              cases b with
              | true =>
                have HV1 : Hid (f k q = 1) := HFY.out k q (.inr (hbb.1 rfl))
                clear hbb
                go_wp2_with (first | (go_at_call 50; refine (s_one_yes _).mono ?_; rintro e w' ⟨rfl, rfl⟩) | (at_builtin; refine wpList_append_own _ rfl _ _ 30 rfl wo.heap.size 3 i0 (.int .i64 0) 1 8 Try.underlying30 hi hz0 hz1 hz2 rfl (by decide) _ _ _ rfl (HI.out.alloc _) ⟨_, 0, none⟩ 1 1 [.int .i64 1] rfl rfl new_one one_cell (by unfold maxLen; omega) (by omega) (by simp; omega) ?_))
                intro v' w1 hown' hgrow _
                have R1 := OwnInts.snoc hown'
                have R2 := below_append HBx.out hsx HI.out hgrow
                have HR1 : Hid (OwnInts w1 wo.heap.size v' (rowOf (q + 1) (f k))) := by show OwnInts _ _ _ _; rw [rowOf_succ, HP2.out, HV1.out]; exact R1
                have HR2 := keptI R2
                clear hown' hgrow R1 R2
                go_wp2
                go_roundw
                case rel => exact ⟨q + 1, by omega, by go_num, HR1.out, HR2.out⟩
                case measure => simp [intOf]; omega
              | false =>
                have HV1 : Hid (f k q = 0) := HFN.out k q (fun h => by rcases h with h | h; exact HN1.out h; simpa using hbb.2 h)
                clear hbb
                go_wp2_with (first | (go_at_call 50; refine (s_one_no _).mono ?_; rintro e w' ⟨rfl, rfl⟩) | (at_builtin; refine wpList_append_own _ rfl _ _ 30 rfl wo.heap.size 3 i0 (.int .i64 0) 1 8 Try.underlying30 hi hz0 hz1 hz2 rfl (by decide) _ _ _ rfl (HI.out.alloc _) ⟨_, 0, none⟩ 1 1 [.int .i64 0] rfl rfl new_one one_cell (by unfold maxLen; omega) (by omega) (by simp; omega) ?_))
                intro v' w1 hown' hgrow _
                have R1 := OwnInts.snoc hown'
                have R2 := below_append HBx.out hsx HI.out hgrow
                have HR1 : Hid (OwnInts w1 wo.heap.size v' (rowOf (q + 1) (f k))) := by show OwnInts _ _ _ _; rw [rowOf_succ, HP2.out, HV1.out]; exact R1
                have HR2 := keptI R2
                clear hown' hgrow R1 R2
                go_wp2
                go_roundw
                case rel => exact ⟨q + 1, by omega, by go_num, HR1.out, HR2.out⟩
                case measure => simp [intOf]; omega
          · obtain rfl : q = m := by omega
            have hbw' := keptI hbw
            obtain ⟨b6, c6, hv6, hb6⟩ := HI.out.shape (by omega)
            subst hv6
            have HIm : Hid (OwnInts wr wo.heap.size (.slice (some ⟨b6, 0, none⟩) q c6) P) := by rw [← hrl]; exact HI.out
            have HO3 := keptI (HO.out.below HBx.out (Nat.le_refl _))
            have HRL := Lib.hid hrl
            have hl := gridOf_len k q f
            obtain ⟨G, hG⟩ : ∃ G, gridOf k q f = G := ⟨_, rfl⟩
            have HG := Lib.hid hG
            rw [hG] at HO3 hl
            have hal : Below wr.heap.size wr (wr.alloc (.cells #[.slice (some ⟨b6, 0, none⟩) P.length c6] 30)) := (Below.refl _ _).alloc (Nat.le_refl _) _
            have HO8 := keptI (HO3.out.below hal hsx)
            have HE8 := keptI (HI.out.below hal)
            have HC8 : Hid ((wr.alloc (.cells #[.slice (some ⟨b6, 0, none⟩) P.length c6] 30)).cell? ⟨wr.heap.size, 0, none⟩ = some (.slice (some ⟨b6, 0, none⟩) P.length c6)) := by
              show _ = _
              rw [cell_of_row _ wr.heap.size 0 _ _ _ (heap_alloc_new wr _)]; rfl
            have hl8 : G.length ≤ 100000 := by omega
            clear hal hG hl hrl hbw
            go_wp2_with (at_builtin; refine wpList_append_ll rfl _ _ rfl w.heap.size wo.heap.size wr.heap.size b6 P.length c6 P rfl rfl HO8.out HC8.out HE8.out rfl hl8 hsz ?_)
            intro v9 w9 hown9 hgrow9
            have HO9 : Hid (OwnLL w9 w.heap.size w9.heap.size v9 (gridOf (k + 1) q f)) := by show OwnLL _ _ _ _ _; rw [gridOf_succ, HG.out, HP2.out]; exact hown9
            have HB9 := keptI (grown_llI hbw'.out (by omega) HO3.out hgrow9)
            clear hown9 hgrow9
            go_wp2
            go_roundw
            case rel => exact ⟨k + 1, by omega, by go_num, HO9.out, HB9.out⟩
            case measure => simp [intOf]; omega
      · obtain rfl : k = n := by omega
        go_wp2
        go_ret
        exact ⟨_, _, _, rfl, by rw [HZ.out]; exact HO.out, HB.out⟩
theorem s_Grow (w : World) (v : Value) (L R : List (List Int)) (hx : ListsAt w v L) (hR : GrowIs L R) :
    Calls Try.prog 28 #[v] w fun e w' => PsOut R w e w' := (sl_Grow w v L R hx hR).mono fun _ _ h => h.ps
end Go.Proofs.Ythpbpdnlnmldeaa
