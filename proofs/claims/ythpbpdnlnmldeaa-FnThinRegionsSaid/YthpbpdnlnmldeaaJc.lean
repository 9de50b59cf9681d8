
/- Thin in the model. -/
import Derived.Test.YthpbpdnlnmldeaaJb
namespace Go.Proofs.Ythpbpdnlnmldeaa
open Go.RowKit

set_option maxHeartbeats 2000000 in
theorem sl_Thin (w : World) (v : Value) (L : List (List Int)) (far : Int) (R : List (List Int)) (hx : ListsAt w v L) (hR : ThinIs L far R) :
    Calls Try.prog 23 #[v, .int .i64 far] w fun e w' => PlOut R w e w' := by
  obtain ⟨i0, hi, hz0, hz1, hz2⟩ := info_parts infoInt
  have HX := keptI hx
  have HR := keptI hR
  obtain ⟨a, n, cp, rfl, hn, x1, x2, _⟩ := hx.partsI
  clear hx hR hn
  go_enter Try.func23, Try.ntmps23
  go_wp2_with fail
  refine (s_validPicture w _ L HX.out).mono ?_
  rintro e w0 ⟨b, rfl, hb0, hbb⟩
  cases b with
  | false =>
    have HZ : Hid (R = []) := HR.out.no fun h => by simpa using hbb.2 h.1
    clear hbb
    go_wp2
    go_ret
    exact plOut_nil HZ.out hb0
  | true =>
   have HOK : Hid (BlockOk L 24 24 1) := keptI (hbb.1 rfl)
   have HB0 := keptI hb0
   by_cases hK : 1 ≤ far ∧ far ≤ 24
   · have HTO : Hid (ThinOk L far) := ⟨HOK.out, hK⟩
     have HZ : Hid (R = _) := HR.out.yes HTO.out
     obtain ⟨hf1, hf2⟩ := hK
     obtain ⟨F, rfl⟩ : ∃ F : Nat, far = (F : Int) := ⟨far.toNat, by omega⟩
     obtain ⟨hn, hp⟩ := HOK.out.pic HX.out
     obtain ⟨hd1, hd2, hd3, hd4⟩ := HOK.out.bd
     have HN := Lib.hid hn
     rw [← hn] at hd1 hd2
     obtain ⟨m, hm⟩ : ∃ m, wdt L = m := ⟨_, rfl⟩
     rw [hm] at hd3 hd4 hp
     have HM := Lib.hid hm
     obtain ⟨f, hf⟩ : ∃ f : Nat → Nat → Int, f = px L := ⟨_, rfl⟩
     have HF := Lib.hid hf
     rw [← hf] at hp
     have HZ : Hid (R = gridOf n m (thT f n m F n 0)) := by show _ = _; rw [HZ.out, ← HN.out, HM.out, hf, Int.toNat_natCast]; rfl
     have HP := keptI hp
     obtain ⟨_, _, g, off, rfl, _⟩ := hp
     have hs0 := hb0.size
     have hal : Below w.heap.size w (w0.alloc (.cells #[] 30)) := hb0.alloc hs0 _
     have HO0 : Hid (OwnLL (w0.alloc (.cells #[] 30)) w.heap.size (w0.alloc (.cells #[] 30)).heap.size (.slice (some ⟨w0.heap.size, 0, none⟩) 0 0) (gridOf 0 m fun _ _ => 0)) := OwnLL.madeI w0 w.heap.size hs0
     have HA0 := keptI hal
     clear hbb hf hn hm hal hb0
     go_wp2_with fail
     refine (inRange_yes (F : Int) 1 24 _ hf1 hf2).mono ?_
     rintro e w' ⟨rfl, rfl⟩
     go_wp2
     go_loopw [5, 6] (fun o i wr => ∃ k : Nat, k ≤ n ∧ i = .int .i64 k ∧ OwnLL wr w.heap.size wr.heap.size o (gridOf k m fun _ _ => 0) ∧ Below w.heap.size w wr) (fun _ i _ => n - (intOf i).toNat)
     case atStart => exact ⟨0, Nat.zero_le _, rfl, HO0.out, HA0.out⟩
     case round =>
      clear HO0 HA0
      obtain ⟨k, hk, rfl, hO, hB⟩ := hrel
      have hsz := hB.size
      have HO := keptI hO
      have HB := keptI hB
      obtain ⟨ao, no, co, hoo⟩ := hO.ls.isSlice
      subst hoo
      have hl := gridOf_len k m fun _ _ => 0
      by_cases hlt : k < n
      · obtain ⟨P, hP⟩ : ∃ P, gridOf k m (fun _ _ => 0) = P := ⟨_, rfl⟩
        have HPP := Lib.hid hP
        rw [hP] at HO hl
        obtain ⟨_, _, b, o, d, e1, c0, hd5, hd6, _⟩ := HP.out.row hlt
        injection e1 with e1
        injection e1 with e1 e2
        subst e1 e2
        have c0 := (hB.cell (World.block_lt_of_cell? w _ c0)).trans c0
        have hl8 : P.length ≤ 100000 := by omega
        have HPL := Lib.hid hl
        have q1 : (0 : Int) ≤ (k : Int) := by omega
        have q2 : (k : Int) < (n : Int) := by omega
        clear hO hB hP hl
        go_wp2_with (at_make; refine wpList_make_full _ rfl _ _ 30 rfl wr.heap.size 3 i0 (.int .i64 0) 1 Try.underlying30 hi hz0 hz1 .i64 .i64 m m m rfl rfl rfl rfl (by rw [hz2]; omega) (by unfold maxLen; omega) (Nat.le_refl _) ?_)
        intro w1 hown hgr
        rw [made_ints, ints_rep] at hown
        have HI1 : Hid (OwnInts w1 wr.heap.size (.slice (some ⟨wr.heap.size, 0, none⟩) m m) (rowOf m fun _ => 0)) := by
          show w1.ownsRow _ _ _ _ _ _; rw [rowOf_len]; exact hown
        have hB1 : Below wr.heap.size wr w1 := ⟨hgr.os, hgr.tape, hgr.output, hgr.size, fun k hk => hgr.block k hk (by simp)⟩
        have HB1 := keptI (HB.out.trans (hB1.mono hsz))
        have HO1 := keptI (HO.out.below hB1 (Nat.le_refl _))
        have hs1 := hB1.size
        clear hown hgr hB1 c0
        have hal : Below w1.heap.size w1 (w1.alloc (.cells #[.slice (some ⟨wr.heap.size, 0, none⟩) m m] 30)) := (Below.refl _ _).alloc (Nat.le_refl _) _
        have HO8 := keptI (HO1.out.below hal hs1)
        have HE8 := keptI (HI1.out.below hal)
        have HC8 : Hid ((w1.alloc (.cells #[.slice (some ⟨wr.heap.size, 0, none⟩) m m] 30)).cell? ⟨w1.heap.size, 0, none⟩ = some (.slice (some ⟨wr.heap.size, 0, none⟩) m m)) := by
          show _ = _
          rw [cell_of_row _ w1.heap.size 0 _ _ _ (heap_alloc_new w1 _)]; rfl
        clear hal
        go_wp2_with (at_builtin; refine wpList_append_ll rfl _ _ rfl w.heap.size wr.heap.size w1.heap.size wr.heap.size m m (rowOf m fun _ => 0) rfl rfl HO8.out HC8.out HE8.out (rowOf_len _ _) hl8 hsz ?_)
        intro v9 w9 hown9 hgrow9
        have HO9 : Hid (OwnLL w9 w.heap.size w9.heap.size v9 (gridOf (k + 1) m fun _ _ => 0)) := by show OwnLL _ _ _ _ _; rw [gridOf_succ, HPP.out]; exact hown9
        have HB9 := keptI (grown_llI HB1.out (by omega) HO1.out hgrow9)
        clear hown9 hgrow9
        go_wp2
        go_roundw
        case rel => exact ⟨k + 1, by omega, by go_num, HO9.out, HB9.out⟩
        case measure => simp [intOf]; omega
      · obtain rfl : k = n := by omega
        rename World => w1
        clear hlt hk hl
        rw [← thT_zero f k m F] at hO
        obtain ⟨hn1, g1, _, _, ha1, _⟩ := hO.dot (y := 0) (x := 0) hd1 hd3
        obtain rfl : no = k := hn1
        subst ha1
        have HO1 : Hid (OwnLL w1 w.heap.size w1.heap.size (.slice (some ⟨g1, 0, none⟩) no co) (gridOf no m (thT f no m F 0 0))) := hO
        have HB1 := keptI hB
        clear hO hB
        go_wp2
        go_loopw [7] (fun i wr => ∃ k : Nat, k ≤ no ∧ i = .int .i64 k ∧ OwnLL wr w.heap.size w1.heap.size (.slice (some ⟨g1, 0, none⟩) no co) (gridOf no m (thT f no m F k 0)) ∧ Below w.heap.size w wr) (fun i _ => no - (intOf i).toNat)
        case atStart => exact ⟨0, Nat.zero_le _, rfl, HO1.out, HB1.out⟩
        case round =>
          clear HO1 HB1
          obtain ⟨k, hk, rfl, hO, hB⟩ := hrel
          rename World => wo
          have hsz := hB.size
          have HO := keptI hO
          have HB := keptI hB
          clear hO
          by_cases hlt : k < no
          · obtain ⟨_, _, b, o, d, e1, c0, hd5, hd6, hcx⟩ := HP.out.row hlt
            injection e1 with e1
            injection e1 with e1 e2
            subst e1 e2
            have HC0 := keptI c0
            have HCX := keptI hcx
            have c0 := (hB.cell (World.block_lt_of_cell? w _ c0)).trans c0
            clear hcx hB
            have q1 : (0 : Int) ≤ (k : Int) := by omega
            have q2 : (k : Int) < (no : Int) := by omega
            go_wp2
            clear c0
            go_loopw [8] (fun j wx => ∃ q : Nat, q ≤ m ∧ j = .int .i64 q ∧ OwnLL wx w.heap.size w1.heap.size (.slice (some ⟨g1, 0, none⟩) no co) (gridOf no m (thT f no m F k q)) ∧ Below w.heap.size w wx) (fun j _ => m - (intOf j).toNat)
            case atStart => exact ⟨0, Nat.zero_le _, rfl, HO.out, HB.out⟩
            case round =>
              clear HO HB
              obtain ⟨q, hq, rfl, hO, hb⟩ := hrel
              have HO := keptI hO
              have HB := keptI hb
              by_cases hqm : q < m
              · have cx := (hb.cell (World.block_lt_of_cell? w _ (HCX.out q hqm))).trans (HCX.out q hqm)
                have hpt := (hO.pic (by omega) (by omega)).2
                have hbt : Bin (thT f no m F k q) no m := fun i j _ _ => thT_bin f no m F k q i j
                have hdn := s_near wr _ no co m _ k q F hpt (by omega) (by omega) hlt hqm (by omega)
                have HDN := keptI hdn
                obtain ⟨_, g2, b2, d2, e2, hb1, hb2, k1, k2, k3, k4, k5, kset⟩ := hO.dot hlt hqm
                injection e2 with e2
                injection e2 with e2 _
                subst e2
                rw [thT_now] at k2
                obtain ⟨z, hz⟩ : ∃ z, f k q = z := ⟨_, rfl⟩
                rw [hz] at cx
                have q3 : (0 : Int) ≤ (q : Int) := by omega
                have q4 : (q : Int) < (m : Int) := by omega
                have c0 := (hb.cell (World.block_lt_of_cell? w _ HC0.out)).trans HC0.out
                by_cases h1 : z = 1
                · have d1 : (z == 1) = true := by simp [h1]
                  have HZ1 : Hid (f k q = 1) := hz.trans h1
                  have HKS := keptI (kset 1)
                  have HBK := keptI hb1
                  clear hdn hO hb kset hz h1 hpt hbt
                  go_wp2_with fail
                  refine HDN.out.mono ?_
                  rintro e w' ⟨b, rfl, rfl, hbb⟩
                  cases b with
                  | true =>
                    have HS1 : Hid (OwnLL wr w.heap.size w1.heap.size (.slice (some ⟨g1, 0, none⟩) no co) (gridOf no m (thT f no m F k (q + 1)))) := by
                      show OwnLL _ _ _ _ _
                      rw [thT_no (.inr (hbb.1 rfl))]; exact HO.out
                    clear hbb HO
                    go_wp2
                    go_roundw
                    case rel => exact ⟨q + 1, by omega, by go_num, HS1.out, HB.out⟩
                    case measure => simp [intOf]; omega
                  | false =>
                    obtain ⟨ks1, ks2⟩ := HKS.out
                    have HS1 : Hid (OwnLL (wr.setCell ⟨b2, q, none⟩ (.int .i64 1)) w.heap.size w1.heap.size (.slice (some ⟨g1, 0, none⟩) no co) (gridOf no m (thT f no m F k (q + 1)))) := by
                      show OwnLL _ _ _ _ _
                      rw [thT_yes HZ1.out (fun h => by simpa using hbb.2 h)]; exact ks1
                    have HS2 : Hid (Below w.heap.size w (wr.setCell ⟨b2, q, none⟩ (.int .i64 1))) := HB.out.setCell (p := ⟨b2, q, none⟩) HBK.out _
                    clear hbb ks1 ks2 HO
                    go_wp2
                    go_roundw
                    case rel => exact ⟨q + 1, by omega, by go_num, HS1.out, HS2.out⟩
                    case measure => simp [intOf]; omega
                · have HS1 : Hid (OwnLL wr w.heap.size w1.heap.size (.slice (some ⟨g1, 0, none⟩) no co) (gridOf no m (thT f no m F k (q + 1)))) := by
                    show OwnLL _ _ _ _ _
                    rw [thT_no (.inl fun h => h1 (hz.symm.trans h))]; exact hO
                  have d1 : (z == 1) = false := by simp [h1]
                  clear hdn hO hb kset HO hz h1 hpt hbt
                  go_wp2
                  go_roundw
                  case rel => exact ⟨q + 1, by omega, by go_num, HS1.out, HB.out⟩
                  case measure => simp [intOf]; omega
              · obtain rfl : q = m := by omega
                have c0 := (hb.cell (World.block_lt_of_cell? w _ HC0.out)).trans HC0.out
                have HS1 : Hid (OwnLL wr w.heap.size w1.heap.size (.slice (some ⟨g1, 0, none⟩) no co) (gridOf no q (thT f no q F (k + 1) 0))) := HO.out
                clear hO hb
                go_wp2
                go_roundw
                case rel => exact ⟨k + 1, by omega, by go_num, HS1.out, HB.out⟩
                case measure => simp [intOf]; omega
          · obtain rfl : k = no := by omega
            have HE : Hid (OwnLL wo w.heap.size wo.heap.size (.slice (some ⟨g1, 0, none⟩) k co) R) := by
              show OwnLL _ _ _ _ _
              rw [HZ.out]; exact HO.out.top HO.out.1 (Nat.le_refl _)
            clear hB
            go_wp2
            go_ret
            exact ⟨_, _, _, rfl, HE.out, HB.out⟩
   · have HZ : Hid (R = []) := HR.out.no fun h => hK h.2
     have hK' : far < 1 ∨ 24 < far := by omega
     clear hbb hK
     go_wp2_with fail
     refine (inRange_no far 1 24 _ hK').mono ?_
     rintro e w' ⟨rfl, rfl⟩
     go_wp2
     go_ret
     exact plOut_nil HZ.out hb0
theorem s_Thin (w : World) (v : Value) (L : List (List Int)) (far : Int) (R : List (List Int)) (hx : ListsAt w v L) (hR : ThinIs L far R) :
    Calls Try.prog 23 #[v, .int .i64 far] w fun e w' => PsOut R w e w' := (sl_Thin w v L far R hx hR).mono fun _ _ h => h.ps
end Go.Proofs.Ythpbpdnlnmldeaa
