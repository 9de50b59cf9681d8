
/- Grow of the program. -/
import Derived.Test.YthpbpdnlnmldeaaIu
namespace Go.Proofs.Ythpbpdnlnmldeaa
open Go.RowKit

def GrowIs (L R : List (List Int)) : Prop := AnsIs (BlockOk L 24 24 1) (gridOf L.length (wdt L) (growF (px L) L.length (wdt L))) R
theorem Grow_ex (L : List (List Int)) : ∃ R, GrowIs L R ∧ ListsSmall R :=
  ansIs_ex _ _ fun h => grid_small (by have := h.bd; omega) (by have := h.bd; omega)
set_option maxHeartbeats 2000000 in
theorem i_Grow (w : World) (v : Value) (L R : List (List Int)) (hx : ListsAt w v L) (hR : GrowIs L R) :
    Calls Try.prog 27 #[v] w fun e w' => PlOut R w e w' := by
  have HX := keptI hx
  have HR := keptI hR
  obtain ⟨a, n, cp, rfl, hn, x1, x2, _⟩ := hx.partsI
  clear hx hR hn
  go_enter Try.func27, Try.ntmps27
  go_wp2_with fail
  refine (i_ValidPicture w _ L HX.out).mono ?_
  rintro e w0 ⟨b, rfl, rfl, hbb⟩
  cases b with
  | false =>
    have HZ : Hid (R = []) := HR.out.no fun h => by simpa using hbb.2 h
    clear hbb
    go_wp2
    go_ret
    exact plOut_nil HZ.out (Below.refl _ _)
  | true =>
    have HOK : Hid (BlockOk L 24 24 1) := keptI (hbb.1 rfl)
    have HZ : Hid (R = _) := HR.out.yes HOK.out
    obtain ⟨hn, hp⟩ := HOK.out.pic HX.out
    obtain ⟨hd1, hd2, hd3, hd4⟩ := HOK.out.bd
    have HN := Lib.hid hn
    rw [← hn] at hd1 hd2
    obtain ⟨m, hm⟩ : ∃ m, wdt L = m := ⟨_, rfl⟩
    rw [hm] at hd3 hd4 hp
    have HM := Lib.hid hm
    obtain ⟨f, hf⟩ : ∃ f : Nat → Nat → Int, f = growF (px L) n m := ⟨_, rfl⟩
    have HBin : Hid (Bin (px L) n m) := fun y x _ _ => HOK.out.bin y x
    have HF : Hid (∀ y x, y < n → x < m → f y x = if 0 < win (px L) n m y x 2 then 1 else 0) := fun y x hy hx => by rw [hf]; exact grow_win HBin.out hy hx
    have HZ : Hid (R = gridOf n m f) := by show _ = _; rw [HZ.out, ← HN.out, HM.out, hf]
    have HP := keptI hp
    obtain ⟨_, _, g, off, rfl, _⟩ := hp
    obtain ⟨_, _, b0, o0, d0, e0, c00, _, _, _⟩ := HP.out.row (y := 0) hd1
    injection e0 with e0
    injection e0 with e0 e0'
    subst e0 e0'
    rw [Nat.add_zero] at c00
    have q0 : (0 : Int) < (n : Int) := by omega
    clear hbb hf hn hm
    go_wp2_with fail
    refine (i_zeroBlock n m w (by omega) (by omega)).mono ?_
    rintro e w1 ⟨a1, n1, c1, rfl, hO1, hb1⟩
    rw [← up_none f] at hO1
    obtain ⟨hn1, g1, _, _, ha1, _⟩ := hO1.dot (y := 0) (x := 0) hd1 hd3
    obtain rfl : n1 = n := hn1
    subst ha1
    have HO1 := keptI hO1
    have HB1 := keptI hb1
    have hs1 := hb1.size
    clear hO1 hb1 c00
    go_wp2
    go_loopw [18] (fun i wr => ∃ k : Nat, k ≤ n1 ∧ i = .int .i64 k ∧ OwnLL wr w.heap.size w1.heap.size (.slice (some ⟨g1, 0, none⟩) n1 c1) (gridOf n1 m (upTo f k 0)) ∧ Below w.heap.size w wr) (fun i _ => n1 - (intOf i).toNat)
    case atStart => exact ⟨0, Nat.zero_le _, rfl, HO1.out, HB1.out⟩
    case round =>
      clear HO1 HB1
      obtain ⟨k, hk, rfl, hO, hB⟩ := hrel
      rename World => wo
      have hsz := hB.size
      have HO := keptI hO
      have HB := keptI hB
      clear hO
      by_cases hlt : k < n1
      · obtain ⟨_, g2, b2, d2, e2, hb1, hb2, k1, _⟩ := HO.out.dot hlt hd3
        injection e2 with e2
        injection e2 with e2 _
        subst e2
        clear hB
        have q1 : (0 : Int) ≤ (k : Int) := by omega
        have q2 : (k : Int) < (n1 : Int) := by omega
        go_wp2
        clear k1
        go_loopw [26] (fun j wx => ∃ q : Nat, q ≤ m ∧ j = .int .i64 q ∧ OwnLL wx w.heap.size w1.heap.size (.slice (some ⟨g1, 0, none⟩) n1 c1) (gridOf n1 m (upTo f k q)) ∧ Below w.heap.size w wx) (fun j _ => m - (intOf j).toNat)
        case atStart => exact ⟨0, Nat.zero_le _, rfl, HO.out, HB.out⟩
        case round =>
          clear HO HB
          obtain ⟨q, hq, rfl, hO, hb⟩ := hrel
          have HO := keptI hO
          have HB := keptI hb
          by_cases hqm : q < m
          · have hdn := i_dotsNear wr _ n1 cp m (px L) k q 2 (HP.out.below hb) HBin.out (by omega) (by omega) hlt hqm (by omega)
            have hFk := HF.out k q hlt hqm
            obtain ⟨s, hs⟩ : ∃ s, win (px L) n1 m k q 2 = s := ⟨_, rfl⟩
            rw [hs] at hdn hFk
            have HDN := keptI hdn
            obtain ⟨_, g2, b2, d2, e2, hb1, hb2, k1, k2, k3, k4, k5, kset⟩ := hO.dot hlt hqm
            injection e2 with e2
            injection e2 with e2 _
            subst e2
            obtain ⟨u, hu⟩ : ∃ u, upTo f k q k q = u := ⟨_, rfl⟩
            rw [hu] at k2
            have q3 : (0 : Int) ≤ (q : Int) := by omega
            have q4 : (q : Int) < (m : Int) := by omega
            by_cases hbig : 0 < s
            · have hf1 : f k q = 1 := by rw [hFk, if_pos hbig]
              obtain ⟨ks1, ks2⟩ := kset 1
              have HS1 : Hid (OwnLL (wr.setCell ⟨b2, q, none⟩ (.int .i64 1)) w.heap.size w1.heap.size (.slice (some ⟨g1, 0, none⟩) n1 c1) (gridOf n1 m (upTo f k (q + 1)))) := by
                show OwnLL _ _ _ _ _
                rw [← up_upd, hf1]; exact ks1
              have HS2 : Hid (Below w.heap.size w (wr.setCell ⟨b2, q, none⟩ (.int .i64 1))) := hb.setCell (p := ⟨b2, q, none⟩) hb1 _
              have e3 : decide (0 < s) = true := decide_eq_true hbig
              clear hs hFk hdn hO hb kset ks1 ks2 hu HO HB hf1
              go_wp2_with fail
              refine HDN.out.mono ?_
              rintro e w' ⟨rfl, rfl⟩
              go_wp2
              go_roundw
              case rel => exact ⟨q + 1, by omega, by go_num, HS1.out, HS2.out⟩
              case measure => simp [intOf]; omega
            · have hf1 : f k q = 0 := by rw [hFk, if_neg hbig]
              have HS1 : Hid (OwnLL wr w.heap.size w1.heap.size (.slice (some ⟨g1, 0, none⟩) n1 c1) (gridOf n1 m (upTo f k (q + 1)))) := by
                show OwnLL _ _ _ _ _
                rw [up_skip hf1]; exact hO
              have e3 : decide (0 < s) = false := decide_eq_false hbig
              clear hs hFk hdn hO hb kset hu HO hf1
              go_wp2_with fail
              refine HDN.out.mono ?_
              rintro e w' ⟨rfl, rfl⟩
              go_wp2
              go_roundw
              case rel => exact ⟨q + 1, by omega, by go_num, HS1.out, HB.out⟩
              case measure => simp [intOf]; omega
          · obtain rfl : q = m := by omega
            have HS1 : Hid (OwnLL wr w.heap.size w1.heap.size (.slice (some ⟨g1, 0, none⟩) n1 c1) (gridOf n1 q (upTo f (k + 1) 0))) := by
              show OwnLL _ _ _ _ _
              rw [← up_row]; exact HO.out
            clear hO hb
            go_wp2
            go_roundw
            case rel => exact ⟨k + 1, by omega, by go_num, HS1.out, HB.out⟩
            case measure => simp [intOf]; omega
      · obtain rfl : k = n1 := by omega
        have HE : Hid (OwnLL wo w.heap.size wo.heap.size (.slice (some ⟨g1, 0, none⟩) k c1) R) := by
          show OwnLL _ _ _ _ _
          rw [HZ.out, ← up_all]; exact HO.out.top HO.out.1 (Nat.le_refl _)
        clear hB
        go_wp2
        go_ret
        exact ⟨_, _, _, rfl, HE.out, HB.out⟩
end Go.Proofs.Ythpbpdnlnmldeaa
