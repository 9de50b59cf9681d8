
/- Thin of the program. -/
import Derived.Test.YthpbpdnlnmldeaaIu
namespace Go.Proofs.Ythpbpdnlnmldeaa
open Go.RowKit

def ThinIs (L : List (List Int)) (far : Int) (R : List (List Int)) : Prop := AnsIs (ThinOk L far) (gridOf L.length (wdt L) (thAll (px L) L.length (wdt L) far.toNat L.length)) R
theorem Thin_ex (L : List (List Int)) (far : Int) : ∃ R, ThinIs L far R ∧ ListsSmall R :=
  ansIs_ex _ _ fun h => grid_small (by have := h.1.bd; omega) (by have := h.1.bd; omega)
/-- the thin picture before a place -/
noncomputable def thT (f : Nat → Nat → Int) (n m F k q : Nat) : Nat → Nat → Int := thRow f n m F (thAll f n m F k) k q
theorem thT_bin (f : Nat → Nat → Int) (n m F k q : Nat) (i j : Nat) : thT f n m F k q i j = 0 ∨ thT f n m F k q i j = 1 := thRow_bin (thAll_bin f n m F k) q i j
theorem thT_row (f : Nat → Nat → Int) (n m F k : Nat) : thT f n m F k m = thT f n m F (k + 1) 0 := rfl
theorem thT_zero (f : Nat → Nat → Int) (n m F : Nat) : thT f n m F 0 0 = fun _ _ => 0 := rfl
theorem thT_now (f : Nat → Nat → Int) (n m F k q : Nat) : thT f n m F k q k q = 0 := thNow f n m F k q
theorem thT_yes {f : Nat → Nat → Int} {n m F k q : Nat} (h1 : f k q = 1) (h2 : ¬ NearP (thT f n m F k q) n m k q F) : thT f n m F k (q + 1) = upd (thT f n m F k q) k q 1 := thStep_yes h1 h2
theorem thT_no {f : Nat → Nat → Int} {n m F k q : Nat} (h1 : f k q ≠ 1 ∨ NearP (thT f n m F k q) n m k q F) : thT f n m F k (q + 1) = thT f n m F k q := thStep_no h1
set_option maxHeartbeats 2000000 in
theorem i_Thin (w : World) (v : Value) (L : List (List Int)) (far : Int) (R : List (List Int)) (hx : ListsAt w v L) (hR : ThinIs L far R) :
    Calls Try.prog 21 #[v, .int .i64 far] w fun e w' => PlOut R w e w' := by
  have HX := keptI hx
  have HR := keptI hR
  obtain ⟨a, n, cp, rfl, hn, x1, x2, _⟩ := hx.partsI
  clear hx hR hn
  go_enter Try.func21, Try.ntmps21
  go_wp2_with fail
  refine (i_canThin w _ L far HX.out).mono ?_
  rintro e w0 ⟨b, rfl, rfl, hbb⟩
  cases b with
  | false =>
    have HZ : Hid (R = []) := HR.out.no fun h => by simpa using hbb.2 h
    clear hbb
    go_wp2
    go_ret
    exact plOut_nil HZ.out (Below.refl _ _)
  | true =>
    have HTO : Hid (ThinOk L far) := keptI (hbb.1 rfl)
    have HOK : Hid (BlockOk L 24 24 1) := HTO.out.1
    have HZ : Hid (R = _) := HR.out.yes HTO.out
    obtain ⟨hf1, hf2⟩ := HTO.out.2
    obtain ⟨F, rfl⟩ : ∃ F : Nat, far = (F : Int) := ⟨far.toNat, by omega⟩
    obtain ⟨hn, hp⟩ := HOK.out.pic HX.out
    obtain ⟨hd1, hd2, hd3, hd4⟩ := HOK.out.bd
    have HN := Lib.hid hn
    rw [← hn] at hd1 hd2
    obtain ⟨m, hm⟩ : ∃ m, wdt L = m := ⟨_, rfl⟩
    rw [hm] at hd3 hd4 hp
    have HM := Lib.hid hm
    obtain ⟨f, hf⟩ : ∃ f : Nat → Nat → Int, f = px L := ⟨_, rfl⟩
    have HF := Lib.hid hf
    rw [← hf] at hp
    have HZ : Hid (R = gridOf n m (thT f n m F n 0)) := by show _ = _; rw [HZ.out, ← HN.out, HM.out, hf, Int.toNat_natCast]; rfl
    have HP := keptI hp
    obtain ⟨_, _, g, off, rfl, _⟩ := hp
    obtain ⟨_, _, b0, o0, d0, e0, c00, _, _, _⟩ := HP.out.row (y := 0) hd1
    injection e0 with e0
    injection e0 with e0 e0'
    subst e0 e0'
    rw [Nat.add_zero] at c00
    have q0 : (0 : Int) < (n : Int) := by omega
    clear hbb hf hn hm
    go_wp2_with fail
    refine (i_zeroBlock n m w (by omega) (by omega)).mono ?_
    rintro e w1 ⟨a1, n1, c1, rfl, hO1, hb1⟩
    rw [← thT_zero f n m F] at hO1
    obtain ⟨hn1, g1, _, _, ha1, _⟩ := hO1.dot (y := 0) (x := 0) hd1 hd3
    obtain rfl : n1 = n := hn1
    subst ha1
    have HO1 := keptI hO1
    have HB1 := keptI hb1
    have hs1 := hb1.size
    clear hO1 hb1 c00
    go_wp2
    go_loopw [23] (fun i wr => ∃ k : Nat, k ≤ n1 ∧ i = .int .i64 k ∧ OwnLL wr w.heap.size w1.heap.size (.slice (some ⟨g1, 0, none⟩) n1 c1) (gridOf n1 m (thT f n1 m F k 0)) ∧ Below w.heap.size w wr) (fun i _ => n1 - (intOf i).toNat)
    case atStart => exact ⟨0, Nat.zero_le _, rfl, HO1.out, HB1.out⟩
    case round =>
      clear HO1 HB1
      obtain ⟨k, hk, rfl, hO, hB⟩ := hrel
      rename World => wo
      have hsz := hB.size
      have HO := keptI hO
      have HB := keptI hB
      clear hO
      by_cases hlt : k < n1
      · obtain ⟨_, _, b, o, d, e1, c0, hd5, hd6, hcx⟩ := HP.out.row hlt
        injection e1 with e1
        injection e1 with e1 e2
        subst e1 e2
        have HC0 := keptI c0
        have HCX := keptI hcx
        have c0 := (hB.cell (World.block_lt_of_cell? w _ c0)).trans c0
        clear hcx hB
        have q1 : (0 : Int) ≤ (k : Int) := by omega
        have q2 : (k : Int) < (n1 : Int) := by omega
        go_wp2
        clear c0
        go_loopw [30] (fun j wx => ∃ q : Nat, q ≤ m ∧ j = .int .i64 q ∧ OwnLL wx w.heap.size w1.heap.size (.slice (some ⟨g1, 0, none⟩) n1 c1) (gridOf n1 m (thT f n1 m F k q)) ∧ Below w.heap.size w wx) (fun j _ => m - (intOf j).toNat)
        case atStart => exact ⟨0, Nat.zero_le _, rfl, HO.out, HB.out⟩
        case round =>
          clear HO HB
          obtain ⟨q, hq, rfl, hO, hb⟩ := hrel
          have HO := keptI hO
          have HB := keptI hb
          by_cases hqm : q < m
          · have cx := (hb.cell (World.block_lt_of_cell? w _ (HCX.out q hqm))).trans (HCX.out q hqm)
            have hpt := (hO.pic (by omega) (by omega)).2
            have hbt : Bin (thT f n1 m F k q) n1 m := fun i j _ _ => thT_bin f n1 m F k q i j
            have hdn := i_dotsNear wr _ n1 c1 m _ k q F hpt hbt (by omega) (by omega) hlt hqm (by omega)
            have hwn := win_near (far := F) hbt hlt hqm (by omega)
            rw [thT_now] at hwn
            have hwb := win_bd (y := k) (x := q) (far := F) hbt
            obtain ⟨s, hs⟩ : ∃ s, win (thT f n1 m F k q) n1 m k q F = s := ⟨_, rfl⟩
            rw [hs] at hdn hwn hwb
            have hs0' : 0 ≤ s := hwb.1
            have HDN := keptI hdn
            obtain ⟨_, g2, b2, d2, e2, hb1, hb2, k1, k2, k3, k4, k5, kset⟩ := hO.dot hlt hqm
            injection e2 with e2
            injection e2 with e2 _
            subst e2
            rw [thT_now] at k2
            obtain ⟨z, hz⟩ : ∃ z, f k q = z := ⟨_, rfl⟩
            rw [hz] at cx
            have q3 : (0 : Int) ≤ (q : Int) := by omega
            have q4 : (q : Int) < (m : Int) := by omega
            by_cases h1 : z = 1
            · by_cases hbig : 0 < s
              · have HS1 : Hid (OwnLL wr w.heap.size w1.heap.size (.slice (some ⟨g1, 0, none⟩) n1 c1) (gridOf n1 m (thT f n1 m F k (q + 1)))) := by
                  show OwnLL _ _ _ _ _
                  rw [thT_no (.inr (hwn.1 hbig))]; exact hO
                have d1 : (z == 1) = true := by simp [h1]
                have e3 : (s == 0) = false := by simp; omega
                clear hs hwn hwb hdn hO hb kset HO hz h1 hbig hpt hbt
                go_wp2_with fail
                refine HDN.out.mono ?_
                rintro e w' ⟨rfl, rfl⟩
                go_wp2
                go_roundw
                case rel => exact ⟨q + 1, by omega, by go_num, HS1.out, HB.out⟩
                case measure => simp [intOf]; omega
              · obtain ⟨ks1, ks2⟩ := kset 1
                have HS1 : Hid (OwnLL (wr.setCell ⟨b2, q, none⟩ (.int .i64 1)) w.heap.size w1.heap.size (.slice (some ⟨g1, 0, none⟩) n1 c1) (gridOf n1 m (thT f n1 m F k (q + 1)))) := by
                  show OwnLL _ _ _ _ _
                  rw [thT_yes (hz.trans h1) (fun h => hbig (hwn.2 h))]; exact ks1
                have HS2 : Hid (Below w.heap.size w (wr.setCell ⟨b2, q, none⟩ (.int .i64 1))) := hb.setCell (p := ⟨b2, q, none⟩) hb1 _
                have d1 : (z == 1) = true := by simp [h1]
                have e3 : (s == 0) = true := by simp; omega
                clear hs hwn hwb hdn hO hb kset ks1 ks2 HO HB hz h1 hbig hpt hbt
                go_wp2_with fail
                refine HDN.out.mono ?_
                rintro e w' ⟨rfl, rfl⟩
                go_wp2
                go_roundw
                case rel => exact ⟨q + 1, by omega, by go_num, HS1.out, HS2.out⟩
                case measure => simp [intOf]; omega
            · have HS1 : Hid (OwnLL wr w.heap.size w1.heap.size (.slice (some ⟨g1, 0, none⟩) n1 c1) (gridOf n1 m (thT f n1 m F k (q + 1)))) := by
                show OwnLL _ _ _ _ _
                rw [thT_no (.inl fun h => h1 (hz.symm.trans h))]; exact hO
              have d1 : (z == 1) = false := by simp [h1]
              clear hs hwn hwb hdn hO hb kset HO hz h1 hpt hbt
              go_wp2
              go_roundw
              case rel => exact ⟨q + 1, by omega, by go_num, HS1.out, HB.out⟩
              case measure => simp [intOf]; omega
          · obtain rfl : q = m := by omega
            have HS1 : Hid (OwnLL wr w.heap.size w1.heap.size (.slice (some ⟨g1, 0, none⟩) n1 c1) (gridOf n1 q (thT f n1 q F (k + 1) 0))) := HO.out
            clear hO hb
            go_wp2
            go_roundw
            case rel => exact ⟨k + 1, by omega, by go_num, HS1.out, HB.out⟩
            case measure => simp [intOf]; omega
      · obtain rfl : k = n1 := by omega
        have HE : Hid (OwnLL wo w.heap.size wo.heap.size (.slice (some ⟨g1, 0, none⟩) k c1) R) := by
          show OwnLL _ _ _ _ _
          rw [HZ.out]; exact HO.out.top HO.out.1 (Nat.le_refl _)
        clear hB
        go_wp2
        go_ret
        exact ⟨_, _, _, rfl, HE.out, HB.out⟩
end Go.Proofs.Ythpbpdnlnmldeaa
