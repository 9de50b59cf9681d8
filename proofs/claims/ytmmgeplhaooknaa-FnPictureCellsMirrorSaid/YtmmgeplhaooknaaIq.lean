
/- CellsPicture of the program. -/
import Derived.Test.YtmmgeplhaooknaaIl
namespace Go.Proofs.Ytmmgeplhaooknaa
open Go.RowKit

/-- the dots of cells -/
def cpF (f : Nat → Nat → Int) : Nat → Nat → Int := fun y x => (((f (y / 3) (x / 2)).toNat / 2 ^ spotOf y x % 2 : Nat) : Int)
def CellsPicIs (L R : List (List Int)) : Prop := AnsIs (BlockOk L 8 12 63) (gridOf (L.length * 3) (wdt L * 2) (cpF (px L))) R
theorem CellsPicture_ex (L : List (List Int)) : ∃ R, CellsPicIs L R ∧ ListsSmall R :=
  ansIs_ex _ _ fun h => grid_small (by have := h.bd; omega) (by have := h.bd; omega)
theorem pw_two : ∀ k, k < 6 → pwL.getD k 0 = ((2 ^ k : Nat) : Int) := by decide
set_option maxHeartbeats 4000000 in
theorem i_CellsPicture (w : World) (v : Value) (L R : List (List Int)) (hx : ListsAt w v L) (hR : CellsPicIs L R) :
    Calls Try.prog 25 #[v] w fun e w' => PlOut R w e w' := by
  have HX := keptI hx
  have HR := keptI hR
  obtain ⟨a, n, cp, rfl, hn, x1, x2, _⟩ := hx.partsI
  clear hx hR hn
  go_enter Try.func25, Try.ntmps25
  go_wp2_with fail
  refine (i_isBlock w _ L 8 12 63 HX.out).mono ?_
  rintro e w0 ⟨b, rfl, rfl, hbb⟩
  cases b with
  | false =>
    have HZ : Hid (R = []) := HR.out.no fun h => by simpa using hbb.2 h
    clear hbb
    go_wp2
    go_ret
    exact plOut_nil HZ.out (Below.refl _ _)
  | true =>
    have HOK : Hid (BlockOk L 8 12 63) := keptI (hbb.1 rfl)
    have HZ : Hid (R = _) := HR.out.yes HOK.out
    obtain ⟨hn, hp⟩ := HOK.out.pic HX.out
    obtain ⟨hd1, hd2, hd3, hd4⟩ := HOK.out.bd
    have HN := Lib.hid hn
    rw [← hn] at hd1 hd2
    obtain ⟨m, hm⟩ : ∃ m, wdt L = m := ⟨_, rfl⟩
    rw [hm] at hd3 hd4 hp
    have HM := Lib.hid hm
    obtain ⟨f, hf⟩ : ∃ f : Nat → Nat → Int, f = cpF (px L) := ⟨_, rfl⟩
    have HF := Lib.hid hf
    have HZ : Hid (R = gridOf (n * 3) (m * 2) f) := by show _ = _; rw [HZ.out, ← HN.out, HM.out, hf]
    have HCel : Hid (∀ y x, y < n → x < m → 0 ≤ px L y x ∧ px L y x ≤ 63) := fun y x hy hx => (HOK.out.2.2 y (by rw [← hn]; exact hy)).2 x (by rw [← hm] at hx; exact hx)
    obtain ⟨h, hh⟩ : ∃ h, n * 3 = h := ⟨_, rfl⟩
    obtain ⟨h2, hh2⟩ : ∃ h2, m * 2 = h2 := ⟨_, rfl⟩
    have HP := keptI hp
    obtain ⟨_, _, g, off, rfl, _⟩ := hp
    obtain ⟨_, _, b0, o0, d0, e0, c00, _, _, _⟩ := HP.out.row (y := 0) hd1
    injection e0 with e0
    injection e0 with e0 e0'
    subst e0 e0'
    rw [Nat.add_zero] at c00
    have q0 : (0 : Int) < (n : Int) := by omega
    have r1 : (n : Int) * 3 = (h : Int) := by omega
    have r2 : (m : Int) * 2 = (h2 : Int) := by omega
    have hb1' : 1 ≤ h ∧ h ≤ 24 := by omega
    have hb2' : 1 ≤ h2 ∧ h2 ≤ 24 := by omega
    obtain ⟨hp1, hp1'⟩ := hb1'
    obtain ⟨hp2, hp2'⟩ := hb2'
    rw [hh, hh2] at HZ
    have HH := Lib.hid hh
    have HH2 := Lib.hid hh2
    clear hbb hf hn hm hh hh2
    go_wp2_with fail
    refine (i_zeroBlock h h2 w (by omega) (by omega)).mono ?_
    rintro e w1 ⟨a1, n1, c1, rfl, hO1, hb1⟩
    rw [← up_none f] at hO1
    obtain ⟨hn1, g1, _, _, ha1, _⟩ := hO1.dot (y := 0) (x := 0) hp1 hp2
    obtain rfl : n1 = h := hn1
    subst ha1
    have HO1 := keptI hO1
    have HB1 := keptI hb1
    have hs1 := hb1.size
    clear hO1 hb1 c00 r1 r2
    go_wp2
    go_loopw [21] (fun i wr => ∃ k : Nat, k ≤ n1 ∧ i = .int .i64 k ∧ OwnLL wr w.heap.size w1.heap.size (.slice (some ⟨g1, 0, none⟩) n1 c1) (gridOf n1 h2 (upTo f k 0)) ∧ Below w.heap.size w wr) (fun i _ => n1 - (intOf i).toNat)
    case atStart => exact ⟨0, Nat.zero_le _, rfl, HO1.out, HB1.out⟩
    case round =>
      clear HO1 HB1
      obtain ⟨Y, hY, rfl, hO, hB⟩ := hrel
      rename World => wo
      have hsz := hB.size
      have HO := keptI hO
      have HB := keptI hB
      by_cases hlt : Y < n1
      · obtain ⟨_, g2, b2, d2, e2, hb1, hb2, k1, _⟩ := hO.dot hlt hp2
        injection e2 with e2
        injection e2 with e2 _
        subst e2
        obtain ⟨I, hI⟩ : ∃ I, Y / 3 = I := ⟨_, rfl⟩
        have hIn : I < n := by have := HH.out; omega
        obtain ⟨_, _, b, o, d, e1, c0, hd5, hd6, hcx⟩ := HP.out.row hIn
        injection e1 with e1
        injection e1 with e1 e2
        subst e1 e2
        have HC0 := keptI c0
        have HCX := keptI hcx
        have q1 : (0 : Int) ≤ (Y : Int) := by omega
        have q2 : (Y : Int) < (n1 : Int) := by omega
        have HI := Lib.hid hI
        clear hO hB hI c0 hcx
        go_wp2
        clear k1
        go_loopw [29] (fun j wx => ∃ q : Nat, q ≤ h2 ∧ j = .int .i64 q ∧ OwnLL wx w.heap.size w1.heap.size (.slice (some ⟨g1, 0, none⟩) n1 c1) (gridOf n1 h2 (upTo f Y q)) ∧ Below w.heap.size w wx) (fun j _ => h2 - (intOf j).toNat)
        case atStart => exact ⟨0, Nat.zero_le _, rfl, HO.out, HB.out⟩
        case round =>
          clear HO HB
          obtain ⟨X, hX, rfl, hO, hb⟩ := hrel
          have HO := keptI hO
          have HB := keptI hb
          by_cases hqm : X < h2
          · obtain ⟨J, hJ⟩ : ∃ J, X / 2 = J := ⟨_, rfl⟩
            have hJm : J < m := by have := HH2.out; omega
            have c0 := (hb.cell (World.block_lt_of_cell? w _ HC0.out)).trans HC0.out
            have cx := (hb.cell (World.block_lt_of_cell? w _ (HCX.out J hJm))).trans (HCX.out J hJm)
            have hcel := HCel.out I J hIn hJm
            obtain ⟨sp, hsp⟩ : ∃ sp, spotOf Y X = sp := ⟨_, rfl⟩
            have hsp6 : sp < 6 := by rw [← hsp]; exact spot6 Y X
            have hFV : f Y X = (((px L I J).toNat / 2 ^ sp % 2 : Nat) : Int) := by rw [HF.out]; unfold cpF; rw [HI.out, hJ, hsp]
            obtain ⟨c, hc⟩ : ∃ c : Nat, px L I J = (c : Int) := ⟨(px L I J).toNat, by omega⟩
            rw [hc, Int.toNat_natCast] at hFV
            rw [hc] at cx hcel
            obtain ⟨pw, hpw⟩ : ∃ pw, 2 ^ sp = pw := ⟨_, rfl⟩
            obtain ⟨r, hr⟩ : ∃ r, c / pw = r := ⟨_, rfl⟩
            obtain ⟨r2, hr2⟩ : ∃ r2, r % 2 = r2 := ⟨_, rfl⟩
            have hrc : r ≤ c := by rw [← hr]; exact Nat.div_le_self _ _
            have hr2b : r2 ≤ 1 := by omega
            have hpwb : 1 ≤ pw ∧ pw ≤ 32 := by
              rw [← hpw]
              rcases cases6 hsp6 with e | e | e | e | e | e <;> rw [e] <;> decide
            rw [hpw, hr, hr2] at hFV
            obtain ⟨_, g2, b2, d2, e2, hb1, hb2, k1, k2, k3, k4, k5, kset⟩ := hO.dot hlt hqm
            injection e2 with e2
            injection e2 with e2 _
            subst e2
            obtain ⟨ks1, ks2⟩ := kset (r2 : Int)
            have HS1 : Hid (OwnLL (wr.setCell ⟨b2, X, none⟩ (.int .i64 (r2 : Int))) w.heap.size w1.heap.size (.slice (some ⟨g1, 0, none⟩) n1 c1) (gridOf n1 h2 (upTo f Y (X + 1)))) := by
              show OwnLL _ _ _ _ _
              rw [← up_upd, hFV]; exact ks1
            have HS2 : Hid (Below w.heap.size w (wr.setCell ⟨b2, X, none⟩ (.int .i64 (r2 : Int)))) := hb.setCell (p := ⟨b2, X, none⟩) hb1 _
            obtain ⟨u, hu⟩ : ∃ u, upTo f Y X Y X = u := ⟨_, rfl⟩
            rw [hu] at k2
            have HDA : Hid (∀ wy, Calls Try.prog 51 #[.int .i64 (Y : Int), .int .i64 (X : Int)] wy fun e w' => e = .returned (.int .i64 ((sp : Int) + 1)) ∧ w' = wy) := fun wy => (i_dotAt Y X wy (by omega) (by omega)).mono fun _ _ ⟨h1, h2⟩ => ⟨by rw [h1, hsp], h2.symm⟩
            have HDB : Hid (∀ wy, Calls Try.prog 50 #[.int .i64 ((sp : Int) + 1)] wy fun e w' => e = .returned (.int .i64 (pw : Int)) ∧ w' = wy) := fun wy => (dotBit_at sp _ (pw : Int) wy hsp6 (Lib.hid rfl) (by show _ = _; rw [pw_two sp hsp6, hpw])).mono fun _ _ ⟨h1, h2⟩ => ⟨h1, h2.symm⟩
            have q3 : (0 : Int) ≤ (X : Int) := by omega
            have q4 : (X : Int) < (h2 : Int) := by omega
            have q5 : (0 : Int) ≤ (I : Int) := by omega
            have q6 : (I : Int) < (n : Int) := by omega
            have q7 : (0 : Int) ≤ (J : Int) := by omega
            have q8 : (J : Int) < (m : Int) := by omega
            have v1 : IntKind.i64.wrap (I : Int) = (I : Int) := IntWalk.i64_in _ (by omega)
            have v2 : IntKind.i64.wrap (J : Int) = (J : Int) := IntWalk.i64_in _ (by omega)
            have v3 : IntKind.i64.wrap (r : Int) = (r : Int) := IntWalk.i64_in _ (by omega)
            have v4 : IntKind.i64.wrap (r2 : Int) = (r2 : Int) := IntWalk.i64_in _ (by omega)
            have z1 : ((pw : Int) == 0) = false := by simp; omega
            have z2 : ¬ (pw = 0) := by omega
            have t1 : (Y : Int) / 3 = (I : Int) := by rw [← HI.out]; simp
            have t2 : (X : Int) / 2 = (J : Int) := by rw [← hJ]; simp
            have t3 : ((c : Int)).tdiv (pw : Int) = (r : Int) := by rw [Int.tdiv_eq_ediv_of_nonneg (by omega), ← hr]; simp
            have t4 : ((r : Int)).tmod 2 = (r2 : Int) := by rw [Int.tmod_eq_emod_of_nonneg (by omega), ← hr2]; simp
            have t5 : ((Y : Int)).tdiv 3 = (I : Int) := by rw [Int.tdiv_eq_ediv_of_nonneg (by omega)]; exact t1
            have t6 : ((X : Int)).tdiv 2 = (J : Int) := by rw [Int.tdiv_eq_ediv_of_nonneg (by omega)]; exact t2
            clear hJ hO hb kset ks1 ks2 hu hc hsp hFV HO HB hcel hpw hr hr2
            go_wp2_with fail
            go_still_tail 13, (by kernel_rfl)
            still_call (HDA.out _)
            repeat still_step
            still_call (HDB.out _)
            repeat still_step
            refine wpStill_nil ?_
            change wpList _ _ _ _ _ wr.drew
            go_wp2
            go_roundw
            case rel => exact ⟨X + 1, by omega, by go_num, HS1.out, HS2.out.drew⟩
            case measure => simp [intOf]; omega
          · obtain rfl : X = h2 := by omega
            have HS1 : Hid (OwnLL wr w.heap.size w1.heap.size (.slice (some ⟨g1, 0, none⟩) n1 c1) (gridOf n1 X (upTo f (Y + 1) 0))) := by
              show OwnLL _ _ _ _ _
              rw [← up_row]; exact HO.out
            clear hO hb
            go_wp2
            go_roundw
            case rel => exact ⟨Y + 1, by omega, by go_num, HS1.out, HB.out⟩
            case measure => simp [intOf]; omega
      · obtain rfl : Y = n1 := by omega
        have HE : Hid (OwnLL wo w.heap.size wo.heap.size (.slice (some ⟨g1, 0, none⟩) Y c1) R) := by
          show OwnLL _ _ _ _ _
          rw [HZ.out, ← up_all]; exact hO.top hO.1 (Nat.le_refl _)
        clear hB hO
        go_wp2
        go_ret
        exact ⟨_, _, _, rfl, HE.out, HB.out⟩
end Go.Proofs.Ytmmgeplhaooknaa
