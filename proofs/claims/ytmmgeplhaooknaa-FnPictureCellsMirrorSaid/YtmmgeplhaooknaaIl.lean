
/- PictureCells of the program. -/
import Derived.Test.YtmmgeplhaooknaaIe
import Derived.Test.YtmmgeplhaooknaaDots
import Derived.Deep.RegionHeld3
import Derived.StillTailTactics
namespace Go.Proofs.Ytmmgeplhaooknaa
open Go.RowKit

theorem pw_worth (y x : Nat) : pwL.getD (spotOf y x) 0 = worth y x := by
  unfold spotOf worth
  have h3 : y % 3 = 0 ∨ y % 3 = 1 ∨ y % 3 = 2 := by omega
  have h2 : x % 2 = 0 ∨ x % 2 = 1 := by omega
  rcases h3 with h3 | h3 | h3 <;> rcases h2 with h2 | h2 <;> rw [h3, h2] <;> rfl
theorem worth_bd (y x : Nat) : 1 ≤ worth y x ∧ worth y x ≤ 32 := by
  unfold worth
  split <;> (try split) <;> (try split) <;> omega
def PicCellsIs (L R : List (List Int)) : Prop := AnsIs (BlockOk L 24 24 1) (gridOf (ceilD L.length 3) (ceilD (wdt L) 2) (pcF (px L))) R
theorem PictureCells_ex (L : List (List Int)) : ∃ R, PicCellsIs L R ∧ ListsSmall R :=
  ansIs_ex _ _ fun h => grid_small (by have := h.bd; have := ceilD_le (n := L.length) (k := 3) (by omega); omega) (by have := h.bd; have := ceilD_le (n := wdt L) (k := 2) (by omega); omega)
theorem pc_upd (f : Nat → Nat → Int) (Y X : Nat) : upd (pcF (upTo f Y X)) (Y / 3) (X / 2) (pcF (upTo f Y X) (Y / 3) (X / 2) + f Y X * worth Y X) = pcF (upTo f Y (X + 1)) := by
  funext i k
  rw [pc_step]; rfl
set_option maxHeartbeats 4000000 in
theorem i_PictureCells (w : World) (v : Value) (L R : List (List Int)) (hx : ListsAt w v L) (hR : PicCellsIs L R) :
    Calls Try.prog 22 #[v] w fun e w' => PlOut R w e w' := by
  have HX := keptI hx
  have HR := keptI hR
  obtain ⟨a, n, cp, rfl, hn, x1, x2, _⟩ := hx.partsI
  clear hx hR hn
  go_enter Try.func22, Try.ntmps22
  go_wp2_with fail
  refine (i_ValidPicture w _ L HX.out).mono ?_
  rintro e w0 ⟨b, rfl, rfl, hbb⟩
  cases b with
  | false =>
    have HZ : Hid (R = []) := HR.out.no fun h => by simpa using hbb.2 h
    clear hbb
    go_wp2
    go_ret
    exact plOut_nil HZ.out (Below.refl _ _)
  | true =>
    have HOK : Hid (BlockOk L 24 24 1) := keptI (hbb.1 rfl)
    have HZ : Hid (R = _) := HR.out.yes HOK.out
    obtain ⟨hn, hp⟩ := HOK.out.pic HX.out
    obtain ⟨hd1, hd2, hd3, hd4⟩ := HOK.out.bd
    have HN := Lib.hid hn
    rw [← hn] at hd1 hd2
    obtain ⟨m, hm⟩ : ∃ m, wdt L = m := ⟨_, rfl⟩
    rw [hm] at hd3 hd4 hp
    have HM := Lib.hid hm
    obtain ⟨f, hf⟩ : ∃ f : Nat → Nat → Int, f = px L := ⟨_, rfl⟩
    have HF := Lib.hid hf
    rw [← hf] at hp
    obtain ⟨h, hh⟩ : ∃ h, ceilD n 3 = h := ⟨_, rfl⟩
    obtain ⟨h2, hh2⟩ : ∃ h2, ceilD m 2 = h2 := ⟨_, rfl⟩
    have HZ : Hid (R = gridOf h h2 (pcF f)) := by show _ = _; rw [HZ.out, ← HN.out, HM.out, hf, hh, hh2]
    have hhb : h ≤ n := by rw [← hh]; exact ceilD_le (by omega)
    have hhb2 : h2 ≤ m := by rw [← hh2]; exact ceilD_le (by omega)
    have hp1 : 1 ≤ h := by rw [← hh]; exact ceilD_pos (by omega) hd1
    have hp2 : 1 ≤ h2 := by rw [← hh2]; exact ceilD_pos (by omega) hd3
    have hq1 : n ≤ 3 * h := by rw [← hh]; unfold ceilD; omega
    have hq2 : m ≤ 2 * h2 := by rw [← hh2]; unfold ceilD; omega
    have HOutY : Hid (∀ y x, n ≤ y → f y x = 0) := fun y x h => by rw [hf]; exact px_out HOK.out.2.2 (.inl (by omega))
    have HOutX : Hid (∀ y x, m ≤ x → f y x = 0) := fun y x h => by rw [hf]; exact px_out HOK.out.2.2 (.inr (by rw [← hm] at h; exact h))
    have HBin : Hid (∀ y x, f y x = 0 ∨ f y x = 1) := fun y x => by rw [hf]; exact HOK.out.bin y x
    have HP := keptI hp
    obtain ⟨_, _, g, off, rfl, _⟩ := hp
    obtain ⟨_, _, b0, o0, d0, e0, c00, _, _, _⟩ := HP.out.row (y := 0) hd1
    injection e0 with e0
    injection e0 with e0 e0'
    subst e0 e0'
    rw [Nat.add_zero] at c00
    have HC : Hid (∀ wy, Below w.heap.size w wy → wy.cell? ⟨g, off, none⟩ = some (.slice (some ⟨b0, o0, none⟩) m d0)) := fun wy hb => (hb.cell (World.block_lt_of_cell? w _ c00)).trans c00
    have HPn : Hid (∀ wy, Calls Try.prog 49 #[.int .i64 (n : Int), .int .i64 3] wy fun e w' => e = .returned (.int .i64 (h : Int)) ∧ wy = w') := fun wy => by have := i_piecesOf n 3 wy (by omega) (by omega) (by omega); rw [hh] at this; exact this
    have HPm : Hid (∀ wy, Calls Try.prog 49 #[.int .i64 (m : Int), .int .i64 2] wy fun e w' => e = .returned (.int .i64 (h2 : Int)) ∧ wy = w') := fun wy => by have := i_piecesOf m 2 wy (by omega) (by omega) (by omega); rw [hh2] at this; exact this
    have HZB : Hid (∀ wy, Calls Try.prog 48 #[.int .i64 (h : Int), .int .i64 (h2 : Int)] wy fun e w' => PlOut (gridOf h h2 (pcF (upTo f 0 0))) wy e w') := fun wy => by
      have e : gridOf h h2 (pcF (upTo f 0 0)) = gridOf h h2 (fun _ _ => 0) := gridOf_congr fun y x _ _ => pc_none f y x
      rw [e]; exact i_zeroBlock h h2 wy (by omega) (by omega)
    have q0 : (0 : Int) < (n : Int) := by omega
    have q00 : 0 < n := by omega
    clear hbb hf hn hm hh hh2
    go_wp2_with fail
    go_region_held3 (fun wy => wy.cell? ⟨g, off, none⟩ = some (.slice (some ⟨b0, o0, none⟩) m d0)) (first | assumption | exact HC.out _ (Below.refl _ _).drew | exact HC.out _ ((Below.refl _ _).drew.trans hb1)) (first | (go_at_call 49; (with_reducible refine (HPn.out _).mono ?_); rintro e w' ⟨rfl, rfl⟩) | (go_at_call 49; (with_reducible refine (HPm.out _).mono ?_); rintro e w' ⟨rfl, rfl⟩) | (go_at_call 48; (with_reducible refine (HZB.out _).mono ?_); rintro e w1 ⟨a1, n1, c1, rfl, hO1, hb1⟩))
    all_goals
      have hB1 : Below w.heap.size w w1 := (Below.refl _ _).drew.trans hb1
      obtain ⟨hn1, g1, _, _, ha1, _⟩ := hO1.dot (y := 0) (x := 0) hp1 hp2
      obtain rfl : n1 = h := hn1
      subst ha1
      have HO1 : Hid (OwnLL w1 w.heap.size w1.heap.size (.slice (some ⟨g1, 0, none⟩) n1 c1) (gridOf n1 h2 (pcF (upTo f 0 0)))) := hO1
      have HB1 := keptI hB1
      have hs1 := hB1.size
      clear hO1 hb1 hB1
      go_wp2
      go_loopw [22] (fun i wr => ∃ k : Nat, k ≤ n ∧ i = .int .i64 k ∧ OwnLL wr w.heap.size w1.heap.size (.slice (some ⟨g1, 0, none⟩) n1 c1) (gridOf n1 h2 (pcF (upTo f k 0))) ∧ Below w.heap.size w wr) (fun i _ => n - (intOf i).toNat)
      case atStart => exact ⟨0, Nat.zero_le _, rfl, HO1.out, HB1.out⟩
      case round =>
        clear HO1 HB1
        obtain ⟨Y, hY, rfl, hO, hB⟩ := hrel
        rename World => wo
        have hsz := hB.size
        have HO := keptI hO
        have HB := keptI hB
        by_cases hlt : Y < n
        · obtain ⟨_, _, b, o, d, e1, c0, hd5, hd6, hcx⟩ := HP.out.row hlt
          injection e1 with e1
          injection e1 with e1 e2
          subst e1 e2
          have HC0 := keptI c0
          have HCX := keptI hcx
          have c0 := (hB.cell (World.block_lt_of_cell? w _ c0)).trans c0
          obtain ⟨I, hI⟩ : ∃ I, Y / 3 = I := ⟨_, rfl⟩
          have hIh : I < n1 := by omega
          have q1 : (0 : Int) ≤ (Y : Int) := by omega
          have q2 : (Y : Int) < (n : Int) := by omega
          have t1 : ((Y : Int)).tdiv 3 = (I : Int) := by rw [Int.tdiv_eq_ediv_of_nonneg q1, ← hI]; simp
          have HI := Lib.hid hI
          have HT1 := Lib.hid t1
          clear hcx hO hB hI t1
          go_wp2
          clear c0
          go_loopw [29] (fun j wx => ∃ q : Nat, q ≤ m ∧ j = .int .i64 q ∧ OwnLL wx w.heap.size w1.heap.size (.slice (some ⟨g1, 0, none⟩) n1 c1) (gridOf n1 h2 (pcF (upTo f Y q))) ∧ Below w.heap.size w wx) (fun j _ => m - (intOf j).toNat)
          case atStart => exact ⟨0, Nat.zero_le _, rfl, HO.out, HB.out⟩
          case round =>
            clear HO HB
            obtain ⟨X, hX, rfl, hO, hb⟩ := hrel
            have HO := keptI hO
            have HB := keptI hb
            by_cases hqm : X < m
            · have cx := (hb.cell (World.block_lt_of_cell? w _ (HCX.out X hqm))).trans (HCX.out X hqm)
              obtain ⟨J, hJ⟩ : ∃ J, X / 2 = J := ⟨_, rfl⟩
              have hJh : J < h2 := by omega
              obtain ⟨_, g2, b2, d2, e2, hb1, hb2, k1, k2, k3, k4, k5, kset⟩ := hO.dot hIh hJh
              injection e2 with e2
              injection e2 with e2 _
              subst e2
              have hub := pc_bd (upTo_bin HBin.out Y X) I J
              have hzb := HBin.out Y X
              obtain ⟨wv, hwv⟩ : ∃ wv, worth Y X = wv := ⟨_, rfl⟩
              have hwb := worth_bd Y X
              rw [hwv] at hwb
              have hupd := pc_upd f Y X
              rw [HI.out, hJ, hwv] at hupd
              obtain ⟨u, hu⟩ : ∃ u, pcF (upTo f Y X) I J = u := ⟨_, rfl⟩
              obtain ⟨z, hz⟩ : ∃ z, f Y X = z := ⟨_, rfl⟩
              rw [hu, hz] at hupd
              rw [hu] at k2 hub
              rw [hz] at cx hzb
              obtain ⟨p, hp⟩ : ∃ p, z * wv = p := ⟨_, rfl⟩
              have hpb : 0 ≤ p ∧ p ≤ 32 := by
                rw [← hp]
                rcases hzb with e | e <;> rw [e] <;> omega
              rw [hp] at hupd
              obtain ⟨hpb1, hpb2⟩ := hpb
              obtain ⟨hub1, hub2⟩ := hub
              obtain ⟨hwb1, hwb2⟩ := hwb
              obtain ⟨ks1, ks2⟩ := kset (u + p)
              rw [hupd] at ks1
              have HS1 : Hid (OwnLL (wr.setCell ⟨b2, J, none⟩ (.int .i64 (u + p))) w.heap.size w1.heap.size (.slice (some ⟨g1, 0, none⟩) n1 c1) (gridOf n1 h2 (pcF (upTo f Y (X + 1))))) := ks1
              have HS2 : Hid (Below w.heap.size w (wr.setCell ⟨b2, J, none⟩ (.int .i64 (u + p)))) := hb.setCell (p := ⟨b2, J, none⟩) hb1 _
              obtain ⟨sp, hsp⟩ : ∃ sp, spotOf Y X = sp := ⟨_, rfl⟩
              have HDA : Hid (∀ wy, Calls Try.prog 51 #[.int .i64 (Y : Int), .int .i64 (X : Int)] wy fun e w' => e = .returned (.int .i64 ((sp : Int) + 1)) ∧ w' = wy) := fun wy => (i_dotAt Y X wy (by omega) (by omega)).mono fun _ _ ⟨h1, h2⟩ => ⟨by rw [h1, hsp], h2.symm⟩
              have HDB : Hid (∀ wy, Calls Try.prog 50 #[.int .i64 ((sp : Int) + 1)] wy fun e w' => e = .returned (.int .i64 wv) ∧ w' = wy) := fun wy => (dotBit_at sp _ wv wy (by rw [← hsp]; exact spot6 Y X) (Lib.hid rfl) (by rw [← hsp, ← hwv]; exact pw_worth Y X)).mono fun _ _ ⟨h1, h2⟩ => ⟨h1, h2.symm⟩
              have q3 : (0 : Int) ≤ (X : Int) := by omega
              have q4 : (X : Int) < (m : Int) := by omega
              have q5 : (0 : Int) ≤ (I : Int) := by omega
              have q6 : (I : Int) < (n1 : Int) := by omega
              have q7 : (0 : Int) ≤ (J : Int) := by omega
              have q8 : (J : Int) < (h2 : Int) := by omega
              have v1 : IntKind.i64.wrap (I : Int) = (I : Int) := IntWalk.i64_in _ (by omega)
              have v2 : IntKind.i64.wrap (J : Int) = (J : Int) := IntWalk.i64_in _ (by omega)
              have v3 : IntKind.i64.wrap p = p := IntWalk.i64_in _ (by omega)
              have v4 : IntKind.i64.wrap (u + p) = u + p := IntWalk.i64_in _ (by omega)
              have t1 := HT1.out
              have t2 : ((X : Int)).tdiv 2 = (J : Int) := by rw [Int.tdiv_eq_ediv_of_nonneg q3, ← hJ]; simp
              clear hJ hO hb kset ks1 ks2 hu hz hwv hsp hupd HO HB hzb
              go_wp2_with fail
              go_still_tail 17, (by kernel_rfl)
              still_call (HDA.out _)
              repeat still_step
              still_call (HDB.out _)
              repeat still_step
              refine wpStill_nil ?_
              change wpList _ _ _ _ _ wr.drew
              go_wp2
              go_roundw
              case rel => exact ⟨X + 1, by omega, by go_num, HS1.out, HS2.out.drew⟩
              case measure => simp [intOf]; omega
            · obtain rfl : X = m := by omega
              have HS1 : Hid (OwnLL wr w.heap.size w1.heap.size (.slice (some ⟨g1, 0, none⟩) n1 c1) (gridOf n1 h2 (pcF (upTo f (Y + 1) 0)))) := by
                show OwnLL _ _ _ _ _
                rw [← gridOf_congr (fun i k _ _ => pc_row f Y X i k HOutX.out)]; exact HO.out
              clear hO hb
              go_wp2
              go_roundw
              case rel => exact ⟨Y + 1, by omega, by go_num, HS1.out, HB.out⟩
              case measure => simp [intOf]; omega
        · obtain rfl : Y = n := by omega
          have HE : Hid (OwnLL wo w.heap.size wo.heap.size (.slice (some ⟨g1, 0, none⟩) n1 c1) R) := by
            show OwnLL _ _ _ _ _
            rw [HZ.out, ← gridOf_congr (fun i k _ _ => pc_all f Y i k HOutY.out)]; exact hO.top hO.1 (Nat.le_refl _)
          clear hB hO
          go_wp2
          go_ret
          exact ⟨_, _, _, rfl, HE.out, HB.out⟩
end Go.Proofs.Ytmmgeplhaooknaa
