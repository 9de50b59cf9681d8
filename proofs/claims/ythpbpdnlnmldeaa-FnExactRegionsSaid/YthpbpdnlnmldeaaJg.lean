
/- What the laws of pictures ask with: equal rows, raised dots; drawn pictures. -/
import Derived.Test.YthpbpdnlnmldeaaEqInts
import Derived.Test.YthpbpdnlnmldeaaCb
import Derived.Test.YthpbpdnlnmldeaaJf
import Derived.Deep.RegionHeld3
namespace Go.Proofs.Ythpbpdnlnmldeaa
open Go.RowKit

theorem equalInts_sameI (w : World) (u v : Value) (zs : List Int) (hx : IntsAt w u zs) (hy : IntsAt w v zs) :
    Calls Try.prog 46 #[u, v] w fun e w' => e = .returned (.bool true) ∧ Below w.heap.size w w' := by
  have := equalInts_any w u v zs zs hx hy
  rwa [decide_eq_true (rfl : zs = zs)] at this
set_option maxHeartbeats 1000000 in
theorem equalLists_sameI (w : World) (u v : Value) (L : List (List Int)) (hx : ListsAt w u L) (hy : ListsAt w v L) :
    Calls Try.prog 22 #[u, v] w fun e w' => e = .returned (.bool true) ∧ Below w.heap.size w w' := by
  obtain ⟨a, cp, rfl, x1, x2, x3⟩ := hx
  obtain ⟨a', cp', rfl, y1, y2, y3⟩ := hy
  obtain ⟨n, hn⟩ : ∃ n, L.length = n := ⟨_, rfl⟩
  rw [hn] at x1 x3 y1 y3 ⊢
  have HN := Lib.hid hn
  clear hn
  go_enter Try.func22, Try.ntmps22
  go_wp2
  go_loopw [5] (fun i wr => ∃ k : Nat, k ≤ n ∧ i = .int .i64 k ∧ Below w.heap.size w wr) (fun i _ => n - (intOf i).toNat)
  case atStart => exact ⟨0, Nat.zero_le _, rfl, Below.refl _ _⟩
  case round =>
    obtain ⟨k, hk, rfl, hb1⟩ := hrel
    have hsz := hb1.size
    by_cases hlt : k < n
    · rcases x3 with rfl | ⟨g, off, rfl, x3⟩
      · exact absurd HN.out (by simp; omega)
      rcases y3 with rfl | ⟨g', off', rfl, y3⟩
      · exact absurd HN.out (by simp; omega)
      obtain ⟨u, c1, hu⟩ := x3 k hlt
      obtain ⟨v, d1, hv⟩ := y3 k hlt
      clear x3 y3
      obtain ⟨zs, hr⟩ : ∃ zs, L.getD k [] = zs := ⟨_, rfl⟩
      rw [hr] at hu hv
      clear hr
      have HU : Hid (IntsAt w u zs) := hu
      have HV : Hid (IntsAt w v zs) := hv
      obtain ⟨a2, cp2, rfl, _⟩ := hu
      obtain ⟨a3, cp3, rfl, _⟩ := hv
      have c1 := (hb1.cell (World.block_lt_of_cell? w _ c1)).trans c1
      have d1 := (hb1.cell (World.block_lt_of_cell? w _ d1)).trans d1
      have b1 : (0 : Int) ≤ (k : Int) := by omega
      have b2 : (k : Int) < (n : Int) := by omega
      have HU1 : Hid (IntsAt wr.drew (.slice a2 zs.length cp2) zs) := (show IntsAt wr (.slice a2 zs.length cp2) zs from HU.out.below hb1)
      have HV1 : Hid (IntsAt wr.drew (.slice a3 zs.length cp3) zs) := (show IntsAt wr (.slice a3 zs.length cp3) zs from HV.out.below hb1)
      have HK : Hid (∀ wx, Below wr.heap.size wr wx → wx.cell? ⟨g, off + k, none⟩ = some (.slice a2 zs.length cp2) ∧ wx.cell? ⟨g', off' + k, none⟩ = some (.slice a3 zs.length cp3)) := fun wx h => 
        ⟨(h.cell (World.block_lt_of_cell? wr _ c1)).trans c1, (h.cell (World.block_lt_of_cell? wr _ d1)).trans d1⟩
      go_wp2_with fail
      go_region_held3 (fun wx => wx.cell? ⟨g, off + k, none⟩ = some (.slice a2 zs.length cp2) ∧ wx.cell? ⟨g', off' + k, none⟩ = some (.slice a3 zs.length cp3)) (first | assumption | exact HK.out _ (Below.refl _ _).drew | exact HK.out _ ((Below.refl _ _).drew.trans hb2)) (first | (go_at_call 46; refine (equalInts_sameI wr.drew _ _ zs HU1.out HV1.out).mono ?_; rintro e w2 ⟨rfl, hb2⟩))
      all_goals
        go_wp2
        go_roundw
        case rel => exact ⟨k + 1, by omega, by go_num, hb1.trans (((Below.refl _ _).drew.trans hb2).mono hsz)⟩
        case measure => simp [intOf]; omega
    · go_wp2
      go_ret
      exact ⟨rfl, hb1⟩

/-- how many of the first k numbers are v -/
def cntTo (zs : List Int) (v : Int) : Nat → Nat
  | 0 => 0
  | k + 1 => if zs.getD k 0 = v then cntTo zs v k + 1 else cntTo zs v k
theorem cntTo_le (zs : List Int) (v : Int) (k : Nat) : cntTo zs v k ≤ k := by
  induction k with
  | zero => simp [cntTo]
  | succ k ih => simp only [cntTo]; split <;> omega
/-- the raised dots of the first k rows -/
def raiTo (L : List (List Int)) : Nat → Nat
  | 0 => 0
  | k + 1 => raiTo L k + cntTo (L.getD k []) 1 (L.getD k []).length
def rai (L : List (List Int)) : Nat := raiTo L L.length
theorem s_count (w : World) (u : Value) (zs : List Int) (v : Int) (hx : IntsAt w u zs) :
    Calls Try.prog 49 #[u, .int .i64 v] w fun e w' => e = .returned (.int .i64 (cntTo zs v zs.length : Nat)) ∧ w = w' := by
  obtain ⟨a, n, cp, rfl, hn, x1, x2, x3⟩ := hx.partsI
  have HN := Lib.hid hn
  have HX3 := keptI x3
  rw [hn]
  clear hx hn x3
  go_enter Try.func49, Try.ntmps49
  go_wp2
  go_loop [5, 6] (fun c i => ∃ (k r : Nat), k ≤ n ∧ i = .int .i64 k ∧ c = .int .i64 r ∧ r ≤ k ∧ Hid (cntTo zs v k = r)) (fun _ i => n - (intOf i).toNat)
  case atStart => exact ⟨0, 0, Nat.zero_le _, rfl, rfl, by omega, rfl⟩
  case round =>
    obtain ⟨k, r, hk, rfl, rfl, hr, HR⟩ := hrel
    by_cases hlt : k < n
    · rcases HX3.out with rfl | ⟨g, off, rfl, x3⟩
      · omega
      have c1 := x3 k hlt
      obtain ⟨z, hz⟩ : ∃ z, zs.getD k 0 = z := ⟨_, rfl⟩
      rw [hz] at c1
      have HZ := Lib.hid hz
      clear hz x3
      by_cases hc : z = v
      · have HE : Hid (cntTo zs v (k + 1) = r + 1) := by show _ = _; simp only [cntTo]; rw [HZ.out, if_pos hc, HR.out]
        have d : (z == v) = true := by simp [hc]
        clear hc HR
        go_wp2
        go_round
        case rel => exact ⟨k + 1, r + 1, by omega, by go_num, by go_num, by omega, HE⟩
        case measure => simp [intOf]; omega
      · have HE : Hid (cntTo zs v (k + 1) = r) := by show _ = _; simp only [cntTo]; rw [HZ.out, if_neg hc, HR.out]
        have d : (z == v) = false := by simp [hc]
        clear hc HR
        go_wp2
        go_round
        case rel => exact ⟨k + 1, r, by omega, by go_num, rfl, by omega, HE⟩
        case measure => simp [intOf]; omega
    · obtain rfl : k = n := by omega
      have HE : Hid ((r : Int) = ((cntTo zs v k : Nat) : Int)) := by show _ = _; rw [HR.out]
      clear HR
      go_wp2
      go_ret
      exact ⟨ret_intI HE.out, rfl⟩
theorem s_raised (w : World) (v : Value) (L : List (List Int)) (M : Nat) (hx : ListsAt w v L) (hl : L.length ≤ 1000) (hM : ∀ i, (L.getD i []).length ≤ 1000) (hr : rai L = M) :
    Calls Try.prog 25 #[v] w fun e w' => e = .returned (.int .i64 (M : Int)) ∧ w = w' := by
  obtain ⟨a, n, cp, rfl, hn, x1, x2, x3⟩ := hx.partsI
  have HN := Lib.hid hn
  have HX3 := keptI x3
  have HM := keptI hM
  have HR : Hid (raiTo L n = M) := by show _ = _; rw [← hr, ← hn]; rfl
  rw [hn] at hl
  clear hx hn x3 hM hr
  go_enter Try.func25, Try.ntmps25
  go_wp2
  go_loop [3, 4] (fun c i => ∃ (k r : Nat), k ≤ n ∧ i = .int .i64 k ∧ c = .int .i64 r ∧ r ≤ 1000 * k ∧ Hid (raiTo L k = r)) (fun _ i => n - (intOf i).toNat)
  case atStart => exact ⟨0, 0, Nat.zero_le _, rfl, rfl, by omega, rfl⟩
  case round =>
    obtain ⟨k, r, hk, rfl, rfl, hr, HRK⟩ := hrel
    by_cases hlt : k < n
    · rcases HX3.out with rfl | ⟨g, off, rfl, x3⟩
      · omega
      obtain ⟨u, c1, hu⟩ := x3 k hlt
      have hm := HM.out k
      obtain ⟨zs, hz⟩ : ∃ zs, L.getD k [] = zs := ⟨_, rfl⟩
      rw [hz] at hu hm
      have HZ := Lib.hid hz
      have HU := keptI hu
      obtain ⟨a2, l, cp2, rfl, _, _, _, _⟩ := hu.partsI
      have hc := cntTo_le zs 1 zs.length
      obtain ⟨q, hq⟩ : ∃ q, cntTo zs 1 zs.length = q := ⟨_, rfl⟩
      have HC := s_count w _ zs 1 HU.out
      rw [hq] at HC hc
      have HC := keptI HC
      have HE : Hid (raiTo L (k + 1) = r + q) := by show _ = _; simp only [raiTo]; rw [HZ.out, hq, HRK.out]
      have q1 : (0 : Int) ≤ (k : Int) := by omega
      have q2 : (k : Int) < (n : Int) := by omega
      clear hz hu x3 hq HRK
      go_wp2_with fail
      refine HC.out.mono ?_
      rintro e w' ⟨rfl, rfl⟩
      go_wp2
      go_round
      case rel => exact ⟨k + 1, r + q, by omega, by go_num, by go_num, by omega, HE⟩
      case measure => simp [intOf]; omega
    · obtain rfl : k = n := by omega
      have HE : Hid ((r : Int) = (M : Int)) := by show _ = _; rw [← HRK.out, HR.out]
      clear HRK
      go_wp2
      go_ret
      exact ⟨ret_intI HE.out, rfl⟩
/-- a drawn picture -/
def PicDrawn (w : World) (e : Ending) (w' : World) : Prop := ∃ a n c P, e = .returned (.slice a n c) ∧ ListsAt w' (.slice a n c) P ∧ PicBd P ∧ Below w.heap.size w w'
def PicDrawn2 (w : World) (e : Ending) (w' : World) : Prop := ∃ a n c P, ∃ k : Nat, k ≤ 25 ∧ e = .returned (.tuple #[.slice a n c, .int .i64 (k : Int)]) ∧ ListsAt w' (.slice a n c) P ∧ PicBd P ∧ Below w.heap.size w w'
set_option maxHeartbeats 400000 in
theorem drawGrow_any (w : World) (a : Option Addr) (len cap : Nat) (zs : List Int) (h : RowIn .u8 w a len cap zs) :
    Calls Try.prog 26 #[.slice a len cap] w fun e w' => PicDrawn w e w' := by
  obtain ⟨h1, h2, h3⟩ := bytesAt_of_row h
  clear h
  go_enter Try.func26, Try.ntmps26
  go_wp2_with fail
  refine (newReader_any w _ a len cap h1 (Nat.le_refl _) h2 h3).mono ?_
  rintro e w1 ⟨L, rfl, hrd, hgr⟩
  go_wp2_with fail
  refine (anyPicture_any w1 _ _ L 0 hrd (by omega)).mono ?_
  rintro e w2 ⟨a2, n2, c2, P, q, rfl, hP, hbd, hrd2, hq, hgr2⟩
  have HP := keptI (hP w2 (World.grownBy.refl _ _))
  have HBD := keptI hbd
  clear hP hbd
  go_wp2
  go_ret
  exact ⟨_, _, _, P, rfl, HP.out, HBD.out, below_of_grown (grown_new hgr hgr2 (Nat.le_refl _))⟩
set_option maxHeartbeats 400000 in
theorem drawRegions_any (w : World) (a : Option Addr) (len cap : Nat) (zs : List Int) (h : RowIn .u8 w a len cap zs) :
    Calls Try.prog 29 #[.slice a len cap] w fun e w' => PicDrawn w e w' := by
  obtain ⟨h1, h2, h3⟩ := bytesAt_of_row h
  clear h
  go_enter Try.func29, Try.ntmps29
  go_wp2_with fail
  refine (newReader_any w _ a len cap h1 (Nat.le_refl _) h2 h3).mono ?_
  rintro e w1 ⟨L, rfl, hrd, hgr⟩
  go_wp2_with fail
  refine (anyPicture_any w1 _ _ L 0 hrd (by omega)).mono ?_
  rintro e w2 ⟨a2, n2, c2, P, q, rfl, hP, hbd, hrd2, hq, hgr2⟩
  have HP := keptI (hP w2 (World.grownBy.refl _ _))
  have HBD := keptI hbd
  clear hP hbd
  go_wp2
  go_ret
  exact ⟨_, _, _, P, rfl, HP.out, HBD.out, below_of_grown (grown_new hgr hgr2 (Nat.le_refl _))⟩
set_option maxHeartbeats 400000 in
theorem drawThin_any (w : World) (a : Option Addr) (len cap : Nat) (zs : List Int) (h : RowIn .u8 w a len cap zs) :
    Calls Try.prog 20 #[.slice a len cap] w fun e w' => PicDrawn2 w e w' := by
  obtain ⟨h1, h2, h3⟩ := bytesAt_of_row h
  clear h
  go_enter Try.func20, Try.ntmps20
  go_wp2_with fail
  refine (newReader_any w _ a len cap h1 (Nat.le_refl _) h2 h3).mono ?_
  rintro e w1 ⟨L, rfl, hrd, hgr⟩
  have hlt1 := hrd.lt
  go_wp2_with fail
  refine (anyPicture_any w1 _ _ L 0 hrd (by omega)).mono ?_
  rintro e w2 ⟨a2, n2, c2, P, q, rfl, hP, hbd, hrd2, hq, hgr2⟩
  have HP := keptI hP
  have HBD := keptI hbd
  have hlt := hrd2.lt
  clear hP hbd
  go_wp2_with fail
  refine (one_any _ _ _ L q w2.heap.size 7 7 [2, 3, 1, 4, 24, 0, 25] (hrd2.alloc _) (heap_alloc_new w2 _) (by omega) (Lib.hid rfl) (by omega) (by omega) (by omega)).mono ?_
  rintro e w3 ⟨z3, rfl, hz, hrd3, hgr3⟩
  obtain ⟨k, rfl, hk⟩ : ∃ k : Nat, z3 = k ∧ k ≤ 25 := by refine ⟨z3.toNat, ?_, ?_⟩ <;> (simp at hz; omega)
  have HG3 := keptI (below_of_grown (grown_new hgr (grown_trans hgr2 (grown_trans (World.grownBy_alloc w2 _ _) hgr3)) (Nat.le_refl _)))
  have HP3 := keptI (HP.out w3 (grown_trans (World.grownBy_alloc w2 _ _) hgr3))
  clear hz hgr hgr2 hgr3 hrd hrd2 hrd3
  go_wp2
  go_ret2
  exact ⟨_, _, _, P, k, hk, rfl, HP3.out, HBD.out, HG3.out⟩
end Go.Proofs.Ythpbpdnlnmldeaa
