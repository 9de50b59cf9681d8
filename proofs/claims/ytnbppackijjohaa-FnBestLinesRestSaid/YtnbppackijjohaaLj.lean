
/- Whether two lists of lists are the same; drawn words. -/
import Derived.Test.YtnbppackijjohaaLd
import Derived.Test.YtnbppackijjohaaEqInts
import Derived.Test.YtnbppackijjohaaCb
namespace Go.Proofs.Ytnbppackijjohaa
open Go.RowKit

theorem equalInts_same (w : World) (u v : Value) (zs : List Int) (hx : IntsAt w u zs) (hy : IntsAt w v zs) :
    Calls Try.prog 43 #[u, v] w fun e w' => e = .returned (.bool true) ∧ Below w.heap.size w w' := by
  have := equalInts_any w u v zs zs hx hy
  rwa [decide_eq_true (rfl : zs = zs)] at this
set_option maxHeartbeats 1000000 in
theorem equalLists_same (w : World) (u v : Value) (L : List (List Int)) (hx : ListsAt w u L) (hy : ListsAt w v L) :
    Calls Try.prog 17 #[u, v] w fun e w' => e = .returned (.bool true) ∧ Below w.heap.size w w' := by
  obtain ⟨a, cp, rfl, x1, x2, x3⟩ := hx
  obtain ⟨a', cp', rfl, y1, y2, y3⟩ := hy
  obtain ⟨n, hn⟩ : ∃ n, L.length = n := ⟨_, rfl⟩
  rw [hn] at x1 x3 y1 y3 ⊢
  have HN := Lib.hid hn
  clear hn
  go_enter Try.func17, Try.ntmps17
  go_wp2
  go_loopw [5] (fun i wr => ∃ k : Nat, k ≤ n ∧ i = .int .i64 k ∧ Below w.heap.size w wr) (fun i _ => n - (intOf i).toNat)
  case atStart => exact ⟨0, Nat.zero_le _, rfl, Below.refl _ _⟩
  case round =>
    obtain ⟨k, hk, rfl, hb1⟩ := hrel
    have hsz := hb1.size
    by_cases hlt : k < n
    · rcases x3 with rfl | ⟨g, off, rfl, x3⟩
      · exact absurd HN.out (by simp; omega)
      rcases y3 with rfl | ⟨g', off', rfl, y3⟩
      · exact absurd HN.out (by simp; omega)
      obtain ⟨u, c1, hu⟩ := x3 k hlt
      obtain ⟨v, d1, hv⟩ := y3 k hlt
      clear x3 y3
      obtain ⟨zs, hr⟩ : ∃ zs, L.getD k [] = zs := ⟨_, rfl⟩
      rw [hr] at hu hv
      clear hr
      have HU : Hid (IntsAt w u zs) := hu
      have HV : Hid (IntsAt w v zs) := hv
      obtain ⟨a2, cp2, rfl, _⟩ := hu
      obtain ⟨a3, cp3, rfl, _⟩ := hv
      have c1 := (hb1.cell (World.block_lt_of_cell? w _ c1)).trans c1
      have d1 := (hb1.cell (World.block_lt_of_cell? w _ d1)).trans d1
      have b1 : (0 : Int) ≤ (k : Int) := by omega
      have b2 : (k : Int) < (n : Int) := by omega
      have HU1 : Hid (IntsAt wr.drew (.slice a2 zs.length cp2) zs) := (show IntsAt wr (.slice a2 zs.length cp2) zs from HU.out.below hb1)
      have HV1 : Hid (IntsAt wr.drew (.slice a3 zs.length cp3) zs) := (show IntsAt wr (.slice a3 zs.length cp3) zs from HV.out.below hb1)
      have HK : Hid (∀ wx, Below wr.heap.size wr wx → wx.cell? ⟨g, off + k, none⟩ = some (.slice a2 zs.length cp2) ∧ wx.cell? ⟨g', off' + k, none⟩ = some (.slice a3 zs.length cp3)) := fun wx h => 
        ⟨(h.cell (World.block_lt_of_cell? wr _ c1)).trans c1, (h.cell (World.block_lt_of_cell? wr _ d1)).trans d1⟩
      go_wp2_with fail
      go_region_held3 (fun wx => wx.cell? ⟨g, off + k, none⟩ = some (.slice a2 zs.length cp2) ∧ wx.cell? ⟨g', off' + k, none⟩ = some (.slice a3 zs.length cp3)) (first | assumption | exact HK.out _ (Below.refl _ _).drew | exact HK.out _ ((Below.refl _ _).drew.trans hb2)) (first | (go_at_call 43; refine (equalInts_same wr.drew _ _ zs HU1.out HV1.out).mono ?_; rintro e w2 ⟨rfl, hb2⟩))
      all_goals
        go_wp2
        go_roundw
        case rel => exact ⟨k + 1, by omega, by go_num, hb1.trans (((Below.refl _ _).drew.trans hb2).mono hsz)⟩
        case measure => simp [intOf]; omega
    · go_wp2
      go_ret
      exact ⟨rfl, hb1⟩
set_option maxHeartbeats 1000000 in
theorem someItem_any (w : World) (B R L p : Nat) (most : Int) (h : RD w B R L p) (hp : p ≤ 10000000000) (hm0 : 1 ≤ most) (hm : most ≤ 40) :
    Calls Try.prog 38 #[.pointer (some ⟨R, 0, none⟩), .int .i64 most] w fun e w' => CellsDrawn 1 30 40 41 w B R L p e w' := by
  obtain ⟨i0, hi, hz0, hz1, hz2⟩ := info_parts infoInt
  have hR := h.lt
  go_enter Try.func38, Try.ntmps38
  go_wp2_with fail
  refine (pick_any _ B R L p _ (h.alloc _) (by omega) (by omega) (by omega)).mono ?_
  rintro e w1 ⟨k1, rfl, hk1, hrd1, hgr1⟩
  have ho0 : OwnInts w1 w.heap.size (.slice (some ⟨w.heap.size, 0, none⟩) 0 0) [] := (OwnInts.made w w.heap.size (Nat.le_refl _)).overR hgr1 hR
  have hg0 : w.grownBy w1 (some R) := grown_trans (World.grownBy_alloc w _ _) hgr1
  have u1 : IntKind.i64.wrap (1 + (k1 : Int)) = ((k1 + 1 : Nat) : Int) := by rw [show (1 + (k1 : Int)) = ((k1 + 1 : Nat) : Int) from by omega]; exact IntWalk.i64_in _ (by omega)
  obtain ⟨n1, hn1⟩ : ∃ n1, k1 + 1 = n1 := ⟨_, rfl⟩
  rw [hn1] at u1
  have hn3 : n1 ≤ 40 := by omega
  clear hgr1 h hn1 hk1
  go_wp2_with fail
  go_loopw [5, 6] (fun v i wr => ∃ (k : Nat) (zs : List Int) (q : Nat), i = .int .i64 k ∧ k + zs.length ≤ 40 ∧ OwnInts wr w.heap.size v zs ∧ Between 1 30 zs ∧ RD wr B R L q ∧ q ≤ p + 1 + zs.length ∧ w.grownBy wr (some R)) (fun _ i _ => (intOf i).toNat)
  case atStart => exact ⟨n1, [], p + 1, rfl, by simp; omega, ho0, Between.nil _ _, hrd1, by simp, hg0⟩
  case round =>
    clear ho0 hg0 hrd1 u1
    obtain ⟨k, zs, q, rfl, hk, hown, hbt, hrd, hq, hg⟩ := hrel
    have hsz := hg.size
    by_cases hlt : 0 < k
    · go_wp2_with fail
      refine (pick_any _ B R L q _ hrd (by omega) (by omega) (by omega)).mono ?_
      rintro e w4 ⟨k2, rfl, hk2, hrd4, hgr2⟩
      have u2 : IntKind.i64.wrap (1 + (k2 : Int)) = 1 + (k2 : Int) := IntWalk.i64_in _ (by omega)
      obtain ⟨z, hz⟩ : ∃ z : Int, 1 + (k2 : Int) = z := ⟨_, rfl⟩
      rw [hz] at u2
      have hz' : 1 ≤ z ∧ z ≤ 30 := by omega
      have hown4 := hown.overR hgr2 hR
      have hg4 := grown_trans hg hgr2
      have hsz4 := hg4.size
      clear hgr2 hrd hown hg
      go_wp2_with (at_builtin; refine wpList_append_own _ rfl _ _ 28 rfl w.heap.size 3 i0 (.int .i64 0) 1 8 Try.underlying28 hi hz0 hz1 hz2 rfl (by decide) _ _ _ rfl (hown4.alloc _) ⟨w4.heap.size, 0, none⟩ 1 1 [.int .i64 z] rfl rfl new_one one_cell (by unfold maxLen; omega) (by omega) (by simp; omega) ?_)
      intro v' w5 hown' hgrow _
      obtain ⟨R1, R2, R3⟩ := snoc_step hR hown4 hrd4 hg4 hown' hgrow
      clear hown' hgrow hown4 hrd4 hg4
      go_wp2
      go_roundw
      case rel => exact ⟨k - 1, zs ++ [z], q + 1, by go_num, by simp; omega, R1, hbt.snoc hz'.1 hz'.2, R2, by simp; omega, R3⟩
      case measure => simp [intOf]; omega
    · go_wp2
      go_ret
      exact ⟨_, zs, q, rfl, hown, hbt, by omega, hrd, by omega, hg, hown.isSlice⟩
end Go.Proofs.Ytnbppackijjohaa
