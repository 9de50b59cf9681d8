
/- The draw of NewFlow's arguments. -/
import Derived.Test.YtlkhpfknmdimbaaFe
import Derived.Test.YtlkhpfknmdimbaaDrC
namespace Go.Proofs.Ytlkhpfknmdimbaa
open Go.RowKit

theorem results_six {fn : Func} {t0 t1 t2 t3 t4 t5 : Tmp} (h : fn.results = #[.tmp t0, .tmp t1, .tmp t2, .tmp t3, .tmp t4, .tmp t5]) (tmps : Array Value) (P : Program) (w : World) :
    (results fn tmps).run P w = .ok (.tuple #[tmps.getD t0 undef, tmps.getD t1 undef, tmps.getD t2 undef, tmps.getD t3 undef, tmps.getD t4 undef, tmps.getD t5 undef]) w := by
  simp [results, h]
/-- six numbers of modest size, drawn with new memory alone -/
def SixDrawn (w : World) (e : Ending) (w' : World) : Prop :=
  ∃ a0 a1 a2 a3 a4 a5 : Int, e = .returned (.tuple #[.int .i64 a0, .int .i64 a1, .int .i64 a2, .int .i64 a3, .int .i64 a4, .int .i64 a5]) ∧ (0 ≤ a0 ∧ a0 ≤ 41) ∧ (1 ≤ a1 ∧ a1 ≤ 42) ∧ (-1 ≤ a2 ∧ a2 ≤ 42) ∧ (0 ≤ a3 ∧ a3 ≤ 9) ∧ (0 ≤ a4 ∧ a4 ≤ 5) ∧ (-1 ≤ a5 ∧ a5 ≤ 201) ∧ Below w.heap.size w w'
set_option maxHeartbeats 1000000 in
theorem drawNewFlow_any (w : World) (a : Option Addr) (len cap : Nat) (zs : List Int) (h : RowIn .u8 w a len cap zs) :
    Calls Try.prog 23 #[.slice a len cap] w fun e w' => SixDrawn w e w' := by
  obtain ⟨h1, h2, h3⟩ := bytesAt_of_row h
  clear h
  go_enter Try.func23, Try.ntmps23
  go_wp2_with fail
  refine (newReader_any w _ a len cap h1 (Nat.le_refl _) h2 h3).mono ?_
  rintro e w1 ⟨L, rfl, hrd1, hgr1⟩
  have hR1 := hrd1.lt
  go_wp2_with fail
  refine (one_any _ _ _ L 0 w1.heap.size 8 8 [8, 10, 4, 20, 40, 1, 41, 0] (hrd1.alloc _) (heap_alloc_new w1 _) (by omega) (Lib.hid rfl) (by omega) (by omega) (by omega)).mono ?_
  rintro e w2 ⟨v0, rfl, hv0, hrd2, hgr2⟩
  have hv0 : 0 ≤ v0 ∧ v0 ≤ 41 := by simp at hv0; omega
  obtain ⟨p0, p1⟩ := id hv0
  have HV0 := keptF hv0
  clear hv0
  go_wp2_with fail
  all_goals
    refine (pick_any w2 _ _ L (0 + 1) _ hrd2 (by omega) (by omega) (by omega)).mono ?_
    rintro e w3 ⟨k1, rfl, hk1, hrd3, hgr3⟩
    have hk1 : k1 ≤ 41 := by omega
    go_wp2_with fail
    refine (pick_any w3 _ _ L (0 + 1 + 1) _ hrd3 (by omega) (by omega) (by omega)).mono ?_
    rintro e w4 ⟨k2, rfl, hk2, hrd4, hgr4⟩
    have hR4 := hrd4.lt
    go_wp2_with fail
    refine (one_any _ _ _ L (0 + 1 + 1 + 1) w4.heap.size 5 5 [k2, 0, 1 + (k1 : Int) - 1, 1 + (k1 : Int), -1] (hrd4.alloc _) (heap_alloc_new w4 _) (by omega) (Lib.hid rfl) (by omega) (by omega) (by omega)).mono ?_
    rintro e w5 ⟨v2, rfl, hv2, hrd5, hgr5⟩
    have hv2 : -1 ≤ v2 ∧ v2 ≤ 42 := by simp at hv2; omega
    go_wp2_with fail
    refine (pick_any w5 _ _ L (0 + 1 + 1 + 1 + 1) _ hrd5 (by omega) (by omega) (by omega)).mono ?_
    rintro e w6 ⟨k3, rfl, hk3, hrd6, hgr6⟩
    have hR6 := hrd6.lt
    go_wp2_with fail
    refine (one_any _ _ _ L (0 + 1 + 1 + 1 + 1 + 1) w6.heap.size 4 4 [1 + (k3 : Int), 3, 0, 9] (hrd6.alloc _) (heap_alloc_new w6 _) (by omega) (Lib.hid rfl) (by omega) (by omega) (by omega)).mono ?_
    rintro e w7 ⟨v3, rfl, hv3, hrd7, hgr7⟩
    have hv3 : 0 ≤ v3 ∧ v3 ≤ 9 := by simp at hv3; omega
    go_wp2_with fail
    refine (pick_any w7 _ _ L (0 + 1 + 1 + 1 + 1 + 1 + 1) _ hrd7 (by omega) (by omega) (by omega)).mono ?_
    rintro e w8 ⟨k4, rfl, hk4, hrd8, hgr8⟩
    have hR8 := hrd8.lt
    go_wp2_with fail
    refine (one_any _ _ _ L (0 + 1 + 1 + 1 + 1 + 1 + 1 + 1) w8.heap.size 4 4 [1 + (k4 : Int), 2, 0, 5] (hrd8.alloc _) (heap_alloc_new w8 _) (by omega) (Lib.hid rfl) (by omega) (by omega) (by omega)).mono ?_
    rintro e w9 ⟨v4, rfl, hv4, hrd9, hgr9⟩
    have hv4 : 0 ≤ v4 ∧ v4 ≤ 5 := by simp at hv4; omega
    have hR9 := hrd9.lt
    go_wp2_with fail
    refine (one_any _ _ _ L (0 + 1 + 1 + 1 + 1 + 1 + 1 + 1 + 1) w9.heap.size 7 7 [20, 60, 5, 0, 200, 201, -1] (hrd9.alloc _) (heap_alloc_new w9 _) (by omega) (Lib.hid rfl) (by omega) (by omega) (by omega)).mono ?_
    rintro e w10 ⟨v5, rfl, hv5, hrd10, hgr10⟩
    have hv5 : -1 ≤ v5 ∧ v5 ≤ 201 := by simp at hv5; omega
    have hg : w.grownBy w10 none := grown_new (grown_new (grown_new (grown_new (grown_new (grown_new (grown_new (grown_new (grown_new hgr1 (grown_trans (World.grownBy_alloc w1 _ _) hgr2) (Nat.le_refl _)) hgr3 (Nat.le_refl _)) hgr4 (Nat.le_refl _)) (grown_trans (World.grownBy_alloc w4 _ _) hgr5) (Nat.le_refl _)) hgr6 (Nat.le_refl _)) (grown_trans (World.grownBy_alloc w6 _ _) hgr7) (Nat.le_refl _)) hgr8 (Nat.le_refl _)) (grown_trans (World.grownBy_alloc w8 _ _) hgr9) (Nat.le_refl _)) (grown_trans (World.grownBy_alloc w9 _ _) hgr10) (Nat.le_refl _)
    go_wp2
    refine bodyPost_ret (results_six rfl _ _ _) rfl ?_
    exact ⟨_, _, _, _, _, _, rfl, HV0.out, by omega, hv2, hv3, hv4, hv5, below_of_grown hg⟩
end Go.Proofs.Ytlkhpfknmdimbaa
