
/- The piece at a place; rows of pieces that begin as nil. -/
import Derived.Test.YtohgglhjcklbaaaGa
import Derived.Test.YtohgglhjcklbaaaVr
namespace Go.Proofs.Ytohgglhjcklbaaa
open Go.RowKit

/-- the piece of the rule r at the place k, one letter for -1 -/
def pcB (T : List PRule) (k : Nat) (r : Int) : PPiece := if r = -1 then ⟨-1, k, (k : Int) + 1⟩ else ⟨r, k, (k : Int) + szR T r⟩
set_option maxHeartbeats 2000000 in
theorem i_pieceAt (w : World) (v : Value) (T : List PRule) (r : Int) (k : Nat) (hx : TableAt w v T) (hf : Hid (∀ k, (T.getD k noR).t.size ≤ 100)) (hr : r = -1 ∨ (0 ≤ r ∧ r < T.length)) (hk : k ≤ 1000) (hb : T.length ≤ 1000) :
    Calls Try.prog 78 #[v, .int .i64 r, .int .i64 k] w fun e w' => e = .returned (.agg #[.int .i64 (pcB T k r).r, .int .i64 (pcB T k r).f, .int .i64 (pcB T k r).t]) ∧ Below w.heap.size w w' := by
  have HX := Lib.hid hx
  obtain ⟨ta, tc, rfl, hxx⟩ := hx
  clear hxx
  obtain ⟨tn, htn⟩ : ∃ tn, T.length = tn := ⟨_, rfl⟩
  rw [htn] at HX hr hb ⊢
  have HTN := Lib.hid htn
  clear htn
  have hB1 : Below w.heap.size w (w.alloc (.cells #[.int .i64 0, .int .i64 0, .int .i64 0] 59)) := (Below.refl _ _).alloc (Nat.le_refl _) _
  have k0 := heap_alloc_new w (.cells #[.int .i64 0, .int .i64 0, .int .i64 0] 59)
  have K0 := keptH k0
  have HB1 := keptH hB1
  clear k0 hB1
  rcases hr with rfl | ⟨h0, h1⟩
  · have u1 : IntKind.i64.wrap ((k : Int) + 1) = (k : Int) + 1 := IntWalk.i64_in _ (by omega)
    have K1 := keptH (heap_alloc_new w (.cells #[.int .i64 (-1), .int .i64 (k : Int), .int .i64 ((k : Int) + 1)] 59))
    go_enter Try.func78, Try.ntmps78
    go_wp2
    refine bodyPost_ret (results_cell_row rfl _ _ w.heap.size _ #[.int .i64 (-1), .int .i64 (k : Int), .int .i64 ((k : Int) + 1)] _ _ rfl K1.out Try.underlying59 rfl (by kernel_rfl)) rfl ?_
    exact ⟨rfl, (Below.refl _ _).alloc (Nat.le_refl _) _⟩
  · obtain ⟨j, rfl⟩ : ∃ j : Nat, r = j := ⟨r.toNat, by omega⟩
    have hj : j < tn := by omega
    obtain ⟨gt, offt, rfl⟩ := HX.out.someAddr (by rw [HTN.out]; omega)
    have hpc : Hid (pcB T k (j : Int) = ⟨(j : Int), (k : Int), (k : Int) + ((T.getD j noR).t.size : Int)⟩) := by
      show _ = _
      rw [pcB, if_neg (by omega), szR, Int.toNat_natCast]
    have r0 := (HX.out.nth (k := j) (by rw [HTN.out]; exact hj)).1
    have r1 := ((HX.out.below ((Below.refl _ _).alloc (Nat.le_refl _) (.cells #[.int .i64 0, .int .i64 0, .int .i64 0] 59))).nth (k := j) (by rw [HTN.out]; exact hj)).1
    have hs1 := hf.out j
    rw [hpc.out]
    obtain ⟨t1, ht1⟩ : ∃ t1, (T.getD j noR).t = t1 := ⟨_, rfl⟩
    rw [ht1] at r0 r1 hs1 ⊢
    clear ht1 hpc h0 h1
    have b1 : (0 : Int) ≤ (j : Int) := by omega
    have b2 : (j : Int) < (tn : Int) := by omega
    have d0 : ((j : Int) == -1) = false := by simp
    have u1 : IntKind.i64.wrap ((k : Int) + (t1.size : Int)) = (k : Int) + (t1.size : Int) := IntWalk.i64_in _ (by omega)
    have K1 := keptH (heap_alloc_new w (.cells #[.int .i64 (j : Int), .int .i64 (k : Int), .int .i64 ((k : Int) + (t1.size : Int))] 59))
    go_enter Try.func78, Try.ntmps78
    go_wp2
    refine bodyPost_ret (results_cell_row rfl _ _ w.heap.size _ #[.int .i64 (j : Int), .int .i64 (k : Int), .int .i64 ((k : Int) + (t1.size : Int))] _ _ rfl K1.out Try.underlying59 rfl (by kernel_rfl)) rfl ?_
    exact ⟨rfl, (Below.refl _ _).alloc (Nat.le_refl _) _⟩
end Go.Proofs.Ytohgglhjcklbaaa
