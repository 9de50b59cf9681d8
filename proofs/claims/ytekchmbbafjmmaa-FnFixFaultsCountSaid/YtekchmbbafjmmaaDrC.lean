
/- The draws of one number: a cell, a letter, a digit. -/
import Derived.Test.YtekchmbbafjmmaaRdB
namespace Go.Proofs.Ytekchmbbafjmmaa
open Go.RowKit

theorem grown_new {a b c : World} {R : Nat} (h : a.grownBy b none) (k : b.grownBy c (some R)) (hR : a.heap.size ≤ R) : a.grownBy c none :=
  ⟨k.os.trans h.os, k.tape.trans h.tape, k.output.trans h.output, Nat.le_trans h.size k.size, fun i hi _ => (k.block i (Nat.lt_of_lt_of_le hi h.size) (by simp; omega)).trans (h.block i hi (by simp))⟩
theorem below_of_grown {a b : World} (h : a.grownBy b none) : Below a.heap.size a b := ⟨h.os, h.tape, h.output, h.size, fun k hk => h.block k hk (by simp)⟩
theorem RD.grown {w w' : World} {B R L p : Nat} (h : RD w B R L p) (hg : w.grownBy w' none) : RD w' B R L p :=
  h.of_same (fun k hk => hg.block k (by have := h.lt; obtain ⟨_, _, _, h3, _⟩ := h; omega) (by simp)) (hg.block R h.lt (by simp))

def AnyCell (w : World) (B R L p : Nat) (e : Ending) (w' : World) : Prop :=
  ∃ v : Int, e = .returned (.int .i64 v) ∧ -1 ≤ v ∧ v ≤ 64 ∧ RD w' B R L p ∧ w.grownBy w' (some R)

set_option maxHeartbeats 400000 in
theorem anyCell_any (w : World) (B R L p : Nat) (h : RD w B R L p) (hp : p ≤ 100000000000) :
    Calls Try.prog 46 #[.pointer (some ⟨R, 0, none⟩)] w fun e w' => AnyCell w B R L (p + 5) e w' := by
  go_enter Try.func46, Try.ntmps46
  go_wp2_with fail
  refine (pick_any w B R L p _ h (by omega) (by omega) (by omega)).mono ?_
  rintro e w1 ⟨k1, rfl, hk1, hrd1, hgr1⟩
  go_wp2_with fail
  refine (pick_any w1 B R L (p + 1) _ hrd1 (by omega) (by omega) (by omega)).mono ?_
  rintro e w2 ⟨k2, rfl, hk2, hrd2, hgr2⟩
  go_wp2_with fail
  refine (pick_any w2 B R L (p + 2) _ hrd2 (by omega) (by omega) (by omega)).mono ?_
  rintro e w3 ⟨k3, rfl, hk3, hrd3, hgr3⟩
  go_wp2_with fail
  refine (pick_any w3 B R L (p + 3) _ hrd3 (by omega) (by omega) (by omega)).mono ?_
  rintro e w4 ⟨k4, rfl, hk4, hrd4, hgr4⟩
  go_wp2_with fail
  have hlt := hrd4.lt
  refine (one_any _ B R L (p + 4) w4.heap.size 8 8 [k1, k2, k3, 0, 63, k4, 64, -1] (hrd4.alloc _) (heap_alloc_new w4 _) (by omega) (Lib.hid rfl) (by omega) (by omega) (by omega)).mono ?_
  rintro e w5 ⟨v, rfl, hv, hrd5, hgr5⟩
  go_wp2
  go_ret
  simp at hv
  exact ⟨v, rfl, by omega, by omega, hrd5, grown_trans (grown_trans hgr1 (grown_trans hgr2 (grown_trans hgr3 hgr4))) (grown_trans (World.grownBy_alloc w4 _ _) hgr5)⟩

/-- a draw that hands back one number between lo and hi, and writes new memory alone -/
def IntDrawn (lo hi : Int) (w : World) (e : Ending) (w' : World) : Prop :=
  ∃ v : Int, e = .returned (.int .i64 v) ∧ lo ≤ v ∧ v ≤ hi ∧ Below w.heap.size w w'

end Go.Proofs.Ytekchmbbafjmmaa
