
/- laws.eqIntS: it tells whether two slices read as the same list. -/
import Derived.Test.YtfgnckafpnobhaaLst
import Derived.Deep.QuietTactic
import Derived.BigQuiet
namespace Go.Proofs.Ytfgnckafpnobhaa
open Go.RowKit

set_option maxHeartbeats 1000000 in
theorem eqIntS_any (w : World) (u v : Value) (xs ys : List Int) (hx : IntsAt w u xs) (hy : IntsAt w v ys) :
    Calls Try.prog 40 #[u, v] w fun e w' => e = .returned (.bool (decide (xs = ys))) ∧ Below w.heap.size w w' := by
  obtain ⟨a, c, rfl, x1, x2, x3⟩ := hx
  obtain ⟨b, d, rfl, y1, y2, y3⟩ := hy
  obtain ⟨n, hn⟩ : ∃ n, xs.length = n := ⟨_, rfl⟩
  obtain ⟨m, hm⟩ : ∃ m, ys.length = m := ⟨_, rfl⟩
  rw [hn] at x1 x3 ⊢
  rw [hm] at y1 y3 ⊢
  have HN := Lib.hid hn
  have HM := Lib.hid hm
  clear hn hm
  by_cases hnm : n = m
  · subst hnm
    go_enter Try.func40, Try.ntmps40
    go_wp2
    go_loopw [5] (fun i wr => ∃ k : Nat, k ≤ n ∧ i = .int .i64 k ∧ SameUp xs ys k ∧ ∃ q, wr = w.drewN q) (fun i _ => n - (intOf i).toNat)
    case atStart => exact ⟨0, Nat.zero_le _, rfl, SameUp.zero _ _, 0, rfl⟩
    case round =>
      obtain ⟨k, hk, rfl, hs, q, rfl⟩ := hrel
      by_cases hlt : k < n
      · rcases x3 with rfl | ⟨g, off, rfl, x3⟩
        · exact absurd HN.out (by simp; omega)
        rcases y3 with rfl | ⟨g2, off2, rfl, y3⟩
        · exact absurd HM.out (by simp; omega)
        have cx := x3 k hlt
        have cy := y3 k hlt
        obtain ⟨zx, hzx⟩ : ∃ z, xs.getD k 0 = z := ⟨_, rfl⟩
        obtain ⟨zy, hzy⟩ : ∃ z, ys.getD k 0 = z := ⟨_, rfl⟩
        rw [hzx] at cx
        rw [hzy] at cy
        have HX := Lib.hid hzx
        have HY := Lib.hid hzy
        clear hzx hzy x3 y3
        by_cases e : zx = zy
        · have e1 : (zx != zy) = false := by simpa using e
          have E := Lib.hid e
          clear e
          go_wp2
          go_quiet (fail)
          go_wp2
          go_roundw
          case rel => exact ⟨k + 1, by omega, by go_num, hs.succ (by rw [HX.out, HY.out, E.out]), _, rfl⟩
          case measure => simp [intOf]; omega
        · have e1 : (zx != zy) = true := by simpa using e
          have E := Lib.hid e
          clear e
          go_wp2
          go_quiet (fail)
          go_wp2
          go_ret
          refine ⟨ret_bool ?_, below_drewN (below_drewN (Below.refl _ _) _) _⟩
          symm
          apply decide_eq_false
          rintro rfl
          exact E.out (by rw [← HX.out, ← HY.out])
      · go_wp2
        go_ret
        obtain rfl : k = n := by omega
        exact ⟨ret_bool (decide_eq_true (hs.all HN.out HM.out)).symm, below_drewN (Below.refl _ _) _⟩
  · have e1 : ((n : Int) != (m : Int)) = true := by simp; omega
    have e2 : ((n : Int) == (m : Int)) = false := by simp; omega
    go_enter Try.func40, Try.ntmps40
    go_wp2
    go_ret
    refine ⟨ret_bool ?_, Below.refl _ _⟩
    symm
    apply decide_eq_false
    rintro rfl
    exact hnm (HN.out.symm.trans HM.out)
end Go.Proofs.Ytfgnckafpnobhaa
