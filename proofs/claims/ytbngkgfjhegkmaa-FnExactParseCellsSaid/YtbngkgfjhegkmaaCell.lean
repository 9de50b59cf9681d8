
/- CellOf, in the program and in its model: both give the cell of a list of dots. -/
import Derived.Test.YtbngkgfjhegkmaaLst
import Derived.Test.YtbngkgfjhegkmaaDots
import Derived.Test.YtbngkgfjhegkmaaRange
namespace Go.Proofs.Ytbngkgfjhegkmaa
open Go.RowKit

theorem drop_cons {zs : List Int} {k : Nat} (h : k < zs.length) : zs.drop k = zs.getD k 0 :: zs.drop (k + 1) := by
  rw [List.drop_eq_getElem_cons h, List.getD_eq_getElem?_getD, List.getElem?_eq_getElem h, Option.getD_some]
def CellUp (zs : List Int) (k : Nat) (out last : Int) : Prop := cellFrom (zs.drop k) out last = cellL zs
theorem CellUp.zero (zs : List Int) : CellUp zs 0 0 0 := rfl
theorem CellUp.step {zs : List Int} {k j n : Nat} {out last d v : Int} (h : CellUp zs k out last) (hn : zs.length = n) (hk : k < n) (hd : zs.getD k 0 = d) (h1 : last < d) (h2 : d ≤ 6) (hj : d = j + 1) (hv : pwL.getD j 0 = v) : CellUp zs (k + 1) (out + v) d := by
  unfold CellUp at h ⊢
  rw [drop_cons (by omega), hd, cellFrom, if_pos ⟨h1, h2⟩] at h
  have : d.toNat - 1 = j := by omega
  rw [this, hv] at h
  exact h
theorem CellUp.fail {zs : List Int} {k n : Nat} {out last d : Int} (h : CellUp zs k out last) (hn : zs.length = n) (hk : k < n) (hd : zs.getD k 0 = d) (h1 : d ≤ last ∨ 6 < d) : cellL zs = -1 := by
  unfold CellUp at h
  rw [drop_cons (by omega), hd, cellFrom, if_neg (by omega)] at h
  exact h.symm
theorem CellUp.done {zs : List Int} {n : Nat} {out last : Int} (h : CellUp zs n out last) (hn : zs.length = n) : cellL zs = out := by
  unfold CellUp at h
  rw [List.drop_of_length_le (by omega)] at h
  exact h.symm
theorem ret_i64' {a b : Int} (h : a = b) : Ending.returned (.int .i64 a) = .returned (.int .i64 b) := by rw [h]
theorem pwL_bd : ∀ j, j < 6 → 0 ≤ pwL.getD j 0 ∧ pwL.getD j 0 ≤ 32 := by decide
theorem pwL_succ : ∀ j, j < 5 → pwL.getD (j + 1) 0 = 2 * pwL.getD j 0 := by decide

set_option maxHeartbeats 1000000 in
theorem i_cellOf (w : World) (u : Value) (zs : List Int) (hx : IntsAt w u zs) :
    Calls Try.prog 36 #[u] w fun e w' => e = .returned (.int .i64 (cellL zs)) ∧ w = w' := by
  obtain ⟨a, c, rfl, x1, x2, x3⟩ := hx
  obtain ⟨n, hn⟩ : ∃ n, zs.length = n := ⟨_, rfl⟩
  rw [hn] at x1 x3 ⊢
  have HN := Lib.hid hn
  clear hn
  go_enter Try.func36, Try.ntmps36
  go_wp2
  go_loop [3, 4, 9] (fun o l i => ∃ (k : Nat) (out last : Int), k ≤ n ∧ i = .int .i64 k ∧ o = .int .i64 out ∧ l = .int .i64 last ∧ 0 ≤ last ∧ last ≤ 6 ∧ 0 ≤ out ∧ out ≤ 32 * last ∧ CellUp zs k out last) (fun _ _ i => n - (intOf i).toNat)
  case atStart => exact ⟨0, 0, 0, Nat.zero_le _, rfl, rfl, rfl, by omega, by omega, by omega, by omega, CellUp.zero _⟩
  case round =>
    obtain ⟨k, out, last, hk, rfl, rfl, rfl, hl0, hl1, ho0, ho1, hs⟩ := hrel
    by_cases hlt : k < n
    · rcases x3 with rfl | ⟨g, off, rfl, x3⟩
      · exact absurd HN.out (by simp; omega)
      have cx := x3 k hlt
      obtain ⟨y, hy⟩ : ∃ y, zs.getD k 0 = y := ⟨_, rfl⟩
      rw [hy] at cx
      have HY := Lib.hid hy
      clear hy x3
      by_cases e1 : y ≤ last
      · have d1 : decide (y ≤ last) = true := decide_eq_true e1
        go_wp2
        go_ret
        exact ⟨ret_i64' (hs.fail HN.out hlt HY.out (.inl e1)).symm, rfl⟩
      · have d1 : decide (y ≤ last) = false := decide_eq_false e1
        by_cases e2 : 6 < y
        · have d2 : decide (6 < y) = true := decide_eq_true e2
          go_wp2
          go_ret
          exact ⟨ret_i64' (hs.fail HN.out hlt HY.out (.inr e2)).symm, rfl⟩
        · have d2 : decide (6 < y) = false := decide_eq_false e2
          obtain ⟨j, hj⟩ : ∃ j : Nat, y = j + 1 := ⟨(y - 1).toNat, by omega⟩
          obtain ⟨v, hv⟩ : ∃ v, pwL.getD j 0 = v := ⟨_, rfl⟩
          have hb := pwL_bd j (by omega)
          rw [hv] at hb
          have hj6 : j < 6 := by omega
          have hy1 : last < y := by omega
          have hy2 : y ≤ 6 := by omega
          have HJ := Lib.hid hj
          have HV := Lib.hid hv
          clear hj hv e1 e2
          obtain ⟨hb0, hb1⟩ := hb
          go_wp2_with (go_at_call 38; refine (dotBit_at j _ v _ hj6 HJ HV).mono ?_; rintro e w' ⟨rfl, rfl⟩)
          go_round
          case rel => exact ⟨k + 1, out + v, y, by omega, by go_num, rfl, rfl, by omega, by omega, by omega, by omega, hs.step HN.out hlt HY.out hy1 hy2 HJ.out HV.out⟩
          case measure => simp [intOf]; omega
    · go_wp2
      go_ret
      obtain rfl : k = n := by omega
      exact ⟨ret_i64' (hs.done HN.out).symm, rfl⟩

end Go.Proofs.Ytbngkgfjhegkmaa
