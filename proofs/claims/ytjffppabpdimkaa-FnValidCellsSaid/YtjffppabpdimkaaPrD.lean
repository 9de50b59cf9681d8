/- FnCellOf: its walk. -/
import Derived.Test.YtjffppabpdimkaaPrC
import Derived.Test.YtjffppabpdimkaaDrM
namespace Go.Proofs.Ytjffppabpdimkaa
open Go.RowKit

/-- the ascending lists of the k last numbers up to 6 -/
def subs : Nat → List (List Int)
  | 0 => [[]]
  | k + 1 => subs k ++ (subs k).map (fun l => (6 - (k : Int)) :: l)
theorem nil_subs (k : Nat) : [] ∈ subs k := by
  induction k with
  | zero => simp [subs]
  | succ k ih => exact List.mem_append_left _ ih
theorem mem_subs : ∀ (k : Nat), k ≤ 6 → ∀ (zs : List Int) (out : Int), cellFrom zs out (6 - (k : Int)) ≠ -1 → zs ∈ subs k := by
  intro k
  induction k with
  | zero =>
    intro _ zs out h
    cases zs with
    | nil => simp [subs]
    | cons d r =>
      exfalso
      apply h
      rw [cellFrom, if_neg (by omega)]
  | succ k ih =>
    intro hk zs out h
    cases zs with
    | nil => exact nil_subs _
    | cons d r =>
      by_cases hd : (6 - ((k + 1 : Nat) : Int)) < d ∧ d ≤ 6
      · rw [cellFrom, if_pos hd] at h
        by_cases he : d = 6 - (k : Int)
        · subst he
          exact List.mem_append_right _ (List.mem_map.2 ⟨r, ih (by omega) r _ h, rfl⟩)
        · refine List.mem_append_left _ (ih (by omega) (d :: r) out ?_)
          rw [cellFrom, if_pos ⟨by omega, hd.2⟩]
          exact h
      · exfalso
        apply h
        rw [cellFrom, if_neg hd]
theorem subs_facts : ∀ l ∈ subs 6, dotsL (cellL l).toNat = l ∧ (0 ≤ cellL l ∧ cellL l ≤ 63) := by decide +kernel
theorem cellL_facts (zs : List Int) (h : 0 ≤ cellL zs) : dotsL (cellL zs).toNat = zs ∧ cellL zs ≤ 63 := by
  have hm : zs ∈ subs 6 := mem_subs 6 (by omega) zs 0 (by
    have : cellFrom zs 0 0 = cellL zs := rfl
    intro e
    rw [show (6 : Int) - ((6 : Nat) : Int) = 0 from rfl, this] at e
    omega)
  have := subs_facts zs hm
  exact ⟨this.1, this.2.2⟩
theorem s_cellOf_v (w : World) (u : Value) (zs : List Int) (v : Int) (hx : IntsAt w u zs) (hv : Hid (cellL zs = v)) :
    Calls Try.prog 26 #[u] w fun e w' => e = .returned (.int .i64 v) ∧ w = w' := by
  have := s_cellOf w u zs hx
  rw [hv.out] at this
  exact this

set_option maxHeartbeats 1000000 in
theorem cellOf_walk (a : Option Addr) (len cap : Nat) (zs : List Int) (w : World) (h : RowIn .u8 w a len cap zs) :
    Calls Try.prog 5 #[.slice a len cap] w fun e w' => e = .returned (.bool true) ∧ Below w.heap.size w w' := by
  have hlen : len ≤ 9223372036854775807 := by
    obtain ⟨_, h2, h3⟩ := bytesAt_of_row h; unfold maxLen at h3; omega
  by_cases hbig : len ≤ 1048576
  · go_enter Try.func5, Try.ntmps5
    go_wp2_with fail
    refine (drawCellOf_any w a len cap zs h).mono ?_
    rintro e w1 ⟨a1, n1, c1, xs, rfl, hx, hn, hbt, hn7, hb1⟩
    clear h
    obtain ⟨v, hv⟩ : ∃ v, cellL xs = v := ⟨_, rfl⟩
    have F := cellL_facts xs
    rw [hv] at F
    have HV := Lib.hid hv
    clear hv
    go_wp2_with fail
    refine (i_cellOf_v _ _ xs v hx HV).mono ?_
    rintro e w' ⟨rfl, rfl⟩
    go_wp2_with fail
    refine (s_cellOf_v _ _ xs v hx HV).mono ?_
    rintro e w' ⟨rfl, rfl⟩
    by_cases h0 : 0 ≤ v
    · obtain ⟨F1, F2⟩ := F h0
      obtain ⟨k, rfl⟩ : ∃ k : Nat, v = k := ⟨v.toNat, by omega⟩
      rw [show ((k : Int)).toNat = k from by omega] at F1
      have HF := Lib.hid F1
      clear F F1
      have d1 : decide ((k : Int) ≤ 63) = true := decide_eq_true F2
      go_wp2_with fail
      refine (i_DotsOf_out k _ (by omega)).mono ?_
      rintro e w2 ⟨v2, rfl, hv2, hb2, a2, n2, c2, rfl⟩
      rw [HF.out] at hv2
      have hx2 := hx.below hb2
      have hB2 := below_next hb1 hb2
      go_wp2_with fail
      refine (equalInts_same _ _ _ xs hv2 hx2).mono ?_
      rintro e w3 ⟨rfl, hb3⟩
      go_wp2
      go_ret
      exact ⟨rfl, below_next hB2 hb3⟩
    · have h0' : v < 0 := by omega
      clear F h0
      go_wp2_with fail
      refine (s_cellOf_v _ _ xs v hx HV).mono ?_
      rintro e w' ⟨rfl, rfl⟩
      go_wp2
      go_ret
      exact ⟨rfl, hb1⟩
  · have hbig' : 1048576 < len := by omega
    go_enter Try.func5, Try.ntmps5
    go_wp2
    go_ret
    exact ⟨rfl, Below.refl _ _⟩
end Go.Proofs.Ytjffppabpdimkaa
