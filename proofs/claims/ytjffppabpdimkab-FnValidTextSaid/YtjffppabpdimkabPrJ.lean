
/- FnValidText: its walk. -/
import Derived.Test.YtjffppabpdimkabVTB
import Derived.Test.YtjffppabpdimkabDrT
namespace Go.Proofs.Ytjffppabpdimkab
open Go.RowKit

theorem validT_sub {l : List UInt8} (h : ValidT l) (k : Nat) : ValidT (sub l 0 k) := by
  refine ⟨?_, fun b hb => h.2 b ?_⟩
  · have := h.1
    simp [sub]
    omega
  · simp [sub] at hb
    exact List.mem_of_mem_take hb

set_option maxHeartbeats 1000000 in
theorem validText_walk (a : Option Addr) (len cap : Nat) (zs : List Int) (w : World) (h : RowIn .u8 w a len cap zs) :
    Calls Try.prog 4 #[.slice a len cap] w fun e w' => e = .returned (.bool true) ∧ Below w.heap.size w w' := by
  have hlen : len ≤ 9223372036854775807 := by
    obtain ⟨_, h2, h3⟩ := bytesAt_of_row h; unfold maxLen at h3; omega
  by_cases hbig : len ≤ 1048576
  · go_enter Try.func4, Try.ntmps4
    go_wp2_with fail
    refine (drawValidText_any w a len cap zs h).mono ?_
    rintro e w1 ⟨s, rfl, hs, hb1⟩
    clear h
    cases hv : decide (ValidT s.data.toList) with
    | false =>
      have HB := Lib.hid hv
      clear hv
      go_wp2_with fail
      refine (i_ValidText_v s false _ (by omega) HB).mono ?_
      rintro e w2 ⟨rfl, hb2⟩
      have hB2 := below_next hb1 hb2
      go_wp2_with fail
      refine (s_ValidText_v s false _ (by omega) HB).mono ?_
      rintro e w' ⟨rfl, rfl⟩
      go_wp2_with fail
      refine (s_ValidText_v s false _ (by omega) HB).mono ?_
      rintro e w' ⟨rfl, rfl⟩
      go_wp2
      go_ret
      exact ⟨rfl, hB2⟩
    | true =>
      have HB := Lib.hid hv
      have hv2 : ValidT s.data.toList := of_decide_eq_true hv
      have HV := Lib.hid hv2
      clear hv hv2
      go_wp2_with fail
      refine (i_ValidText_v s true _ (by omega) HB).mono ?_
      rintro e w2 ⟨rfl, hb2⟩
      have hB2 := below_next hb1 hb2
      go_wp2_with fail
      refine (s_ValidText_v s true _ (by omega) HB).mono ?_
      rintro e w' ⟨rfl, rfl⟩
      go_wp2_with fail
      go_loopw [5] (fun i wr => ∃ k : Nat, k ≤ s.size + 1 ∧ i = .int .i64 k ∧ Below w.heap.size w wr) (fun i _ => s.size + 1 - (intOf i).toNat)
      case atStart => exact ⟨0, by omega, rfl, hB2⟩
      case round =>
        clear hb1 hb2 hB2
        obtain ⟨k, hk, rfl, hb⟩ := hrel
        by_cases hlt : k ≤ s.size
        · have HP : Hid (decide (ValidT (s.extract 0 k).data.toList) = true) := by
            show _ = _
            rw [extract_list]
            exact decide_eq_true (validT_sub HV.out k)
          have hx : (s.extract 0 k).size ≤ 520 := by rw [ext_size (by omega) hlt]; omega
          have HX := Lib.hid hx
          have q1 : (0 : Int) ≤ (k : Int) := by omega
          have q2 : (k : Int) ≤ (s.size : Int) := by omega
          clear hx
          go_wp2_with fail
          refine (i_ValidText_v _ true _ (by have := HX.out; omega) HP).mono ?_
          rintro e w3 ⟨rfl, hb3⟩
          go_wp2
          go_roundw
          case rel => exact ⟨k + 1, by omega, by go_num, below_next hb hb3⟩
          case measure => simp [intOf]; omega
        · go_wp2
          go_ret
          exact ⟨rfl, hb⟩
  · have hbig' : 1048576 < len := by omega
    go_enter Try.func4, Try.ntmps4
    go_wp2
    go_ret
    exact ⟨rfl, Below.refl _ _⟩
end Go.Proofs.Ytjffppabpdimkab
