
/- Reading one note behind a mark, in the model. -/
import Derived.Test.YtfofjjfnejigaaaNul
namespace Go.Proofs.Ytfofjjfnejigaaa
open Go.RowKit

set_option maxHeartbeats 2000000 in
theorem s_readMarked (w : World) (c o : Int) (ho : 0 ≤ o ∧ o ≤ 6) :
    Calls Try.prog 47 #[.int .i64 c, .int .i64 o] w fun e w' => NoteOut (NmIs c o) w e w' := by
  have u1 : IntKind.i64.wrap (7 * o) = 7 * o := IntWalk.i64_in _ (by omega)
  have u2 : IntKind.i64.wrap (7 * o + 7) = 7 * o + 7 := IntWalk.i64_in _ (by omega)
  go_enter Try.func47, Try.ntmps47
  go_wp2
  go_loopw [6] (fun i wr => ∃ k : Nat, k ≤ 4 ∧ i = .int .i64 k ∧ (∀ v : Nat, v < k → ∀ p, 7 * o ≤ p → p < 7 * o + 7 → candC (p % 7) v ≠ c) ∧ Below (w.heap.size + 1) (w.alloc (.cells #[.int .i64 0, .int .i64 0] 35)) wr) (fun i _ => 4 - (intOf i).toNat)
  case atStart => exact ⟨0, by omega, rfl, fun j h => absurd h (by omega), Below.refl _ _⟩
  case round =>
    obtain ⟨k, hk, rfl, hn, hb⟩ := hrel
    have hsz := hb.size
    rw [World.size_alloc] at hsz
    by_cases hlt : k < 4
    · have d1 : decide ((k : Int) ≤ 3) = true := decide_eq_true (by omega)
      have hv : V4 (k : Int) := ⟨by omega, by omega⟩
      have HN := keptN hn
      have HV := keptN hv
      have HB2 := keptN hb
      clear hn hv hb
      go_wp2_with fail
      go_loopw [7] (fun i ws => ∃ j : Nat, j ≤ 7 ∧ i = .int .i64 (7 * o + j) ∧ (∀ p : Nat, p < j → candC (p : Int) k ≠ c) ∧ Below (w.heap.size + 1) (w.alloc (.cells #[.int .i64 0, .int .i64 0] 35)) ws) (fun i _ => (7 * o + 7 - intOf i).toNat)
      case atStart => exact ⟨0, by omega, by simp, fun j h => absurd h (by omega), HB2.out⟩
      case round =>
        clear HB2
        obtain ⟨j, hj, rfl, hm, hb⟩ := hrel
        have hsz := hb.size
        rw [World.size_alloc] at hsz
        obtain ⟨q, hq⟩ : ∃ q, 7 * o + (j : Int) = q := ⟨_, rfl⟩
        rw [hq]
        have hqb : 0 ≤ q ∧ q ≤ 49 := by omega
        by_cases hjt : j < 7
        · have d3 : decide (q < 7 * o + 7) = true := decide_eq_true (by omega)
          have hq48 : q ≤ 48 := by omega
          have hqm : q % 7 = (j : Int) := by omega
          obtain ⟨y, hy⟩ : ∃ y, noteC ⟨q, (k : Int)⟩ = y := ⟨_, rfl⟩
          have HY := Lib.hid hy
          have hyc : candC (j : Int) (k : Int) = y := by rw [← hqm, ← noteC_cand (by omega)]; exact hy
          have hok2 : NtOk ⟨q, (k : Int)⟩ := ⟨by simp only; omega, by simp only; omega, HV.out.1, HV.out.2⟩
          have HOK2 := keptN hok2
          have HM := keptN hm
          have HQ := Lib.hid hq
          have HQM := Lib.hid hqm
          have hB1 := hb.alloc hsz (.cells #[.int .i64 q, .int .i64 (k : Int)] 35)
          have HNB := keptN (heap_alloc_new wr (.cells #[.int .i64 q, .int .i64 (k : Int)] 35))
          clear hy hok2 hm hq hqm
          go_wp2_with fail
          refine (s_noteCell _ q (k : Int) y HOK2.out HY).mono ?_
          rintro e w4 ⟨rfl, hb4⟩
          have hb5 := hB1.trans (hb4.mono (by rw [World.size_alloc]; omega))
          have hnb4 := (hb4.block wr.heap.size (by simp)).trans HNB.out
          have n0 : w4.cell? ⟨wr.heap.size, 0, none⟩ = some (.int .i64 q) := by rw [cell_of_row w4 _ 0 _ _ _ hnb4]; rfl
          have n1 : w4.cell? ⟨wr.heap.size, 1, none⟩ = some (.int .i64 (k : Int)) := by rw [cell_of_row w4 _ 1 _ _ _ hnb4]; rfl
          have HB5 := keptN hb5
          clear hb4 hnb4 hB1 hb HNB
          by_cases hyy : y = c
          · subst hyy
            have HF : Hid (NmIs y o ⟨q, (k : Int)⟩ true) := .inl ⟨rfl, _, _, HV.out, ⟨by have := HQ.out; omega, by have := HQ.out; omega⟩, by rw [HQM.out]; exact hyc, rfl⟩
            have hz0 := zero_kept hb5
            have c0 : w4.cell? ⟨w.heap.size, 0, none⟩ = some (.int .i64 0) := by rw [cell_of_row w4 _ 0 _ _ _ hz0]; rfl
            have c1 : w4.cell? ⟨w.heap.size, 1, none⟩ = some (.int .i64 0) := by rw [cell_of_row w4 _ 1 _ _ _ hz0]; rfl
            have f0 : w4.frozen? ⟨w.heap.size, 0, none⟩ = false := frozen_of_row w4 _ 0 _ _ hz0
            have f1 : w4.frozen? ⟨w.heap.size, 1, none⟩ = false := frozen_of_row w4 _ 1 _ _ hz0
            have HZ0 := keptN hz0
            have HB9 := keptN (below_zero hb5)
            clear hb5 hz0 hyc
            go_wp2
            have k1 := heap_setCell_same w4 w.heap.size 0 _ _ (.int .i64 q) HZ0.out
            have k2 := heap_setCell_same _ w.heap.size 1 _ _ (.int .i64 (k : Int)) k1
            refine bodyPost_ret (results_cell_tmp rfl _ _ w.heap.size _ #[.int .i64 q, .int .i64 (k : Int)] _ _ rfl k2 Try.underlying35 rfl (by kernel_rfl)) rfl ?_
            exact ⟨q, (k : Int), true, rfl, HF.out, below_two HB9.out _ _⟩
          · have d4 : (y == c) = false := by simpa using hyy
            have hm' : Hid (∀ p : Nat, p < j + 1 → candC (p : Int) k ≠ c) := fun p hp => by
              by_cases e : p = j
              · subst e; rw [hyc]; exact hyy
              · exact HM.out p (by omega)
            have HNX : Hid (q + 1 = 7 * o + ((j + 1 : Nat) : Int)) := by show _ = _; have := HQ.out; omega
            clear hyy hyc hb5
            go_wp2
            go_roundw
            case rel => exact ⟨j + 1, by omega, by rw [HNX.out], hm'.out, HB5.out⟩
            case measure => have hqo := HQ.out; simp [intOf]; omega
        · obtain rfl : j = 7 := by omega
          have d3 : decide (q < 7 * o + 7) = false := decide_eq_false (by omega)
          have hn' : Hid (∀ v : Nat, v < k + 1 → ∀ p, 7 * o ≤ p → p < 7 * o + 7 → candC (p % 7) v ≠ c) := fun v hv p h0 h1 => by
            by_cases e : v = k
            · subst e
              have := hm (p % 7).toNat (by omega)
              rwa [Int.toNat_of_nonneg (by omega)] at this
            · exact HN.out v (by omega) p h0 h1
          clear hm hq
          go_wp2
          go_roundw
          case rel => exact ⟨k + 1, by omega, by go_num, hn'.out, hb⟩
          case measure => simp [intOf]; omega
    · obtain rfl : k = 4 := by omega
      have HF : Hid (NmIs c o ⟨0, 0⟩ false) := .inr ⟨rfl, fun v hv => by
        have := hn v.toNat (by have := hv.1; have := hv.2; omega)
        rwa [Int.toNat_of_nonneg hv.1] at this⟩
      have hz0 := zero_kept hb
      have c0 : wr.cell? ⟨w.heap.size, 0, none⟩ = some (.int .i64 0) := by rw [cell_of_row wr _ 0 _ _ _ hz0]; rfl
      have c1 : wr.cell? ⟨w.heap.size, 1, none⟩ = some (.int .i64 0) := by rw [cell_of_row wr _ 1 _ _ _ hz0]; rfl
      have f0 : wr.frozen? ⟨w.heap.size, 0, none⟩ = false := frozen_of_row wr _ 0 _ _ hz0
      have f1 : wr.frozen? ⟨w.heap.size, 1, none⟩ = false := frozen_of_row wr _ 1 _ _ hz0
      have HZ0 := keptN hz0
      have HB9 := keptN (below_zero hb)
      clear hn hz0 hb
      go_wp2
      have k1 := heap_setCell_same wr w.heap.size 0 _ _ (.int .i64 0) HZ0.out
      have k2 := heap_setCell_same _ w.heap.size 1 _ _ (.int .i64 0) k1
      refine bodyPost_ret (results_cell_tmp rfl _ _ w.heap.size _ #[.int .i64 0, .int .i64 0] _ _ rfl k2 Try.underlying35 rfl (by kernel_rfl)) rfl ?_
      exact ⟨0, 0, false, rfl, HF.out, below_two HB9.out _ _⟩
end Go.Proofs.Ytfofjjfnejigaaa
