
/- Reading one note behind no mark, in the model. -/
import Derived.Test.YtfofjjfnejigaaaNuk
namespace Go.Proofs.Ytfofjjfnejigaaa
open Go.RowKit

/-- what the model's readNote answers -/
def NrIs (c l : Int) (x : PNote) (ok : Bool) : Prop :=
  (ok = true ∧ ((∃ v, V4 v ∧ restC v = c ∧ x = ⟨-1, v⟩) ∨ (∃ v p, V4 v ∧ (0 ≤ p ∧ p ≤ 48) ∧ candC (p % 7) v = c ∧ ¬ NeedM l p ∧ x = ⟨p, v⟩))) ∨
  (ok = false ∧ ∀ v, V4 v → restC v ≠ c ∧ ∀ p, 0 ≤ p → p ≤ 48 → candC (p % 7) v = c → NeedM l p)
/-- what the model's readMarked answers -/
def NmIs (c o : Int) (x : PNote) (ok : Bool) : Prop :=
  (ok = true ∧ ∃ v p, V4 v ∧ (7 * o ≤ p ∧ p < 7 * o + 7) ∧ candC (p % 7) v = c ∧ x = ⟨p, v⟩) ∨
  (ok = false ∧ ∀ v, V4 v → ∀ p, 7 * o ≤ p → p < 7 * o + 7 → candC (p % 7) v ≠ c)
theorem zero_kept {w wr : World} (h : Below (w.heap.size + 1) (w.alloc (.cells #[.int .i64 0, .int .i64 0] 35)) wr) : wr.heap[w.heap.size]? = some (.cells #[.int .i64 0, .int .i64 0] 35 (0, 0)) := (h.block w.heap.size (by omega)).trans (heap_alloc_new w _)
theorem below_zero {w wr : World} (h : Below (w.heap.size + 1) (w.alloc (.cells #[.int .i64 0, .int .i64 0] 35)) wr) : Below w.heap.size w wr := ((Below.refl _ _).alloc (Nat.le_refl _) _).trans (h.mono (by omega))
theorem below_two {w wr : World} (h : Below w.heap.size w wr) (x y : Value) : Below w.heap.size w ((wr.setCell ⟨w.heap.size, 0, none⟩ x).setCell ⟨w.heap.size, 1, none⟩ y) := (h.setCell (p := ⟨w.heap.size, 0, none⟩) (Nat.le_refl _) x).setCell (p := ⟨w.heap.size, 1, none⟩) (Nat.le_refl _) y
set_option maxHeartbeats 2000000 in
theorem s_readNote (w : World) (c l : Int) (hl : -1 ≤ l ∧ l ≤ 48) :
    Calls Try.prog 46 #[.int .i64 c, .int .i64 l] w fun e w' => NoteOut (NrIs c l) w e w' := by
  go_enter Try.func46, Try.ntmps46
  go_wp2
  go_loopw [6] (fun i wr => ∃ k : Nat, k ≤ 4 ∧ i = .int .i64 k ∧ (∀ v : Nat, v < k → restC v ≠ c ∧ ∀ p, 0 ≤ p → p ≤ 48 → candC (p % 7) v = c → NeedM l p) ∧ Below (w.heap.size + 1) (w.alloc (.cells #[.int .i64 0, .int .i64 0] 35)) wr) (fun i _ => 4 - (intOf i).toNat)
  case atStart => exact ⟨0, by omega, rfl, fun j h => absurd h (by omega), Below.refl _ _⟩
  case round =>
    obtain ⟨k, hk, rfl, hn, hb⟩ := hrel
    have hsz := hb.size
    rw [World.size_alloc] at hsz
    by_cases hlt : k < 4
    · have d1 : decide ((k : Int) ≤ 3) = true := decide_eq_true (by omega)
      have hv : V4 (k : Int) := ⟨by omega, by omega⟩
      obtain ⟨x, hx⟩ : ∃ x, noteC ⟨-1, (k : Int)⟩ = x := ⟨_, rfl⟩
      have HX := Lib.hid hx
      have hxr : restC (k : Int) = x := by rw [← noteC_rest]; exact hx
      have hok : NtOk ⟨-1, (k : Int)⟩ := ⟨by simp, by simp, hv.1, hv.2⟩
      have HOK := keptN hok
      have HN := keptN hn
      clear hx hok hn
      by_cases hxc : x = c
      · subst hxc
        have HF : Hid (NrIs x l ⟨-1, (k : Int)⟩ true) := .inl ⟨rfl, .inl ⟨_, hv, hxr, rfl⟩⟩
        clear hxr hv
        go_wp2_with fail
        refine (s_noteCell _ (-1) (k : Int) x HOK.out HX).mono ?_
        rintro e w2 ⟨rfl, hb2⟩
        have hb3 := hb.trans (hb2.mono hsz)
        have hz0 := zero_kept hb3
        have c0 : w2.cell? ⟨w.heap.size, 0, none⟩ = some (.int .i64 0) := by rw [cell_of_row w2 _ 0 _ _ _ hz0]; rfl
        have c1 : w2.cell? ⟨w.heap.size, 1, none⟩ = some (.int .i64 0) := by rw [cell_of_row w2 _ 1 _ _ _ hz0]; rfl
        have f0 : w2.frozen? ⟨w.heap.size, 0, none⟩ = false := frozen_of_row w2 _ 0 _ _ hz0
        have f1 : w2.frozen? ⟨w.heap.size, 1, none⟩ = false := frozen_of_row w2 _ 1 _ _ hz0
        have HZ0 := keptN hz0
        have HB9 := keptN (below_zero hb3)
        clear hb3 hz0 hb2 hb
        go_wp2
        have k1 := heap_setCell_same w2 w.heap.size 0 _ _ (.int .i64 (-1)) HZ0.out
        have k2 := heap_setCell_same _ w.heap.size 1 _ _ (.int .i64 (k : Int)) k1
        refine bodyPost_ret (results_cell_tmp rfl _ _ w.heap.size _ #[.int .i64 (-1), .int .i64 (k : Int)] _ _ rfl k2 Try.underlying35 rfl (by kernel_rfl)) rfl ?_
        exact ⟨(-1), (k : Int), true, rfl, HF.out, below_two HB9.out _ _⟩
      · have d2 : (x == c) = false := by simpa using hxc
        have HXR : Hid (restC (k : Int) ≠ c) := by show _ ≠ _; rw [hxr]; exact hxc
        have HV := keptN hv
        clear hxc hxr hv
        go_wp2_with fail
        refine (s_noteCell _ (-1) (k : Int) x HOK.out HX).mono ?_
        rintro e w2 ⟨rfl, hb2⟩
        have HB2 := keptN (hb.trans (hb2.mono hsz))
        clear hb2 hb
        go_wp2_with fail
        go_loopw [7] (fun i ws => ∃ j : Nat, j ≤ 49 ∧ i = .int .i64 j ∧ (∀ p : Nat, p < j → candC ((p : Int) % 7) k = c → NeedM l p) ∧ Below (w.heap.size + 1) (w.alloc (.cells #[.int .i64 0, .int .i64 0] 35)) ws) (fun i _ => 49 - (intOf i).toNat)
        case atStart => exact ⟨0, by omega, rfl, fun j h => absurd h (by omega), HB2.out⟩
        case round =>
          clear HB2
          obtain ⟨j, hj, rfl, hm, hb⟩ := hrel
          have hsz := hb.size
          rw [World.size_alloc] at hsz
          by_cases hjt : j < 49
          · have d3 : decide ((j : Int) ≤ 48) = true := decide_eq_true (by omega)
            obtain ⟨y, hy⟩ : ∃ y, noteC ⟨(j : Int), (k : Int)⟩ = y := ⟨_, rfl⟩
            have HY := Lib.hid hy
            have hyc : candC ((j : Int) % 7) (k : Int) = y := by rw [← noteC_cand (by omega)]; exact hy
            have hok2 : NtOk ⟨(j : Int), (k : Int)⟩ := ⟨by simp only; omega, by simp only; omega, HV.out.1, HV.out.2⟩
            have HOK2 := keptN hok2
            have HM := keptN hm
            have hB1 := hb.alloc hsz (.cells #[.int .i64 (j : Int), .int .i64 (k : Int)] 35)
            have hnb := heap_alloc_new wr (.cells #[.int .i64 (j : Int), .int .i64 (k : Int)] 35)
            have HNB := keptN hnb
            clear hy hok2 hm hnb
            go_wp2_with fail
            refine (s_noteCell _ (j : Int) (k : Int) y HOK2.out HY).mono ?_
            rintro e w4 ⟨rfl, hb4⟩
            have hb5 := hB1.trans (hb4.mono (by rw [World.size_alloc]; omega))
            have hnb4 := (hb4.block wr.heap.size (by simp)).trans HNB.out
            have n0 : w4.cell? ⟨wr.heap.size, 0, none⟩ = some (.int .i64 (j : Int)) := by rw [cell_of_row w4 _ 0 _ _ _ hnb4]; rfl
            have n1 : w4.cell? ⟨wr.heap.size, 1, none⟩ = some (.int .i64 (k : Int)) := by rw [cell_of_row w4 _ 1 _ _ _ hnb4]; rfl
            have HB5 := keptN hb5
            clear hb4 hnb4 hB1 hb HNB
            by_cases hyy : y = c
            · subst hyy
              obtain ⟨b, hbn⟩ := boolOfN (NeedM l (j : Int))
              have HBN := keptN hbn
              cases b with
              | true =>
                have hm' : Hid (∀ p : Nat, p < j + 1 → candC ((p : Int) % 7) k = y → NeedM l p) := fun p hp hpc => by
                  by_cases e : p = j
                  · subst e; exact hbn.1 rfl
                  · exact HM.out p (by omega) hpc
                clear hbn hb5
                go_wp2_with fail
                refine (s_needsMark _ l (j : Int) true hl.1 hl.2 (by omega) (by omega) HBN).mono ?_
                rintro e w5 ⟨rfl, rfl⟩
                go_wp2
                go_roundw
                case rel => exact ⟨j + 1, by omega, by go_num, hm'.out, HB5.out⟩
                case measure => simp [intOf]; omega
              | false =>
                have HF : Hid (NrIs y l ⟨(j : Int), (k : Int)⟩ true) := .inl ⟨rfl, .inr ⟨_, _, HV.out, ⟨by omega, by omega⟩, hyc, fun h => by have := hbn.2 h; simp at this, rfl⟩⟩
                have hz0 := zero_kept hb5
                have c0 : w4.cell? ⟨w.heap.size, 0, none⟩ = some (.int .i64 0) := by rw [cell_of_row w4 _ 0 _ _ _ hz0]; rfl
                have c1 : w4.cell? ⟨w.heap.size, 1, none⟩ = some (.int .i64 0) := by rw [cell_of_row w4 _ 1 _ _ _ hz0]; rfl
                have f0 : w4.frozen? ⟨w.heap.size, 0, none⟩ = false := frozen_of_row w4 _ 0 _ _ hz0
                have f1 : w4.frozen? ⟨w.heap.size, 1, none⟩ = false := frozen_of_row w4 _ 1 _ _ hz0
                have HZ0 := keptN hz0
                have HB9 := keptN (below_zero hb5)
                clear hbn hb5 hz0 hyc
                go_wp2_with fail
                refine (s_needsMark _ l (j : Int) false hl.1 hl.2 (by omega) (by omega) HBN).mono ?_
                rintro e w5 ⟨rfl, rfl⟩
                go_wp2
                have k1 := heap_setCell_same w4 w.heap.size 0 _ _ (.int .i64 (j : Int)) HZ0.out
                have k2 := heap_setCell_same _ w.heap.size 1 _ _ (.int .i64 (k : Int)) k1
                refine bodyPost_ret (results_cell_tmp rfl _ _ w.heap.size _ #[.int .i64 (j : Int), .int .i64 (k : Int)] _ _ rfl k2 Try.underlying35 rfl (by kernel_rfl)) rfl ?_
                exact ⟨(j : Int), (k : Int), true, rfl, HF.out, below_two HB9.out _ _⟩
            · have d4 : (y == c) = false := by simpa using hyy
              have hm' : Hid (∀ p : Nat, p < j + 1 → candC ((p : Int) % 7) k = c → NeedM l p) := fun p hp hpc => by
                by_cases e : p = j
                · subst e; rw [hyc] at hpc; exact absurd hpc hyy
                · exact HM.out p (by omega) hpc
              clear hyy hyc hb5
              go_wp2
              go_roundw
              case rel => exact ⟨j + 1, by omega, by go_num, hm'.out, HB5.out⟩
              case measure => simp [intOf]; omega
          · obtain rfl : j = 49 := by omega
            have hn' : Hid (∀ v : Nat, v < k + 1 → restC v ≠ c ∧ ∀ p, 0 ≤ p → p ≤ 48 → candC (p % 7) v = c → NeedM l p) := fun v hv => by
              by_cases e : v = k
              · subst e
                refine ⟨HXR.out, fun p h0 h1 hp => ?_⟩
                have := hm p.toNat (by omega)
                rw [Int.toNat_of_nonneg h0] at this
                exact this hp
              · exact HN.out v (by omega)
            clear hm
            go_wp2
            go_roundw
            case rel => exact ⟨k + 1, by omega, by go_num, hn'.out, hb⟩
            case measure => simp [intOf]; omega
    · obtain rfl : k = 4 := by omega
      have HF : Hid (NrIs c l ⟨0, 0⟩ false) := .inr ⟨rfl, fun v hv => by
        have := hn v.toNat (by have := hv.1; have := hv.2; omega)
        rwa [Int.toNat_of_nonneg hv.1] at this⟩
      have hz0 := zero_kept hb
      have c0 : wr.cell? ⟨w.heap.size, 0, none⟩ = some (.int .i64 0) := by rw [cell_of_row wr _ 0 _ _ _ hz0]; rfl
      have c1 : wr.cell? ⟨w.heap.size, 1, none⟩ = some (.int .i64 0) := by rw [cell_of_row wr _ 1 _ _ _ hz0]; rfl
      have f0 : wr.frozen? ⟨w.heap.size, 0, none⟩ = false := frozen_of_row wr _ 0 _ _ hz0
      have f1 : wr.frozen? ⟨w.heap.size, 1, none⟩ = false := frozen_of_row wr _ 1 _ _ hz0
      have HZ0 := keptN hz0
      have HB9 := keptN (below_zero hb)
      clear hn hz0 hb
      go_wp2
      have k1 := heap_setCell_same wr w.heap.size 0 _ _ (.int .i64 0) HZ0.out
      have k2 := heap_setCell_same _ w.heap.size 1 _ _ (.int .i64 0) k1
      refine bodyPost_ret (results_cell_tmp rfl _ _ w.heap.size _ #[.int .i64 0, .int .i64 0] _ _ rfl k2 Try.underlying35 rfl (by kernel_rfl)) rfl ?_
      exact ⟨0, 0, false, rfl, HF.out, below_two HB9.out _ _⟩
end Go.Proofs.Ytfofjjfnejigaaa
