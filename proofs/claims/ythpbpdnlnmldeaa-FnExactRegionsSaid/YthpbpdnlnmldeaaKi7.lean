
/- Lone dots: nothing is raised beside them. -/
import Derived.Test.YthpbpdnlnmldeaaKh7
import Derived.Deep.QuietTactic
import Derived.BigQuiet
import Derived.IntWalk
namespace Go.Proofs.Ythpbpdnlnmldeaa
open Go.RowKit

/-- nothing is raised in the eight places around a place, nor there -/
def LoneAt (f : Nat → Nat → Int) (n m y x : Nat) : Prop := ∀ i j, i < n → j < m → i ≤ y + 1 → y ≤ i + 1 → j ≤ x + 1 → x ≤ j + 1 → f i j ≠ 1
set_option maxHeartbeats 1000000 in
theorem i_beside_none (w : World) (a : Option Addr) (n c m : Nat) (f : Nat → Nat → Int) (y x : Nat) (hp : PicAt w a n c m f) (hn : n ≤ 1000) (hm : m ≤ 1000) (hy : y < n) (hx : x < m) (h0 : LoneAt f n m y x) :
    Calls Try.prog 64 #[.slice a n c, .agg #[.int .i64 y, .int .i64 x]] w fun e w' => e = .returned (.slice none 0 0) ∧ Below w.heap.size w w' := by
  have HP := keptI hp
  have H0 := keptI h0
  obtain ⟨g, off, _, _, _, rfl, _⟩ := hp.row hy
  clear hp h0
  have u1 : IntKind.i64.wrap ((y : Int) - 1) = (y : Int) - 1 := IntWalk.i64_in _ (by omega)
  have u2 : IntKind.i64.wrap ((x : Int) - 1) = (x : Int) - 1 := IntWalk.i64_in _ (by omega)
  have u3 : IntKind.i64.wrap ((y : Int) + 1) = (y : Int) + 1 := IntWalk.i64_in _ (by omega)
  have u4 : IntKind.i64.wrap ((x : Int) + 1) = (x : Int) + 1 := IntWalk.i64_in _ (by omega)
  have hA0 : (w.alloc (.cells #[.int .i64 y, .int .i64 x] 48)).cell? ⟨w.heap.size, 0, none⟩ = some (.int .i64 y) := by
    rw [cell_of_row _ w.heap.size 0 _ _ _ (heap_alloc_new w _)]; rfl
  have hA1 : (w.alloc (.cells #[.int .i64 y, .int .i64 x] 48)).cell? ⟨w.heap.size, 1, none⟩ = some (.int .i64 x) := by
    rw [cell_of_row _ w.heap.size 1 _ _ _ (heap_alloc_new w _)]; rfl
  have hBA : Below w.heap.size w (w.alloc (.cells #[.int .i64 y, .int .i64 x] 48)) := (Below.refl _ _).alloc (Nat.le_refl _) _
  have HPA := keptI (HP.out.below hBA)
  have HBA := keptI hBA
  obtain ⟨Y, hY⟩ : ∃ Y, ((y : Int) - 1).toNat = Y := ⟨_, rfl⟩
  obtain ⟨X, hX⟩ : ∃ X, ((x : Int) - 1).toNat = X := ⟨_, rfl⟩
  have hY1 : y ≤ Y + 1 ∧ Y ≤ y := by omega
  have hX1 : x ≤ X + 1 ∧ X ≤ x := by omega
  have HNY : Hid (∀ wy, Calls Try.prog 66 #[.int .i64 ((y : Int) - 1)] wy fun e w' => e = .returned (.int .i64 (Y : Int)) ∧ wy = w') := fun wy => by rw [← hY]; exact i_notNegative _ wy
  have HNX : Hid (∀ wy, Calls Try.prog 66 #[.int .i64 ((x : Int) - 1)] wy fun e w' => e = .returned (.int .i64 (X : Int)) ∧ wy = w') := fun wy => by rw [← hX]; exact i_notNegative _ wy
  clear hBA hY hX HP
  go_enter Try.func64, Try.ntmps64
  go_wp2_with fail
  generalize (w.alloc (.cells #[.int .i64 y, .int .i64 x] 48)) = wA at HPA HBA hA0 hA1 ⊢
  refine (HNY.out wA).mono ?_
  rintro e w1 ⟨rfl, rfl⟩
  go_wp2
  go_loopw [5, 6] (fun o i wr => ∃ k : Nat, o = .slice none 0 0 ∧ i = .int .i64 k ∧ k ≤ n ∧ y ≤ k + 1 ∧ wr = wA) (fun _ i _ => n - (intOf i).toNat)
  case atStart => exact ⟨Y, rfl, rfl, by omega, hY1.1, rfl⟩
  case round =>
    obtain ⟨k, rfl, rfl, hk, hyk, hw⟩ := hrel
    subst hw
    by_cases hlt : k < n
    · have d1 : decide ((k : Int) < (n : Int)) = true := decide_eq_true (by omega)
      have d1' : decide (k < n) = true := decide_eq_true hlt
      by_cases hle : k ≤ y + 1
      · have d2 : decide ((k : Int) ≤ (y : Int) + 1) = true := decide_eq_true (by omega)
        obtain ⟨_, _, b, o, d, e1, c0, _, _, hcx⟩ := HPA.out.row hlt
        injection e1 with e1
        injection e1 with e1 e2
        subst e1 e2
        have HCX := keptI hcx
        have p1 : (0 : Int) ≤ (k : Int) := by omega
        have p2 : (k : Int) < (n : Int) := by omega
        clear hcx
        go_wp2_with fail
        refine (HNX.out _).mono ?_
        rintro e w1 ⟨rfl, rfl⟩
        go_wp2
        go_loopw [5, 7] (fun o j wx => ∃ q : Nat, o = .slice none 0 0 ∧ j = .int .i64 q ∧ q ≤ m ∧ x ≤ q + 1 ∧ wx = wr) (fun _ j _ => m - (intOf j).toNat)
        case atStart => exact ⟨X, rfl, rfl, by omega, hX1.1, rfl⟩
        case round =>
          obtain ⟨q, rfl, rfl, hq, hxq, hw⟩ := hrel
          subst hw
          by_cases hqt : q < m
          · have d3 : decide ((q : Int) < (m : Int)) = true := decide_eq_true (by omega)
            have d3' : decide (q < m) = true := decide_eq_true hqt
            by_cases hqe : q ≤ x + 1
            · have d4 : decide ((q : Int) ≤ (x : Int) + 1) = true := decide_eq_true (by omega)
              have cx := HCX.out q hqt
              have hz := H0.out k q hlt hqt hle hyk hqe hxq
              obtain ⟨z, hzz⟩ : ∃ z, f k q = z := ⟨_, rfl⟩
              rw [hzz] at cx hz
              have d5 : (z == 1) = false := by simp; exact hz
              have p3 : (0 : Int) ≤ (q : Int) := by omega
              have p4 : (q : Int) < (m : Int) := by omega
              clear hzz
              go_wp2
              go_roundw
              case rel => exact ⟨q + 1, rfl, by go_num, by omega, by omega, trivial⟩
              case measure => simp [intOf]; omega
            · have d4 : decide ((q : Int) ≤ (x : Int) + 1) = false := decide_eq_false (by omega)
              go_wp2
              go_roundw
              case rel => exact ⟨k + 1, rfl, by go_num, by omega, by omega, trivial⟩
              case measure => simp [intOf]; omega
          · have d3 : decide ((q : Int) < (m : Int)) = false := decide_eq_false (by omega)
            have d3' : decide (q < m) = false := decide_eq_false hqt
            go_wp2
            go_roundw
            case rel => exact ⟨k + 1, rfl, by go_num, by omega, by omega, trivial⟩
            case measure => simp [intOf]; omega
      · have d2 : decide ((k : Int) ≤ (y : Int) + 1) = false := decide_eq_false (by omega)
        go_wp2
        go_ret
        exact ⟨rfl, HBA.out⟩
    · have d1 : decide ((k : Int) < (n : Int)) = false := decide_eq_false (by omega)
      have d1' : decide (k < n) = false := decide_eq_false hlt
      go_wp2
      go_ret
      exact ⟨rfl, HBA.out⟩
end Go.Proofs.Ythpbpdnlnmldeaa
