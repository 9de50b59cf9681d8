
/- AsciiOf in the model. -/
import Derived.Test.YthojahknocageaaAb
import Derived.Test.YthojahknocageaaRange
import Derived.Deep.QuietTactic
import Derived.BigQuiet
namespace Go.Proofs.Ythojahknocageaa
open Go.RowKit

theorem keptA {p : Prop} (h : p) : Hid p := h
theorem s_asciiMap (w : World) :
    Calls Try.prog 43 #[] w fun e w' => e = .returned (.string amapB) ∧ w' = w := by
  go_enter Try.func43, Try.ntmps43
  go_wp2
  go_ret
  exact ⟨rfl, rfl⟩
theorem amap_cut : ∀ m : Nat, m < 64 → (amapB.extract m (m + 1)).data.toList = [ach (m : Int)] := by decide +kernel
theorem amapB_cut {m : Nat} (h : m < 64) : amapB.extract m (m + 1) = bs [ach (m : Int)] := by
  rw [← amap_cut m h, bs_of]
set_option maxHeartbeats 2000000 in
theorem s_asciiOf (w : World) (u : Value) (zs : List Int) (hx : IntsAt w u zs) (hv : Hid (ValidL zs)) :
    Calls Try.prog 27 #[u] w fun e w' => TextOut (asL zs) w e w' := by
  obtain ⟨a, c, hu, x1, x2, x3⟩ := id hx
  have hn200 := hv.out.1
  obtain ⟨n, hn⟩ : ∃ n, zs.length = n := ⟨_, rfl⟩
  rw [hn] at x1 x3 hn200 hu
  have HN := Lib.hid hn
  subst hu
  obtain ⟨A, hA⟩ : ∃ A, amapB = A := ⟨_, rfl⟩
  have hAs : A.size = 64 := by rw [← hA]; rfl
  have HAC : Hid (∀ m : Nat, m < 64 → A.extract m (m + 1) = bs [ach (m : Int)]) := fun m hm => by rw [← hA]; exact amapB_cut hm
  have HM : Hid (∀ w, Calls Try.prog 43 #[] w fun e w' => e = .returned (.string A) ∧ w' = w) := fun w => by rw [← hA]; exact s_asciiMap w
  have HAS := keptA hAs
  clear hn hx hA hAs
  go_enter Try.func27, Try.ntmps27
  go_wp2_with fail
  go_loopw [3, 4] (fun v i wr => ∃ k : Nat, k ≤ n ∧ i = .int .i64 k ∧ v = .string (bs (asL (zs.take k))) ∧ ∃ q, wr = w.drewN q) (fun _ i _ => n - (intOf i).toNat)
  case atStart => exact ⟨0, Nat.zero_le _, rfl, rfl, 0, rfl⟩
  case round =>
    obtain ⟨k, hk, rfl, rfl, q, rfl⟩ := hrel
    by_cases hlt : k < n
    · rcases x3 with rfl | ⟨g, off, rfl, h4⟩
      · exact absurd HN.out (by simp; omega)
      have cx := h4 k hlt
      obtain ⟨y, hy⟩ : ∃ y, zs.getD k 0 = y := ⟨_, rfl⟩
      have hkl : k < zs.length := by rw [HN.out]; exact hlt
      obtain ⟨hy0, hy64⟩ := hv.out.2 y (by rw [← hy, List.getD_eq_getElem?_getD, List.getElem?_eq_getElem hkl, Option.getD_some]; exact List.getElem_mem _)
      obtain ⟨m, rfl⟩ : ∃ m : Nat, y = m := ⟨y.toNat, by omega⟩
      have hm : m < 64 := by omega
      have hS : Hid (asL (zs.take (k + 1)) = asL (zs.take k) ++ [ach (m : Int)]) := asL_take hkl hy
      rw [hy] at cx
      have hll : (asL (zs.take k)).length ≤ 200 := by rw [asL_length, List.length_take]; omega
      obtain ⟨l, hl⟩ : ∃ l, asL (zs.take k) = l := ⟨_, rfl⟩
      rw [hl] at hS hll ⊢
      have hE := HAC.out m hm
      have hAs := HAS.out
      have hz : (bs l).size ≤ 200 := by rw [bs_size]; exact hll
      have hz1 : (bs [ach (m : Int)]).size = 1 := bs_size _
      have hadd : ¬ ((bs l).size + (bs [ach (m : Int)]).size > 9223372036854775807) := by rw [hz1]; omega
      have hnot : ((9223372036854775807 : Nat) < (bs l).size + (bs [ach (m : Int)]).size) = False := eq_false hadd
      have m0 : (0 : Int) ≤ (m : Int) := by omega
      have m1 : (m : Int) + 1 ≤ 64 := by omega
      have m2 : (m : Int) ≤ (m : Int) + 1 := by omega
      have k0 : (0 : Int) ≤ (k : Int) := by omega
      have k1 : (k : Int) < (n : Int) := by omega
      have u1 : IntKind.i64.wrap ((m : Int) + 1) = (m : Int) + 1 := IntWalk.i64_in _ (by omega)
      have u2 : ((m : Int) + 1).toNat = m + 1 := by omega
      have u3 : ((m : Int)).toNat = m := by omega
      have cq : (w.drewN q).cell? ⟨g, off + k, none⟩ = some (.int .i64 (m : Int)) := cx
      obtain ⟨wq, hwq⟩ : ∃ wq, w.drewN q = wq := ⟨_, rfl⟩
      have HWQ := Lib.hid hwq
      rw [hwq] at cq ⊢
      have HMq : Hid (∀ j, Calls Try.prog 43 #[] (wq.drewN j) fun e w' => e = .returned (.string A) ∧ w' = wq.drewN j) := fun j => HM.out _
      clear hy h4 hl hkl hz hz1 hadd cx hwq
      go_wp2_with fail
      go_quiet (first | (go_at_call 43; with_reducible exact Calls.quiet_of_same (HMq.out _)))
      clear u1 u2 u3
      go_wp2
      go_roundw
      case rel => exact ⟨k + 1, by omega, by go_num, by rw [hS.out, ← bs_append], _, by rw [← HWQ.out, World.drewN_drewN]⟩
      case measure => simp [intOf]; omega
    · obtain rfl : k = n := by omega
      rw [List.take_of_length_le (by rw [HN.out]; omega)]
      go_wp2
      go_ret
      exact ⟨rfl, below_drewN (Below.refl _ _) _⟩
theorem s_validCells_a (w : World) (u : Value) (zs : List Int) (b : Bool) (hx : IntsAt w u zs) (hb : Hid (decide (ValidL zs) = b)) :
    Calls Try.prog 26 #[u] w fun e w' => e = .returned (.bool b) ∧ w = w' := by
  have := s_validCells w u zs hx
  rw [hb.out] at this
  exact this
set_option maxHeartbeats 1000000 in
theorem s_AsciiOf (w : World) (u : Value) (zs : List Int) (hx : IntsAt w u zs) :
    Calls Try.prog 11 #[u] w fun e w' => TextOut (ascL zs) w e w' := by
  have HX := keptA hx
  obtain ⟨a, c, rfl, _, _, _⟩ := hx
  by_cases hv : ValidL zs
  · have HB := Lib.hid (decide_eq_true hv)
    have HV := Lib.hid hv
    have hF : Hid (ascL zs = asL zs) := if_pos hv
    clear hv
    go_enter Try.func11, Try.ntmps11
    go_wp2_with fail
    refine (s_validCells_a _ _ zs true HX.out HB).mono ?_
    rintro e w' ⟨rfl, rfl⟩
    go_wp2_with fail
    refine (s_asciiOf _ _ zs HX.out HV).mono ?_
    rintro e w1 ⟨rfl, hb1⟩
    go_wp2
    go_ret
    exact ⟨by rw [hF.out]; rfl, hb1⟩
  · have HB := Lib.hid (decide_eq_false hv)
    have hF : Hid (ascL zs = []) := if_neg hv
    clear hv
    go_enter Try.func11, Try.ntmps11
    go_wp2_with fail
    refine (s_validCells_a _ _ zs false HX.out HB).mono ?_
    rintro e w' ⟨rfl, rfl⟩
    go_wp2
    go_ret
    exact ⟨by rw [hF.out]; rfl, Below.refl _ _⟩
end Go.Proofs.Ythojahknocageaa
