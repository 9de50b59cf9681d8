
/- AsciiOf in the program. -/
import Derived.Test.YthojahknocageaaAa
namespace Go.Proofs.Ythojahknocageaa
open Go.RowKit

/-- the characters of valid cells -/
def ascL (zs : List Int) : List UInt8 := if ValidL zs then asL zs else []
theorem asL_take {zs : List Int} {k : Nat} {y : Int} (h : k < zs.length) (hy : zs.getD k 0 = y) : asL (zs.take (k + 1)) = asL (zs.take k) ++ [ach y] := by
  rw [take_succ' rfl h, hy, asL_append]; rfl
theorem i_ValidCells_a (w : World) (u : Value) (zs : List Int) (b : Bool) (hx : IntsAt w u zs) (hb : Hid (decide (ValidL zs) = b)) :
    Calls Try.prog 12 #[u] w fun e w' => e = .returned (.bool b) ∧ w = w' := by
  have := i_ValidCells w u zs hx
  rw [hb.out] at this
  exact this
set_option maxHeartbeats 2000000 in
theorem i_AsciiOf (w : World) (u : Value) (zs : List Int) (hx : IntsAt w u zs) :
    Calls Try.prog 10 #[u] w fun e w' => TextOut (ascL zs) w e w' := by
  obtain ⟨i0, hi, hz0, hz1, hz2⟩ := info_parts infoByte
  obtain ⟨a, c, hu, x1, x2, x3⟩ := id hx
  by_cases hv : ValidL zs
  · have HB := Lib.hid (decide_eq_true hv)
    have hF : Hid (ascL zs = asL zs) := if_pos hv
    have hn200 := hv.1
    obtain ⟨_, hcells⟩ := hv
    obtain ⟨n, hn⟩ : ∃ n, zs.length = n := ⟨_, rfl⟩
    rw [hn] at x1 x3 hn200 hu
    have HN := Lib.hid hn
    subst hu
    clear hn
    go_enter Try.func10, Try.ntmps10
    go_wp2_with fail
    refine (i_ValidCells_a _ _ zs true hx HB).mono ?_
    rintro e w' ⟨rfl, rfl⟩
    clear hx HB
    go_wp2_with fail
    go_loopw [3, 11] (fun v i wr => ∃ k : Nat, k ≤ n ∧ i = .int .i64 k ∧ OwnBytes wr w.heap.size v (asL (zs.take k)) ∧ Below w.heap.size w wr) (fun _ i _ => n - (intOf i).toNat)
    case atStart => exact ⟨0, Nat.zero_le _, rfl, OwnBytes.nil _ _, Below.refl _ _⟩
    case round =>
      obtain ⟨k, hk, rfl, hown, hb⟩ := hrel
      have hsw := hb.size
      by_cases hlt : k < n
      · rcases x3 with rfl | ⟨g, off, rfl, h4⟩
        · exact absurd HN.out (by simp; omega)
        have cx := (hb.cell (World.block_lt_of_cell? w _ (h4 k hlt))).trans (h4 k hlt)
        obtain ⟨y, hy⟩ : ∃ y, zs.getD k 0 = y := ⟨_, rfl⟩
        have hkl : k < zs.length := by rw [HN.out]; exact hlt
        have hym := hcells y (by rw [← hy, List.getD_eq_getElem?_getD, List.getElem?_eq_getElem hkl, Option.getD_some]; exact List.getElem_mem _)
        obtain ⟨hy0, hy64⟩ := hym
        obtain ⟨m, rfl⟩ : ∃ m : Nat, y = m := ⟨y.toNat, by omega⟩
        have hm : m < 64 := by omega
        have hS : Hid (asL (zs.take (k + 1)) = asL (zs.take k) ++ [ach (m : Int)]) := asL_take hkl hy
        rw [hy] at cx
        have hll : (asL (zs.take k)).length ≤ 200 := by rw [asL_length, List.length_take]; omega
        obtain ⟨l, hl⟩ : ∃ l, asL (zs.take k) = l := ⟨_, rfl⟩
        rw [hl] at hown hS hll
        have m0 : (0 : Int) ≤ (m : Int) := by omega
        have m1 : (m : Int) < 64 := by omega
        clear hy h4 hl hkl hcells
        have HBY : Hid ((((((⟨#[32, 65, 49, 66, 39, 75, 50, 76, 64, 67, 73, 70, 47, 77, 83, 80, 34, 69, 51, 72, 57, 79, 54, 82, 94, 68, 74, 71, 62, 78, 84, 81, 44, 42, 53, 60, 45, 85, 56, 86, 46, 37, 91, 36, 43, 88, 33, 38, 59, 58, 52, 92, 48, 90, 55, 40, 95, 63, 87, 93, 35, 89, 41, 61]⟩ : ByteArray)[m]'(by show m < 64; exact hm)).toNat : Nat)) : Int) = ((ach (m : Int)).toNat : Int)) := by
          show _ = _
          rw [← ach_nat hm]; rfl
        go_wp2_with (at_builtin; go_loud (refine wpList_append_own _ rfl _ _ 22 rfl w.heap.size 5 i0 (.int .u8 0) 1 1 Try.underlying22 hi hz0 hz1 hz2 rfl (by decide) _ _ _ rfl (hown.alloc _) ⟨wr.heap.size, 0, none⟩ 1 1 (byt [ach (m : Int)]) rfl rfl (new_byte HBY) one_byte_cell (by unfold maxLen; omega) (by omega) (by simp; omega) ?_))
        intro v' w2 hown' hgrow _
        have R1 := OwnBytes.more hown' rfl
        have R2 := below_append_b (hb.alloc hsw _) (Nat.le_refl _) (by simp; omega) (hown.alloc _) hgrow
        clear hown' hgrow hown hb HBY
        go_wp2
        go_roundw
        case rel => exact ⟨k + 1, by omega, by go_num, by rw [hS.out]; exact R1, R2⟩
        case measure => simp [intOf]; omega
      · obtain rfl : k = n := by omega
        rw [List.take_of_length_le (by rw [HN.out]; omega), ← hF.out] at hown
        have hcv := conv_own hown
        obtain ⟨_, _, _, rfl⟩ := hown.isSlice
        clear hown
        go_wp2
        go_ret
        exact ⟨rfl, hb⟩
  · have HB := Lib.hid (decide_eq_false hv)
    have hF : Hid (ascL zs = []) := if_neg hv
    subst hu
    clear hv
    go_enter Try.func10, Try.ntmps10
    go_wp2_with fail
    refine (i_ValidCells_a _ _ zs false hx HB).mono ?_
    rintro e w' ⟨rfl, rfl⟩
    go_wp2
    go_ret
    exact ⟨by rw [hF.out]; rfl, Below.refl _ _⟩
end Go.Proofs.Ythojahknocageaa
