
/- Characters of cells: what both sides say of them. -/
import Derived.Test.YthojahknocageaaTxt
import Derived.Test.YthojahknocageaaVal
namespace Go.Proofs.Ythojahknocageaa
open Go.RowKit

/-- the characters of all cells -/
def amap : List UInt8 := [32, 65, 49, 66, 39, 75, 50, 76, 64, 67, 73, 70, 47, 77, 83, 80, 34, 69, 51, 72, 57, 79, 54, 82, 94, 68, 74, 71, 62, 78, 84, 81, 44, 42, 53, 60, 45, 85, 56, 86, 46, 37, 91, 36, 43, 88, 33, 38, 59, 58, 52, 92, 48, 90, 55, 40, 95, 63, 87, 93, 35, 89, 41, 61]
def amapB : ByteArray := ⟨#[32, 65, 49, 66, 39, 75, 50, 76, 64, 67, 73, 70, 47, 77, 83, 80, 34, 69, 51, 72, 57, 79, 54, 82, 94, 68, 74, 71, 62, 78, 84, 81, 44, 42, 53, 60, 45, 85, 56, 86, 46, 37, 91, 36, 43, 88, 33, 38, 59, 58, 52, 92, 48, 90, 55, 40, 95, 63, 87, 93, 35, 89, 41, 61]⟩
theorem amapB_bs : amapB = bs amap := rfl
theorem amapB_size : amapB.size = 64 := rfl
def ach (z : Int) : UInt8 := amap.getD z.toNat 0
/-- the characters of cells -/
def asL (zs : List Int) : List UInt8 := zs.map ach
theorem asL_length (zs : List Int) : (asL zs).length = zs.length := by simp [asL]
theorem asL_append (a b : List Int) : asL (a ++ b) = asL a ++ asL b := by simp [asL]
/-- the cell of a character, 64 if there is none -/
def acell (b : UInt8) : Nat := amap.findIdx (fun c => c == b)
theorem acell_tab : ∀ c : Nat, c < 64 → acell (amap.getD c 0) = c := by decide +kernel
theorem acell_le (b : UInt8) : acell b ≤ 64 := List.findIdx_le_length (p := fun c => c == b) (xs := amap)
theorem acell_hit {b : UInt8} (h : acell b < 64) : amap.getD (acell b) 0 = b := by
  have h2 : amap.findIdx (fun c => c == b) < amap.length := h
  have := List.findIdx_getElem (p := fun c => c == b) (xs := amap) (w := h2)
  show amap.getD (amap.findIdx (fun c => c == b)) 0 = b
  rw [List.getD_eq_getElem?_getD, List.getElem?_eq_getElem h2, Option.getD_some]
  simpa using this
theorem acell_is {b : UInt8} {i : Nat} (hi : i < 64) (h : amap.getD i 0 = b) (hn : ∀ j, j < i → amap.getD j 0 ≠ b) : acell b = i := by
  subst h
  exact acell_tab i hi
theorem acell_end {b : UInt8} (hn : ∀ j, j < 64 → amap.getD j 0 ≠ b) : acell b = 64 := by
  by_cases h : acell b < 64
  · exact absurd (acell_hit h) (hn _ h)
  · have := acell_le b; omega
/-- the cells of characters -/
def readA (l : List UInt8) : Option (List Int) := if l.length ≤ 200 ∧ ∀ b ∈ l, acell b < 64 then some (l.map (fun b => (acell b : Int))) else none
theorem readA_asL {zs : List Int} (h : ValidL zs) : readA (asL zs) = some zs := by
  unfold readA
  have h1 : ∀ z ∈ zs, acell (ach z) = z.toNat := fun z hz => acell_tab z.toNat (by have := h.2 z hz; omega)
  rw [if_pos]
  · congr 1
    unfold asL
    rw [List.map_map]
    conv => rhs; rw [← List.map_id zs]
    apply List.map_congr_left
    intro z hz
    have := h.2 z hz
    simp only [Function.comp, h1 z hz, id]
    omega
  · refine ⟨by rw [asL_length]; exact h.1, fun b hb => ?_⟩
    obtain ⟨z, hz, rfl⟩ := List.mem_map.1 hb
    rw [h1 z hz]
    have := h.2 z hz
    omega
theorem asL_readA {l : List UInt8} {zs : List Int} (h : readA l = some zs) : asL zs = l ∧ ValidL zs := by
  unfold readA at h
  split at h
  · rename_i hc
    injection h with h
    subst h
    refine ⟨?_, by rw [List.length_map]; exact hc.1, fun z hz => ?_⟩
    · unfold asL
      rw [List.map_map]
      conv => rhs; rw [← List.map_id l]
      apply List.map_congr_left
      intro b hb
      show amap.getD ((acell b : Int)).toNat 0 = b
      rw [Int.toNat_natCast]
      exact acell_hit (hc.2 b hb)
    · obtain ⟨b, hb, rfl⟩ := List.mem_map.1 hz
      have := hc.2 b hb
      omega
  · simp at h
theorem ach_nat {m : Nat} (h : m < 64) : amapB.data.toList[m]'(by show m < 64; exact h) = ach (m : Int) := by
  show amap[m]'_ = _
  unfold ach
  rw [Int.toNat_natCast, List.getD_eq_getElem?_getD, List.getElem?_eq_getElem (by show m < 64; exact h), Option.getD_some]; rfl
end Go.Proofs.Ythojahknocageaa
