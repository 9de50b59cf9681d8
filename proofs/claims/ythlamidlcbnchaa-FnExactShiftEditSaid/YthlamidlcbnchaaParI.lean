
/- ParseCells in the program. -/
import Derived.Test.YthlamidlcbnchaaPar
namespace Go.Proofs.Ythlamidlcbnchaa
open Go.RowKit

theorem toList_data (s : ByteArray) : s.toList = s.data.toList := ByteArray.toList_eq s
theorem byte_eq {s : ByteArray} {k : Nat} (h : k < s.size) (h2 : k < s.data.toList.length) : s.data.toList[k]'h2 = s[k]'h := rfl
theorem size_data (s : ByteArray) : s.data.toList.length = s.size := by rw [Array.length_toList]; rfl
theorem extract_list (s : ByteArray) (a b : Nat) : (s.extract a b).data.toList = sub s.data.toList a b := by
  rw [ByteArray.data_extract, Array.toList_extract]; rfl
theorem u8_ne {b c : UInt8} (h : b ≠ c) : b.toNat ≠ c.toNat := fun e => h (UInt8.toNat_inj.1 e)

theorem pc_zero : pc [48] = 0 := pc_of (c := 0) (by omega) rfl
theorem pc_short {p : List UInt8} (h : p = [] ∨ 6 < p.length) : pc p = -1 := by
  apply pc_none
  rintro c hc rfl
  have := cellT_len c hc
  rcases h with h | h
  · rw [h] at this; simp at this
  · omega
theorem dotsOfB_getD {p : List UInt8} {k : Nat} (h : k < p.length) : (dotsOfB p).getD k 0 = (p[k].toNat : Int) - 48 := by
  simp [dotsOfB, List.getD_eq_getElem?_getD, h]
theorem dotsOfB_length (p : List UInt8) : (dotsOfB p).length = p.length := by simp [dotsOfB]

end Go.Proofs.Ythlamidlcbnchaa
