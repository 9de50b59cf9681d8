
/- The laws' equalEdit on the same edit. -/
import Derived.Test.YthlamidlcbnchaaEdf
import Derived.Test.YthlamidlcbnchaaEdb
import Derived.Test.YthlamidlcbnchaaReg
namespace Go.Proofs.Ythlamidlcbnchaa
open Go.RowKit

set_option maxHeartbeats 1000000 in
theorem equalEdit_same (p c : Int) (t : ByteArray) (w : World) :
    Calls Try.prog 21 #[edV p c t, edV p c t] w fun e w' => e = .returned (.bool true) ∧ Below w.heap.size w w' := by
  go_enter Try.func21, Try.ntmps21
  go_wp2
  go_ret
  exact ⟨rfl, (ebox2 w p c t p c t).2.2⟩
theorem ed_back {s t : ByteArray} {q d : Nat} (hq : q + d ≤ s.size) : edS (edS s q d t) q t.size (s.extract q (q + d)) = s ∧ (edS s q d t).extract q (q + t.size) = t := by
  have ext : ∀ a b : ByteArray, a.data.toList = b.data.toList → a = b := fun a b h => by
    cases a; cases b; simp at h; rw [h]
  have hl := size_data s
  obtain ⟨l, hL⟩ : ∃ l, s.data.toList = l := ⟨_, rfl⟩
  obtain ⟨m, hM⟩ : ∃ m, t.data.toList = m := ⟨_, rfl⟩
  have hm : t.size = m.length := by rw [← hM, size_data]
  rw [hL] at hl
  have hO : (edS s q d t).data.toList = l.take q ++ m ++ l.drop (q + d) := by
    unfold edS
    rw [ByteArray.data_append, ByteArray.data_append, Array.toList_append, Array.toList_append, extract_list, extract_list, hL, hM]
    simp only [sub, List.drop_zero, Nat.sub_zero]
    rw [List.take_of_length_le (l := l.drop (q + d)) (by rw [List.length_drop]; omega)]
  obtain ⟨O, hOO⟩ : ∃ O, edS s q d t = O := ⟨_, rfl⟩
  have hz : O.size = q + m.length + (l.length - (q + d)) := by rw [← size_data, ← hOO, hO]; simp; omega
  rw [hOO] at hO ⊢
  have htk : (l.take q).length = q := by rw [List.length_take]; omega
  constructor
  · apply ext
    unfold edS
    rw [ByteArray.data_append, ByteArray.data_append, Array.toList_append, Array.toList_append, extract_list, extract_list, extract_list, hO, hL]
    simp only [sub, List.drop_zero, Nat.sub_zero]
    have e1 : (l.take q ++ m ++ l.drop (q + d)).take q = l.take q := by
      rw [List.append_assoc, List.take_append_of_le_length (by omega), List.take_of_length_le (by omega)]
    have e2 : (l.take q ++ m ++ l.drop (q + d)).drop (q + t.size) = l.drop (q + d) := by
      rw [List.drop_append, List.length_append, htk, hm, Nat.sub_self, List.drop_zero, List.drop_of_length_le (by rw [List.length_append, htk]; omega)]; simp
    rw [e1, e2, List.take_of_length_le (l := l.drop (q + d)) (by rw [List.length_drop, hz]; omega)]
    rw [show q + d - q = d from by omega, List.append_assoc]
    have e3 : (l.drop q).take d ++ l.drop (q + d) = l.drop q := by
      have := List.take_append_drop d (l.drop q)
      rw [List.drop_drop] at this
      exact this
    rw [e3, List.take_append_drop]
  · apply ext
    rw [extract_list, hO, hM]
    simp only [sub]
    rw [List.append_assoc, List.drop_append, htk, Nat.sub_self, List.drop_zero, List.drop_of_length_le (by omega), List.nil_append, show q + t.size - q = m.length from by omega, List.take_append_of_le_length (Nat.le_refl _), List.take_of_length_le (Nat.le_refl _)]
theorem ed_can {s t : ByteArray} {q d : Nat} (hv : ValidT s.data.toList) (hc : CanE (q : Int) (d : Int) t s.size) : CanE (q : Int) (t.size : Int) (s.extract q (q + d)) (edS s q d t).size ∧ (s.extract q (q + d)).size = d := by
  obtain ⟨h1, h2, h3, h4, h5⟩ := hc
  have z0 := ext_sz (s := s) (a := q) (b := q + d) (by omega)
  have z1 := ext_sz (s := s) (a := 0) (b := q) (by omega)
  have z2 := ext_sz (s := s) (a := q + d) (b := s.size) (by omega)
  have z3 := size_app (s.extract 0 q) t
  have z4 := size_app (s.extract 0 q ++ t) (s.extract (q + d) s.size)
  have hz : (edS s q d t).size = s.size - d + t.size := by unfold edS; omega
  refine ⟨⟨by omega, by omega, by omega, ⟨by rw [size_data]; omega, fun b hb => ?_⟩, by omega⟩, by omega⟩
  rw [extract_list] at hb
  exact hv.2 b (List.mem_of_mem_drop (List.mem_of_mem_take hb))
end Go.Proofs.Ythlamidlcbnchaa
