
/- FnParseCellsCount: its walk. -/
import Derived.Test.YtabmeakjbhiklaaParM
import Derived.Test.YtabmeakjbhiklaaParY
import Derived.Test.YtabmeakjbhiklaaEqInts
import Derived.Test.YtabmeakjbhiklaaDrQ
namespace Go.Proofs.Ytabmeakjbhiklaa
open Go.RowKit

theorem equalInts_same4 (w : World) (u v : Value) (xs : List Int) (hx : IntsAt w u xs) (hy : IntsAt w v xs) :
    Calls Try.prog 17 #[u, v] w fun e w' => e = .returned (.bool true) ∧ Below w.heap.size w w' := by
  have := equalInts_any w u v xs xs hx hy
  rw [decide_eq_true rfl] at this
  exact this
theorem count_take {l : List UInt8} {k : Nat} (h : k < l.length) : (l.take (k + 1)).count 45 = (l.take k).count 45 + if l[k] = 45 then 1 else 0 := by
  rw [List.take_succ_eq_append_getElem h, List.count_append]
  by_cases e : l[k] = 45
  · rw [if_pos e, e]; simp
  · rw [if_neg e, List.count_singleton]; simp [e]
theorem parse_count {l : List UInt8} {zs : List Int} (h : parseL l = some zs) (hl : l ≠ []) : zs.length = l.count 45 + 1 := by
  rw [parseL, if_neg hl] at h
  split at h
  · rw [parseL_len _ _ h, parts_count]
  · cases h

end Go.Proofs.Ytabmeakjbhiklaa
