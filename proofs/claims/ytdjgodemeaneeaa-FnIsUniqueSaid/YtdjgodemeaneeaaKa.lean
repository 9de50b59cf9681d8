
/- Draws of one code. -/
import Derived.Test.YtdjgodemeaneeaaCw
import Derived.Test.YtdjgodemeaneeaaDrS
namespace Go.Proofs.Ytdjgodemeaneeaa
open Go.RowKit

def CdMade (w : World) (e : Ending) (w' : World) : Prop :=
  ∃ S a n c P, e = .returned (.slice a n c) ∧ OwnLs w' S 0 (.slice a n c) P ∧ P.length ≤ 9 ∧ Len3 P ∧ Below w.heap.size w w'
set_option maxHeartbeats 1000000 in
theorem drawIsUnique_any (w : World) (a : Option Addr) (len cap : Nat) (zs : List Int) (h : RowIn .u8 w a len cap zs) :
    Calls Try.prog 28 #[.slice a len cap] w fun e w' => CdMade w e w' := by
  obtain ⟨h1, h2, h3⟩ := bytesAt_of_row h
  clear h
  go_enter Try.func28, Try.ntmps28
  go_wp2_with fail
  refine (newReader_any w _ a len cap h1 (Nat.le_refl _) h2 h3).mono ?_
  rintro e w1 ⟨L, rfl, hrd, hgr⟩
  have hl1 := hrd.lt
  go_wp2_with fail
  refine (someCode_any w1 _ _ L 0 hrd (by omega)).mono ?_
  rintro e w2 ⟨v, P, q, rfl, hO, hP, hL3, hrd2, hq, hG, a2, n2, c2, rfl⟩
  have FIN := keptW (And.intro hO (And.intro hL3 (below_of_grown (grown_new hgr hG (Nat.le_refl _)))))
  clear hO hL3 hG hgr hrd hrd2
  go_wp2
  go_ret
  exact ⟨_, _, _, _, P, rfl, FIN.out.1, hP, FIN.out.2.1, FIN.out.2.2⟩
end Go.Proofs.Ytdjgodemeaneeaa
