
/- FnPiecesCells: its walk. -/
import Derived.Test.YtnahamhjcdkkkaaMJ
import Derived.Test.YtnahamhjcdkkkaaPi
namespace Go.Proofs.Ytnahamhjcdkkkaa
open Go.RowKit

theorem drawPiecesCells_any (w : World) (a : Option Addr) (len cap : Nat) (zs : List Int) (h : RowIn .u8 w a len cap zs) :
    Calls Try.prog 34 #[.slice a len cap] w fun e w' => VpMade w e w' := by
  go_enter Try.func34, Try.ntmps34
  go_wp2_with fail
  refine (drawValidPieces_any w a len cap zs h).mono ?_
  rintro e w1 ⟨g, n, c1, T, s, v, P, rfl, H⟩
  have HK := keptH H
  clear H
  go_wp2
  refine bodyPost_ret (results_three rfl _ _ _) rfl ?_
  exact ⟨g, n, c1, T, s, v, P, rfl, HK.out⟩

end Go.Proofs.Ytnahamhjcdkkkaa
