
/- spec.sameInts: it tells whether two slices read as the same list. -/
import Derived.Test.YtekchmbbafjmmaaLst
import Derived.Deep.QuietTactic
import Derived.BigQuiet
namespace Go.Proofs.Ytekchmbbafjmmaa
open Go.RowKit

end Go.Proofs.Ytekchmbbafjmmaa
