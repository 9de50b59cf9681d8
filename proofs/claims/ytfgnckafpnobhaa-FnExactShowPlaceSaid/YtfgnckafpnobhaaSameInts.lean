
/- spec.sameInts: it tells whether two slices read as the same list. -/
import Derived.Test.YtfgnckafpnobhaaLst
import Derived.Deep.QuietTactic
import Derived.BigQuiet
namespace Go.Proofs.Ytfgnckafpnobhaa
open Go.RowKit

end Go.Proofs.Ytfgnckafpnobhaa
