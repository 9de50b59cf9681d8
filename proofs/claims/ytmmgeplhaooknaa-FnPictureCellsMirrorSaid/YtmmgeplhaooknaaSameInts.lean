
/- spec.sameInts: it tells whether two slices read as the same list. -/
import Derived.Test.YtmmgeplhaooknaaLst
import Derived.Deep.QuietTactic
import Derived.BigQuiet
namespace Go.Proofs.Ytmmgeplhaooknaa
open Go.RowKit

end Go.Proofs.Ytmmgeplhaooknaa
