
/- spec.sameInts: it tells whether two slices read as the same list. -/
import Derived.Test.YtnbppackijjohaaLst
import Derived.Deep.QuietTactic
import Derived.BigQuiet
namespace Go.Proofs.Ytnbppackijjohaa
open Go.RowKit

end Go.Proofs.Ytnbppackijjohaa
