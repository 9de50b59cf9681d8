
/- spec.sameInts: it tells whether two slices read as the same list. -/
import Derived.Test.YthpbpdnlnmldeaaLst
import Derived.Deep.QuietTactic
import Derived.BigQuiet
namespace Go.Proofs.Ythpbpdnlnmldeaa
open Go.RowKit

end Go.Proofs.Ythpbpdnlnmldeaa
