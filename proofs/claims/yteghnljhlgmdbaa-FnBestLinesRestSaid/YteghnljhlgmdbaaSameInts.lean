
/- spec.sameInts: it tells whether two slices read as the same list. -/
import Derived.Test.YteghnljhlgmdbaaLst
import Derived.Deep.QuietTactic
import Derived.BigQuiet
namespace Go.Proofs.Yteghnljhlgmdbaa
open Go.RowKit

end Go.Proofs.Yteghnljhlgmdbaa
