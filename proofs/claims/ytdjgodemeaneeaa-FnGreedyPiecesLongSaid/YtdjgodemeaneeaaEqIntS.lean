
/- laws.eqIntS: it tells whether two slices read as the same list. -/
import Derived.Test.YtdjgodemeaneeaaLst
import Derived.Deep.QuietTactic
import Derived.BigQuiet
namespace Go.Proofs.Ytdjgodemeaneeaa
open Go.RowKit

end Go.Proofs.Ytdjgodemeaneeaa
