
/- The exact law of ValidPieces. -/
import Derived.Test.YthojahknocageaaME
import Derived.Test.YthojahknocageaaMD
namespace Go.Proofs.Ythojahknocageaa
open Go.RowKit

end Go.Proofs.Ythojahknocageaa
