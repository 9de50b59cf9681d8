
/- The exact law of PiecesCells. -/
import Derived.Test.YthojahknocageaaME
import Derived.Test.YthojahknocageaaPx
namespace Go.Proofs.Ythojahknocageaa
open Go.RowKit

end Go.Proofs.Ythojahknocageaa
