
/- FnPiecesCells: its walk. -/
import Derived.Test.YthojahknocageaaMJ
import Derived.Test.YthojahknocageaaPi
namespace Go.Proofs.Ythojahknocageaa
open Go.RowKit

end Go.Proofs.Ythojahknocageaa
