
/- The draw of a text of cells. -/
import Derived.Test.YthojahknocageaaDrS
import Derived.Test.YthojahknocageaaTxtB
import Derived.Test.YthojahknocageaaParS
import Derived.Deep.RegionHeld3
namespace Go.Proofs.Ythojahknocageaa
open Go.RowKit

end Go.Proofs.Ythojahknocageaa
