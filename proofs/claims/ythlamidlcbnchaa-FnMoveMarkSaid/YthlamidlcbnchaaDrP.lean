
/- The draw of a text of cells. -/
import Derived.Test.YthlamidlcbnchaaDrS
import Derived.Test.YthlamidlcbnchaaTxtB
import Derived.Test.YthlamidlcbnchaaParS
import Derived.Deep.RegionHeld3
namespace Go.Proofs.Ythlamidlcbnchaa
open Go.RowKit

end Go.Proofs.Ythlamidlcbnchaa
