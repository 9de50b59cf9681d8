
/- The draw of a text of cells. -/
import Derived.Test.YtdjgodemeaneeaaDrS
import Derived.Test.YtdjgodemeaneeaaTxtB
import Derived.Test.YtdjgodemeaneeaaParS
import Derived.Deep.RegionHeld3
namespace Go.Proofs.Ytdjgodemeaneeaa
open Go.RowKit

end Go.Proofs.Ytdjgodemeaneeaa
