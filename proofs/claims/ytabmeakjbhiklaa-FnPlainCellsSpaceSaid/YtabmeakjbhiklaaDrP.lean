
/- The draw of a text of cells. -/
import Derived.Test.YtabmeakjbhiklaaDrS
import Derived.Test.YtabmeakjbhiklaaTxtB
import Derived.Test.YtabmeakjbhiklaaParS
import Derived.Deep.RegionHeld3
namespace Go.Proofs.Ytabmeakjbhiklaa
open Go.RowKit

end Go.Proofs.Ytabmeakjbhiklaa
