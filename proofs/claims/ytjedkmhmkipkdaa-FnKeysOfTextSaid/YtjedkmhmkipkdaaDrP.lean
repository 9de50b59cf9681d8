
/- The draw of a text of cells. -/
import Derived.Test.YtjedkmhmkipkdaaDrS
import Derived.Test.YtjedkmhmkipkdaaTxtB
import Derived.Test.YtjedkmhmkipkdaaParS
import Derived.Deep.RegionHeld3
namespace Go.Proofs.Ytjedkmhmkipkdaa
open Go.RowKit

end Go.Proofs.Ytjedkmhmkipkdaa
