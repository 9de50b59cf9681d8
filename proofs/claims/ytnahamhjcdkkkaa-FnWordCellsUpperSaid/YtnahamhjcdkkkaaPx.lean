
/- The exact law of ValidPieces. -/
import Derived.Test.YtnahamhjcdkkkaaME
import Derived.Test.YtnahamhjcdkkkaaMD
namespace Go.Proofs.Ytnahamhjcdkkkaa
open Go.RowKit

end Go.Proofs.Ytnahamhjcdkkkaa
