
/- Drawn notes. -/
import Derived.Test.YtekchmbbafjmmaaNta
import Derived.Test.YtekchmbbafjmmaaDrL
namespace Go.Proofs.Ytekchmbbafjmmaa
open Go.RowKit

end Go.Proofs.Ytekchmbbafjmmaa
