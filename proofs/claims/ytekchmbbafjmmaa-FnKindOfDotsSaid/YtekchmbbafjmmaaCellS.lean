
/- spec.CellOf. -/
import Derived.Test.YtekchmbbafjmmaaCell
namespace Go.Proofs.Ytekchmbbafjmmaa
open Go.RowKit

end Go.Proofs.Ytekchmbbafjmmaa
