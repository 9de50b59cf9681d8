
/- Transpose, in the model. -/
import Derived.Test.YtekchmbbafjmmaaNth
namespace Go.Proofs.Ytekchmbbafjmmaa
open Go.RowKit

end Go.Proofs.Ytekchmbbafjmmaa
