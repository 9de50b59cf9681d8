
/- MusicCells of the model. -/
import Derived.Test.YtekchmbbafjmmaaNuc
namespace Go.Proofs.Ytekchmbbafjmmaa
open Go.RowKit

end Go.Proofs.Ytekchmbbafjmmaa
