
/- Transpose, in the model. -/
import Derived.Test.YtfofjjfnejigaaaNth
namespace Go.Proofs.Ytfofjjfnejigaaa
open Go.RowKit

end Go.Proofs.Ytfofjjfnejigaaa
