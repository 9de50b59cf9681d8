
/- impl.isCell. -/
import Derived.Test.YtpohkeenfbaklaaLst
namespace Go.Proofs.Ytpohkeenfbaklaa
open Go.RowKit
end Go.Proofs.Ytpohkeenfbaklaa
