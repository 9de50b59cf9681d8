
/- impl.isCell. -/
import Derived.Test.YtjedkmhmkipkdaaLst
namespace Go.Proofs.Ytjedkmhmkipkdaa
open Go.RowKit
end Go.Proofs.Ytjedkmhmkipkdaa
