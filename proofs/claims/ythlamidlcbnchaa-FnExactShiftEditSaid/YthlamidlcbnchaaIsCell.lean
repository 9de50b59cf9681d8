
/- impl.isCell. -/
import Derived.Test.YthlamidlcbnchaaLst
namespace Go.Proofs.Ythlamidlcbnchaa
open Go.RowKit
end Go.Proofs.Ythlamidlcbnchaa
