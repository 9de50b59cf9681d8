
/- spec.inRange and spec.isCell. -/
import Derived.Test.YtabmeakjbhiklaaRows
import Derived.WalkKit
import Derived.WalkSpells
import Derived.WalkLawsBesides
import Derived.RowKit3
import Derived.Below
import Derived.Lib.Hide
namespace Go.Proofs.Ytabmeakjbhiklaa
open Go.RowKit
end Go.Proofs.Ytabmeakjbhiklaa
