
/- The exact law of ValidTable. -/
import Derived.Test.YtdjgodemeaneeaaTbF
import Derived.Test.YtdjgodemeaneeaaTbD
namespace Go.Proofs.Ytdjgodemeaneeaa
open Go.RowKit

end Go.Proofs.Ytdjgodemeaneeaa
