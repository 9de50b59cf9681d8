
/- Whether pieces make up a word, in the model. -/
import Derived.Test.YtdjgodemeaneeaaPv
namespace Go.Proofs.Ytdjgodemeaneeaa
open Go.RowKit

end Go.Proofs.Ytdjgodemeaneeaa
