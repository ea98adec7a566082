/- Texts joined: Sd. -/
import Derived.Test.YtngbfjimmdkfeaaPBS1
import Derived.Test.YtngbfjimmdkfeaaPBQ
import Derived.Test.YtngbfjimmdkfeaaPBN
set_option linter.unusedVariables false
set_option linter.unusedSimpArgs false
namespace Go.Proofs.Ytngbfjimmdkfeaa
open Go.RowKit

end Go.Proofs.Ytngbfjimmdkfeaa

