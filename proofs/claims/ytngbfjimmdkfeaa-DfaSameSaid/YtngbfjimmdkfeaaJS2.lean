/- Texts joined: Sd. -/
import Derived.Test.YtngbfjimmdkfeaaJS1
import Derived.Test.YtngbfjimmdkfeaaJQ
import Derived.Test.YtngbfjimmdkfeaaJN
set_option linter.unusedVariables false
set_option linter.unusedSimpArgs false
namespace Go.Proofs.Ytngbfjimmdkfeaa
open Go.RowKit

end Go.Proofs.Ytngbfjimmdkfeaa

