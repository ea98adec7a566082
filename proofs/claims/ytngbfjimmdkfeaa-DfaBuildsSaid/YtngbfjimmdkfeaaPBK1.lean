/- Texts joined: Ka Kb. -/
import Derived.Test.YtngbfjimmdkfeaaPBN3
import Derived.Test.YtngbfjimmdkfeaaPBS2
set_option linter.unusedVariables false
set_option linter.unusedSimpArgs false
namespace Go.Proofs.Ytngbfjimmdkfeaa
open Go.RowKit

end Go.Proofs.Ytngbfjimmdkfeaa

namespace Go.Proofs.Ytngbfjimmdkfeaa
open Go.RowKit

end Go.Proofs.Ytngbfjimmdkfeaa

