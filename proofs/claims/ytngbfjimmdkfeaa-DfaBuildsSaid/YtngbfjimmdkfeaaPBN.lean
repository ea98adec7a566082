/- Texts joined: Mn Lp Lq. -/
import Derived.Test.YtngbfjimmdkfeaaPBE
import Derived.Test.YtngbfjimmdkfeaaPBD
import Derived.Test.YtngbfjimmdkfeaaPBJ
import Derived.BigQuiet
import Derived.Deep.OwnRows
import Derived.OwnWalk
import Derived.KernelRfl
set_option linter.unusedVariables false
set_option linter.unusedSimpArgs false
namespace Go.Proofs.Ytngbfjimmdkfeaa
open Go.RowKit Go.Shelf

attribute [local go_sem] Oper.semAt_some

end Go.Proofs.Ytngbfjimmdkfeaa

namespace Go.Proofs.Ytngbfjimmdkfeaa
open Go.RowKit

end Go.Proofs.Ytngbfjimmdkfeaa

namespace Go.Proofs.Ytngbfjimmdkfeaa
open Go.RowKit

end Go.Proofs.Ytngbfjimmdkfeaa

