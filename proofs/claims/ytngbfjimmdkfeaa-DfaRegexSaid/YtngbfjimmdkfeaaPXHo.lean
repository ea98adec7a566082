/- Texts joined: Ho Bo. -/
import Derived.Test.YtngbfjimmdkfeaaPXH8
import Derived.Test.YtngbfjimmdkfeaaPXK3
import Derived.Test.YtngbfjimmdkfeaaPXJ
set_option linter.unusedVariables false
set_option linter.unusedSimpArgs false
namespace Go.Proofs.Ytngbfjimmdkfeaa
open Go.RowKit Go.Shelf Go.Maps
attribute [local go_sem] Oper.semAt_some
end Go.Proofs.Ytngbfjimmdkfeaa

namespace Go.Proofs.Ytngbfjimmdkfeaa
open Go.RowKit

def Fo.app : Fo → Fo → Fo
  | .nil, g => g
  | .cons h k r, g => .cons h k (r.app g)
end Go.Proofs.Ytngbfjimmdkfeaa

