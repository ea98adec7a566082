/- Texts of layer 2 joined: No. -/
import Derived.Test.YtpbceejjkdmclaaJE
set_option linter.unusedVariables false
set_option linter.unusedSimpArgs false
/- nodesOf: the walk. -/
namespace Go.Proofs.Ytpbceejjkdmclaa
open Go.RowKit Go.Shelf

attribute [local go_sem] Oper.semAt_some

end Go.Proofs.Ytpbceejjkdmclaa
