/- Texts of layer 2 joined: No. -/
import Derived.Test.YtnefhomneceoiaaJE
set_option linter.unusedVariables false
set_option linter.unusedSimpArgs false
/- nodesOf: the walk. -/
namespace Go.Proofs.Ytnefhomneceoiaa
open Go.RowKit Go.Shelf

attribute [local go_sem] Oper.semAt_some

end Go.Proofs.Ytnefhomneceoiaa
