/- Texts joined: Nd Ni Nt No Wf. -/
import Derived.Test.YtngbfjimmdkfeaaPBD
import Derived.Test.YtngbfjimmdkfeaaPBB
import Derived.Test.YtngbfjimmdkfeaaPBC
import Derived.Stop.RegionWithIn
import Derived.BigRegionIn
import Derived.Sort.QuietIn
import Derived.Sort.CutIn
import Derived.OwnWalkIn
import Derived.StillTail
import Derived.StillTactics
set_option linter.unusedVariables false
set_option linter.unusedSimpArgs false
namespace Go.Proofs.Ytngbfjimmdkfeaa
open Go.RowKit

/-- Node i's next one is v. -/
def setNext (ns : List Nod) (i v : Nat) : List Nod := ns.set i { ns.getD i nod0 with next := (v : Int) }
/-- The nodes so far, one of them with its next one. -/
def ahead (s : List Nod × List Nat) (d : Nat) : List Nod := if d ≤ s.2.length then setNext s.1 (s.2.getD (d - 1) 0) s.1.length else s.1
end Go.Proofs.Ytngbfjimmdkfeaa

namespace Go.Proofs.Ytngbfjimmdkfeaa
open Go.RowKit Go.Shelf

attribute [local go_sem] Oper.semAt_some

end Go.Proofs.Ytngbfjimmdkfeaa

namespace Go.Proofs.Ytngbfjimmdkfeaa
open Go.RowKit Go.Shelf

section
variable {P : Program} {ops : Array Oper} {md : Region.Mode} {w : World} {l n : Nat}

end

section
variable {P : Program} {ops : Array Oper} {md : Region.Mode} {l n : Nat} {Q : Exit → Act → World → Prop}
end

section
variable {w W2 wx wy : World} {bx L M lc tc : Nat} {la ta : Option Addr} {ns : List Nod} {last : List Nat} {x : Nod}
end
end Go.Proofs.Ytngbfjimmdkfeaa

namespace Go.Proofs.Ytngbfjimmdkfeaa
open Go.RowKit Go.Shelf

attribute [local go_sem] Oper.semAt_some

end Go.Proofs.Ytngbfjimmdkfeaa

namespace Go.Proofs.Ytngbfjimmdkfeaa
open Go.RowKit

end Go.Proofs.Ytngbfjimmdkfeaa

