/- Texts joined: Kc. -/
import Derived.Test.YtngbfjimmdkfeaaPBK1
import Derived.Test.YtngbfjimmdkfeaaPBH8
set_option linter.unusedVariables false
set_option linter.unusedSimpArgs false
namespace Go.Proofs.Ytngbfjimmdkfeaa
open Go.RowKit

/-- What Build makes of expressions that may be, few enough. -/
noncomputable def autF (f : Fo) : Nf := ⟨((bL f (1, [])).2.1 : Nat), 0, (bL f (1, [])).1.map (fun v : Nat => (v : Int)), (bL f (1, [])).2.2⟩
theorem build_ok {f : Fo} (he : errF f = 0) (hs : 1 + stF f ≤ 2000) : buildP f = (autF f, 0) := by
  unfold buildP
  rw [if_pos he, if_pos hs]
  rfl
end Go.Proofs.Ytngbfjimmdkfeaa

