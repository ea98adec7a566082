/- Texts joined: Er Eq. -/
import Derived.Test.YtngbfjimmdkfeaaPXDA
import Derived.Test.YtngbfjimmdkfeaaPXDB
import Derived.Test.YtngbfjimmdkfeaaPXDF
import Derived.Test.YtngbfjimmdkfeaaPXD3
import Derived.Test.YtngbfjimmdkfeaaPXZ3
set_option linter.unusedVariables false
set_option linter.unusedSimpArgs false
namespace Go.Proofs.Ytngbfjimmdkfeaa
open Go.RowKit Go.Shelf Go.Maps

/-- The first of some numbers, or -1. -/
def headI : List Nat → Int
  | [] => -1
  | i :: _ => (i : Int)
theorem sp_small {x : Nf} (h : x.es.all (fun e => decide (e.q.length ≤ 10)) = true) : spN x.es ≤ 10 * x.es.length := by
  unfold spN
  generalize x.es = l at h
  induction l with
  | nil => exact Nat.le_refl _
  | cons e l ih =>
    rw [List.all_cons, Bool.and_eq_true, decide_eq_true_eq] at h
    have := ih h.2
    rw [List.map_cons, List.sum_cons, List.length_cons]
    omega
end Go.Proofs.Ytngbfjimmdkfeaa

namespace Go.Proofs.Ytngbfjimmdkfeaa
open Go.RowKit Go.Shelf

attribute [local go_sem] Oper.semAt_some

theorem small_is {x : Nf} (h : smallD x = true) : x.es.length ≤ 80 ∧ x.ends.length ≤ 20 ∧ spN x.es ≤ 1000000 := by
  unfold smallD at h
  simp only [Bool.and_eq_true, decide_eq_true_eq] at h
  have := sp_small h.2
  exact ⟨h.1.1.2, h.1.2, by omega⟩

end Go.Proofs.Ytngbfjimmdkfeaa

