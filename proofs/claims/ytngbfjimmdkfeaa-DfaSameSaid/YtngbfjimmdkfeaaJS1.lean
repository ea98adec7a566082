/- Texts joined: Sa Sb Sc. -/
import Derived.Test.YtngbfjimmdkfeaaJN
set_option linter.unusedVariables false
set_option linter.unusedSimpArgs false
namespace Go.Proofs.Ytngbfjimmdkfeaa
open Go.RowKit

end Go.Proofs.Ytngbfjimmdkfeaa

namespace Go.Proofs.Ytngbfjimmdkfeaa
open Go.RowKit

end Go.Proofs.Ytngbfjimmdkfeaa

namespace Go.Proofs.Ytngbfjimmdkfeaa
open Go.RowKit

/-- These expressions' nodes lie from a place on, parts of the node up. -/
def Lay (ns : List Nod) : Fo → Nat → Int → Prop
  | .nil, _, _ => True
  | .cons h kids rest, b, up => ns[b]? = some ⟨h.k, fS h.set, up, if rest.len = 0 then -1 else ((b + 1 + kids.size : Nat) : Int)⟩ ∧ Lay ns kids (b + 1) (b : Int) ∧ Lay ns rest (b + 1 + kids.size) up
theorem Lay.congr {ns ns' : List Nod} : ∀ (f : Fo) (b : Nat) (up : Int), (∀ i, b ≤ i → i < b + f.size → ns'[i]? = ns[i]?) → Lay ns f b up → Lay ns' f b up := by
  intro f
  induction f with
  | nil => intro b up _ _; trivial
  | cons h kids rest ihk ihr =>
    rintro b up hc ⟨h1, h2, h3⟩
    simp only [Fo.size] at hc
    exact ⟨(hc b (Nat.le_refl _) (by omega)).trans h1, ihk _ _ (fun i h4 h5 => hc i (by omega) (by omega)) h2, ihr _ _ (fun i h4 h5 => hc i (by omega) (by omega)) h3⟩

end Go.Proofs.Ytngbfjimmdkfeaa

