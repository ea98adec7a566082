/- Texts joined: Nm. -/
import Derived.Test.YtngbfjimmdkfeaaPXK3
import Derived.Test.YtngbfjimmdkfeaaPXV5
set_option linter.unusedVariables false
set_option linter.unusedSimpArgs false
namespace Go.Proofs.Ytngbfjimmdkfeaa
open Go.RowKit Go.Shelf

attribute [local go_sem] Oper.semAt_some

theorem errF_drop : ∀ (f : Fo) (i : Nat) {h : Hd} {k r : Fo}, errF f = 0 → f.drop i = .cons h k r → checkE (Fo.pre 1 (.cons h k .nil)) = 0
  | .nil, i, h, k, r, _, e => by cases i <;> simp [Fo.drop] at e
  | .cons h' k' r', 0, h, k, r, he, e => by
    simp only [Fo.drop, Fo.cons.injEq] at e
    obtain ⟨rfl, rfl, rfl⟩ := e
    unfold errF at he
    split at he
    · assumption
    · exact he
  | .cons h' k' r', i + 1, h, k, r, he, e => by
    refine errF_drop r' i ?_ (by simpa [Fo.drop] using e)
    unfold errF at he
    split at he
    · exact he
    · rename_i hc; exact absurd he hc
end Go.Proofs.Ytngbfjimmdkfeaa

