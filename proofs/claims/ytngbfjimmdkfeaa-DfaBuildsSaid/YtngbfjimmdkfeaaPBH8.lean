/- Texts joined: Hh Hj. -/
import Derived.Test.YtngbfjimmdkfeaaPBH7
import Derived.OwnWalkIn
set_option linter.unusedVariables false
set_option linter.unusedSimpArgs false
namespace Go.Proofs.Ytngbfjimmdkfeaa
open Go.RowKit Go.Shelf Go.Maps

attribute [local go_sem] Oper.semAt_some

section
variable {V V' : World} {bO base : Nat} {oa : Option Addr} {oc : Nat} {out : List Nat}
end
/-- Where a byte leads. -/
def bstep (x : Nf) (c a b : Nat) : Prop := ∃ e ∈ x.es, inSp e.q c = true ∧ e.f = (a : Int) ∧ e.t = (b : Int)
theorem Rn.congr {x : Nf} {S T : Nat → Prop} (h : ∀ a, S a ↔ T a) (a : Nat) : Rn x S a ↔ Rn x T a :=
  ⟨Rn.closed (fun a ha => .base ((h a).1 ha)) (fun a b ha hb => .step ha hb), Rn.closed (fun a ha => .base ((h a).2 ha)) (fun a b ha hb => .step ha hb)⟩
end Go.Proofs.Ytngbfjimmdkfeaa

namespace Go.Proofs.Ytngbfjimmdkfeaa
open Go.RowKit Go.Shelf Go.Maps

attribute [local go_sem] Oper.semAt_some

theorem Rn.none {x : Nf} {S : Nat → Prop} (h : ∀ a, ¬ S a) : ∀ a, ¬ Rn x S a := fun a ha => by
  have : ∀ {a}, Rn x S a → False := fun {a} h' => by
    induction h' with
    | base h1 => exact h _ h1
    | step _ _ ih => exact ih
  exact this ha
theorem link_start {x : Nf} (h : linkB x = true) : ∃ a : Nat, x.s = (a : Int) ∧ a < x.n.toNat := by
  unfold linkB stB at h
  simp only [Bool.and_eq_true, decide_eq_true_eq] at h
  exact ⟨x.s.toNat, by omega, by omega⟩

end Go.Proofs.Ytngbfjimmdkfeaa

