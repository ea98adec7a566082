/- Texts joined: Hh Hj. -/
import Derived.Test.YtngbfjimmdkfeaaPXH7
import Derived.OwnWalkIn
set_option linter.unusedVariables false
set_option linter.unusedSimpArgs false
namespace Go.Proofs.Ytngbfjimmdkfeaa
open Go.RowKit Go.Shelf Go.Maps

attribute [local go_sem] Oper.semAt_some

section
variable {V V' : World} {bO base : Nat} {oa : Option Addr} {oc : Nat} {out : List Nat}
end
/-- Where a byte leads. -/
def bstep (x : Nf) (c a b : Nat) : Prop := ∃ e ∈ x.es, inSp e.q c = true ∧ e.f = (a : Int) ∧ e.t = (b : Int)
theorem Rn.congr {x : Nf} {S T : Nat → Prop} (h : ∀ a, S a ↔ T a) (a : Nat) : Rn x S a ↔ Rn x T a :=
  ⟨Rn.closed (fun a ha => .base ((h a).1 ha)) (fun a b ha hb => .step ha hb), Rn.closed (fun a ha => .base ((h a).2 ha)) (fun a b ha hb => .step ha hb)⟩
end Go.Proofs.Ytngbfjimmdkfeaa

namespace Go.Proofs.Ytngbfjimmdkfeaa
open Go.RowKit Go.Shelf Go.Maps

attribute [local go_sem] Oper.semAt_some

/-- Where a text leads from closed states. -/
def RcS (x : Nf) : List UInt8 → (Nat → Prop) → Nat → Prop
  | [], S => S
  | c :: r, S => RcS x r (Rn x (fun b => ∃ a, S a ∧ bstep x c.toNat a b))
/-- Where a text leads from Start. -/
def Rc (x : Nf) (s : List UInt8) : Nat → Prop := RcS x s (Rn x (fun a => (a : Int) = x.s))
theorem RcS.congr {x : Nf} : ∀ (r : List UInt8) {S T : Nat → Prop}, (∀ a, S a ↔ T a) → ∀ a, RcS x r S a ↔ RcS x r T a
  | [], _, _, h => h
  | c :: r, S, T, h => RcS.congr r (Rn.congr (fun b => ⟨fun ⟨a, h1, h2⟩ => ⟨a, (h a).1 h1, h2⟩, fun ⟨a, h1, h2⟩ => ⟨a, (h a).2 h1, h2⟩⟩))
theorem Rn.none {x : Nf} {S : Nat → Prop} (h : ∀ a, ¬ S a) : ∀ a, ¬ Rn x S a := fun a ha => by
  have : ∀ {a}, Rn x S a → False := fun {a} h' => by
    induction h' with
    | base h1 => exact h _ h1
    | step _ _ ih => exact ih
  exact this ha
theorem RcS.none {x : Nf} : ∀ (r : List UInt8) {S : Nat → Prop}, (∀ a, ¬ S a) → ∀ a, ¬ RcS x r S a
  | [], _, h => h
  | c :: r, S, h => RcS.none r (Rn.none (fun b ⟨a, h1, _⟩ => h a h1))
open Classical in
/-- Which ends a text leads to. -/
noncomputable def runP (x : Nf) (s : List UInt8) : List Nat := (List.range x.ends.length).filter (fun i => decide (∃ a : Nat, Rc x s a ∧ x.ends[i]? = some (a : Int)))
theorem link_ends2 {x : Nf} (h : linkB x = true) {i : Nat} (hi : i < x.ends.length) : ∃ a : Nat, x.ends[i] = (a : Int) ∧ a < x.n.toNat := by
  unfold linkB at h
  simp only [Bool.and_eq_true, List.all_eq_true] at h
  have := h.1.2 _ (List.getElem_mem hi)
  unfold stB at this
  simp only [Bool.and_eq_true, decide_eq_true_eq] at this
  exact ⟨x.ends[i].toNat, by omega, by omega⟩
theorem link_start {x : Nf} (h : linkB x = true) : ∃ a : Nat, x.s = (a : Int) ∧ a < x.n.toNat := by
  unfold linkB stB at h
  simp only [Bool.and_eq_true, decide_eq_true_eq] at h
  exact ⟨x.s.toNat, by omega, by omega⟩

end Go.Proofs.Ytngbfjimmdkfeaa

