/- Texts joined: Ka Kb. -/
import Derived.Test.YtngbfjimmdkfeaaJN3
import Derived.Test.YtngbfjimmdkfeaaJS2
set_option linter.unusedVariables false
set_option linter.unusedSimpArgs false
namespace Go.Proofs.Ytngbfjimmdkfeaa
open Go.RowKit

/-- What an edge reads. -/
def lab (e : Eg) (u : List UInt8) : Prop := (e.q = [] ∧ u = []) ∨ ∃ c : UInt8, u = [c] ∧ inSp e.q c.toNat = true
/-- A way from a state to another, along these bytes. -/
inductive Pt (es : List Eg) : Int → List UInt8 → Int → Prop where
  | nil (a : Int) : Pt es a [] a
  | step {e : Eg} {u s : List UInt8} {z : Int} (he : e ∈ es) (hl : lab e u) (h : Pt es e.t s z) : Pt es e.f (u ++ s) z
theorem Pt.mono {A B : List Eg} (hs : ∀ e ∈ A, e ∈ B) {a z : Int} {s : List UInt8} (h : Pt A a s z) : Pt B a s z := by
  induction h with
  | nil a => exact .nil a
  | step he hl _ ih => exact .step (hs _ he) hl ih
theorem Pt.trans {A : List Eg} {a b z : Int} {s t : List UInt8} (h : Pt A a s b) (k : Pt A b t z) : Pt A a (s ++ t) z := by
  induction h with
  | nil a => exact k
  | step he hl _ ih => rw [List.append_assoc]; exact .step he hl (ih k)
theorem Pt.one {A : List Eg} {e : Eg} {u : List UInt8} (he : e ∈ A) (hl : lab e u) : Pt A e.f u e.t := by
  have := Pt.step he hl (Pt.nil (es := A) e.t)
  rwa [List.append_nil] at this

theorem Pt.inv {es : List Eg} {a z : Int} {s : List UInt8} (h : Pt es a s z) : (s = [] ∧ a = z) ∨ ∃ e u v, e ∈ es ∧ e.f = a ∧ lab e u ∧ s = u ++ v ∧ Pt es e.t v z := by
  cases h with
  | nil => exact .inl ⟨rfl, rfl⟩
  | step he hl h => exact .inr ⟨_, _, _, he, rfl, hl, rfl, h⟩
/-- A fragment: new states n to n' - 1, from the state f to the state z. -/
structure Frg (F : List Eg) (f n n' z : Int) (L : List UInt8 → Prop) : Prop where
  ed : ∀ e ∈ F, (e.f = f ∨ (n ≤ e.f ∧ e.f < n')) ∧ n ≤ e.t ∧ e.t < n'
  zin : n ≤ z ∧ z < n'
  lang : ∀ s, Pt F f s z ↔ L s
theorem Frg.congr {F : List Eg} {f n n' z : Int} {L L' : List UInt8 → Prop} (h : Frg F f n n' z L) (e : ∀ s, L s ↔ L' s) : Frg F f n n' z L' := ⟨h.ed, h.zin, fun s => (h.lang s).trans (e s)⟩
end Go.Proofs.Ytngbfjimmdkfeaa

namespace Go.Proofs.Ytngbfjimmdkfeaa
open Go.RowKit

/-- What a making lays down is a fragment. -/
def MkF (g : Nat → Bs → Nat × Bs) (L : List UInt8 → Prop) : Prop :=
  ∀ (a : Nat) (s : Bs), a < s.1 → ∃ F, (g a s).2.2 = s.2 ++ F ∧ Frg F (a : Int) (s.1 : Int) ((g a s).2.1 : Int) ((g a s).1 : Int) L
theorem MkF.congr {g : Nat → Bs → Nat × Bs} {L L' : List UInt8 → Prop} (h : MkF g L) (e : ∀ s, L s ↔ L' s) : MkF g L' := fun a s ha => by
  obtain ⟨F, h1, h2⟩ := h a s ha
  exact ⟨F, h1, h2.congr e⟩
end Go.Proofs.Ytngbfjimmdkfeaa

