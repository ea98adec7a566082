/- nest.All over expressions: the walk over an expression and all that is in it: its contract for whoever ranges over it. -/
import Derived.Test.YtoaabfdilhbajaaRange
import Derived.Test.YtoaabfdilhbajaaAppend
import Derived.OwnWalkIn
import Derived.TacticsInMore
import Derived.LoopNIn
import Derived.LoopIn
import Derived.Sort.LoopGhostIn
import Derived.Deep.RegionLaw
import Derived.Test.YtoaabfdilhbajaaRows
import Derived.Outline
import Derived.WalkKit
import Derived.WalkLawsBesides
import Derived.WalkSpells
import Derived.OwnWalk
import Derived.BigQuiet
import Derived.Deep.QuietTactic
namespace Go.Proofs.Ytoaabfdilhbajaa
open Go.RowKit Go.Shelf

attribute [local go_sem] Oper.semAt_some

/-- A node with the value of its list. -/
structure Nx where
  nd : Nd
  sa : Option Addr
  sc : Nat
  a : Option Addr
  cap : Nat

def encs (x : Nx) : Array Value := #[.int .i64 (x.nd.d : Int), itemV x.nd.h x.sa x.sc x.a x.nd.len x.cap]

/-- What may have come; the spans of what came lie as they lay in w0. -/
def Good (w0 : World) (all : List Nd) (pre : List Nx) : Prop := (∃ r, pre.map (·.nd) ++ r = all) ∧ ∀ x ∈ pre, Sps w0 x.sa x.sc x.nd.h.set
def Full (all : List Nd) (pre : List Nx) : Prop := pre.map (·.nd) = all

/-- An append whose run is known, as a step of a region that draws its order. -/
theorem step_append_run {P : Program} {ops : Array Oper} {o : Oper} {a : Act} {w : World} {K : Act → World → Prop} {Q : Exit → Act → World → Prop} {E : Prop} (hgd : o.guard = none) (s x : Operand) (t t2 : TypeId)
    (hop : o.op = Op.call { callee := Callee.builtin Builtin.append, args := #[s, x], argTypes := #[t, t2] }) (vs vx v' : Value) (w' : World) (hs : a.eval s = vs) (hx : a.eval x = vx)
    (hrun : (Builtin.append_ #[t, t2] o.type #[vs, vx]).run P w = .ok v' w') (h : K (a.put o.dst v') w') :
    if Region.wanted o (yielded ops a.tmps) = true then Oper.wp P o a w K Q else E := by
  have hw : Region.wanted o (yielded ops a.tmps) = true := by simp [Region.wanted, hgd]
  rw [if_pos hw]
  unfold Oper.wp
  simp [execOp, hop, resolve, invoke, builtin, hs, hx, hrun, Result.andThen]
  exact h

theorem new_cell (W : World) (v : Value) (t : TypeId) : ∀ j u, [v][j]? = some u → (W.alloc (.cells #[v] t)).cell? ((⟨W.heap.size, 0, none⟩ : Addr).add j) = some u := by
  intro j u h
  have hj : j = 0 := by
    rcases j with _ | j
    · rfl
    · simp at h
  subst hj
  simp only [List.getElem?_cons_zero, Option.some.injEq] at h
  subst h
  have := World.alloc_heap_new W (.cells #[v] t)
  show World.cell? _ ⟨W.heap.size, 0, none⟩ = _
  unfold World.cell?
  rw [show ((⟨W.heap.size, 0, none⟩ : Addr).block) = W.heap.size from rfl, this]
  simp

end Go.Proofs.Ytoaabfdilhbajaa
