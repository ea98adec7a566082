/- Texts joined: Mn Lp Lq. -/
import Derived.Test.YtngbfjimmdkfeaaPXE
import Derived.Test.YtngbfjimmdkfeaaPXD
import Derived.Test.YtngbfjimmdkfeaaPXJ
import Derived.BigQuiet
import Derived.Deep.OwnRows
import Derived.OwnWalk
import Derived.KernelRfl
set_option linter.unusedVariables false
set_option linter.unusedSimpArgs false
namespace Go.Proofs.Ytngbfjimmdkfeaa
open Go.RowKit Go.Shelf

attribute [local go_sem] Oper.semAt_some

def ms0 (n : Nat) : MS := ⟨1, List.replicate n 0, [], []⟩
/-- The matcher ahead of all bytes. -/
def initM (ns : List Nod) : MS := goOnM ns (2 * ns.length) (meetP 0 (ms0 (2 * ns.length)))
def loopM (ns : List Nod) : List UInt8 → MS → Bool
  | [], m => decide (m.met.getD 1 0 = m.now)
  | c :: r, m => if m.sets.length = 0 then false else loopM ns r (stepM ns c.toNat m)
noncomputable def nodsE (hh : Hd) (kids : Fo) : List Nod := (nodsP (Fo.pre 1 (.cons hh kids .nil))).1
/-- Match's answer. -/
noncomputable def matchP (hh : Hd) (kids : Fo) (s : List UInt8) : Bool := if checkE (Fo.pre 1 (.cons hh kids .nil)) = 1 then false else loopM (nodsE hh kids) s (initM (nodsE hh kids))

theorem altM_now (ns : List Nod) : ∀ (F : Nat) (k : Int) (m : MS), (altM ns F k m).now = m.now := by
  intro F
  induction F with
  | zero => intro k m; rfl
  | succ F ih => intro k m; rw [altM]; split; rfl; rw [ih, meetP_now]
theorem beginM_now (ns : List Nod) (i : Nat) (m : MS) : (beginM ns i m).now = m.now := by
  unfold beginM
  simp only
  repeat' split
  all_goals simp [meetP_now, altM_now]
theorem endM_now (ns : List Nod) (i : Nat) (m : MS) : (endM ns i m).now = m.now := by
  unfold endM
  simp only
  repeat' split
  all_goals simp [meetP_now]
theorem goOnM_now (ns : List Nod) : ∀ (F : Nat) (m : MS), (goOnM ns F m).now = m.now := by
  intro F
  induction F with
  | zero => intro m; rfl
  | succ F ih =>
    intro m
    rw [goOnM]
    split
    · rfl
    · rw [ih]
      unfold oneM popM
      split
      · rw [beginM_now]
      · rw [endM_now]
theorem stepM_ok {ns : List Nod} (hwf : NodWf ns) {m : MS} (c : Nat) (h : OkM ns m) (ho : m.opn = []) : OkM ns (stepM ns c m) ∧ (stepM ns c m).opn = [] ∧ (stepM ns c m).now = m.now + 1 := by
  have h1 : OkM ns { m with now := m.now + 1 } := ⟨h.opn, h.sets, h.len⟩
  obtain ⟨a, b, c1, d⟩ := hitM_ok (c := c) m.sets _ h1 h.sets
  have h2 : OkM ns { hitM ns c m.sets { m with now := m.now + 1 } with sets := [] } := ⟨a.opn, fun i hi => (by cases hi), a.len⟩
  have hq : qM { hitM ns c m.sets { m with now := m.now + 1 } with sets := [] } ≤ 2 * ns.length := by
    have e1 : qM { hitM ns c m.sets { m with now := m.now + 1 } with sets := [] } = qM (hitM ns c m.sets { m with now := m.now + 1 }) := rfl
    rw [e1, b]
    unfold qM unmet
    simp only [ho]
    have : m.met.countP (fun v => decide (v < m.now + 1)) ≤ m.met.length := List.countP_le_length
    have := h.len
    simp only [List.length_nil]
    omega
  obtain ⟨x1, x2, x3⟩ := goOnM_opn hwf (2 * ns.length) _ h2 hq
  exact ⟨x2, x1, (goOnM_now _ _ _).trans d⟩
theorem initM_ok {ns : List Nod} (hwf : NodWf ns) (hn : 0 < ns.length) : OkM ns (initM ns) ∧ (initM ns).opn = [] ∧ (initM ns).now = 1 := by
  have hok0 : OkM ns (ms0 (2 * ns.length)) := ⟨fun st h => (by cases h), fun i h => (by cases h), by simp [ms0]⟩
  obtain ⟨ok5, q5, s5⟩ := meetP_ok (st := 0) hok0 (by omega)
  have hq : qM (meetP 0 (ms0 (2 * ns.length))) ≤ 2 * ns.length := by
    rw [q5]
    have : unmet (ms0 (2 * ns.length)) ≤ (ms0 (2 * ns.length)).met.length := List.countP_le_length
    unfold qM
    simp [ms0] at this ⊢
    exact this
  obtain ⟨x1, x2, x3⟩ := goOnM_opn hwf (2 * ns.length) _ ok5 hq
  exact ⟨x2, x1, (goOnM_now _ _ _).trans (meetP_now _ _)⟩
theorem loopM_cons {ns : List Nod} {c : UInt8} {r : List UInt8} {m : MS} (h : m.sets.length ≠ 0) : loopM ns (c :: r) m = loopM ns r (stepM ns c.toNat m) := by rw [loopM, if_neg h]
theorem checkE_plain {l : List Nd} (h : checkE l ≠ 1) : l.all (fun x => plainB x.h x.len) = true := by
  unfold checkE at h
  split at h
  · assumption
  · exact absurd rfl h

end Go.Proofs.Ytngbfjimmdkfeaa

namespace Go.Proofs.Ytngbfjimmdkfeaa
open Go.RowKit

end Go.Proofs.Ytngbfjimmdkfeaa

namespace Go.Proofs.Ytngbfjimmdkfeaa
open Go.RowKit

def bitsC (p : Nat → Bool) : Nat → BitVec 64
  | 0 => 0#64
  | n + 1 => if p n then bitsC p n ||| (1#64 <<< n) else bitsC p n
theorem bitsC_get (p : Nat → Bool) (r : Nat) (hr : r < 64) : ∀ n, (bitsC p n).getLsbD r = (decide (r < n) && p r) := by
  intro n
  induction n with
  | zero => simp [bitsC]
  | succ n ih =>
    rw [bitsC]
    by_cases hp : p n = true
    · rw [if_pos hp, BitVec.getLsbD_or, ih, BitVec.getLsbD_shiftLeft]
      by_cases e : r = n
      · subst e; simp [hr, hp]
      · by_cases lt : r < n
        · simp [lt, show r < n + 1 by omega]
        · have h1 : ¬ r < n + 1 := by omega
          have h2 : r - n ≠ 0 := by omega
          simp [lt, h1, h2]
    · rw [if_neg hp, ih]
      by_cases e : r = n
      · subst e; simp [hp]
      · have : (r < n + 1) = (r < n) := by apply propext; omega
        simp [this]
def fC (l : List Sp) : Nat → BitVec 64 := fun i => bitsC (fun r => inSp l (64 * i + r)) 64
theorem hasW_fC (l : List Sp) (c : Nat) : hasW (fC l) c = inSp l c := by
  unfold hasW fC
  rw [bitsC_get _ _ (by omega), decide_eq_true (by omega), Bool.true_and]
  congr 1
  omega
theorem fS_fC (l : List Sp) : fS l = fC l := (fS_of (hasW_fC l)).symm
end Go.Proofs.Ytngbfjimmdkfeaa

