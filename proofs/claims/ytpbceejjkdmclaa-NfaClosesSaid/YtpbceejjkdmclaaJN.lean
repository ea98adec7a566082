/- Texts of layer 2 joined: Mn Lp Lq. -/
import Derived.Test.YtpbceejjkdmclaaJF
import Derived.Test.YtpbceejjkdmclaaJD
import Derived.Test.YtpbceejjkdmclaaJE
import Derived.Test.YtpbceejjkdmclaaJJ
import Derived.BigQuiet
import Derived.Deep.OwnRows
import Derived.OwnWalk
import Derived.Test.YtpbceejjkdmclaaJK
import Derived.KernelRfl
set_option linter.unusedVariables false
set_option linter.unusedSimpArgs false
/- newMatcher, Match. -/
namespace Go.Proofs.Ytpbceejjkdmclaa
open Go.RowKit Go.Shelf

attribute [local go_sem] Oper.semAt_some

def ms0 (n : Nat) : MS := ⟨1, List.replicate n 0, [], []⟩
/-- The matcher ahead of all bytes. -/
def initM (ns : List Nod) : MS := goOnM ns (2 * ns.length) (meetP 0 (ms0 (2 * ns.length)))
def loopM (ns : List Nod) : List UInt8 → MS → Bool
  | [], m => decide (m.met.getD 1 0 = m.now)
  | c :: r, m => if m.sets.length = 0 then false else loopM ns r (stepM ns c.toNat m)
noncomputable def nodsE (hh : Hd) (kids : Fo) : List Nod := (nodsP (Fo.pre 1 (.cons hh kids .nil))).1
/-- Match's answer. -/
noncomputable def matchP (hh : Hd) (kids : Fo) (s : List UInt8) : Bool := if checkE (Fo.pre 1 (.cons hh kids .nil)) = 1 then false else loopM (nodsE hh kids) s (initM (nodsE hh kids))

theorem wpList_make_I (w : World) {ops : Array Oper} {rest : List Oper} {o : Oper} {a : Act} {Q : Exit → Act → World → Prop}
    (hg : o.guard = none) (l c : Operand) (hop : o.op = Op.makeSlice 22 l c) (V : Int) (n : Nat) (hl : a.eval l = .int .i64 V) (hc : a.eval c = .int .i64 V) (hV : V = (n : Int)) (hn : n ≤ 549755813888)
    (hK : ∀ w', Blk w' w.heap.size 3 ((List.replicate n 0).map iv) → w.grownBy w' none → wpList Try.prog ops Q rest (a.put o.dst (.slice (some ⟨w.heap.size, 0, none⟩) n n)) w') : wpList Try.prog ops Q (o :: rest) a w := by
  subst hV
  obtain ⟨i0, hi, hz0, hz1, hz2⟩ := info_parts info_int
  refine wpList_make_row w hg l c 22 hop 3 i0 (.int .i64 0) Try.underlying22 hi hz0 hz1 rfl .i64 .i64 n hl hc (by rw [hz2]; omega) (by omega) ?_
  refine hK _ ?_ (World.grownBy_alloc w _ none)
  have := Blk.new w 3 (madeCells #[.int .i64 0] n)
  rw [toList_madeCells_one] at this
  rw [List.map_replicate]
  exact this

theorem altM_now (ns : List Nod) : ∀ (F : Nat) (k : Int) (m : MS), (altM ns F k m).now = m.now := by
  intro F
  induction F with
  | zero => intro k m; rfl
  | succ F ih => intro k m; rw [altM]; split; rfl; rw [ih, meetP_now]
theorem beginM_now (ns : List Nod) (i : Nat) (m : MS) : (beginM ns i m).now = m.now := by
  unfold beginM
  simp only
  repeat' split
  all_goals simp [meetP_now, altM_now]
theorem endM_now (ns : List Nod) (i : Nat) (m : MS) : (endM ns i m).now = m.now := by
  unfold endM
  simp only
  repeat' split
  all_goals simp [meetP_now]
theorem goOnM_now (ns : List Nod) : ∀ (F : Nat) (m : MS), (goOnM ns F m).now = m.now := by
  intro F
  induction F with
  | zero => intro m; rfl
  | succ F ih =>
    intro m
    rw [goOnM]
    split
    · rfl
    · rw [ih]
      unfold oneM popM
      split
      · rw [beginM_now]
      · rw [endM_now]
theorem stepM_ok {ns : List Nod} (hwf : NodWf ns) {m : MS} (c : Nat) (h : OkM ns m) (ho : m.opn = []) : OkM ns (stepM ns c m) ∧ (stepM ns c m).opn = [] ∧ (stepM ns c m).now = m.now + 1 := by
  have h1 : OkM ns { m with now := m.now + 1 } := ⟨h.opn, h.sets, h.len⟩
  obtain ⟨a, b, c1, d⟩ := hitM_ok (c := c) m.sets _ h1 h.sets
  have h2 : OkM ns { hitM ns c m.sets { m with now := m.now + 1 } with sets := [] } := ⟨a.opn, fun i hi => (by cases hi), a.len⟩
  have hq : qM { hitM ns c m.sets { m with now := m.now + 1 } with sets := [] } ≤ 2 * ns.length := by
    have e1 : qM { hitM ns c m.sets { m with now := m.now + 1 } with sets := [] } = qM (hitM ns c m.sets { m with now := m.now + 1 }) := rfl
    rw [e1, b]
    unfold qM unmet
    simp only [ho]
    have : m.met.countP (fun v => decide (v < m.now + 1)) ≤ m.met.length := List.countP_le_length
    have := h.len
    simp only [List.length_nil]
    omega
  obtain ⟨x1, x2, x3⟩ := goOnM_opn hwf (2 * ns.length) _ h2 hq
  exact ⟨x2, x1, (goOnM_now _ _ _).trans d⟩
theorem initM_ok {ns : List Nod} (hwf : NodWf ns) (hn : 0 < ns.length) : OkM ns (initM ns) ∧ (initM ns).opn = [] ∧ (initM ns).now = 1 := by
  have hok0 : OkM ns (ms0 (2 * ns.length)) := ⟨fun st h => (by cases h), fun i h => (by cases h), by simp [ms0]⟩
  obtain ⟨ok5, q5, s5⟩ := meetP_ok (st := 0) hok0 (by omega)
  have hq : qM (meetP 0 (ms0 (2 * ns.length))) ≤ 2 * ns.length := by
    rw [q5]
    have : unmet (ms0 (2 * ns.length)) ≤ (ms0 (2 * ns.length)).met.length := List.countP_le_length
    unfold qM
    simp [ms0] at this ⊢
    exact this
  obtain ⟨x1, x2, x3⟩ := goOnM_opn hwf (2 * ns.length) _ ok5 hq
  exact ⟨x2, x1, (goOnM_now _ _ _).trans (meetP_now _ _)⟩
theorem loopM_cons {ns : List Nod} {c : UInt8} {r : List UInt8} {m : MS} (h : m.sets.length ≠ 0) : loopM ns (c :: r) m = loopM ns r (stepM ns c.toNat m) := by rw [loopM, if_neg h]
theorem checkE_plain {l : List Nd} (h : checkE l ≠ 1) : l.all (fun x => plainB x.h x.len) = true := by
  unfold checkE at h
  split at h
  · assumption
  · exact absurd rfl h

end Go.Proofs.Ytpbceejjkdmclaa

/- The chapter's examples, reckoned. -/
namespace Go.Proofs.Ytpbceejjkdmclaa
open Go.RowKit

def exA : Hd := ⟨2, [⟨97, 97⟩]⟩
def exB : Hd := ⟨2, [⟨98, 98⟩]⟩
def exC : Hd := ⟨2, [⟨99, 99⟩]⟩
def exAltK : Fo := .cons exB .nil (.cons exC .nil .nil)
def exStarK : Fo := .cons ⟨4, []⟩ exAltK .nil
def exK : Fo := .cons exA .nil (.cons ⟨5, []⟩ exStarK .nil)
def exH : Hd := ⟨3, []⟩
theorem ex_parse : parseP [97, 40, 98, 124, 99, 41, 42] = (⟨exH, exK⟩, 0, 0) := by kernel_rfl
theorem ex_bad : parseP [91, 98, 45, 97, 93] = (zeroX, 3, 20) := by kernel_rfl
theorem ex_text : txE exH exK = [97, 40, 98, 124, 99, 41, 42] := by kernel_rfl
theorem ex_ck : ckE exH exK = 0 := by kernel_rfl
theorem ex_ck2 : checkE (Fo.pre 1 (.cons exH exK .nil)) = 0 := by kernel_rfl
theorem ex_wt : 9 * exH.set.length + 12 + wtT exK ≤ 140737488355328 := by
  have : 9 * exH.set.length + 12 + wtT exK = 99 := by kernel_rfl
  omega
end Go.Proofs.Ytpbceejjkdmclaa

/- Match's answer, reckonable. -/
namespace Go.Proofs.Ytpbceejjkdmclaa
open Go.RowKit

def bitsC (p : Nat → Bool) : Nat → BitVec 64
  | 0 => 0#64
  | n + 1 => if p n then bitsC p n ||| (1#64 <<< n) else bitsC p n
theorem bitsC_get (p : Nat → Bool) (r : Nat) (hr : r < 64) : ∀ n, (bitsC p n).getLsbD r = (decide (r < n) && p r) := by
  intro n
  induction n with
  | zero => simp [bitsC]
  | succ n ih =>
    rw [bitsC]
    by_cases hp : p n = true
    · rw [if_pos hp, BitVec.getLsbD_or, ih, BitVec.getLsbD_shiftLeft]
      by_cases e : r = n
      · subst e; simp [hr, hp]
      · by_cases lt : r < n
        · simp [lt, show r < n + 1 by omega]
        · have h1 : ¬ r < n + 1 := by omega
          have h2 : r - n ≠ 0 := by omega
          simp [lt, h1, h2]
    · rw [if_neg hp, ih]
      by_cases e : r = n
      · subst e; simp [hp]
      · have : (r < n + 1) = (r < n) := by apply propext; omega
        simp [this]
def fC (l : List Sp) : Nat → BitVec 64 := fun i => bitsC (fun r => inSp l (64 * i + r)) 64
theorem hasW_fC (l : List Sp) (c : Nat) : hasW (fC l) c = inSp l c := by
  unfold hasW fC
  rw [bitsC_get _ _ (by omega), decide_eq_true (by omega), Bool.true_and]
  congr 1
  omega
theorem fS_fC (l : List Sp) : fS l = fC l := (fS_of (hasW_fC l)).symm
def nodStepC (s : List Nod × List Nat) (x : Nd) : List Nod × List Nat :=
  (ahead s x.d ++ [⟨x.h.k, fC x.h.set, upN s.2 x.d, -1⟩], s.2.take (x.d - 1) ++ [s.1.length])
def nodsC (l : List Nd) : List Nod × List Nat := l.foldl nodStepC ([], [])
theorem nodsP_nodsC (l : List Nd) : nodsP l = nodsC l := by
  unfold nodsP nodsC
  have : nodStep = nodStepC := by
    funext s x
    unfold nodStep nodStepC
    rw [fS_fC]
  rw [this]
def matchC (hh : Hd) (kids : Fo) (s : List UInt8) : Bool := if checkE (Fo.pre 1 (.cons hh kids .nil)) = 1 then false else loopM (nodsC (Fo.pre 1 (.cons hh kids .nil))).1 s (initM (nodsC (Fo.pre 1 (.cons hh kids .nil))).1)
theorem matchP_matchC (hh : Hd) (kids : Fo) (s : List UInt8) : matchP hh kids s = matchC hh kids s := by
  unfold matchP matchC nodsE
  rw [nodsP_nodsC]
theorem ex_m1 : matchP exH exK [97, 98, 99, 98] = true := by
  rw [matchP_matchC]
  kernel_rfl
theorem ex_m2 : matchP exH exK [98] = false := by
  rw [matchP_matchC]
  kernel_rfl
end Go.Proofs.Ytpbceejjkdmclaa
