/- Texts joined: Mm Mb Me Mg Ms. -/
import Derived.Test.YtngbfjimmdkfeaaPXC
import Derived.Test.YtngbfjimmdkfeaaPXA
import Derived.Deep.RegionLaw
import Derived.BigRegion
import Derived.Outline
set_option linter.unusedVariables false
set_option linter.unusedSimpArgs false
namespace Go.Proofs.Ytngbfjimmdkfeaa
open Go.RowKit

attribute [local go_sem] Oper.semAt_some

/-- A node. -/
structure Nod where
  k : Int
  f : Nat → BitVec 64
  up : Int
  next : Int
/-- What the matcher holds beside its nodes. -/
structure MS where
  now : Nat
  met : List Nat
  opn : List Nat
  sets : List Nat
abbrev iv (n : Nat) : Value := .int .i64 (n : Int)
/-- A state is met. -/
def meetP (st : Nat) (m : MS) : MS := if m.met.getD st 0 < m.now then { m with met := m.met.set st m.now, opn := m.opn ++ [st] } else m

theorem info_int : (Try.prog.info? 3).map (fun i => (i.zero, i.size, i.bytes)) = some (some (.int .i64 0), 1, 8) := by kernel_rfl
/-- An own row of numbers. -/
def OwnI (w : World) (base : Nat) (a : Option Addr) (n cap : Nat) (l : List Nat) : Prop := w.ownsRow base 3 1 (.slice a n cap) n (l.map iv)
theorem OwnI.len {w : World} {base n cap : Nat} {a : Option Addr} {l : List Nat} (h : OwnI w base a n cap l) : n = l.length := by have := h.1; simpa using this.symm

/-- A number is put onto an own row of numbers. -/
theorem run_pushI (w : World) (ty : TypeId) {base n cap : Nat} {a : Option Addr} {l : List Nat} (x : Nat) (v : Value) (hv : v = iv x) (hown : OwnI w base a n cap l) (hn : n + 1 ≤ 1099511627780) (hbase : base ≤ w.heap.size) :
    ∃ a' cap' w', (Builtin.append_ #[23, 23] ty #[.slice a n cap, .slice (some ⟨w.heap.size, 0, none⟩) 1 1]).run Try.prog (w.alloc (.cells #[v] 3)) = .ok (.slice a' (n + 1) cap') w' ∧
      OwnI w' base a' (n + 1) cap' (l ++ [x]) ∧ w.grownBy w' (Value.slice a n cap).ownBlock ∧ New w.heap.size a a' := by
  subst hv
  obtain ⟨i0, hi, hz0, hz1, hz2⟩ := info_parts info_int
  have hnew : ∀ j u, [iv x][j]? = some u → (w.alloc (.cells #[iv x] 3)).cell? ((⟨w.heap.size, 0, none⟩ : Addr).add j) = some u := new_cell w (iv x) 3
  have hown2 : (w.alloc (.cells #[iv x] 3)).ownsRow base 3 1 (.slice a n cap) n (l.map iv) := hown.alloc _
  obtain ⟨y, w', hrun, ho, hg, _⟩ := run_append_own (P := Try.prog) (w.alloc (.cells #[iv x] 3)) base 23 ty 3 i0 (.int .i64 0) 1 8 Try.underlying23 hi hz0 hz1 hz2 rfl (by decide) _ n _ hown2 ⟨w.heap.size, 0, none⟩ 1 1 [iv x] rfl hnew (by simp [Value.oneCell']) (by unfold maxLen; omega) (by omega) (by simp; omega)
  obtain ⟨a', cap', rfl⟩ := slice_of_own ho
  refine ⟨a', cap', w', hrun, by simpa [OwnI] using ho, grownBy_trans (World.grownBy_alloc w _ _) hg (fun i e => .inl e), ?_⟩
  rcases hown2.2 with ⟨e1, e0⟩ | ⟨g, cap2, cur, e1, hbg, hg2, hnc, hcm, hcs, htake⟩
  · cases e1
    have hr := run_append_nil (P := Try.prog) (w.alloc (.cells #[iv x] 3)) 23 ty 3 i0 _ Try.underlying23 hi hz0 ⟨w.heap.size, 0, none⟩ 1 1 [iv x] (by rw [hz1]; rfl) hnew (by omega) (by omega) (by rw [hz2]; omega)
    rw [hr] at hrun
    simp only [Result.ok.injEq, Value.slice.injEq] at hrun
    exact .inr ⟨_, hrun.1.1.symm, by simp⟩
  · simp only [Value.slice.injEq, true_and] at e1
    obtain ⟨rfl, rfl⟩ := e1
    by_cases hroom : n + 1 ≤ cap
    · obtain ⟨w2, hr, _, _⟩ := run_append_fits (P := Try.prog) (w.alloc (.cells #[iv x] 3)) base 23 ty 3 i0 1 Try.underlying23 hi hz1 g n cap _ hown2 ⟨w.heap.size, 0, none⟩ 1 1 [iv x] rfl hnew (by simp [Value.oneCell']) hroom
      rw [hr] at hrun
      simp only [Result.ok.injEq, Value.slice.injEq] at hrun
      exact .inl hrun.1.1.symm
    · have holds : ∀ j u, (l.map iv)[j]? = some u → (w.alloc (.cells #[iv x] 3)).cell? ((⟨g, 0, none⟩ : Addr).add j) = some u := hown2.cells (g := g) rfl
      have hr := run_append_grow (P := Try.prog) (w.alloc (.cells #[iv x] 3)) 23 ty 3 i0 _ Try.underlying23 hi hz0 ⟨g, 0, none⟩ n cap (l.map iv) (by rw [hown2.1, hz1]) holds ⟨w.heap.size, 0, none⟩ 1 1 [iv x] (by rw [hz1]; rfl) hnew (by omega) (by omega) (growslice_fits (by omega) (by rw [hz2]; omega))
      rw [hr] at hrun
      simp only [Result.ok.injEq, Value.slice.injEq] at hrun
      exact .inr ⟨_, hrun.1.1.symm, by simp⟩

/-- How many states were not met in this round. -/
def unmet (m : MS) : Nat := m.met.countP (fun v => decide (v < m.now))
theorem unmet_meet {m : MS} {st : Nat} (hst : st < m.met.length) (h : m.met.getD st 0 < m.now) : unmet (meetP st m) + 1 = unmet m := by
  unfold meetP
  rw [if_pos h]
  unfold unmet
  have hg : m.met.getD st 0 = m.met[st] := by rw [List.getD_eq_getElem?_getD, List.getElem?_eq_getElem hst]; rfl
  rw [hg] at h
  have := List.countP_set (p := fun v => decide (v < m.now)) (l := m.met) (i := st) (a := m.now) hst
  have hpos : 0 < m.met.countP (fun v => decide (v < m.now)) := List.countP_pos_iff.2 ⟨m.met[st], List.getElem_mem _, by simpa using h⟩
  simp only [decide_eq_true h, if_true, Nat.lt_irrefl, decide_false, Bool.false_eq_true, if_false] at this
  simp only
  omega
theorem meetP_sets (st : Nat) (m : MS) : (meetP st m).sets = m.sets := by unfold meetP; split <;> rfl
theorem meetP_now (st : Nat) (m : MS) : (meetP st m).now = m.now := by unfold meetP; split <;> rfl
theorem meetP_len (st : Nat) (m : MS) : (meetP st m).met.length = m.met.length := by unfold meetP; split <;> simp
theorem meetP_sum (st : Nat) (m : MS) (hst : st < m.met.length) : (meetP st m).opn.length + unmet (meetP st m) = m.opn.length + unmet m := by
  by_cases h : m.met.getD st 0 < m.now
  · have := unmet_meet hst h
    have e : (meetP st m).opn = m.opn ++ [st] := by unfold meetP; rw [if_pos h]
    rw [e]; simp; omega
  · unfold meetP; rw [if_neg h]

def obk : Option Addr → Option Nat
  | some a => some a.block
  | none => none
theorem ownBlock_obk (a : Option Addr) (n c : Nat) : (Value.slice a n c).ownBlock = obk a := by cases a <;> rfl
theorem OwnI.kept {w w' : World} {base n cap : Nat} {a : Option Addr} {l : List Nat} {row : Option Nat} (h : OwnI w base a n cap l) (hg : w.grownBy w' row) (hne : obk a = none ∨ obk a ≠ row) : OwnI w' base a n cap l :=
  World.ownsRow.kept h hg (by rw [ownBlock_obk]; exact hne)
theorem OwnI.row {w : World} {base n cap : Nat} {a : Option Addr} {l : List Nat} (h : OwnI w base a n cap l) : ∀ g, obk a = some g → base ≤ g ∧ g < w.heap.size := by
  intro g e
  rcases h.2 with ⟨e1, _⟩ | ⟨k, c, cur, e1, hb, hg, _⟩
  · injection e1 with e1 _ _; rw [e1] at e; cases e
  · injection e1 with e1 _ _; rw [e1] at e; cases e; exact ⟨hb, (Array.getElem?_eq_some_iff.1 hg).1⟩
end Go.Proofs.Ytngbfjimmdkfeaa

namespace Go.Proofs.Ytngbfjimmdkfeaa
open Go.RowKit

attribute [local go_sem] Oper.semAt_some

/-- What nodes of an expression that may be are like. -/
def NodWf (ns : List Nod) : Prop := ∀ i x, ns[i]? = some x → ((x.k = 1 ∨ x.k = 2) ∨ i + 1 < ns.length) ∧ (x.next = -1 ∨ ∃ j : Nat, x.next = (j : Int) ∧ i < j ∧ j < ns.length) ∧ (x.up = -1 ∨ ∃ j : Nat, x.up = (j : Int) ∧ j < ns.length)
def nod0 : Nod := ⟨0, fun _ => 0, -1, -1⟩
/-- The beginnings of the parts from k on are met. -/
def altM (ns : List Nod) : Nat → Int → MS → MS
  | 0, _, m => m
  | F + 1, k, m => if k = -1 then m else altM ns F (ns.getD k.toNat nod0).next (meetP (2 * k.toNat) m)
def beginM (ns : List Nod) (i : Nat) (m : MS) : MS :=
  let k := (ns.getD i nod0).k
  if k = 1 then meetP (2 * i + 1) m
  else if k = 2 then { m with sets := m.sets ++ [i] }
  else if k = 4 then altM ns ns.length ((i : Int) + 1) m
  else if k = 5 ∨ k = 7 then meetP (2 * i + 1) (meetP (2 * (i + 1)) m)
  else meetP (2 * (i + 1)) m
def endM (ns : List Nod) (i : Nat) (m : MS) : MS :=
  let x := ns.getD i nod0
  if x.up = -1 then m else
  let k := (ns.getD x.up.toNat nod0).k
  if k = 5 ∨ k = 6 then meetP (2 * x.up.toNat + 1) (meetP (2 * i) m)
  else if k = 3 then (if x.next = -1 then meetP (2 * x.up.toNat + 1) m else meetP (2 * x.next.toNat) m)
  else meetP (2 * x.up.toNat + 1) m

theorem getD_of {ns : List Nod} {i : Nat} (hi : i < ns.length) : ns[i]? = some (ns.getD i nod0) := by
  rw [List.getD_eq_getElem?_getD, List.getElem?_eq_getElem hi]; rfl

end Go.Proofs.Ytngbfjimmdkfeaa

namespace Go.Proofs.Ytngbfjimmdkfeaa
open Go.RowKit

attribute [local go_sem] Oper.semAt_some

end Go.Proofs.Ytngbfjimmdkfeaa

namespace Go.Proofs.Ytngbfjimmdkfeaa
open Go.RowKit

attribute [local go_sem] Oper.semAt_some

/-- All that is open, and all that waits, are there. -/
structure OkM (ns : List Nod) (m : MS) : Prop where
  opn : ∀ st ∈ m.opn, st < 2 * ns.length
  sets : ∀ i ∈ m.sets, i < ns.length
  len : m.met.length = 2 * ns.length
/-- How many steps are left at most. -/
def qM (m : MS) : Nat := m.opn.length + unmet m
theorem meetP_ok {ns : List Nod} {m : MS} {st : Nat} (h : OkM ns m) (hst : st < 2 * ns.length) : OkM ns (meetP st m) ∧ qM (meetP st m) = qM m ∧ (meetP st m).sets = m.sets := by
  refine ⟨⟨?_, by rw [meetP_sets]; exact h.sets, by rw [meetP_len]; exact h.len⟩, meetP_sum st m (by rw [h.len]; exact hst), meetP_sets st m⟩
  intro x hx
  unfold meetP at hx
  split at hx
  · simp only [List.mem_append, List.mem_singleton] at hx
    rcases hx with hx | rfl
    · exact h.opn x hx
    · exact hst
  · exact h.opn x hx
theorem altM_ok {ns : List Nod} (hwf : NodWf ns) : ∀ (F : Nat) (k : Int) (m : MS), OkM ns m → (k = -1 ∨ ∃ j : Nat, k = (j : Int) ∧ j < ns.length) → OkM ns (altM ns F k m) ∧ qM (altM ns F k m) = qM m ∧ (altM ns F k m).sets = m.sets := by
  intro F
  induction F with
  | zero => intro k m h _; exact ⟨h, rfl, rfl⟩
  | succ F ih =>
    intro k m h hk
    rw [altM]
    split
    · exact ⟨h, rfl, rfl⟩
    · rename_i hne
      rcases hk with hk | ⟨j, rfl, hj⟩
      · exact absurd hk hne
      · rw [Int.toNat_natCast]
        obtain ⟨h1, h2, h3⟩ := meetP_ok (st := 2 * j) h (by omega)
        obtain ⟨-, hn, -⟩ := hwf j _ (getD_of hj)
        obtain ⟨h4, h5, h6⟩ := ih (ns.getD j nod0).next _ h1 (by
          rcases hn with h | ⟨j2, e, _, hj2⟩
          · exact .inl h
          · exact .inr ⟨j2, e, hj2⟩)
        exact ⟨h4, h5.trans h2, h6.trans h3⟩
theorem beginM_ok {ns : List Nod} (hwf : NodWf ns) {i : Nat} {m : MS} (h : OkM ns m) (hi : i < ns.length) : OkM ns (beginM ns i m) ∧ qM (beginM ns i m) = qM m ∧ (beginM ns i m).sets.length ≤ m.sets.length + 1 := by
  obtain ⟨w1, -, -⟩ := hwf i _ (getD_of hi)
  unfold beginM
  simp only
  split
  · obtain ⟨a, b, c⟩ := meetP_ok (st := 2 * i + 1) h (by omega); exact ⟨a, b, by rw [c]; omega⟩
  · split
    · refine ⟨⟨h.opn, ?_, h.len⟩, rfl, by simp⟩
      intro x hx
      simp only [List.mem_append, List.mem_singleton] at hx
      rcases hx with hx | rfl
      · exact h.sets x hx
      · exact hi
    · rename_i h1 h2
      have hi1 : i + 1 < ns.length := by
        rcases w1 with (e | e) | e
        · exact absurd e h1
        · exact absurd e h2
        · exact e
      split
      · obtain ⟨a, b, c⟩ := altM_ok hwf ns.length ((i : Int) + 1) m h (.inr ⟨i + 1, by simp, hi1⟩); exact ⟨a, b, by rw [c]; omega⟩
      · split
        · obtain ⟨a, b, c⟩ := meetP_ok (st := 2 * (i + 1)) h (by omega)
          obtain ⟨a2, b2, c2⟩ := meetP_ok (st := 2 * i + 1) a (by omega)
          exact ⟨a2, b2.trans b, by rw [c2, c]; omega⟩
        · obtain ⟨a, b, c⟩ := meetP_ok (st := 2 * (i + 1)) h (by omega); exact ⟨a, b, by rw [c]; omega⟩
theorem endM_ok {ns : List Nod} (hwf : NodWf ns) {i : Nat} {m : MS} (h : OkM ns m) (hi : i < ns.length) : OkM ns (endM ns i m) ∧ qM (endM ns i m) = qM m ∧ (endM ns i m).sets = m.sets := by
  obtain ⟨-, w2, w3⟩ := hwf i _ (getD_of hi)
  unfold endM
  simp only
  split
  · exact ⟨h, rfl, rfl⟩
  · rename_i hne
    rcases w3 with e | ⟨j, e, hj⟩
    · exact absurd e hne
    · rw [e, Int.toNat_natCast]
      split
      · obtain ⟨a, b, c⟩ := meetP_ok (st := 2 * i) h (by omega)
        obtain ⟨a2, b2, c2⟩ := meetP_ok (st := 2 * j + 1) a (by omega)
        exact ⟨a2, b2.trans b, c2.trans c⟩
      · split
        · split
          · exact meetP_ok h (by omega)
          · rename_i hne2
            rcases w2 with e2 | ⟨j2, e2, _, hj2⟩
            · exact absurd e2 hne2
            · rw [e2, Int.toNat_natCast]; exact meetP_ok h (by omega)
        · exact meetP_ok h (by omega)

/-- A state is taken off those that are open. -/
def popM (m : MS) : MS := { m with opn := m.opn.dropLast }
def oneM (ns : List Nod) (st : Nat) (m : MS) : MS := if st % 2 = 0 then beginM ns (st / 2) m else endM ns (st / 2) m
def goOnM (ns : List Nod) : Nat → MS → MS
  | 0, m => m
  | F + 1, m => match m.opn.getLast? with
    | none => m
    | some st => goOnM ns F (oneM ns st (popM m))

end Go.Proofs.Ytngbfjimmdkfeaa

namespace Go.Proofs.Ytngbfjimmdkfeaa
open Go.RowKit

attribute [local go_sem] Oper.semAt_some

def hitM (ns : List Nod) (c : Nat) : List Nat → MS → MS
  | [], m => m
  | i :: r, m => hitM ns c r (if hasW (ns.getD i nod0).f c then meetP (2 * i + 1) m else m)
/-- One byte further. -/
def stepM (ns : List Nod) (c : Nat) (m : MS) : MS :=
  goOnM ns (2 * ns.length) { hitM ns c m.sets { m with now := m.now + 1 } with sets := [] }

theorem goOnM_opn {ns : List Nod} (hwf : NodWf ns) : ∀ (F : Nat) (m : MS), OkM ns m → qM m ≤ F → (goOnM ns F m).opn = [] ∧ OkM ns (goOnM ns F m) ∧ (goOnM ns F m).sets.length ≤ m.sets.length + qM m := by
  intro F
  induction F with
  | zero =>
    intro m h hq
    unfold qM at hq
    exact ⟨List.length_eq_zero_iff.1 (by show m.opn.length = 0; omega), h, by show m.sets.length ≤ _; omega⟩
  | succ F ih =>
    intro m h hq
    rw [goOnM]
    split
    · rename_i hn
      rw [List.getLast?_eq_none_iff] at hn
      exact ⟨hn, h, by omega⟩
    · rename_i st hst
      have hst2 := h.opn st (List.mem_of_getLast? hst)
      have hok : OkM ns (popM m) := ⟨fun x hx => h.opn x (List.dropLast_subset _ hx), h.sets, h.len⟩
      have hq1 : qM (popM m) + 1 = qM m := by
        unfold qM popM
        simp only [List.length_dropLast]
        have : unmet { m with opn := m.opn.dropLast } = unmet m := rfl
        rw [this]
        have : 0 < m.opn.length := by
          cases ho : m.opn with
          | nil => rw [ho] at hst; cases hst
          | cons => simp
        omega
      have hone : OkM ns (oneM ns st (popM m)) ∧ qM (oneM ns st (popM m)) = qM (popM m) ∧ (oneM ns st (popM m)).sets.length ≤ m.sets.length + 1 := by
        unfold oneM
        split
        · exact beginM_ok hwf hok (by omega)
        · obtain ⟨a, b, c⟩ := endM_ok hwf hok (i := st / 2) (by omega)
          exact ⟨a, b, by rw [c]; show m.sets.length ≤ _; omega⟩
      obtain ⟨a, b, c⟩ := hone
      obtain ⟨d, e, f⟩ := ih _ a (by omega)
      exact ⟨d, e, by omega⟩
theorem hitM_ok {ns : List Nod} {c : Nat} : ∀ (l : List Nat) (m : MS), OkM ns m → (∀ i ∈ l, i < ns.length) → OkM ns (hitM ns c l m) ∧ qM (hitM ns c l m) = qM m ∧ (hitM ns c l m).sets = m.sets ∧ (hitM ns c l m).now = m.now := by
  intro l
  induction l with
  | nil => intro m h _; exact ⟨h, rfl, rfl, rfl⟩
  | cons i r ih =>
    intro m h hl
    have hi := hl i (by simp)
    rw [hitM]
    split
    · obtain ⟨a, b, d⟩ := meetP_ok (st := 2 * i + 1) h (by omega)
      obtain ⟨a2, b2, d2, e2⟩ := ih _ a (fun x hx => hl x (by simp [hx]))
      exact ⟨a2, b2.trans b, d2.trans d, e2.trans (meetP_now _ _)⟩
    · exact ih m h (fun x hx => hl x (by simp [hx]))

theorem OwnI.clear {w : World} {base n cap : Nat} {a : Option Addr} {l : List Nat} (h : OwnI w base a n cap l) : OwnI w base a 0 cap [] ∧ (a = none → n = 0 ∧ cap = 0) ∧ (∀ p, a = some p → ∃ g, p = ⟨g, 0, none⟩) ∧ n ≤ cap ∧ cap ≤ 9223372036854775807 := by
  rcases h.2 with ⟨e1, e2⟩ | ⟨g, c, cur, e, hb, hg, h1, h2, h3, h4⟩
  · injection e1 with e1 e2 e3
    subst e1 e2 e3
    exact ⟨⟨rfl, .inl ⟨rfl, rfl⟩⟩, fun _ => ⟨rfl, rfl⟩, fun p e => (by cases e), by omega, by omega⟩
  · injection e with e1 e2 e3
    subst e1 e3
    exact ⟨⟨rfl, .inr ⟨g, cap, cur, rfl, hb, hg, by omega, h2, h3, by simp⟩⟩, fun e => (by cases e), fun p e => (by cases e; exact ⟨g, rfl⟩), h1, by unfold maxLen at h2; omega⟩

end Go.Proofs.Ytngbfjimmdkfeaa

