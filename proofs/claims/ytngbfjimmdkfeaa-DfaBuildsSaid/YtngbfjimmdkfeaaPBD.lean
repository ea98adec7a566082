/- Texts joined: Mm Mb Me Mg Ms. -/
import Derived.Test.YtngbfjimmdkfeaaPBC
import Derived.Test.YtngbfjimmdkfeaaPBA
import Derived.Deep.RegionLaw
import Derived.BigRegion
import Derived.Outline
set_option linter.unusedVariables false
set_option linter.unusedSimpArgs false
namespace Go.Proofs.Ytngbfjimmdkfeaa
open Go.RowKit

attribute [local go_sem] Oper.semAt_some

/-- A node. -/
structure Nod where
  k : Int
  f : Nat → BitVec 64
  up : Int
  next : Int
abbrev iv (n : Nat) : Value := .int .i64 (n : Int)
theorem info_int : (Try.prog.info? 3).map (fun i => (i.zero, i.size, i.bytes)) = some (some (.int .i64 0), 1, 8) := by kernel_rfl
/-- An own row of numbers. -/
def OwnI (w : World) (base : Nat) (a : Option Addr) (n cap : Nat) (l : List Nat) : Prop := w.ownsRow base 3 1 (.slice a n cap) n (l.map iv)
theorem OwnI.len {w : World} {base n cap : Nat} {a : Option Addr} {l : List Nat} (h : OwnI w base a n cap l) : n = l.length := by have := h.1; simpa using this.symm

/-- A number is put onto an own row of numbers. -/
theorem run_pushI (w : World) (ty : TypeId) {base n cap : Nat} {a : Option Addr} {l : List Nat} (x : Nat) (v : Value) (hv : v = iv x) (hown : OwnI w base a n cap l) (hn : n + 1 ≤ 1099511627780) (hbase : base ≤ w.heap.size) :
    ∃ a' cap' w', (Builtin.append_ #[23, 23] ty #[.slice a n cap, .slice (some ⟨w.heap.size, 0, none⟩) 1 1]).run Try.prog (w.alloc (.cells #[v] 3)) = .ok (.slice a' (n + 1) cap') w' ∧
      OwnI w' base a' (n + 1) cap' (l ++ [x]) ∧ w.grownBy w' (Value.slice a n cap).ownBlock ∧ New w.heap.size a a' := by
  subst hv
  obtain ⟨i0, hi, hz0, hz1, hz2⟩ := info_parts info_int
  have hnew : ∀ j u, [iv x][j]? = some u → (w.alloc (.cells #[iv x] 3)).cell? ((⟨w.heap.size, 0, none⟩ : Addr).add j) = some u := new_cell w (iv x) 3
  have hown2 : (w.alloc (.cells #[iv x] 3)).ownsRow base 3 1 (.slice a n cap) n (l.map iv) := hown.alloc _
  obtain ⟨y, w', hrun, ho, hg, _⟩ := run_append_own (P := Try.prog) (w.alloc (.cells #[iv x] 3)) base 23 ty 3 i0 (.int .i64 0) 1 8 Try.underlying23 hi hz0 hz1 hz2 rfl (by decide) _ n _ hown2 ⟨w.heap.size, 0, none⟩ 1 1 [iv x] rfl hnew (by simp [Value.oneCell']) (by unfold maxLen; omega) (by omega) (by simp; omega)
  obtain ⟨a', cap', rfl⟩ := slice_of_own ho
  refine ⟨a', cap', w', hrun, by simpa [OwnI] using ho, grownBy_trans (World.grownBy_alloc w _ _) hg (fun i e => .inl e), ?_⟩
  rcases hown2.2 with ⟨e1, e0⟩ | ⟨g, cap2, cur, e1, hbg, hg2, hnc, hcm, hcs, htake⟩
  · cases e1
    have hr := run_append_nil (P := Try.prog) (w.alloc (.cells #[iv x] 3)) 23 ty 3 i0 _ Try.underlying23 hi hz0 ⟨w.heap.size, 0, none⟩ 1 1 [iv x] (by rw [hz1]; rfl) hnew (by omega) (by omega) (by rw [hz2]; omega)
    rw [hr] at hrun
    simp only [Result.ok.injEq, Value.slice.injEq] at hrun
    exact .inr ⟨_, hrun.1.1.symm, by simp⟩
  · simp only [Value.slice.injEq, true_and] at e1
    obtain ⟨rfl, rfl⟩ := e1
    by_cases hroom : n + 1 ≤ cap
    · obtain ⟨w2, hr, _, _⟩ := run_append_fits (P := Try.prog) (w.alloc (.cells #[iv x] 3)) base 23 ty 3 i0 1 Try.underlying23 hi hz1 g n cap _ hown2 ⟨w.heap.size, 0, none⟩ 1 1 [iv x] rfl hnew (by simp [Value.oneCell']) hroom
      rw [hr] at hrun
      simp only [Result.ok.injEq, Value.slice.injEq] at hrun
      exact .inl hrun.1.1.symm
    · have holds : ∀ j u, (l.map iv)[j]? = some u → (w.alloc (.cells #[iv x] 3)).cell? ((⟨g, 0, none⟩ : Addr).add j) = some u := hown2.cells (g := g) rfl
      have hr := run_append_grow (P := Try.prog) (w.alloc (.cells #[iv x] 3)) 23 ty 3 i0 _ Try.underlying23 hi hz0 ⟨g, 0, none⟩ n cap (l.map iv) (by rw [hown2.1, hz1]) holds ⟨w.heap.size, 0, none⟩ 1 1 [iv x] (by rw [hz1]; rfl) hnew (by omega) (by omega) (growslice_fits (by omega) (by rw [hz2]; omega))
      rw [hr] at hrun
      simp only [Result.ok.injEq, Value.slice.injEq] at hrun
      exact .inr ⟨_, hrun.1.1.symm, by simp⟩

def obk : Option Addr → Option Nat
  | some a => some a.block
  | none => none
theorem ownBlock_obk (a : Option Addr) (n c : Nat) : (Value.slice a n c).ownBlock = obk a := by cases a <;> rfl
theorem OwnI.kept {w w' : World} {base n cap : Nat} {a : Option Addr} {l : List Nat} {row : Option Nat} (h : OwnI w base a n cap l) (hg : w.grownBy w' row) (hne : obk a = none ∨ obk a ≠ row) : OwnI w' base a n cap l :=
  World.ownsRow.kept h hg (by rw [ownBlock_obk]; exact hne)
theorem OwnI.row {w : World} {base n cap : Nat} {a : Option Addr} {l : List Nat} (h : OwnI w base a n cap l) : ∀ g, obk a = some g → base ≤ g ∧ g < w.heap.size := by
  intro g e
  rcases h.2 with ⟨e1, _⟩ | ⟨k, c, cur, e1, hb, hg, _⟩
  · injection e1 with e1 _ _; rw [e1] at e; cases e
  · injection e1 with e1 _ _; rw [e1] at e; cases e; exact ⟨hb, (Array.getElem?_eq_some_iff.1 hg).1⟩
end Go.Proofs.Ytngbfjimmdkfeaa

namespace Go.Proofs.Ytngbfjimmdkfeaa
open Go.RowKit

attribute [local go_sem] Oper.semAt_some

def nod0 : Nod := ⟨0, fun _ => 0, -1, -1⟩
end Go.Proofs.Ytngbfjimmdkfeaa

namespace Go.Proofs.Ytngbfjimmdkfeaa
open Go.RowKit

attribute [local go_sem] Oper.semAt_some

end Go.Proofs.Ytngbfjimmdkfeaa

namespace Go.Proofs.Ytngbfjimmdkfeaa
open Go.RowKit

attribute [local go_sem] Oper.semAt_some

end Go.Proofs.Ytngbfjimmdkfeaa

namespace Go.Proofs.Ytngbfjimmdkfeaa
open Go.RowKit

attribute [local go_sem] Oper.semAt_some

theorem OwnI.clear {w : World} {base n cap : Nat} {a : Option Addr} {l : List Nat} (h : OwnI w base a n cap l) : OwnI w base a 0 cap [] ∧ (a = none → n = 0 ∧ cap = 0) ∧ (∀ p, a = some p → ∃ g, p = ⟨g, 0, none⟩) ∧ n ≤ cap ∧ cap ≤ 9223372036854775807 := by
  rcases h.2 with ⟨e1, e2⟩ | ⟨g, c, cur, e, hb, hg, h1, h2, h3, h4⟩
  · injection e1 with e1 e2 e3
    subst e1 e2 e3
    exact ⟨⟨rfl, .inl ⟨rfl, rfl⟩⟩, fun _ => ⟨rfl, rfl⟩, fun p e => (by cases e), by omega, by omega⟩
  · injection e with e1 e2 e3
    subst e1 e3
    exact ⟨⟨rfl, .inr ⟨g, cap, cur, rfl, hb, hg, by omega, h2, h3, by simp⟩⟩, fun e => (by cases e), fun p e => (by cases e; exact ⟨g, rfl⟩), h1, by unfold maxLen at h2; omega⟩

end Go.Proofs.Ytngbfjimmdkfeaa

