/- Texts joined: Ho Bo. -/
import Derived.Test.YtngbfjimmdkfeaaPBH8
import Derived.Test.YtngbfjimmdkfeaaPBK3
import Derived.Test.YtngbfjimmdkfeaaPBJ
set_option linter.unusedVariables false
set_option linter.unusedSimpArgs false
namespace Go.Proofs.Ytngbfjimmdkfeaa
open Go.RowKit Go.Shelf Go.Maps
attribute [local go_sem] Oper.semAt_some
end Go.Proofs.Ytngbfjimmdkfeaa

namespace Go.Proofs.Ytngbfjimmdkfeaa
open Go.RowKit

/-- append(nil, l...): l a list of numbers. -/
theorem run_appI (w : World) (ty : TypeId) (a2 : Option Addr) (c : Nat) (l : List Nat) (hI : IntsN w a2 c l) (hn : l.length ≤ 1000000) :
    ∃ a' cap' w', (Builtin.append_ #[23, 23] ty #[.slice none 0 0, .slice a2 l.length c]).run Try.prog w = .ok (.slice a' l.length cap') w' ∧ OwnI w' w.heap.size a' l.length cap' l ∧ Below w.heap.size w w' := by
  obtain ⟨i0, hi, hz0, hz1, hz2⟩ := info_parts info_int
  have hown : w.ownsRow w.heap.size 3 1 (.slice none 0 0) 0 [] := World.ownsRow_nil w w.heap.size _ 1
  cases a2 with
  | none =>
    obtain rfl : c = 0 := hI.nil_ rfl
    have h0 : l.length = 0 := by have := hI.le; rw [List.length_map] at this; omega
    obtain rfl := List.length_eq_zero_iff.1 h0
    exact ⟨none, 0, w, run_append_owned_none (P := Try.prog) w w.heap.size _ ty _ i0 1 Try.underlying23 hi _ _ _ hown, hown, Below.refl _ w⟩
  | some ad =>
    have hcells : ∀ j u, (l.map iv)[j]? = some u → w.cell? (ad.add j) = some u := by
      intro j u hj
      rw [List.getElem?_map] at hj
      obtain ⟨x, hx, rfl⟩ := Option.map_eq_some_iff.1 hj
      obtain ⟨hlt, rfl⟩ := List.getElem?_eq_some_iff.1 hx
      obtain ⟨b, o, e⟩ := hI.at_ j (by rw [List.length_map]; exact hlt)
      cases e
      rw [show (⟨b, o, none⟩ : Addr).add j = ⟨b, o + j, none⟩ from by unfold Addr.add; split <;> simp_all]
      have := hI.cell b o rfl j (by rw [List.length_map]; exact hlt)
      rw [List.getElem_map] at this
      exact this
    obtain ⟨v', w', hrun, ho, hg, _⟩ := run_append_own (P := Try.prog) w w.heap.size 23 ty 3 i0 (.int .i64 0) 1 8 Try.underlying23 hi hz0 hz1 hz2 rfl (by decide) _ 0 _ hown ad l.length c (l.map iv) (by simp) hcells (by simp [iv, Value.oneCell']) (by unfold maxLen; omega) (by omega) (Nat.le_refl _)
    rw [Nat.zero_add, List.nil_append] at ho
    obtain ⟨a', cap', rfl⟩ := slice_of_own ho
    exact ⟨a', cap', w', hrun, ho, grownBy_below hg (fun i e => by cases e)⟩
end Go.Proofs.Ytngbfjimmdkfeaa

