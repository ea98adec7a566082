/- Layer 7: the reader's rules, where they lie as they grow. -/
import Derived.Test.YtoaabfdilhbajaaXa
namespace Go.Proofs.Ytoaabfdilhbajaa
open Go.RowKit

section
variable {w w' : World} {base e size n cap : Nat} {v : Value} {a : Option Addr} {xs : List Value}
theorem own_typ (h : w.ownsRow base e size (.slice a n cap) n xs) : ∀ g, (Value.slice a n cap).ownBlock = some g → base ≤ g ∧ ∃ cur, w.heap[g]? = some (.cells cur e (0, 0)) := by
  intro g hg
  rcases h.2 with ⟨e, _⟩ | ⟨g', cap', cur, e, hb, hk, _⟩
  · rw [e] at hg; cases hg
  · rw [e] at hg
    simp only [Value.ownBlock, Option.some.injEq] at hg
    subst hg
    exact ⟨hb, cur, hk⟩
theorem own_ne_ty (h : w.ownsRow base e size (.slice a n cap) n xs) {g t : Nat} {cur : Array Value} {fr : Nat × Nat} (hk : w.heap[g]? = some (.cells cur t fr)) (ht : e ≠ t) : (Value.slice a n cap).ownBlock ≠ some g := by
  intro e0
  obtain ⟨_, cur', h2⟩ := own_typ h g e0
  rw [hk] at h2
  cases h2
  exact ht rfl
theorem own_lo {m : Nat} (h : w.ownsRow base e size (.slice a n cap) n xs) (hlo : ∀ g, (Value.slice a n cap).ownBlock = some g → g < m) {g : Nat} (hg : m ≤ g) : (Value.slice a n cap).ownBlock ≠ some g := fun e0 => by have := hlo g e0; omega
theorem own_lt (h : w.ownsRow base e size (.slice a n cap) n xs) : ∀ g, (Value.slice a n cap).ownBlock = some g → g < w.heap.size := fun g e0 => by
  obtain ⟨_, cur, h2⟩ := own_typ h g e0
  exact (Array.getElem?_eq_some_iff.1 h2).1
theorem own_mono {base' : Nat} (h : w.ownsRow base e size v n xs) (hb : base' ≤ base) : w.ownsRow base' e size v n xs :=
  ⟨h.1, h.2.imp id (fun ⟨g, cp, cur, e1, e2, e3⟩ => ⟨g, cp, cur, e1, Nat.le_trans hb e2, e3⟩)⟩
end
/-- A value is put onto an own row. -/
theorem run_pushV (w : World) (sT ty eT : TypeId) (zv : Value) (sz by_ : Nat) (hu : Try.prog.underlying sT = some (.slice eT)) (hinfo : (Try.prog.info? eT).map (fun i => (i.zero, i.size, i.bytes)) = some (some zv, sz, by_)) (hzs : zv.cells.size = sz) (hsz : 0 < sz) (hby : by_ ≤ 40) (cs : List Value) (hcl : cs.length = sz) (h1 : ∀ u ∈ cs, u.oneCell' = true)
    {base n cap : Nat} {a : Option Addr} {xs : List Value} (hown : w.ownsRow base eT sz (.slice a n cap) n xs) (hn : n + 1 ≤ 1099511627780) (hbase : base ≤ w.heap.size) :
    ∃ a' cap' w', (Builtin.append_ #[sT, sT] ty #[.slice a n cap, .slice (some ⟨w.heap.size, 0, none⟩) 1 1]).run Try.prog (w.alloc (.cells cs.toArray eT)) = .ok (.slice a' (n + 1) cap') w' ∧
      w'.ownsRow base eT sz (.slice a' (n + 1) cap') (n + 1) (xs ++ cs) ∧ w.grownBy w' (Value.slice a n cap).ownBlock := by
  obtain ⟨i0, hi, hz0, hz1, hz2⟩ := info_parts hinfo
  have hnew : ∀ j u, cs[j]? = some u → (w.alloc (.cells cs.toArray eT)).cell? ((⟨w.heap.size, 0, none⟩ : Addr).add j) = some u := by
    intro j u hj
    have := World.alloc_heap_new w (.cells cs.toArray eT)
    have e : ((⟨w.heap.size, 0, none⟩ : Addr).add j) = ⟨w.heap.size, j, none⟩ := by simp [Addr.add]; exact Eq.symm
    rw [e]
    unfold World.cell?
    rw [show ((⟨w.heap.size, j, none⟩ : Addr).block) = w.heap.size from rfl, this]
    simp only [Option.bind_some]
    simpa using hj
  obtain ⟨y, w', hrun, ho, hg, _⟩ := run_append_own (P := Try.prog) (w.alloc (.cells cs.toArray eT)) base sT ty eT i0 zv sz by_ hu hi hz0 hz1 hz2 hzs hsz _ n _ (hown.alloc _) ⟨w.heap.size, 0, none⟩ 1 1 cs (by rw [hcl]; omega) hnew h1 (by unfold maxLen; omega) (by have := Nat.mul_le_mul (show n + 1 ≤ 1099511627780 from hn) hby; omega) (by simp; omega)
  obtain ⟨a', cap', rfl⟩ := slice_of_own ho
  exact ⟨a', cap', w', hrun, ho, grownBy_trans (World.grownBy_alloc w _ _) hg (fun i e => .inl e)⟩
theorem info_str : (Try.prog.info? 9).map (fun i => (i.zero, i.size, i.bytes)) = some (some (.string ⟨#[]⟩), 1, 16) := by kernel_rfl
theorem info_strs : (Try.prog.info? 37).map (fun i => (i.zero, i.size, i.bytes)) = some (some (.slice none 0 0), 1, 24) := by kernel_rfl
theorem info_rule : (Try.prog.info? 40).map (fun i => (i.zero, i.size, i.bytes)) = some (some (.agg #[.string ⟨#[]⟩, .slice none 0 0]), 2, 40) := by kernel_rfl
end Go.Proofs.Ytoaabfdilhbajaa
