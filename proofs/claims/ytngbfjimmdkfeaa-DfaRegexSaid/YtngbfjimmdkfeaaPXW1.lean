/- Texts joined: Wi Wj Wk Wl. -/
import Derived.Test.YtngbfjimmdkfeaaPXK3
import Derived.Test.YtngbfjimmdkfeaaPXHo
import Derived.Test.YtngbfjimmdkfeaaPXM
set_option linter.unusedVariables false
set_option linter.unusedSimpArgs false
namespace Go.Proofs.Ytngbfjimmdkfeaa
open Go.RowKit Go.Shelf

attribute [local go_sem] Oper.semAt_some

/-- A rising list with a number. -/
def withP (l : List Nat) (n : Nat) : List Nat := if n ∈ l then l else l.filter (fun a => decide (a < n)) ++ [n] ++ l.filter (fun a => decide (n < a))
end Go.Proofs.Ytngbfjimmdkfeaa

namespace Go.Proofs.Ytngbfjimmdkfeaa
open Go.RowKit Go.Shelf

attribute [local go_sem] Oper.semAt_some

def Rising (l : List Nat) : Prop := l.Pairwise (· < ·)
theorem withP_mem (l : List Nat) (n a : Nat) : a ∈ withP l n ↔ a ∈ l ∨ a = n := by
  unfold withP
  split
  · rename_i h
    exact ⟨.inl, fun h' => h'.elim id (fun e => e ▸ h)⟩
  · rename_i h
    simp only [List.mem_append, List.mem_filter, List.mem_singleton, decide_eq_true_eq]
    constructor
    · rintro ((⟨h1, _⟩ | h1) | ⟨h1, _⟩)
      · exact .inl h1
      · exact .inr h1
      · exact .inl h1
    · rintro (h1 | rfl)
      · rcases Nat.lt_trichotomy a n with h2 | rfl | h2
        · exact .inl (.inl ⟨h1, h2⟩)
        · exact absurd h1 h
        · exact .inr ⟨h1, h2⟩
      · exact .inl (.inr rfl)
theorem withP_rising {l : List Nat} (h : Rising l) (n : Nat) : Rising (withP l n) := by
  unfold withP
  split
  · exact h
  · unfold Rising at *
    refine List.pairwise_append.2 ⟨List.pairwise_append.2 ⟨h.filter _, List.pairwise_singleton _ _, fun a ha b hb => ?_⟩, h.filter _, fun a ha b hb => ?_⟩
    · rw [List.mem_singleton.1 hb]
      exact of_decide_eq_true (List.mem_filter.1 ha).2
    · have hb2 : n < b := of_decide_eq_true (List.mem_filter.1 hb).2
      rcases List.mem_append.1 ha with h1 | h1
      · have : a < n := of_decide_eq_true (List.mem_filter.1 h1).2
        omega
      · rw [List.mem_singleton.1 h1]; exact hb2
theorem rising_len : ∀ (l : List Nat) (b N : Nat), Rising l → (∀ a ∈ l, b ≤ a ∧ a < N) → l.length ≤ N - b
  | [], b, N, _, _ => Nat.zero_le _
  | x :: l, b, N, h, hm => by
    unfold Rising at h
    rw [List.pairwise_cons] at h
    have h1 := hm x (List.mem_cons_self ..)
    have h2 := rising_len l (x + 1) N h.2 (fun a ha => ⟨h.1 a ha, (hm a (List.mem_cons_of_mem _ ha)).2⟩)
    simp only [List.length_cons]
    omega
structure CloI (x : Nf) (set out : List Nat) : Prop where
  ris : Rising out
  has : ∀ v ∈ set, v ∈ out
  only : ∀ v ∈ out, Rn x (· ∈ set) v
  lt : ∀ v ∈ out, v < x.n.toNat
theorem CloI.add {x : Nf} {set out : List Nat} (h : CloI x set out) {a b : Nat} (ha : a ∈ out) (hs : nstep x a b) (hb : b < x.n.toNat) : CloI x set (withP out b) :=
  ⟨withP_rising h.ris b, fun v hv => (withP_mem _ _ _).2 (.inl (h.has v hv)), fun v hv => ((withP_mem _ _ _).1 hv).elim (h.only v) (fun e => e ▸ .step (h.only a ha) hs), fun v hv => ((withP_mem _ _ _).1 hv).elim (h.lt v) (fun e => e ▸ hb)⟩
theorem CloI.len {x : Nf} {set out : List Nat} (h : CloI x set out) : out.length ≤ x.n.toNat := rising_len out 0 _ h.ris (fun a ha => ⟨Nat.zero_le _, h.lt a ha⟩)
/-- No edge so far leads out of it. -/
def Shut (x : Nf) (k : Nat) (out : List Nat) : Prop := ∀ j, j < k → ∀ e, x.es[j]? = some e → e.q = [] → ∀ a b : Nat, e.f = (a : Int) → e.t = (b : Int) → a ∈ out → b ∈ out
theorem Shut.all {x : Nf} {set out : List Nat} (h : Shut x x.es.length out) (hc : CloI x set out) (a : Nat) : a ∈ out ↔ Rn x (· ∈ set) a :=
  ⟨hc.only a, Rn.closed hc.has (fun a b ha ⟨e, he, hq, h1, h2⟩ => by
    obtain ⟨j, hj, rfl⟩ := List.getElem_of_mem he
    exact h j hj _ (List.getElem?_eq_getElem hj) hq a b h1 h2 ha)⟩
theorem Shut.next {x : Nf} {k : Nat} {out : List Nat} (h : Shut x k out) {e : Eg} (hk : x.es[k]? = some e) (h1 : e.q = [] → ∀ a b : Nat, e.f = (a : Int) → e.t = (b : Int) → a ∈ out → b ∈ out) : Shut x (k + 1) out := by
  intro j hj e' he'
  by_cases hjk : j < k
  · exact h j hjk e' he'
  · obtain rfl : j = k := by omega
    rw [hk] at he'
    cases he'
    exact h1
end Go.Proofs.Ytngbfjimmdkfeaa

namespace Go.Proofs.Ytngbfjimmdkfeaa
open Go.RowKit Go.Shelf

attribute [local go_sem] Oper.semAt_some

end Go.Proofs.Ytngbfjimmdkfeaa

namespace Go.Proofs.Ytngbfjimmdkfeaa
open Go.RowKit Go.Shelf

attribute [local go_sem] Oper.semAt_some

end Go.Proofs.Ytngbfjimmdkfeaa

