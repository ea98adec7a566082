/- Texts joined: Nd Ni Nt No Wf. -/
import Derived.Test.YtngbfjimmdkfeaaJD
import Derived.Test.YtngbfjimmdkfeaaJB
import Derived.Test.YtngbfjimmdkfeaaJC
import Derived.Stop.RegionWithIn
import Derived.BigRegionIn
import Derived.Sort.QuietIn
import Derived.Sort.CutIn
import Derived.OwnWalkIn
import Derived.StillTail
import Derived.StillTactics
set_option linter.unusedVariables false
set_option linter.unusedSimpArgs false
namespace Go.Proofs.Ytngbfjimmdkfeaa
open Go.RowKit

open Classical in
/-- The words of a list of spans. -/
noncomputable def fS (l : List Sp) : Nat → BitVec 64 := if h : ∃ f : Nat → BitVec 64, ∀ c, hasW f c = inSp l c then Classical.choose h else fun _ => 0
/-- Node i's next one is v. -/
def setNext (ns : List Nod) (i v : Nat) : List Nod := ns.set i { ns.getD i nod0 with next := (v : Int) }
theorem setNext_length (ns : List Nod) (i v : Nat) : (setNext ns i v).length = ns.length := by simp [setNext]
/-- Where the last one at the depth ahead stands. -/
def upN (last : List Nat) (d : Nat) : Int := if 1 < d then ((last.getD (d - 2) 0 : Nat) : Int) else -1
/-- The nodes so far, one of them with its next one. -/
def ahead (s : List Nod × List Nat) (d : Nat) : List Nod := if d ≤ s.2.length then setNext s.1 (s.2.getD (d - 1) 0) s.1.length else s.1
noncomputable def nodStep (s : List Nod × List Nat) (x : Nd) : List Nod × List Nat :=
  (ahead s x.d ++ [⟨x.h.k, fS x.h.set, upN s.2 x.d, -1⟩], s.2.take (x.d - 1) ++ [s.1.length])
theorem ahead_length (s : List Nod × List Nat) (d : Nat) : (ahead s d).length = s.1.length := by unfold ahead; split <;> simp [setNext_length]

/-- What the last ones are like. -/
def LastOk (s : List Nod × List Nat) : Prop := s.2.length ≤ s.1.length ∧ ∀ v ∈ s.2, v < s.1.length
theorem LastOk.step {s : List Nod × List Nat} (h : LastOk s) (x : Nd) : LastOk (nodStep s x) := by
  obtain ⟨h1, h2⟩ := h
  refine ⟨?_, ?_⟩
  · simp only [nodStep, List.length_append, ahead_length, List.length_take, List.length_singleton]; omega
  · intro v hv
    simp only [nodStep, List.length_append, ahead_length, List.length_singleton] at hv ⊢
    rcases List.mem_append.1 hv with hv | hv
    · have := h2 v (List.mem_of_mem_take hv); omega
    · simp at hv; omega
theorem nodStep_length (s : List Nod × List Nat) (x : Nd) : (nodStep s x).1.length = s.1.length + 1 := by
  show (ahead s x.d ++ [_]).length = _
  rw [List.length_append, ahead_length]; rfl
end Go.Proofs.Ytngbfjimmdkfeaa

namespace Go.Proofs.Ytngbfjimmdkfeaa
open Go.RowKit Go.Shelf

attribute [local go_sem] Oper.semAt_some

end Go.Proofs.Ytngbfjimmdkfeaa

namespace Go.Proofs.Ytngbfjimmdkfeaa
open Go.RowKit Go.Shelf

section
variable {P : Program} {ops : Array Oper} {md : Region.Mode} {w : World} {l n : Nat}

end

section
variable {P : Program} {ops : Array Oper} {md : Region.Mode} {l n : Nat} {Q : Exit → Act → World → Prop}
end

structure Keep (n₀ : Nat) (W W' : World) : Prop where
  oth : KeepsOthers W W'
  spa : Spares n₀ itT W W'
theorem Keep.trans {n₀ : Nat} {A B C : World} (h : Keep n₀ A B) (k : Keep n₀ B C) : Keep n₀ A C := ⟨h.oth.trans k.oth, h.spa.trans k.spa⟩
theorem Keep.grown {n₀ : Nat} {W W' : World} {row : Option Nat} (hg : W.grownBy W' row) (hn : n₀ ≤ W.heap.size) (hr : ∀ r, row = some r → n₀ ≤ r ∧ ∃ cs t fr, W.heap[r]? = some (Obj.cells cs t fr) ∧ itT t = false) : Keep n₀ W W' :=
  ⟨KeepsOthers.of_grownBy hg (fun j o e ho => by obtain ⟨_, cs, t, fr, h1, _⟩ := hr j e; rw [ho] at h1; cases h1; rfl),
   Spares.grown hg hn (fun r e => ⟨(hr r e).1, fun cs t fr hcs => by obtain ⟨_, cs', t', fr', h1, h2⟩ := hr r e; rw [hcs] at h1; cases h1; exact h2⟩)⟩

section
variable {w W2 wx wy : World} {bx L M lc tc : Nat} {la ta : Option Addr} {ns : List Nod} {last : List Nat} {x : Nod}
end
end Go.Proofs.Ytngbfjimmdkfeaa

namespace Go.Proofs.Ytngbfjimmdkfeaa
open Go.RowKit Go.Shelf

attribute [local go_sem] Oper.semAt_some

end Go.Proofs.Ytngbfjimmdkfeaa

namespace Go.Proofs.Ytngbfjimmdkfeaa
open Go.RowKit

/-- Of nodes made so far: where next and up lead. -/
def LinkOk (s : List Nod × List Nat) : Prop := ∀ i x, s.1[i]? = some x → (x.next = -1 ∨ ∃ j : Nat, x.next = (j : Int) ∧ i < j ∧ j < s.1.length) ∧ (x.up = -1 ∨ ∃ j : Nat, x.up = (j : Int) ∧ j < s.1.length)
theorem setNext_at (ns : List Nod) (i v k : Nat) (x : Nod) (h : (setNext ns i v)[k]? = some x) : ∃ y, ns[k]? = some y ∧ x.k = y.k ∧ x.f = y.f ∧ x.up = y.up ∧ ((k = i ∧ x.next = (v : Int)) ∨ (k ≠ i ∧ x = y)) := by
  unfold setNext at h
  rw [List.getElem?_set] at h
  by_cases e : i = k
  · subst e
    rw [if_pos rfl] at h
    by_cases hi : i < ns.length
    · rw [if_pos hi] at h
      have hg := getD_of hi
      cases h
      exact ⟨_, hg, rfl, rfl, rfl, .inl ⟨rfl, rfl⟩⟩
    · rw [if_neg hi] at h; cases h
  · rw [if_neg e] at h
    exact ⟨x, h, rfl, rfl, rfl, .inr ⟨fun e2 => e e2.symm, rfl⟩⟩
theorem ahead_at (s : List Nod × List Nat) (d k : Nat) (x : Nod) (h : (ahead s d)[k]? = some x) : ∃ y, s.1[k]? = some y ∧ x.k = y.k ∧ x.f = y.f ∧ x.up = y.up ∧ (x.next = y.next ∨ (x.next = (s.1.length : Int) ∧ k < s.1.length)) := by
  unfold ahead at h
  split at h
  · obtain ⟨y, h1, h2, h3, h4, h5⟩ := setNext_at _ _ _ _ _ h
    refine ⟨y, h1, h2, h3, h4, ?_⟩
    rcases h5 with ⟨_, h5⟩ | ⟨_, h5⟩
    · exact .inr ⟨h5, (List.getElem?_eq_some_iff.1 h1).1⟩
    · exact .inl (by rw [h5])
  · exact ⟨x, h, rfl, rfl, rfl, .inl rfl⟩
theorem LinkOk.step {s : List Nod × List Nat} (hl : LastOk s) (h : LinkOk s) (y : Nd) : LinkOk (nodStep s y) := by
  intro i x hx
  have hlen := nodStep_length s y
  simp only [nodStep] at hx
  rw [hlen]
  by_cases hi : i < s.1.length
  · rw [List.getElem?_append_left (by rw [ahead_length]; exact hi)] at hx
    obtain ⟨z, h1, -, -, h4, h5⟩ := ahead_at _ _ _ _ hx
    obtain ⟨k1, k2⟩ := h i z h1
    refine ⟨?_, ?_⟩
    · rcases h5 with h5 | ⟨h5, _⟩
      · rcases k1 with k1 | ⟨j, k1, k3, k4⟩
        · exact .inl (h5.trans k1)
        · exact .inr ⟨j, h5.trans k1, k3, by omega⟩
      · exact .inr ⟨s.1.length, h5, hi, by omega⟩
    · rcases k2 with k2 | ⟨j, k2, k3⟩
      · exact .inl (h4.trans k2)
      · exact .inr ⟨j, h4.trans k2, by omega⟩
  · rw [List.getElem?_append_right (by rw [ahead_length]; omega), ahead_length] at hx
    have : i - s.1.length = 0 := by
      have := (List.getElem?_eq_some_iff.1 hx).1
      simp at this
      omega
    rw [this] at hx
    simp at hx
    subst hx
    refine ⟨.inl rfl, ?_⟩
    simp only [upN]
    split
    · refine .inr ⟨_, rfl, ?_⟩
      rw [List.getD_eq_getElem?_getD]
      cases hg : s.2[y.d - 2]? with
      | none => simp
      | some v => have := hl.2 v (List.mem_of_getElem? hg); simp; omega
    · exact .inl rfl
/-- Kinds and sets are the expressions'. -/
def KfOk (l : List Nd) (s : List Nod × List Nat) : Prop := s.1.length = l.length ∧ ∀ (i : Nat) (x : Nod), s.1[i]? = some x → ∃ y : Nd, l[i]? = some y ∧ x.k = y.h.k ∧ x.f = fS y.h.set
theorem KfOk.step {l : List Nd} {s : List Nod × List Nat} (h : KfOk l s) (y : Nd) : KfOk (l ++ [y]) (nodStep s y) := by
  obtain ⟨h1, h2⟩ := h
  refine ⟨by rw [nodStep_length]; simp [h1], ?_⟩
  intro i x hx
  simp only [nodStep] at hx
  by_cases hi : i < s.1.length
  · rw [List.getElem?_append_left (by rw [ahead_length]; exact hi)] at hx
    obtain ⟨z, k1, k2, k3, -, -⟩ := ahead_at _ _ _ _ hx
    obtain ⟨u, e1, e2, e3⟩ := h2 i z k1
    exact ⟨u, by rw [List.getElem?_append_left (by omega)]; exact e1, k2.trans e2, k3.trans e3⟩
  · rw [List.getElem?_append_right (by rw [ahead_length]; omega), ahead_length] at hx
    have h0 : i - s.1.length = 0 := by
      have := (List.getElem?_eq_some_iff.1 hx).1
      simp at this
      omega
    rw [h0] at hx
    simp at hx
    subst hx
    refine ⟨y, ?_, rfl, rfl⟩
    rw [List.getElem?_append_right (by omega), show i - l.length = 0 by omega]
    rfl
end Go.Proofs.Ytngbfjimmdkfeaa

