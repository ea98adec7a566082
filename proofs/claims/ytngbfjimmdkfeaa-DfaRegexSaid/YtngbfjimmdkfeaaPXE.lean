/- Texts joined: Nd Ni Nt No Wf. -/
import Derived.Test.YtngbfjimmdkfeaaPXD
import Derived.Test.YtngbfjimmdkfeaaPXB
import Derived.Test.YtngbfjimmdkfeaaPXC
import Derived.Stop.RegionWithIn
import Derived.BigRegionIn
import Derived.Sort.QuietIn
import Derived.Sort.CutIn
import Derived.OwnWalkIn
import Derived.StillTail
import Derived.StillTactics
set_option linter.unusedVariables false
set_option linter.unusedSimpArgs false
namespace Go.Proofs.Ytngbfjimmdkfeaa
open Go.RowKit

theorem hasW_fext {f g : Nat → BitVec 64} (h : ∀ c, hasW f c = hasW g c) : f = g := by
  funext i
  apply BitVec.eq_of_getLsbD_eq
  intro r hr
  have := h (64 * i + r)
  unfold hasW at this
  rw [show (64 * i + r) / 64 = i by omega, show (64 * i + r) % 64 = r by omega] at this
  exact this
open Classical in
/-- The words of a list of spans. -/
noncomputable def fS (l : List Sp) : Nat → BitVec 64 := if h : ∃ f : Nat → BitVec 64, ∀ c, hasW f c = inSp l c then Classical.choose h else fun _ => 0
theorem fS_of {l : List Sp} {f : Nat → BitVec 64} (h : ∀ c, hasW f c = inSp l c) : f = fS l := by
  have he : ∃ f : Nat → BitVec 64, ∀ c, hasW f c = inSp l c := ⟨f, h⟩
  unfold fS
  rw [dif_pos he]
  exact hasW_fext fun c => (h c).trans (Classical.choose_spec he c).symm

/-- Node i's next one is v. -/
def setNext (ns : List Nod) (i v : Nat) : List Nod := ns.set i { ns.getD i nod0 with next := (v : Int) }
theorem setNext_length (ns : List Nod) (i v : Nat) : (setNext ns i v).length = ns.length := by simp [setNext]
/-- Where the last one at the depth ahead stands. -/
def upN (last : List Nat) (d : Nat) : Int := if 1 < d then ((last.getD (d - 2) 0 : Nat) : Int) else -1
/-- The nodes so far, one of them with its next one. -/
def ahead (s : List Nod × List Nat) (d : Nat) : List Nod := if d ≤ s.2.length then setNext s.1 (s.2.getD (d - 1) 0) s.1.length else s.1
noncomputable def nodStep (s : List Nod × List Nat) (x : Nd) : List Nod × List Nat :=
  (ahead s x.d ++ [⟨x.h.k, fS x.h.set, upN s.2 x.d, -1⟩], s.2.take (x.d - 1) ++ [s.1.length])
noncomputable def nodsP (l : List Nd) : List Nod × List Nat := l.foldl nodStep ([], [])
theorem ahead_length (s : List Nod × List Nat) (d : Nat) : (ahead s d).length = s.1.length := by unfold ahead; split <;> simp [setNext_length]

/-- What the last ones are like. -/
def LastOk (s : List Nod × List Nat) : Prop := s.2.length ≤ s.1.length ∧ ∀ v ∈ s.2, v < s.1.length
theorem LastOk.step {s : List Nod × List Nat} (h : LastOk s) (x : Nd) : LastOk (nodStep s x) := by
  obtain ⟨h1, h2⟩ := h
  refine ⟨?_, ?_⟩
  · simp only [nodStep, List.length_append, ahead_length, List.length_take, List.length_singleton]; omega
  · intro v hv
    simp only [nodStep, List.length_append, ahead_length, List.length_singleton] at hv ⊢
    rcases List.mem_append.1 hv with hv | hv
    · have := h2 v (List.mem_of_mem_take hv); omega
    · simp at hv; omega
theorem nodStep_length (s : List Nod × List Nat) (x : Nd) : (nodStep s x).1.length = s.1.length + 1 := by
  show (ahead s x.d ++ [_]).length = _
  rw [List.length_append, ahead_length]; rfl
end Go.Proofs.Ytngbfjimmdkfeaa

namespace Go.Proofs.Ytngbfjimmdkfeaa
open Go.RowKit Go.Shelf

attribute [local go_sem] Oper.semAt_some

end Go.Proofs.Ytngbfjimmdkfeaa

namespace Go.Proofs.Ytngbfjimmdkfeaa
open Go.RowKit Go.Shelf

section
variable {P : Program} {ops : Array Oper} {md : Region.Mode} {w : World} {l n : Nat}

end

section
variable {P : Program} {ops : Array Oper} {md : Region.Mode} {l n : Nat} {Q : Exit → Act → World → Prop}
end

section
variable {w W2 wx wy : World} {bx L M lc tc : Nat} {la ta : Option Addr} {ns : List Nod} {last : List Nat} {x : Nod}
end
end Go.Proofs.Ytngbfjimmdkfeaa

namespace Go.Proofs.Ytngbfjimmdkfeaa
open Go.RowKit Go.Shelf

attribute [local go_sem] Oper.semAt_some

end Go.Proofs.Ytngbfjimmdkfeaa

namespace Go.Proofs.Ytngbfjimmdkfeaa
open Go.RowKit

theorem pre_next (f : Fo) : ∀ (d i : Nat) (x : Nd), (f.pre d)[i]? = some x → 0 < x.len → i + 1 < (f.pre d).length := by
  induction f with
  | nil => intro d i x h; simp [Fo.pre] at h
  | cons h kids rest ihk ihr =>
    intro d i x hx hl
    simp only [Fo.pre] at hx ⊢
    simp only [List.length_cons, List.length_append]
    cases i with
    | zero =>
      simp at hx
      subst hx
      have h1 := Fo.len_le kids
      have h2 := Fo.pre_length kids (d + 1)
      simp only at hl
      omega
    | succ i =>
      rw [List.getElem?_cons_succ] at hx
      by_cases hi : i < (kids.pre (d + 1)).length
      · rw [List.getElem?_append_left hi] at hx
        have := ihk (d + 1) i x hx hl
        omega
      · rw [List.getElem?_append_right (by omega)] at hx
        have := ihr d _ x hx hl
        omega

/-- Of nodes made so far: where next and up lead. -/
def LinkOk (s : List Nod × List Nat) : Prop := ∀ i x, s.1[i]? = some x → (x.next = -1 ∨ ∃ j : Nat, x.next = (j : Int) ∧ i < j ∧ j < s.1.length) ∧ (x.up = -1 ∨ ∃ j : Nat, x.up = (j : Int) ∧ j < s.1.length)
theorem setNext_at (ns : List Nod) (i v k : Nat) (x : Nod) (h : (setNext ns i v)[k]? = some x) : ∃ y, ns[k]? = some y ∧ x.k = y.k ∧ x.f = y.f ∧ x.up = y.up ∧ ((k = i ∧ x.next = (v : Int)) ∨ (k ≠ i ∧ x = y)) := by
  unfold setNext at h
  rw [List.getElem?_set] at h
  by_cases e : i = k
  · subst e
    rw [if_pos rfl] at h
    by_cases hi : i < ns.length
    · rw [if_pos hi] at h
      have hg := getD_of hi
      cases h
      exact ⟨_, hg, rfl, rfl, rfl, .inl ⟨rfl, rfl⟩⟩
    · rw [if_neg hi] at h; cases h
  · rw [if_neg e] at h
    exact ⟨x, h, rfl, rfl, rfl, .inr ⟨fun e2 => e e2.symm, rfl⟩⟩
theorem ahead_at (s : List Nod × List Nat) (d k : Nat) (x : Nod) (h : (ahead s d)[k]? = some x) : ∃ y, s.1[k]? = some y ∧ x.k = y.k ∧ x.f = y.f ∧ x.up = y.up ∧ (x.next = y.next ∨ (x.next = (s.1.length : Int) ∧ k < s.1.length)) := by
  unfold ahead at h
  split at h
  · obtain ⟨y, h1, h2, h3, h4, h5⟩ := setNext_at _ _ _ _ _ h
    refine ⟨y, h1, h2, h3, h4, ?_⟩
    rcases h5 with ⟨_, h5⟩ | ⟨_, h5⟩
    · exact .inr ⟨h5, (List.getElem?_eq_some_iff.1 h1).1⟩
    · exact .inl (by rw [h5])
  · exact ⟨x, h, rfl, rfl, rfl, .inl rfl⟩
theorem LinkOk.step {s : List Nod × List Nat} (hl : LastOk s) (h : LinkOk s) (y : Nd) : LinkOk (nodStep s y) := by
  intro i x hx
  have hlen := nodStep_length s y
  simp only [nodStep] at hx
  rw [hlen]
  by_cases hi : i < s.1.length
  · rw [List.getElem?_append_left (by rw [ahead_length]; exact hi)] at hx
    obtain ⟨z, h1, -, -, h4, h5⟩ := ahead_at _ _ _ _ hx
    obtain ⟨k1, k2⟩ := h i z h1
    refine ⟨?_, ?_⟩
    · rcases h5 with h5 | ⟨h5, _⟩
      · rcases k1 with k1 | ⟨j, k1, k3, k4⟩
        · exact .inl (h5.trans k1)
        · exact .inr ⟨j, h5.trans k1, k3, by omega⟩
      · exact .inr ⟨s.1.length, h5, hi, by omega⟩
    · rcases k2 with k2 | ⟨j, k2, k3⟩
      · exact .inl (h4.trans k2)
      · exact .inr ⟨j, h4.trans k2, by omega⟩
  · rw [List.getElem?_append_right (by rw [ahead_length]; omega), ahead_length] at hx
    have : i - s.1.length = 0 := by
      have := (List.getElem?_eq_some_iff.1 hx).1
      simp at this
      omega
    rw [this] at hx
    simp at hx
    subst hx
    refine ⟨.inl rfl, ?_⟩
    simp only [upN]
    split
    · refine .inr ⟨_, rfl, ?_⟩
      rw [List.getD_eq_getElem?_getD]
      cases hg : s.2[y.d - 2]? with
      | none => simp
      | some v => have := hl.2 v (List.mem_of_getElem? hg); simp; omega
    · exact .inl rfl
theorem fold_link (l : List Nd) : ∀ s, LastOk s → LinkOk s → LinkOk (l.foldl nodStep s) := by
  induction l with
  | nil => intro s _ h; exact h
  | cons x l ih => intro s h1 h2; exact ih _ (h1.step x) (h2.step h1 x)
theorem nodsP_link (l : List Nd) : LinkOk (nodsP l) := fold_link l _ ⟨Nat.le_refl _, fun v hv => by simp at hv⟩ (fun i x h => by simp at h)
/-- Kinds and sets are the expressions'. -/
def KfOk (l : List Nd) (s : List Nod × List Nat) : Prop := s.1.length = l.length ∧ ∀ (i : Nat) (x : Nod), s.1[i]? = some x → ∃ y : Nd, l[i]? = some y ∧ x.k = y.h.k ∧ x.f = fS y.h.set
theorem KfOk.step {l : List Nd} {s : List Nod × List Nat} (h : KfOk l s) (y : Nd) : KfOk (l ++ [y]) (nodStep s y) := by
  obtain ⟨h1, h2⟩ := h
  refine ⟨by rw [nodStep_length]; simp [h1], ?_⟩
  intro i x hx
  simp only [nodStep] at hx
  by_cases hi : i < s.1.length
  · rw [List.getElem?_append_left (by rw [ahead_length]; exact hi)] at hx
    obtain ⟨z, k1, k2, k3, -, -⟩ := ahead_at _ _ _ _ hx
    obtain ⟨u, e1, e2, e3⟩ := h2 i z k1
    exact ⟨u, by rw [List.getElem?_append_left (by omega)]; exact e1, k2.trans e2, k3.trans e3⟩
  · rw [List.getElem?_append_right (by rw [ahead_length]; omega), ahead_length] at hx
    have h0 : i - s.1.length = 0 := by
      have := (List.getElem?_eq_some_iff.1 hx).1
      simp at this
      omega
    rw [h0] at hx
    simp at hx
    subst hx
    refine ⟨y, ?_, rfl, rfl⟩
    rw [List.getElem?_append_right (by omega), show i - l.length = 0 by omega]
    rfl
theorem fold_kf (l : List Nd) : ∀ (l0 : List Nd) s, KfOk l0 s → KfOk (l0 ++ l) (l.foldl nodStep s) := by
  induction l with
  | nil => intro l0 s h; simpa using h
  | cons x l ih => intro l0 s h; have := ih _ _ (h.step x); simpa using this
theorem nodsP_kf (l : List Nd) : KfOk l (nodsP l) := by
  have := fold_kf l [] ([], []) ⟨rfl, fun i x h => by simp at h⟩
  rw [List.nil_append] at this
  exact this
theorem plain_kids {h : Hd} {n : Nat} (hp : plainB h n = true) : (h.k = 1 ∨ h.k = 2) ∨ 0 < n := by
  unfold plainB at hp
  by_cases h1 : h.k = 1
  · exact .inl (.inl h1)
  by_cases h2 : h.k = 2
  · exact .inl (.inr h2)
  right
  rw [if_neg (by simpa using h1), if_neg (by simpa using h2)] at hp
  split at hp
  · simp at hp; omega
  · split at hp
    · simp at hp; omega
    · cases hp
theorem nodsP_wf (f : Fo) (hp : (f.pre 1).all (fun x => plainB x.h x.len) = true) : NodWf (nodsP (f.pre 1)).1 := by
  intro i x hx
  obtain ⟨hlen, hk⟩ := nodsP_kf (f.pre 1)
  obtain ⟨y, e1, e2, e3⟩ := hk i x hx
  obtain ⟨l1, l2⟩ := nodsP_link (f.pre 1) i x hx
  refine ⟨?_, l1, l2⟩
  have := List.all_eq_true.1 hp y (List.mem_of_getElem? e1)
  rcases plain_kids this with h | h
  · rw [e2]; exact .inl h
  · rw [hlen]; exact .inr (pre_next f 1 i y e1 h)
end Go.Proofs.Ytngbfjimmdkfeaa

