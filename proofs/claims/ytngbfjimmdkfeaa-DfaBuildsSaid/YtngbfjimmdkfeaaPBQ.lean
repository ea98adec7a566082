/- Texts joined: Qa Qb. -/
import Derived.Test.YtngbfjimmdkfeaaPBJ
import Derived.Test.YtngbfjimmdkfeaaPBG
set_option linter.unusedVariables false
set_option linter.unusedSimpArgs false
namespace Go.Proofs.Ytngbfjimmdkfeaa
open Go.RowKit

def ordP : List Sp → Prop
  | [] => True
  | s :: l => s.lo.toNat ≤ s.hi.toNat ∧ (∀ t ∈ l, s.hi.toNat + 2 ≤ t.lo.toNat) ∧ ordP l
theorem ordP_snoc (l : List Sp) (s : Sp) : ordP l → s.lo.toNat ≤ s.hi.toNat → (∀ t ∈ l, t.hi.toNat + 2 ≤ s.lo.toNat) → ordP (l ++ [s]) := by
  induction l with
  | nil => intro _ h _; exact ⟨h, fun t ht => by simp at ht, trivial⟩
  | cons x l ih =>
    rintro ⟨h1, h2, h3⟩ h4 h5
    refine ⟨h1, fun t ht => ?_, ih h3 h4 (fun t ht => h5 t (List.mem_cons_of_mem _ ht))⟩
    rcases List.mem_append.1 ht with ht | ht
    · exact h2 t ht
    · obtain rfl : t = s := by simpa using ht
      exact h5 x (List.mem_cons_self ..)
theorem ordP_last (m : List Sp) (p : Sp) : ordP (m ++ [p]) → ∀ t ∈ m ++ [p], t.hi.toNat ≤ p.hi.toNat := by
  induction m with
  | nil => intro _ t ht; obtain rfl : t = p := by simpa using ht
           exact Nat.le_refl _
  | cons x m ih =>
    rintro ⟨h1, h2, h3⟩ t ht
    rcases List.mem_cons.1 ht with rfl | ht
    · have := h2 p (by simp)
      have := ih h3 p (by simp)
      have h4 : p.lo.toNat ≤ p.hi.toNat := by
        clear ih h1 h2 this ht
        induction m with
        | nil => exact h3.1
        | cons y m ih2 => exact ih2 h3.2.2
      omega
    · exact ih h3 t ht
theorem ordB_ordP (l : List Sp) : ordB l = true → ordP l := by
  intro h
  obtain ⟨n, hn⟩ : ∃ n, n = l.length := ⟨_, rfl⟩
  induction n generalizing l with
  | zero => rw [List.length_eq_zero_iff.1 hn.symm]; trivial
  | succ n ih =>
    rcases List.eq_nil_or_concat l with e | ⟨m, s, e⟩
    · rw [e]; trivial
    · have e' : l = m ++ [s] := by simpa using e
      subst e'
      rw [ordB_snoc] at h
      simp only [Bool.and_eq_true, decide_eq_true_eq] at h
      obtain ⟨h1, h2, h3⟩ := h
      have hm := ih m h1 (by simp at hn; omega)
      refine ordP_snoc m s hm h2 ?_
      rcases List.eq_nil_or_concat m with e | ⟨m', q, e⟩
      · rw [e]; intro t ht; simp at ht
      · have e' : m = m' ++ [q] := by simpa using e
        subst e'
        unfold afterOk at h3
        simp only [List.getLast?_append, List.getLast?_singleton, Option.some_or, decide_eq_true_eq] at h3
        intro t ht
        have := ordP_last m' q hm t ht
        omega
theorem inSp_cons (s : Sp) (l : List Sp) (c : Nat) : inSp (s :: l) c = (decide (s.lo.toNat ≤ c ∧ c ≤ s.hi.toNat) || inSp l c) := by simp [inSp]
theorem inSp_low {l : List Sp} {b c : Nat} (h : ∀ t ∈ l, b ≤ t.lo.toNat) (hc : c < b) : inSp l c = false := by
  unfold inSp
  rw [List.any_eq_false]
  intro t ht
  have := h t ht
  simp; omega
theorem inSp_some {l : List Sp} {c : Nat} (h : inSp l c = true) : ∃ t ∈ l, t.lo.toNat ≤ c ∧ c ≤ t.hi.toNat := by
  unfold inSp at h
  rw [List.any_eq_true] at h
  obtain ⟨t, ht, hc⟩ := h
  exact ⟨t, ht, of_decide_eq_true hc⟩
theorem ord_ext : ∀ (l m : List Sp), ordP l → ordP m → (∀ c, inSp l c = inSp m c) → l = m := by
  intro l
  induction l with
  | nil =>
    intro m _ hm h
    cases m with
    | nil => rfl
    | cons t m =>
      have := h t.lo.toNat
      rw [inSp_cons, decide_eq_true ⟨Nat.le_refl _, hm.1⟩] at this
      simp [inSp] at this
  | cons s l ih =>
    rintro m ⟨s1, s2, s3⟩ hm h
    cases m with
    | nil =>
      have := h s.lo.toNat
      rw [inSp_cons, decide_eq_true ⟨Nat.le_refl _, s1⟩] at this
      simp [inSp] at this
    | cons t m =>
      obtain ⟨t1, t2, t3⟩ := hm
      have hlo : s.lo.toNat = t.lo.toNat := by
        have h1 := h s.lo.toNat
        rw [inSp_cons, decide_eq_true ⟨Nat.le_refl _, s1⟩, Bool.true_or] at h1
        obtain ⟨u, hu, hu1, _⟩ := inSp_some h1.symm
        have h2 := h t.lo.toNat
        rw [inSp_cons t, decide_eq_true ⟨Nat.le_refl _, t1⟩, Bool.true_or] at h2
        obtain ⟨v, hv, hv1, _⟩ := inSp_some h2
        have : t.lo.toNat ≤ u.lo.toNat := by
          rcases List.mem_cons.1 hu with rfl | hu
          · exact Nat.le_refl _
          · have := t2 u hu; omega
        have : s.lo.toNat ≤ v.lo.toNat := by
          rcases List.mem_cons.1 hv with rfl | hv
          · exact Nat.le_refl _
          · have := s2 v hv; omega
        omega
      have hhi : s.hi.toNat = t.hi.toNat := by
        rcases Nat.lt_trichotomy s.hi.toNat t.hi.toNat with h1 | h1 | h1
        · exfalso
          have h2 := h (s.hi.toNat + 1)
          rw [inSp_cons, inSp_cons t, decide_eq_false (by omega), decide_eq_true (by omega), inSp_low s2 (by omega)] at h2
          simp at h2
        · exact h1
        · exfalso
          have h2 := h (t.hi.toNat + 1)
          rw [inSp_cons, inSp_cons t, decide_eq_true (by omega), decide_eq_false (by omega), inSp_low t2 (by omega)] at h2
          simp at h2
      have hst : s = t := by
        cases s; cases t
        simp only at hlo hhi
        rw [UInt8.toNat_inj.1 hlo, UInt8.toNat_inj.1 hhi]
      subst hst
      congr 1
      refine ih m s3 t3 (fun c => ?_)
      by_cases hc : c ≤ s.hi.toNat + 1
      · rw [inSp_low s2 (by omega), inSp_low t2 (by omega)]
      · have := h c
        rw [inSp_cons, inSp_cons, decide_eq_false (by omega), Bool.false_or, Bool.false_or] at this
        exact this
theorem spP_self {l : List Sp} (h : ordB l = true) : spP (inSp l) 256 = l :=
  ord_ext _ _ (ordB_ordP _ (spP_ord l)) (ordB_ordP _ h) (spP_mem' l)

def its1 (s : Sp) : List Sp := if s.lo.toNat + 1 = s.hi.toNat then [⟨s.lo, s.lo⟩, ⟨s.hi, s.hi⟩] else [s]
def its (l : List Sp) : List Sp := l.flatMap its1
end Go.Proofs.Ytngbfjimmdkfeaa

namespace Go.Proofs.Ytngbfjimmdkfeaa
open Go.RowKit

def rp (x : Rd Ex) : Rd Ex := x.bind fun x r1 => .ok (repsP x r1).1 (repsP x r1).2

/-- What an expression that has just what its kind has is like. -/
theorem plain_cases {h : Hd} {kids : Fo} (hp : plainB h kids.len = true) :
    (h = ⟨1, []⟩ ∧ kids = .nil) ∨ (h.k = 2 ∧ kids = .nil ∧ h.set ≠ [] ∧ ordB h.set = true) ∨ ((h = ⟨3, []⟩ ∨ h = ⟨4, []⟩) ∧ 2 ≤ kids.len) ∨ ((h = ⟨5, []⟩ ∨ h = ⟨6, []⟩ ∨ h = ⟨7, []⟩) ∧ ∃ c ck, kids = .cons c ck .nil) := by
  obtain ⟨k, set⟩ := h
  have hnil : ((kids.len : Int) == 0) = true → kids = .nil := fun e => by
    cases kids with
    | nil => rfl
    | cons a b c => simp [Fo.len] at e; omega
  unfold plainB at hp
  simp only at hp
  by_cases h1 : k = 1
  · subst h1
    simp only [beq_self_eq_true, if_true, Bool.and_eq_true, beq_iff_eq] at hp
    exact .inl ⟨by rw [List.length_eq_zero_iff.1 hp.1], hnil (by simpa using hp.2)⟩
  rw [if_neg (by simpa using h1)] at hp
  by_cases h2 : k = 2
  · subst h2
    simp only [beq_self_eq_true, if_true, Bool.and_eq_true, decide_eq_true_eq] at hp
    exact .inr (.inl ⟨rfl, hnil hp.2, List.length_pos_iff.1 hp.1.1, hp.1.2⟩)
  rw [if_neg (by simpa using h2)] at hp
  split at hp
  · rename_i h3
    simp only [Bool.and_eq_true, beq_iff_eq, decide_eq_true_eq] at hp
    have hs := List.length_eq_zero_iff.1 hp.1
    subst hs
    simp only [Bool.or_eq_true, beq_iff_eq] at h3
    exact .inr (.inr (.inl ⟨by rcases h3 with rfl | rfl <;> simp, by omega⟩))
  · split at hp
    · rename_i h3
      simp only [Bool.and_eq_true, beq_iff_eq] at hp
      have hs := List.length_eq_zero_iff.1 hp.1
      subst hs
      simp only [Bool.or_eq_true, beq_iff_eq] at h3
      refine .inr (.inr (.inr ⟨by rcases h3 with (rfl | rfl) | rfl <;> simp, ?_⟩))
      cases kids with
      | nil => simp [Fo.len] at hp
      | cons c ck rest =>
        cases rest with
        | nil => exact ⟨c, ck, rfl⟩
        | cons a b d => simp [Fo.len] at hp; omega
    · cases hp
end Go.Proofs.Ytngbfjimmdkfeaa

