/- Texts joined: Qa Qb. -/
import Derived.Test.YtngbfjimmdkfeaaPXJ
import Derived.Test.YtngbfjimmdkfeaaPXG
set_option linter.unusedVariables false
set_option linter.unusedSimpArgs false
namespace Go.Proofs.Ytngbfjimmdkfeaa
open Go.RowKit

def its1 (s : Sp) : List Sp := if s.lo.toNat + 1 = s.hi.toNat then [⟨s.lo, s.lo⟩, ⟨s.hi, s.hi⟩] else [s]
def its (l : List Sp) : List Sp := l.flatMap its1
end Go.Proofs.Ytngbfjimmdkfeaa

namespace Go.Proofs.Ytngbfjimmdkfeaa
open Go.RowKit

def rp (x : Rd Ex) : Rd Ex := x.bind fun x r1 => .ok (repsP x r1).1 (repsP x r1).2

/-- What an expression that has just what its kind has is like. -/
theorem plain_cases {h : Hd} {kids : Fo} (hp : plainB h kids.len = true) :
    (h = ⟨1, []⟩ ∧ kids = .nil) ∨ (h.k = 2 ∧ kids = .nil ∧ h.set ≠ [] ∧ ordB h.set = true) ∨ ((h = ⟨3, []⟩ ∨ h = ⟨4, []⟩) ∧ 2 ≤ kids.len) ∨ ((h = ⟨5, []⟩ ∨ h = ⟨6, []⟩ ∨ h = ⟨7, []⟩) ∧ ∃ c ck, kids = .cons c ck .nil) := by
  obtain ⟨k, set⟩ := h
  have hnil : ((kids.len : Int) == 0) = true → kids = .nil := fun e => by
    cases kids with
    | nil => rfl
    | cons a b c => simp [Fo.len] at e; omega
  unfold plainB at hp
  simp only at hp
  by_cases h1 : k = 1
  · subst h1
    simp only [beq_self_eq_true, if_true, Bool.and_eq_true, beq_iff_eq] at hp
    exact .inl ⟨by rw [List.length_eq_zero_iff.1 hp.1], hnil (by simpa using hp.2)⟩
  rw [if_neg (by simpa using h1)] at hp
  by_cases h2 : k = 2
  · subst h2
    simp only [beq_self_eq_true, if_true, Bool.and_eq_true, decide_eq_true_eq] at hp
    exact .inr (.inl ⟨rfl, hnil hp.2, List.length_pos_iff.1 hp.1.1, hp.1.2⟩)
  rw [if_neg (by simpa using h2)] at hp
  split at hp
  · rename_i h3
    simp only [Bool.and_eq_true, beq_iff_eq, decide_eq_true_eq] at hp
    have hs := List.length_eq_zero_iff.1 hp.1
    subst hs
    simp only [Bool.or_eq_true, beq_iff_eq] at h3
    exact .inr (.inr (.inl ⟨by rcases h3 with rfl | rfl <;> simp, by omega⟩))
  · split at hp
    · rename_i h3
      simp only [Bool.and_eq_true, beq_iff_eq] at hp
      have hs := List.length_eq_zero_iff.1 hp.1
      subst hs
      simp only [Bool.or_eq_true, beq_iff_eq] at h3
      refine .inr (.inr (.inr ⟨by rcases h3 with (rfl | rfl) | rfl <;> simp, ?_⟩))
      cases kids with
      | nil => simp [Fo.len] at hp
      | cons c ck rest =>
        cases rest with
        | nil => exact ⟨c, ck, rfl⟩
        | cons a b d => simp [Fo.len] at hp; omega
    · cases hp
end Go.Proofs.Ytngbfjimmdkfeaa

