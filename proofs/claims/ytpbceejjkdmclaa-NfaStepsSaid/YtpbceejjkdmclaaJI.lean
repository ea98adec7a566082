/- Texts of layer 2 joined: Text TextF. -/
import Derived.Test.YtpbceejjkdmclaaJH
import Derived.Test.YtpbceejjkdmclaaJB
set_option linter.unusedVariables false
set_option linter.unusedSimpArgs false
/- regex.appendText: an expression's text. -/
namespace Go.Proofs.Ytpbceejjkdmclaa
open Go.RowKit Go.Shelf

attribute [local go_sem] Oper.semAt_some

theorem plainB_kind {h : Hd} {len : Nat} (hp : plainB h len = true) : h.k = 1 ∨ (h.k = 2 ∧ 0 < h.set.length ∧ ordB h.set = true) ∨ h.k = 3 ∨ h.k = 4 ∨ h.k = 5 ∨ h.k = 6 ∨ h.k = 7 := by
  unfold plainB at hp
  split at hp
  · rename_i h1; left; simpa using h1
  · split at hp
    · rename_i h1 h2
      right; left
      simp only [Bool.and_eq_true, decide_eq_true_eq] at hp
      exact ⟨by simpa using h2, hp.1.1, hp.1.2⟩
    · split at hp
      · rename_i h1 h2 h3
        simp only [Bool.or_eq_true, beq_iff_eq] at h3
        rcases h3 with h3 | h3
        · exact .inr (.inr (.inl h3))
        · exact .inr (.inr (.inr (.inl h3)))
      · split at hp
        · rename_i h1 h2 h3 h4
          simp only [Bool.or_eq_true, beq_iff_eq] at h4
          rcases h4 with (h4 | h4) | h4
          · exact .inr (.inr (.inr (.inr (.inl h4))))
          · exact .inr (.inr (.inr (.inr (.inr (.inl h4)))))
          · exact .inr (.inr (.inr (.inr (.inr (.inr h4)))))
        · cases hp

end Go.Proofs.Ytpbceejjkdmclaa

/- regex.Text. -/
namespace Go.Proofs.Ytpbceejjkdmclaa
open Go.RowKit Go.Shelf

attribute [local go_sem] Oper.semAt_some

theorem okF_of_pre : ∀ (f : Fo) (d : Nat), (f.pre d).all (fun x => plainB x.h x.len) = true → okF f := by
  intro f
  induction f with
  | nil => intro d _; trivial
  | cons h kids rest ihk ihr =>
    intro d hp
    simp only [Fo.pre, List.all_cons, List.all_append, Bool.and_eq_true] at hp
    exact ⟨hp.1, ihk _ hp.2.1, ihr _ hp.2.2⟩
/-- Check's answer. -/
def ckE (h : Hd) (kids : Fo) : Int := checkE (Fo.pre 1 (.cons h kids .nil))
theorem ckE_ok {h : Hd} {kids : Fo} (e : ckE h kids = 0) : plainB h kids.len = true ∧ okF kids := by
  unfold ckE checkE at e
  split at e
  · rename_i hp
    have := okF_of_pre (.cons h kids .nil) 1 hp
    exact ⟨this.1, this.2.1⟩
  · cases e
/-- Text's answer. -/
def txE (h : Hd) (kids : Fo) : List UInt8 := if ckE h kids = 0 then textOf h kids else []

end Go.Proofs.Ytpbceejjkdmclaa
