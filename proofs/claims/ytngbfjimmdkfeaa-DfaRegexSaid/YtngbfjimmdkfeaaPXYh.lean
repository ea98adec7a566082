/- Texts joined: Yh. -/
import Derived.Test.YtngbfjimmdkfeaaPXK2
import Derived.Test.YtngbfjimmdkfeaaPXNm
set_option linter.unusedVariables false
set_option linter.unusedSimpArgs false
namespace Go.Proofs.Ytngbfjimmdkfeaa
open Go.RowKit Go.Shelf

/-- All sets are in order. -/
def Orl (s : Bs) : Prop := ∀ e ∈ s.2, ordB e.q = true
theorem Orl.grw {s : Bs} (h : Orl s) (f : Nat) {q : List Sp} (hq : ordB q = true) : Orl (grw f q s).2 := by
  intro e he
  rcases List.mem_append.1 (show e ∈ s.2 ++ [(⟨(f : Int), (s.1 : Int), q⟩ : Eg)] from he) with h1 | h1
  · exact h e h1
  · rw [List.mem_singleton.1 h1]; exact hq
theorem Orl.lnk {s : Bs} (h : Orl s) (f t : Nat) {q : List Sp} (hq : ordB q = true) : Orl (lnk f t q s) := by
  intro e he
  rcases List.mem_append.1 (show e ∈ s.2 ++ [(⟨(f : Int), (t : Int), q⟩ : Eg)] from he) with h1 | h1
  · exact h e h1
  · rw [List.mem_singleton.1 h1]; exact hq
theorem ordB_nil : ordB [] = true := rfl
theorem Orl.all (e : Nat) : ∀ (l : List Nat) {s : Bs}, Orl s → Orl (lnkAll e l s) := by
  intro l
  induction l with
  | nil => intro s h; exact h
  | cons x r ih => intro s h; exact ih (h.lnk x e ordB_nil)
theorem Orl.altEnd {r : List Nat × Bs} (h : Orl r.2) : Orl (altEnd r).2 := by
  obtain ⟨l, s⟩ := r
  cases l with
  | nil => exact h
  | cons x l => exact Orl.all _ l (Orl.grw h x ordB_nil)
theorem bX_orl {h : Hd} {K : Bk} (hq : ordB h.set = true) (hc : ∀ a s, Orl s → Orl (K.cat a s).2) (ha : ∀ a s, Orl s → Orl (K.alt a s).2) (hf : ∀ a s, Orl s → Orl (K.fst a s).2) : ∀ a s, Orl s → Orl (bX h K a s).2 := by
  intro a s hs
  have hl : Orl (bLoop K.fst a s).2 := (hf _ _ (hs.grw a ordB_nil)).lnk _ _ ordB_nil
  unfold bX
  split
  · exact hc a s hs
  split
  · exact (ha a s hs).altEnd
  split
  · exact hl.grw _ ordB_nil
  split
  · exact hl.grw _ ordB_nil
  split
  · exact ((hf _ _ (hs.grw a ordB_nil)).grw _ ordB_nil).lnk _ _ ordB_nil
  · exact hs.grw a hq
theorem plain_ord {h : Hd} {kids : Fo} (hp : plainB h kids.len = true) : ordB h.set = true := by
  rcases plain_cases hp with ⟨rfl, _⟩ | ⟨_, _, _, ho⟩ | ⟨h34, _⟩ | ⟨h567, _⟩
  · rfl
  · exact ho
  · rcases h34 with rfl | rfl <;> rfl
  · rcases h567 with rfl | rfl | rfl <;> rfl
theorem bF_orl : ∀ (f : Fo), okF f → (∀ a s, Orl s → Orl ((bF f).cat a s).2) ∧ (∀ a s, Orl s → Orl ((bF f).alt a s).2) ∧ (∀ a s, Orl s → Orl ((bF f).fst a s).2) := by
  intro f
  induction f with
  | nil => intro _; exact ⟨fun a s h => h, fun a s h => h, fun a s h => h⟩
  | cons h k r ihk ihr =>
    rintro ⟨o1, o2, o3⟩
    obtain ⟨k1, k2, k3⟩ := ihk o2
    obtain ⟨r1, r2, _⟩ := ihr o3
    have hX := bX_orl (h := h) (K := bF k) (plain_ord o1) k1 k2 k3
    exact ⟨fun a s hs => r1 _ _ (hX a s hs), fun a s hs => r2 _ _ (hX _ _ (hs.grw a ordB_nil)), hX⟩
theorem bL_orl : ∀ (f : Fo), okF f → ∀ s, Orl s → Orl (bL f s).2 := by
  intro f
  induction f with
  | nil => intro _ s hs; exact hs
  | cons h k r _ ihr =>
    rintro ⟨o1, o2, o3⟩ s hs
    have hX := (bF_orl (.cons h k .nil) ⟨o1, o2, trivial⟩).2.2
    exact ihr o3 _ (hX 0 s hs)
theorem aut_good {f : Fo} (ho : okF f) (hs : 1 + stF f ≤ 2000) : nfB (autF f) = true := by
  unfold nfB
  rw [aut_link ho hs, Bool.true_and, List.all_eq_true]
  exact bL_orl f ho (1, []) (fun e he => by cases he)
end Go.Proofs.Ytngbfjimmdkfeaa

