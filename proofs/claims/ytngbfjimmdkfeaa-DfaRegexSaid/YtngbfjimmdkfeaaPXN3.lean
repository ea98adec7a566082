/- Texts joined: Gp. -/
import Derived.Test.YtngbfjimmdkfeaaPXN1
import Derived.Test.YtngbfjimmdkfeaaPXQ
set_option linter.unusedVariables false
set_option linter.unusedSimpArgs false
namespace Go.Proofs.Ytngbfjimmdkfeaa
open Go.RowKit

/-- How many states there are, and the edges. -/
abbrev Bs := Nat × List Eg
def lnk (f t : Nat) (q : List Sp) (s : Bs) : Bs := (s.1, s.2 ++ [⟨(f : Int), (t : Int), q⟩])
/-- A new state, and an edge to it. -/
def grw (f : Nat) (q : List Sp) (s : Bs) : Nat × Bs := (s.1, (s.1 + 1, s.2 ++ [⟨(f : Int), (s.1 : Int), q⟩]))
/-- What a list of expressions makes: one behind the other; side by side; the first. -/
structure Bk where
  cat : Nat → Bs → Nat × Bs
  alt : Nat → Bs → List Nat × Bs
  fst : Nat → Bs → Nat × Bs
def lnkAll (e : Nat) : List Nat → Bs → Bs
  | [], s => s
  | x :: r, s => lnkAll e r (lnk x e [] s)
/-- An Alt's end, behind its alternatives. -/
def altEnd (r : List Nat × Bs) : Nat × Bs := match r.1 with
  | [] => (0, r.2)
  | x :: l => ((grw x [] r.2).1, lnkAll (grw x [] r.2).1 l (grw x [] r.2).2)
/-- A loop: where it begins, where it ends. -/
def bLoop (g : Nat → Bs → Nat × Bs) (f : Nat) (s : Bs) : (Nat × Nat) × Bs :=
  (((grw f [] s).1, (g (grw f [] s).1 (grw f [] s).2).1), lnk (g (grw f [] s).1 (grw f [] s).2).1 (grw f [] s).1 [] (g (grw f [] s).1 (grw f [] s).2).2)
def bOpt (g : Nat → Bs → Nat × Bs) (f : Nat) (s : Bs) : Nat × Bs :=
  ((grw (g (grw f [] s).1 (grw f [] s).2).1 [] (g (grw f [] s).1 (grw f [] s).2).2).1,
    lnk f (grw (g (grw f [] s).1 (grw f [] s).2).1 [] (g (grw f [] s).1 (grw f [] s).2).2).1 [] (grw (g (grw f [] s).1 (grw f [] s).2).1 [] (g (grw f [] s).1 (grw f [] s).2).2).2)
/-- What an expression makes from a state: the state in which it ends. -/
def bX (h : Hd) (K : Bk) (f : Nat) (s : Bs) : Nat × Bs :=
  if h.k = 3 then K.cat f s
  else if h.k = 4 then altEnd (K.alt f s)
  else if h.k = 5 then grw (bLoop K.fst f s).1.1 [] (bLoop K.fst f s).2
  else if h.k = 6 then grw (bLoop K.fst f s).1.2 [] (bLoop K.fst f s).2
  else if h.k = 7 then bOpt K.fst f s
  else grw f h.set s
def bF : Fo → Bk
  | .nil => ⟨fun f s => (f, s), fun _ s => ([], s), fun f s => (f, s)⟩
  | .cons h k r => ⟨fun f s => (bF r).cat (bX h (bF k) f s).1 (bX h (bF k) f s).2,
      fun f s => ((bX h (bF k) (grw f [] s).1 (grw f [] s).2).1 :: ((bF r).alt f (bX h (bF k) (grw f [] s).1 (grw f [] s).2).2).1, ((bF r).alt f (bX h (bF k) (grw f [] s).1 (grw f [] s).2).2).2),
      bX h (bF k)⟩
/-- An expression's making. -/
def bE (h : Hd) (kids : Fo) : Nat → Bs → Nat × Bs := bX h (bF kids)

/-- How many states are new. -/
def stX (h : Hd) (len st : Nat) : Nat := st + (if h.k = 1 ∨ h.k = 2 then 1 else if h.k = 4 then len + 1 else if h.k = 5 ∨ h.k = 6 ∨ h.k = 7 then 2 else 0)
def stF : Fo → Nat
  | .nil => 0
  | .cons h k r => stX h k.len (stF k) + stF r
def stE (h : Hd) (k : Fo) : Nat := stX h k.len (stF k)
/-- What is made only grows: edges are laid behind those that are there. -/
def Grows (s s' : Bs) (d c : Nat) : Prop := s'.1 = s.1 + d ∧ s'.2.length ≤ s.2.length + c ∧ ∃ m, s'.2 = s.2 ++ m
theorem Grows.refl (s : Bs) : Grows s s 0 0 := ⟨rfl, Nat.le_refl _, [], by simp⟩
theorem Grows.trans {a b c : Bs} {d e d' e' : Nat} (h : Grows a b d e) (k : Grows b c d' e') : Grows a c (d + d') (e + e') := by
  obtain ⟨h1, h2, m, h3⟩ := h
  obtain ⟨k1, k2, m2, k3⟩ := k
  exact ⟨by omega, by omega, m ++ m2, by rw [k3, h3]; simp⟩
theorem Grows.cast {s s' : Bs} {d c d' c' : Nat} (h : Grows s s' d c) (hd : d = d') (hc : c ≤ c') : Grows s s' d' c' := ⟨hd ▸ h.1, Nat.le_trans h.2.1 (by omega), h.2.2⟩
theorem grows_grw (f : Nat) (q : List Sp) (s : Bs) : Grows s (grw f q s).2 1 1 := ⟨rfl, by simp [grw], _, rfl⟩
theorem grows_lnk (f t : Nat) (q : List Sp) (s : Bs) : Grows s (lnk f t q s) 0 1 := ⟨rfl, by simp [lnk], _, rfl⟩
theorem grows_all (e : Nat) : ∀ (l : List Nat) (s : Bs), Grows s (lnkAll e l s) 0 l.length := by
  intro l
  induction l with
  | nil => intro s; exact Grows.refl s
  | cons x r ih => intro s; exact ((grows_lnk x e [] s).trans (ih (lnk x e [] s))).cast rfl (by simp; omega)
theorem grows_end (r : List Nat × Bs) (h : r.1 ≠ []) : Grows r.2 (altEnd r).2 1 r.1.length := by
  obtain ⟨l, s⟩ := r
  cases l with
  | nil => exact absurd rfl h
  | cons x l => exact ((grows_grw x [] s).trans (grows_all _ l _)).cast rfl (by simp; omega)
theorem grows_loop {g : Nat → Bs → Nat × Bs} {d c : Nat} (hg : ∀ a s, Grows s (g a s).2 d c) (f : Nat) (s : Bs) : Grows s (bLoop g f s).2 (d + 1) (c + 2) :=
  (((grows_grw f [] s).trans (hg _ _)).trans (grows_lnk _ _ _ _)).cast (by omega) (by omega)
theorem grows_opt {g : Nat → Bs → Nat × Bs} {d c : Nat} (hg : ∀ a s, Grows s (g a s).2 d c) (f : Nat) (s : Bs) : Grows s (bOpt g f s).2 (d + 2) (c + 3) :=
  ((((grows_grw f [] s).trans (hg _ _)).trans (grows_grw _ _ _)).trans (grows_lnk _ _ _ _)).cast (by omega) (by omega)
theorem bX_grows {h : Hd} {K : Bk} {n st : Nat} (hp : h.k = 1 ∨ h.k = 2 ∨ h.k = 3 ∨ (h.k = 4 ∧ 0 < n) ∨ h.k = 5 ∨ h.k = 6 ∨ h.k = 7)
    (h0 : (h.k = 1 ∨ h.k = 2) → st = 0) (hc : ∀ a s, Grows s (K.cat a s).2 st (2 * st)) (ha : ∀ a s, Grows s (K.alt a s).2 (st + n) (2 * st + n) ∧ (K.alt a s).1.length = n) (hf : (h.k = 5 ∨ h.k = 6 ∨ h.k = 7) → ∀ a s, Grows s (K.fst a s).2 st (2 * st)) :
    ∀ a s, Grows s (bX h K a s).2 (stX h n st) (2 * stX h n st) := by
  intro a s
  obtain ⟨k, set⟩ := h
  simp only at hp hf h0 ⊢
  rcases hp with rfl | rfl | rfl | ⟨rfl, hn⟩ | rfl | rfl | rfl
  · obtain rfl := h0 (by simp); exact (grows_grw a set s).cast (by simp [stX]) (by simp [stX])
  · obtain rfl := h0 (by simp); exact (grows_grw a set s).cast (by simp [stX]) (by simp [stX])
  · exact (hc a s).cast (by simp [stX]) (by simp [stX])
  · obtain ⟨g, gl⟩ := ha a s
    exact (g.trans (grows_end _ (fun e => by rw [e] at gl; simp at gl; omega))).cast (by simp [stX]; omega) (by rw [gl]; simp [stX]; omega)
  · exact ((grows_loop (hf (by simp)) a s).trans (grows_grw _ [] _)).cast (by simp [stX]) (by simp [stX]; omega)
  · exact ((grows_loop (hf (by simp)) a s).trans (grows_grw _ [] _)).cast (by simp [stX]) (by simp [stX]; omega)
  · exact (grows_opt (hf (by simp)) a s).cast (by simp [stX]) (by simp [stX]; omega)
theorem ok_kinds {h : Hd} {kids : Fo} (hp : plainB h kids.len = true) : (h.k = 1 ∨ h.k = 2 ∨ h.k = 3 ∨ (h.k = 4 ∧ 0 < kids.len) ∨ h.k = 5 ∨ h.k = 6 ∨ h.k = 7) ∧ ((h.k = 1 ∨ h.k = 2) → kids = .nil) ∧ ((h.k = 5 ∨ h.k = 6 ∨ h.k = 7) → ∃ c ck, kids = .cons c ck .nil) := by
  rcases plain_cases hp with ⟨rfl, rfl⟩ | ⟨h2, rfl, _⟩ | ⟨h34, hl⟩ | ⟨h567, c, ck, rfl⟩
  · simp
  · simp [h2]
  · rcases h34 with rfl | rfl
    · simp
    · simp; omega
  · rcases h567 with rfl | rfl | rfl <;> simp
theorem bF_grows : ∀ (f : Fo), okF f → (∀ a s, Grows s ((bF f).cat a s).2 (stF f) (2 * stF f)) ∧ (∀ a s, Grows s ((bF f).alt a s).2 (stF f + f.len) (2 * stF f + f.len) ∧ ((bF f).alt a s).1.length = f.len) ∧ (f.len = 1 → ∀ a s, Grows s ((bF f).fst a s).2 (stF f) (2 * stF f)) := by
  intro f
  induction f with
  | nil => intro _; exact ⟨fun a s => Grows.refl s, fun a s => ⟨Grows.refl s, rfl⟩, fun h => by simp [Fo.len] at h⟩
  | cons h k r ihk ihr =>
    rintro ⟨o1, o2, o3⟩
    obtain ⟨k1, k2, k3⟩ := ihk o2
    obtain ⟨r1, r2, _⟩ := ihr o3
    obtain ⟨q1, q2, q3⟩ := ok_kinds o1
    have hX := bX_grows (h := h) (K := bF k) (n := k.len) (st := stF k) q1 (fun e => by rw [q2 e]; rfl) k1 k2 (fun e => k3 (by obtain ⟨c, ck, e⟩ := q3 e; rw [e]; rfl))
    refine ⟨fun a s => ((hX a s).trans (r1 _ _)).cast rfl (by simp only [stF]; omega), fun a s => ⟨?_, ?_⟩, fun e a s => ?_⟩
    · exact (((grows_grw a [] s).trans (hX _ _)).trans (r2 _ _).1).cast (by simp only [stF, Fo.len]; omega) (by simp only [stF, Fo.len]; omega)
    · simp only [bF, List.length_cons, Fo.len]; rw [(r2 _ _).2]
    · have hr : r = .nil := by cases r with
        | nil => rfl
        | cons a b c => simp [Fo.len] at e
      subst hr
      exact (hX a s).cast (by simp [stF]) (by simp [stF])
theorem bE_grows (h : Hd) (kids : Fo) (hp : plainB h kids.len = true) (ho : okF kids) : ∀ a s, Grows s (bE h kids a s).2 (stE h kids) (2 * stE h kids) := by
  have := (bF_grows (.cons h kids .nil) ⟨hp, ho, trivial⟩).2.2 rfl
  exact fun a s => (this a s).cast (by simp [stF, stE]) (by simp [stF, stE])
end Go.Proofs.Ytngbfjimmdkfeaa

