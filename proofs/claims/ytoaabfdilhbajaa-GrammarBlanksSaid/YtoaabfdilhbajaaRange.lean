/- A range over a function whose iterator keeps state of its own in cells of types T: the law for the caller. Over the wide fence. No program is imported. -/
import Derived.Test.YtoaabfdilhbajaaItem
import Derived.RangeFuncNested
import Derived.RangeFuncBound
import Derived.RangeFuncCalls
import Derived.RangeFuncLeaves
import Derived.Shelf.Abstract
namespace Go.Proofs.Ytoaabfdilhbajaa
open Go.RowKit Go.Shelf

/-- A block that the iterator may write: no cells, or cells of one of its types. -/
def Turns (T : TypeId → Bool) (o : Obj) : Prop := o.isCells = false ∨ ∃ cs t fr, o = Obj.cells cs t fr ∧ T t = true

/-- An invariant that does not mind what the iterator, and the loop's own book-keeping, write from block B on. -/
def Bears {β : Type} (B : Nat) (T : TypeId → Bool) (I : β → World → Prop) : Prop :=
  ∀ s W W' row, I s W → W.grownBy W' row → (∀ r, row = some r → B ≤ r ∧ ∃ o, W.heap[r]? = some o ∧ Turns T o) → I s W'

theorem Bears.and {β : Type} {B : Nat} {T : TypeId → Bool} {I J : β → World → Prop} (h : Bears B T I) (k : Bears B T J) : Bears B T (fun s W => I s W ∧ J s W) :=
  fun s W W' row hs hg hr => ⟨h s W W' row hs.1 hg hr, k s W W' row hs.2 hg hr⟩
theorem Bears.mono {β : Type} {B B' : Nat} {T : TypeId → Bool} {I : β → World → Prop} (h : Bears B T I) (hB : B ≤ B') : Bears B' T I :=
  fun s W W' row hs hg hr => h s W W' row hs hg (fun r e => ⟨Nat.le_trans hB (hr r e).1, (hr r e).2⟩)
theorem Bears.putObj {β : Type} {B : Nat} {T : TypeId → Bool} {I : β → World → Prop} (h : Bears B T I) {s : β} {W : World} {l : Nat} {o : Obj} (o' : Obj) (hs : I s W) (hB : B ≤ l) (hl : W.heap[l]? = some o) (ho : o.isCells = false) : I s (W.putObj l o') :=
  h s W _ (some l) hs (grownBy_putObj' W l o') (fun r e => by cases e; exact ⟨hB, o, hl, .inl ho⟩)
theorem Bears.alloc {β : Type} {B : Nat} {T : TypeId → Bool} {I : β → World → Prop} (h : Bears B T I) {s : β} {W : World} (o : Obj) (hs : I s W) : I s (W.alloc o) :=
  h s W _ none hs (World.grownBy_alloc W o none) (fun r e => by cases e)
theorem bears_pure {β : Type} (B : Nat) (T : TypeId → Bool) (p : β → Prop) : Bears B T (fun s _ => p s) := fun _ _ _ _ hs _ _ => hs
theorem bears_below {β : Type} {B n₀ : Nat} {T : TypeId → Bool} {w : World} (h0 : n₀ ≤ B) (hB : n₀ ≤ w.heap.size) : Bears B T (fun (_ : β) W => Below n₀ w W) :=
  fun _ _ _ _ hs hg hr => hs.grown hg (Nat.le_trans hB hs.size) (fun k e => Nat.le_trans h0 (hr k e).1)
/-- A box of another type. -/
theorem bears_boxed {β : Type} (B b : Nat) {T : TypeId → Bool} (t : TypeId) (ht : T t = false) (f : β → Value) : Bears B T (fun s W => Boxed W b t (f s)) :=
  fun s W W' row hs hg hr => hs.kept hg (fun e => by
    obtain ⟨_, o, ho, hc⟩ := hr b e.symm
    rw [show W.heap[b]? = _ from hs] at ho
    cases ho
    rcases hc with hc | ⟨cs, t', fr, e2, ht'⟩
    · cases hc
    · cases e2; rw [ht] at ht'; cases ht')

/-- What a round leaves to the iterator: what lay below n₀, and each block of its types. -/
structure Spares (n₀ : Nat) (T : TypeId → Bool) (W W' : World) : Prop where
  below : Below n₀ W W'
  same : ∀ (k : Nat) (cs : Array Value) (t : TypeId) (fr : Nat × Nat), W.heap[k]? = some (Obj.cells cs t fr) → T t = true → W'.heap[k]? = some (Obj.cells cs t fr)

theorem Spares.refl (n₀ : Nat) (T : TypeId → Bool) (W : World) : Spares n₀ T W W := ⟨Below.refl _ _, fun _ _ _ _ h _ => h⟩
theorem Spares.trans {n₀ : Nat} {T : TypeId → Bool} {A B C : World} (h : Spares n₀ T A B) (k : Spares n₀ T B C) : Spares n₀ T A C :=
  ⟨h.below.trans k.below, fun i cs t fr hi ht => k.same i cs t fr (h.same i cs t fr hi ht) ht⟩
/-- One block written that is none of the iterator's, at or beyond n₀. -/
theorem Spares.grown {n₀ : Nat} {T : TypeId → Bool} {W W' : World} {row : Option Nat} (hg : W.grownBy W' row) (hn : n₀ ≤ W.heap.size) (hr : ∀ r, row = some r → n₀ ≤ r ∧ ∀ (cs : Array Value) (t : TypeId) (fr : Nat × Nat), W.heap[r]? = some (Obj.cells cs t fr) → T t = false) : Spares n₀ T W W' :=
  ⟨(Below.refl n₀ W).grown hg hn (fun k e => (hr k e).1), fun k cs t fr hk ht => by
    refine (hg.block k (Array.getElem?_eq_some_iff.1 hk).1 (fun e => ?_)).trans hk
    rw [(hr k e.symm).2 cs t fr hk] at ht; cases ht⟩
theorem Spares.putObj {n₀ : Nat} {T : TypeId → Bool} {W : World} {l : Nat} {o : Obj} (o' : Obj) (hn : n₀ ≤ W.heap.size) (hl : n₀ ≤ l) (h : W.heap[l]? = some o) (ho : o.isCells = false) : Spares n₀ T W (W.putObj l o') :=
  Spares.grown (grownBy_putObj' W l o') hn (fun r e => by cases e; exact ⟨hl, fun cs t fr hk => by rw [h] at hk; cases hk; cases ho⟩)

/-- HOW A ROUND'S BODY MAY BE LEFT. -/
def roundEnd {α : Type} (B n₀ : Nat) (T : TypeId → Bool) (I Ix : List α → World → Prop) (xs : List α) (W : World) : Exit → Act → World → Prop
  | .normal, _, W' => KeepsFrom B W W' ∧ Spares n₀ T W W' ∧ I xs W'
  | .ret, _, W' => KeepsFrom B W W' ∧ Ix xs W'
  | _, _, _ => False

/-- THE ITERATOR's CONTRACT. Good: what may have come; Full: all has come. -/
def Walks {α : Type} (P : Program) (gf : Nat) (lb : Array Value) (encs : α → Array Value) (Good Full : List α → Prop) (n₀ : Nat) (T : TypeId → Bool) (w : World) : Prop :=
  ∀ (l : Nat) (J Jx : List α → World → Prop) (W : World), Below w.heap.size w W → Bears W.heap.size T J → Bears W.heap.size T Jx →
    (∀ pre x W1, J pre W1 → Good (pre ++ [x]) → YieldAt Fence.wide 0 P l (encs x) W1 fun e W' =>
      (e = .returned (.bool true) ∧ J (pre ++ [x]) W' ∧ Spares n₀ T W1 W') ∨ (e = .returned (.bool false) ∧ Jx (pre ++ [x]) W')) →
    J [] W →
    CallsIn Fence.wide 0 P gf (#[.func (.yield l) #[] #[]] ++ lb) W fun e W' => (∃ v, e = .returned v) ∧ ((∃ xs, Full xs ∧ J xs W') ∨ (∃ pre, Good pre ∧ Jx pre W'))

variable {P : Program}

theorem range_law {α : Type} {g : Operand} {ps : Array Tmp} {assign body : Code} {Q : Exit → Act → World → Prop} {a : Act} {w : World}
    {gf : Nat} {lb : Array Value} (hg : a.eval g = .func (.func gf) #[] lb) (eg : ∀ args w, (callFunc gf args).run P w = .ok (.enter gf args) w)
    {encs : α → Array Value} {Good Full : List α → Prop} {n₀ : Nat} {T : TypeId → Bool} (hn₀ : n₀ ≤ w.heap.size) (hit : Walks P gf lb encs Good Full n₀ T w) (hps : ∀ x, (encs x).size = ps.size)
    (I Ix : List α → World → Prop) (hI : Bears w.heap.size T I) (hIx : Bears w.heap.size T Ix) (h0 : I [] w)
    (hround : ∀ (l : Nat) (pre : List α) (x : α) (W : World), w.heap.size ≤ l → (∃ r, W.heap[l]? = some (.loop r)) → I pre W → Good (pre ++ [x]) →
      assign.wpIn (Fence.wide.inRound l) 0 P (Exit.then (fun a₁ w₁ => KeepsFrom w.heap.size W w₁ ∧ Spares n₀ T W w₁ ∧
          ∀ W2, w₁.grownBy W2 (some l) → body.wpIn (Fence.wide.inRound l) 0 P (roundEnd w.heap.size n₀ T I Ix (pre ++ [x]) W2) a₁ W2) (fun _ _ _ => False))
        { tmps := (ps.zip (encs x)).foldl (fun t (p, v) => t.setIfInBounds p v) a.tmps, defers := [] } W)
    (hdone : ∀ (D : Nat) (xs : List α) (W : World), w.heap.size ≤ D → Full xs → I xs W → W.heap[D]? = some (.deferred (some [])) → Q .normal { a with defers := { target := .collected D, args := #[] } :: a.defers } W)
    (hstop : ∀ (D : Nat) (pre : List α) (W : World), w.heap.size ≤ D → Good pre → Ix pre W → W.heap[D]? = some (.deferred (some [])) → Code.ret.wpIn Fence.wide 0 P Q { a with defers := { target := .collected D, args := #[] } :: a.defers } W) :
    (Code.rangeFunc g ps assign body).wpIn Fence.wide 0 P Q a w := by
  refine wpIn_rangeFunc ?_
  intro fn hfn
  -- the two blocks of book-keeping: D, the rounds' deferred calls; D + 1, the loop's record
  let rec_ : LoopState → Option Code → Obj := fun st pe => .loop { state := st, pending := pe, fn, tmps := a.tmps, params := ps, assign, body, defers := w.heap.size }
  generalize hD : w.heap.size = D at hn₀ hI hIx hround hdone hstop ⊢
  obtain ⟨W1, hW1⟩ : ∃ W1, (w.alloc (.deferred (some []))).alloc (rec_ .ready none) = W1 := ⟨_, rfl⟩
  have hL1 : W1.heap[D + 1]? = some (rec_ .ready none) := by
    have := World.alloc_heap_new (w.alloc (.deferred (some []))) (rec_ .ready none)
    rw [World.size_alloc, hD] at this
    rw [← hW1]; exact this
  have hK1 : W1.heap[D]? = some (.deferred (some [])) := by
    rw [← hW1]
    exact (Below.heap_alloc _ _ _ (by rw [World.size_alloc]; omega)).trans (hD ▸ World.alloc_heap_new w _)
  have hb1 : Below w.heap.size w W1 := by
    rw [← hW1]; exact ((Below.refl _ w).alloc (Nat.le_refl _) _).alloc (by simp) _
  have hI1 : I [] W1 := by rw [← hW1]; exact hI.alloc _ (hI.alloc _ h0)
  have hDW : D ≤ W1.heap.size := by rw [← hD]; exact hb1.size
  refine ⟨D + 1, [{ target := .collected D, args := #[] }], W1, { target := .fn (.func gf) lb, args := #[.func (.yield (D + 1)) #[] #[]] }, W1, gf, #[.func (.yield (D + 1)) #[] #[]] ++ lb, W1, ?_, ?_, ?_, ?_, ?_, ?_⟩
  · have := run_enterLoop_outer (P := P) (w := w) fn a.tmps ps assign body
    rw [hW1.symm, ← hD]; exact this
  · simp only [resolve, hg]; simp [go_sem]
  · intro f' _; trivial
  · simp [invoke, go_sem, eg]
  · intro h; cases h
  · refine (hit (D + 1)
      (fun pre W => I pre W ∧ W.heap[D + 1]? = some (rec_ .ready none) ∧ W.heap[D]? = some (.deferred (some [])))
      (fun pre W => Ix pre W ∧ W.heap[D + 1]? = some (rec_ .done (some .ret)) ∧ W.heap[D]? = some (.deferred (some [])))
      W1 hb1 ?_ ?_ ?_ ⟨hI1, hL1, hK1⟩).mono ?_
    · rintro s A B row ⟨h1, h2, h3⟩ hg' hr
      exact ⟨hI s A B row h1 hg' (fun r e => ⟨Nat.le_trans hDW (hr r e).1, (hr r e).2⟩),
        (hg'.block (D + 1) (Array.getElem?_eq_some_iff.1 h2).1 (fun e => by have := (hr _ e.symm).1; have := (Array.getElem?_eq_some_iff.1 hL1).1; omega)).trans h2,
        (hg'.block D (Array.getElem?_eq_some_iff.1 h3).1 (fun e => by have := (hr _ e.symm).1; have := (Array.getElem?_eq_some_iff.1 hL1).1; omega)).trans h3⟩
    · rintro s A B row ⟨h1, h2, h3⟩ hg' hr
      exact ⟨hIx s A B row h1 hg' (fun r e => ⟨Nat.le_trans hDW (hr r e).1, (hr r e).2⟩),
        (hg'.block (D + 1) (Array.getElem?_eq_some_iff.1 h2).1 (fun e => by have := (hr _ e.symm).1; have := (Array.getElem?_eq_some_iff.1 hL1).1; omega)).trans h2,
        (hg'.block D (Array.getElem?_eq_some_iff.1 h3).1 (fun e => by have := (hr _ e.symm).1; have := (Array.getElem?_eq_some_iff.1 hL1).1; omega)).trans h3⟩
    · rintro pre x W ⟨hi, hl, hk⟩ hgood
      have hlt : D + 1 < W.heap.size := (Array.getElem?_eq_some_iff.1 hl).1
      refine ⟨fn, _, assign, body, run_yield (P := P) (args := encs x) hl (hps x), roundIn_of_wpIn trivial (wpIn_mono (hround (D + 1) pre x W (by omega) ⟨_, hl⟩ hi hgood) ?_)⟩
      rintro e a₁ w₁ hp
      cases e with
      | normal =>
        obtain ⟨hkf, hsp, hbody⟩ := hp
        have hl1 := hkf.same _ _ (by omega) hl rfl
        have hk1 := hkf.same _ _ (Nat.le_refl _) hk rfl
        have hlt1 : D + 1 < w₁.heap.size := (Array.getElem?_eq_some_iff.1 hl1).1
        refine ⟨_, run_beginRound hl1 rfl, wpIn_mono (hbody _ (grownBy_putObj' _ _ _)) ?_⟩
        have hl2 : (w₁.putObj (D + 1) (rec_ .busy none)).heap[D + 1]? = some (rec_ .busy none) := World.putObj_heap_same hlt1
        have hk2 : (w₁.putObj (D + 1) (rec_ .busy none)).heap[D]? = some (.deferred (some [])) := (World.putObj_heap_other (by omega)).trans hk1
        have hs2 : Spares n₀ T W (w₁.putObj (D + 1) (rec_ .busy none)) := hsp.trans (Spares.putObj _ (Nat.le_trans hn₀ (by omega)) (by omega) hl1 rfl)
        rintro e2 a3 W3 hq
        cases e2 with
        | normal =>
          obtain ⟨hk3, hs3, hi3⟩ := hq
          have hl3 := hk3.same _ _ (by omega) hl2 rfl
          have hlt3 : D + 1 < W3.heap.size := (Array.getElem?_eq_some_iff.1 hl3).1
          exact ⟨_, _, run_endRound (P := P) none hl3, .inl ⟨rfl, ⟨hI.putObj _ hi3 (by omega) hl3 rfl, World.putObj_heap_same hlt3, (World.putObj_heap_other (by omega)).trans (hk3.same _ _ (Nat.le_refl _) hk2 rfl)⟩,
            (hs2.trans hs3).trans (Spares.putObj _ (Nat.le_trans hn₀ (by omega)) (by omega) hl3 rfl)⟩⟩
        | ret =>
          obtain ⟨hk3, hi3⟩ := hq
          have hl3 := hk3.same _ _ (by omega) hl2 rfl
          have hlt3 : D + 1 < W3.heap.size := (Array.getElem?_eq_some_iff.1 hl3).1
          exact ⟨_, _, run_endRound (P := P) (some .ret) hl3, .inr ⟨rfl, hIx.putObj _ hi3 (by omega) hl3 rfl, World.putObj_heap_same hlt3, (World.putObj_heap_other (by omega)).trans (hk3.same _ _ (Nat.le_refl _) hk2 rfl)⟩⟩
        | exit id => exact hq.elim
        | goto t => exact hq.elim
        | panic ch => exact hq.elim
        | outgrown => exact hq.elim
      | ret => exact hp.elim
      | exit id => exact hp.elim
      | goto t => exact hp.elim
      | panic ch => exact hp.elim
      | outgrown => exact hp.elim
    · rintro e W2 ⟨⟨v, rfl⟩, (⟨xs, hF, hi, hl, hk⟩ | ⟨pre, hG, hi, hl, hk⟩)⟩
      · exact ⟨none, _, run_endLoop (P := P) hl (by simp [rec_]), hdone D xs _ (Nat.le_refl _) hF (hI.putObj _ hi (by omega) hl rfl) ((World.putObj_heap_other (by omega)).trans hk)⟩
      · exact ⟨some .ret, _, run_endLoop (P := P) hl (by simp [rec_]), hstop D pre _ (Nat.le_refl _) hG (hIx.putObj _ hi (by omega) hl rfl) ((World.putObj_heap_other (by omega)).trans hk)⟩

end Go.Proofs.Ytoaabfdilhbajaa
