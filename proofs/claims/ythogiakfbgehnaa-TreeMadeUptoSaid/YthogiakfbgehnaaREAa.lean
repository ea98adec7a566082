/- Texts joined: Bytes Mem Item Range Append All Ia Ib Ja Zh Jb Xa Ba Bb Xe Ic Ih Ii Xf Xg Xb Shelf Xc Xd Xh Xi Xj Xk Xl Xn Xq Xr Xs Xt Xu Xv. -/
import Derived.WalkKit
import Derived.WalkSmall
import Derived.Lib.Hide
import Derived.RangeFuncBox
import Derived.RangeFuncNested
import Derived.RangeFuncBound
import Derived.RangeFuncCalls
import Derived.RangeFuncLeaves
import Derived.Shelf.Abstract
import Derived.Test.YthogiakfbgehnaaRows
import Derived.OwnWalk
import Derived.Laws.CopyOwn
import Derived.Deep.QuietTactic
import Derived.BigQuiet
import Derived.StillTailTactics
import Derived.Deep.RegionWith
import Derived.Lib.AppendStr
import Derived.OwnWalkIn
import Derived.TacticsInMore
import Derived.LoopNIn
import Derived.LoopIn
import Derived.Sort.LoopGhostIn
import Derived.Deep.RegionLaw
import Derived.Outline
import Derived.WalkLawsBesides
import Derived.WalkSpells
import Derived.Below
import Derived.Maps.Own
import Derived.Maps.OwnOps
import Derived.Maps.OwnSet
import Derived.Maps.Views
import Derived.StringKeys
import Derived.BigRegion
import Derived.Maps.AppendAt
import Derived.Deep.LoopGhost
import Derived.Shelf.Small.Strs
import Derived.Shelf.Strings.Search1
import Derived.Test.YthogiakfbgehnaaProg
import Derived.Deep.RegionHeld3
set_option linter.unusedVariables false
set_option linter.unusedSimpArgs false
namespace Go.Proofs.Ythogiakfbgehnaa
open Go.RowKit

/-- A byte as the model's value. -/
abbrev bv (c : UInt8) : Value := .int .u8 (c.toNat : Int)

end Go.Proofs.Ythogiakfbgehnaa

namespace Go.Proofs.Ythogiakfbgehnaa
open Go.RowKit

/-- Block b holds just these cells, none frozen. -/
def Blk (w : World) (b : Nat) (e : TypeId) (cs : List Value) : Prop := w.heap[b]? = some (.cells cs.toArray e (0, 0))

section
variable {w w' : World} {b e : Nat} {cs : List Value}
theorem Blk.lt (h : Blk w b e cs) : b < w.heap.size := (Array.getElem?_eq_some_iff.1 h).1
theorem Blk.cell (h : Blk w b e cs) (j : Nat) : w.cell? ⟨b, j, none⟩ = cs[j]? := by
  simp [World.cell?, show w.heap[b]? = _ from h]
theorem Blk.frozen (h : Blk w b e cs) (j : Nat) : w.frozen? ⟨b, j, none⟩ = false := by
  simp [World.frozen?, show w.heap[b]? = _ from h]
theorem Blk.kept {row : Option Nat} (h : Blk w b e cs) (hg : w.grownBy w' row) (hne : some b ≠ row) : Blk w' b e cs := (hg.block b h.lt hne).trans h
theorem Blk.below {B : Nat} (h : Blk w b e cs) (hb : Below B w w') (hlt : b < B) : Blk w' b e cs := (hb.block b hlt).trans h
theorem Blk.alloc (h : Blk w b e cs) (o : Obj) : Blk (w.alloc o) b e cs := h.kept (World.grownBy_alloc w o none) (by simp)
theorem Blk.new (w : World) (e : TypeId) (cs : Array Value) : Blk (w.alloc (.cells cs e)) w.heap.size e cs.toList := by
  have := World.alloc_heap_new w (.cells cs e)
  simpa [Blk] using this
theorem Blk.set (h : Blk w b e cs) (j : Nat) (v : Value) : Blk (w.setCell ⟨b, j, none⟩ v) b e (cs.set j v) := by
  obtain ⟨hlt, hk⟩ := Array.getElem?_eq_some_iff.1 h
  show (w.heap.modify b _)[b]? = _
  rw [Array.getElem?_eq_getElem (by rw [Array.size_modify]; exact hlt), Array.getElem_modify_self, hk]
  simp
theorem Blk.setOther {b' j : Nat} (h : Blk w b e cs) (hne : b ≠ b') (v : Value) : Blk (w.setCell ⟨b', j, none⟩ v) b e cs := by
  show (w.setCell ⟨b', j, none⟩ v).heap[b]? = _
  rw [Below.heap_setCell _ _ _ _ (by simpa using hne)]; exact h
end

theorem grownBy_set (w : World) (b j : Nat) (v : Value) : w.grownBy (w.setCell ⟨b, j, none⟩ v) (some b) :=
  ⟨rfl, rfl, rfl, (KeepsWalks.setCell w _ v).size, fun k _ hk => Below.heap_setCell _ _ _ k (fun e => hk (by rw [e]))⟩

/-- Two steps: the second may write the row of the first, or what the first has laid. -/
theorem grownBy_trans {a b c : World} {r s : Option Nat} (h : a.grownBy b r) (k : b.grownBy c s) (hs : ∀ i, s = some i → r = some i ∨ a.heap.size ≤ i) : a.grownBy c r :=
  ⟨k.os.trans h.os, k.tape.trans h.tape, k.output.trans h.output, Nat.le_trans h.size k.size, fun i hi hr =>
    (k.block i (Nat.lt_of_lt_of_le hi h.size) (fun e => by rcases hs i e.symm with h1 | h1; exact hr h1.symm; omega)).trans (h.block i hi hr)⟩

theorem grownBy_below {a b : World} {r : Option Nat} (h : a.grownBy b r) (hr : ∀ i, r = some i → a.heap.size ≤ i) : Below a.heap.size a b :=
  ⟨h.os, h.tape, h.output, h.size, fun k hk => h.block k hk (fun e => by have := hr k e.symm; omega)⟩

theorem below_grownBy {a b : World} (h : Below a.heap.size a b) (r : Option Nat) : a.grownBy b r := ⟨h.os, h.tape, h.output, h.size, fun k hk _ => h.block k hk⟩

theorem grownBy_none {a b : World} (h : a.grownBy b none) (r : Option Nat) : a.grownBy b r := below_grownBy (grownBy_below h (fun i e => by cases e)) r

theorem grownBy_drew (w : World) (r : Option Nat) : w.grownBy w.drew r := ⟨rfl, rfl, rfl, Nat.le_refl _, fun _ _ _ => rfl⟩

/-- What stands in a row when its cells from off on are overwritten. -/
def over (cs : List Value) (off : Nat) (new : List Value) : List Value := cs.take off ++ new ++ cs.drop (off + new.length)
end Go.Proofs.Ythogiakfbgehnaa

namespace Go.Proofs.Ythogiakfbgehnaa
open Go.RowKit

/-- A span. -/
structure Sp where
  lo : UInt8
  hi : UInt8
deriving DecidableEq

/-- A slice of spans reads as these. -/
structure Sps (w : World) (a : Option Addr) (cap : Nat) (l : List Sp) : Prop where
  le : l.length ≤ cap
  max : cap ≤ 9223372036854775807
  nil_ : a = none → cap = 0
  at_ : ∀ i, i < l.length → ∃ b off, a = some ⟨b, off, none⟩
  cell : ∀ b off, a = some ⟨b, off, none⟩ → ∀ i, (h : i < l.length) → w.cell? ⟨b, off + i * 2, none⟩ = some (.int .u8 (l[i].lo.toNat : Int)) ∧ w.cell? ⟨b, off + i * 2 + 1, none⟩ = some (.int .u8 (l[i].hi.toNat : Int))

theorem Sps.grown {w w' : World} {a : Option Addr} {cap : Nat} {l : List Sp} (h : Sps w a cap l) (hb : Below w.heap.size w w') : Sps w' a cap l := by
  have hc : ∀ b off v, w.cell? ⟨b, off, none⟩ = some v → w'.cell? ⟨b, off, none⟩ = some v := fun b off v h => (hb.cell (p := ⟨b, off, none⟩) (World.block_lt_of_cell? w _ h)).trans h
  exact ⟨h.le, h.max, h.nil_, h.at_, fun b off e i hi => ⟨hc _ _ _ (h.cell b off e i hi).1, hc _ _ _ (h.cell b off e i hi).2⟩⟩
theorem Sps.nil (w : World) : Sps w none 0 [] := ⟨by simp, by omega, fun _ => rfl, fun i h => by simp at h, fun b off e => by cases e⟩

/-- What an expression holds itself. -/
structure Hd where
  k : Int
  set : List Sp

/-- A list of expressions, each with its own list. -/
inductive Fo where
  | nil
  | cons (h : Hd) (kids rest : Fo)

def Fo.len : Fo → Nat
  | .nil => 0
  | .cons _ _ rest => rest.len + 1

/-- How many expressions there are in all. -/
def Fo.size : Fo → Nat
  | .nil => 0
  | .cons _ kids rest => kids.size + rest.size + 1

/-- An expression as a value. -/
abbrev itemV (h : Hd) (sa : Option Addr) (sc : Nat) (a : Option Addr) (len cap : Nat) : Value := .agg #[.int .i64 h.k, .slice sa h.set.length sc, .slice a len cap]

/-- A node of the walk over all that is in an expression: how deep it stands, what it holds, how many it has. -/
structure Nd where
  d : Nat
  h : Hd
  len : Nat

/-- A list's expressions and all that are in them, each ahead of its own list. -/
def Fo.pre (d : Nat) : Fo → List Nd
  | .nil => []
  | .cons h kids rest => ⟨d, h, kids.len⟩ :: (kids.pre (d + 1) ++ rest.pre d)

/-- Rounds that are still to come. -/
def steps : List Fo → Nat
  | [] => 0
  | f :: fs => 2 * f.size + 1 + steps fs

end Go.Proofs.Ythogiakfbgehnaa

namespace Go.Proofs.Ythogiakfbgehnaa
open Go.RowKit Go.Shelf

/-- A block that the iterator may write: no cells, or cells of one of its types. -/
def Turns (T : TypeId → Bool) (o : Obj) : Prop := o.isCells = false ∨ ∃ cs t fr, o = Obj.cells cs t fr ∧ T t = true

/-- An invariant that does not mind what the iterator, and the loop's own book-keeping, write from block B on. -/
def Bears {β : Type} (B : Nat) (T : TypeId → Bool) (I : β → World → Prop) : Prop :=
  ∀ s W W' row, I s W → W.grownBy W' row → (∀ r, row = some r → B ≤ r ∧ ∃ o, W.heap[r]? = some o ∧ Turns T o) → I s W'

theorem Bears.and {β : Type} {B : Nat} {T : TypeId → Bool} {I J : β → World → Prop} (h : Bears B T I) (k : Bears B T J) : Bears B T (fun s W => I s W ∧ J s W) :=
  fun s W W' row hs hg hr => ⟨h s W W' row hs.1 hg hr, k s W W' row hs.2 hg hr⟩
theorem Bears.mono {β : Type} {B B' : Nat} {T : TypeId → Bool} {I : β → World → Prop} (h : Bears B T I) (hB : B ≤ B') : Bears B' T I :=
  fun s W W' row hs hg hr => h s W W' row hs hg (fun r e => ⟨Nat.le_trans hB (hr r e).1, (hr r e).2⟩)
theorem Bears.putObj {β : Type} {B : Nat} {T : TypeId → Bool} {I : β → World → Prop} (h : Bears B T I) {s : β} {W : World} {l : Nat} {o : Obj} (o' : Obj) (hs : I s W) (hB : B ≤ l) (hl : W.heap[l]? = some o) (ho : o.isCells = false) : I s (W.putObj l o') :=
  h s W _ (some l) hs (grownBy_putObj' W l o') (fun r e => by cases e; exact ⟨hB, o, hl, .inl ho⟩)
theorem Bears.alloc {β : Type} {B : Nat} {T : TypeId → Bool} {I : β → World → Prop} (h : Bears B T I) {s : β} {W : World} (o : Obj) (hs : I s W) : I s (W.alloc o) :=
  h s W _ none hs (World.grownBy_alloc W o none) (fun r e => by cases e)
theorem bears_pure {β : Type} (B : Nat) (T : TypeId → Bool) (p : β → Prop) : Bears B T (fun s _ => p s) := fun _ _ _ _ hs _ _ => hs
theorem bears_below {β : Type} {B n₀ : Nat} {T : TypeId → Bool} {w : World} (h0 : n₀ ≤ B) (hB : n₀ ≤ w.heap.size) : Bears B T (fun (_ : β) W => Below n₀ w W) :=
  fun _ _ _ _ hs hg hr => hs.grown hg (Nat.le_trans hB hs.size) (fun k e => Nat.le_trans h0 (hr k e).1)
/-- A box of another type. -/
theorem bears_boxed {β : Type} (B b : Nat) {T : TypeId → Bool} (t : TypeId) (ht : T t = false) (f : β → Value) : Bears B T (fun s W => Boxed W b t (f s)) :=
  fun s W W' row hs hg hr => hs.kept hg (fun e => by
    obtain ⟨_, o, ho, hc⟩ := hr b e.symm
    rw [show W.heap[b]? = _ from hs] at ho
    cases ho
    rcases hc with hc | ⟨cs, t', fr, e2, ht'⟩
    · cases hc
    · cases e2; rw [ht] at ht'; cases ht')

/-- What a round leaves to the iterator: what lay below n₀, and each block of its types. -/
structure Spares (n₀ : Nat) (T : TypeId → Bool) (W W' : World) : Prop where
  below : Below n₀ W W'
  same : ∀ (k : Nat) (cs : Array Value) (t : TypeId) (fr : Nat × Nat), W.heap[k]? = some (Obj.cells cs t fr) → T t = true → W'.heap[k]? = some (Obj.cells cs t fr)

theorem Spares.refl (n₀ : Nat) (T : TypeId → Bool) (W : World) : Spares n₀ T W W := ⟨Below.refl _ _, fun _ _ _ _ h _ => h⟩
theorem Spares.trans {n₀ : Nat} {T : TypeId → Bool} {A B C : World} (h : Spares n₀ T A B) (k : Spares n₀ T B C) : Spares n₀ T A C :=
  ⟨h.below.trans k.below, fun i cs t fr hi ht => k.same i cs t fr (h.same i cs t fr hi ht) ht⟩
/-- One block written that is none of the iterator's, at or beyond n₀. -/
theorem Spares.grown {n₀ : Nat} {T : TypeId → Bool} {W W' : World} {row : Option Nat} (hg : W.grownBy W' row) (hn : n₀ ≤ W.heap.size) (hr : ∀ r, row = some r → n₀ ≤ r ∧ ∀ (cs : Array Value) (t : TypeId) (fr : Nat × Nat), W.heap[r]? = some (Obj.cells cs t fr) → T t = false) : Spares n₀ T W W' :=
  ⟨(Below.refl n₀ W).grown hg hn (fun k e => (hr k e).1), fun k cs t fr hk ht => by
    refine (hg.block k (Array.getElem?_eq_some_iff.1 hk).1 (fun e => ?_)).trans hk
    rw [(hr k e.symm).2 cs t fr hk] at ht; cases ht⟩
theorem Spares.putObj {n₀ : Nat} {T : TypeId → Bool} {W : World} {l : Nat} {o : Obj} (o' : Obj) (hn : n₀ ≤ W.heap.size) (hl : n₀ ≤ l) (h : W.heap[l]? = some o) (ho : o.isCells = false) : Spares n₀ T W (W.putObj l o') :=
  Spares.grown (grownBy_putObj' W l o') hn (fun r e => by cases e; exact ⟨hl, fun cs t fr hk => by rw [h] at hk; cases hk; cases ho⟩)

/-- HOW A ROUND'S BODY MAY BE LEFT. -/
def roundEnd {α : Type} (B n₀ : Nat) (T : TypeId → Bool) (I Ix : List α → World → Prop) (xs : List α) (W : World) : Exit → Act → World → Prop
  | .normal, _, W' => KeepsFrom B W W' ∧ Spares n₀ T W W' ∧ I xs W'
  | .ret, _, W' => KeepsFrom B W W' ∧ Ix xs W'
  | _, _, _ => False

/-- THE ITERATOR's CONTRACT. Good: what may have come; Full: all has come. -/
def Walks {α : Type} (P : Program) (gf : Nat) (lb : Array Value) (encs : α → Array Value) (Good Full : List α → Prop) (n₀ : Nat) (T : TypeId → Bool) (w : World) : Prop :=
  ∀ (l : Nat) (J Jx : List α → World → Prop) (W : World), Below w.heap.size w W → Bears W.heap.size T J → Bears W.heap.size T Jx →
    (∀ pre x W1, J pre W1 → Good (pre ++ [x]) → YieldAt Fence.wide 0 P l (encs x) W1 fun e W' =>
      (e = .returned (.bool true) ∧ J (pre ++ [x]) W' ∧ Spares n₀ T W1 W') ∨ (e = .returned (.bool false) ∧ Jx (pre ++ [x]) W')) →
    J [] W →
    CallsIn Fence.wide 0 P gf (#[.func (.yield l) #[] #[]] ++ lb) W fun e W' => (∃ v, e = .returned v) ∧ ((∃ xs, Full xs ∧ J xs W') ∨ (∃ pre, Good pre ∧ Jx pre W'))

variable {P : Program}

theorem range_law {α : Type} {g : Operand} {ps : Array Tmp} {assign body : Code} {Q : Exit → Act → World → Prop} {a : Act} {w : World}
    {gf : Nat} {lb : Array Value} (hg : a.eval g = .func (.func gf) #[] lb) (eg : ∀ args w, (callFunc gf args).run P w = .ok (.enter gf args) w)
    {encs : α → Array Value} {Good Full : List α → Prop} {n₀ : Nat} {T : TypeId → Bool} (hn₀ : n₀ ≤ w.heap.size) (hit : Walks P gf lb encs Good Full n₀ T w) (hps : ∀ x, (encs x).size = ps.size)
    (I Ix : List α → World → Prop) (hI : Bears w.heap.size T I) (hIx : Bears w.heap.size T Ix) (h0 : I [] w)
    (hround : ∀ (l : Nat) (pre : List α) (x : α) (W : World), w.heap.size ≤ l → (∃ r, W.heap[l]? = some (.loop r)) → I pre W → Good (pre ++ [x]) →
      assign.wpIn (Fence.wide.inRound l) 0 P (Exit.then (fun a₁ w₁ => KeepsFrom w.heap.size W w₁ ∧ Spares n₀ T W w₁ ∧
          ∀ W2, w₁.grownBy W2 (some l) → body.wpIn (Fence.wide.inRound l) 0 P (roundEnd w.heap.size n₀ T I Ix (pre ++ [x]) W2) a₁ W2) (fun _ _ _ => False))
        { tmps := (ps.zip (encs x)).foldl (fun t (p, v) => t.setIfInBounds p v) a.tmps, defers := [] } W)
    (hdone : ∀ (D : Nat) (xs : List α) (W : World), w.heap.size ≤ D → Full xs → I xs W → W.heap[D]? = some (.deferred (some [])) → Q .normal { a with defers := { target := .collected D, args := #[] } :: a.defers } W)
    (hstop : ∀ (D : Nat) (pre : List α) (W : World), w.heap.size ≤ D → Good pre → Ix pre W → W.heap[D]? = some (.deferred (some [])) → Code.ret.wpIn Fence.wide 0 P Q { a with defers := { target := .collected D, args := #[] } :: a.defers } W) :
    (Code.rangeFunc g ps assign body).wpIn Fence.wide 0 P Q a w := by
  refine wpIn_rangeFunc ?_
  intro fn hfn
  -- the two blocks of book-keeping: D, the rounds' deferred calls; D + 1, the loop's record
  let rec_ : LoopState → Option Code → Obj := fun st pe => .loop { state := st, pending := pe, fn, tmps := a.tmps, params := ps, assign, body, defers := w.heap.size }
  generalize hD : w.heap.size = D at hn₀ hI hIx hround hdone hstop ⊢
  obtain ⟨W1, hW1⟩ : ∃ W1, (w.alloc (.deferred (some []))).alloc (rec_ .ready none) = W1 := ⟨_, rfl⟩
  have hL1 : W1.heap[D + 1]? = some (rec_ .ready none) := by
    have := World.alloc_heap_new (w.alloc (.deferred (some []))) (rec_ .ready none)
    rw [World.size_alloc, hD] at this
    rw [← hW1]; exact this
  have hK1 : W1.heap[D]? = some (.deferred (some [])) := by
    rw [← hW1]
    exact (Below.heap_alloc _ _ _ (by rw [World.size_alloc]; omega)).trans (hD ▸ World.alloc_heap_new w _)
  have hb1 : Below w.heap.size w W1 := by
    rw [← hW1]; exact ((Below.refl _ w).alloc (Nat.le_refl _) _).alloc (by simp) _
  have hI1 : I [] W1 := by rw [← hW1]; exact hI.alloc _ (hI.alloc _ h0)
  have hDW : D ≤ W1.heap.size := by rw [← hD]; exact hb1.size
  refine ⟨D + 1, [{ target := .collected D, args := #[] }], W1, { target := .fn (.func gf) lb, args := #[.func (.yield (D + 1)) #[] #[]] }, W1, gf, #[.func (.yield (D + 1)) #[] #[]] ++ lb, W1, ?_, ?_, ?_, ?_, ?_, ?_⟩
  · have := run_enterLoop_outer (P := P) (w := w) fn a.tmps ps assign body
    rw [hW1.symm, ← hD]; exact this
  · simp only [resolve, hg]; simp [go_sem]
  · intro f' _; trivial
  · simp [invoke, go_sem, eg]
  · intro h; cases h
  · refine (hit (D + 1)
      (fun pre W => I pre W ∧ W.heap[D + 1]? = some (rec_ .ready none) ∧ W.heap[D]? = some (.deferred (some [])))
      (fun pre W => Ix pre W ∧ W.heap[D + 1]? = some (rec_ .done (some .ret)) ∧ W.heap[D]? = some (.deferred (some [])))
      W1 hb1 ?_ ?_ ?_ ⟨hI1, hL1, hK1⟩).mono ?_
    · rintro s A B row ⟨h1, h2, h3⟩ hg' hr
      exact ⟨hI s A B row h1 hg' (fun r e => ⟨Nat.le_trans hDW (hr r e).1, (hr r e).2⟩),
        (hg'.block (D + 1) (Array.getElem?_eq_some_iff.1 h2).1 (fun e => by have := (hr _ e.symm).1; have := (Array.getElem?_eq_some_iff.1 hL1).1; omega)).trans h2,
        (hg'.block D (Array.getElem?_eq_some_iff.1 h3).1 (fun e => by have := (hr _ e.symm).1; have := (Array.getElem?_eq_some_iff.1 hL1).1; omega)).trans h3⟩
    · rintro s A B row ⟨h1, h2, h3⟩ hg' hr
      exact ⟨hIx s A B row h1 hg' (fun r e => ⟨Nat.le_trans hDW (hr r e).1, (hr r e).2⟩),
        (hg'.block (D + 1) (Array.getElem?_eq_some_iff.1 h2).1 (fun e => by have := (hr _ e.symm).1; have := (Array.getElem?_eq_some_iff.1 hL1).1; omega)).trans h2,
        (hg'.block D (Array.getElem?_eq_some_iff.1 h3).1 (fun e => by have := (hr _ e.symm).1; have := (Array.getElem?_eq_some_iff.1 hL1).1; omega)).trans h3⟩
    · rintro pre x W ⟨hi, hl, hk⟩ hgood
      have hlt : D + 1 < W.heap.size := (Array.getElem?_eq_some_iff.1 hl).1
      refine ⟨fn, _, assign, body, run_yield (P := P) (args := encs x) hl (hps x), roundIn_of_wpIn trivial (wpIn_mono (hround (D + 1) pre x W (by omega) ⟨_, hl⟩ hi hgood) ?_)⟩
      rintro e a₁ w₁ hp
      cases e with
      | normal =>
        obtain ⟨hkf, hsp, hbody⟩ := hp
        have hl1 := hkf.same _ _ (by omega) hl rfl
        have hk1 := hkf.same _ _ (Nat.le_refl _) hk rfl
        have hlt1 : D + 1 < w₁.heap.size := (Array.getElem?_eq_some_iff.1 hl1).1
        refine ⟨_, run_beginRound hl1 rfl, wpIn_mono (hbody _ (grownBy_putObj' _ _ _)) ?_⟩
        have hl2 : (w₁.putObj (D + 1) (rec_ .busy none)).heap[D + 1]? = some (rec_ .busy none) := World.putObj_heap_same hlt1
        have hk2 : (w₁.putObj (D + 1) (rec_ .busy none)).heap[D]? = some (.deferred (some [])) := (World.putObj_heap_other (by omega)).trans hk1
        have hs2 : Spares n₀ T W (w₁.putObj (D + 1) (rec_ .busy none)) := hsp.trans (Spares.putObj _ (Nat.le_trans hn₀ (by omega)) (by omega) hl1 rfl)
        rintro e2 a3 W3 hq
        cases e2 with
        | normal =>
          obtain ⟨hk3, hs3, hi3⟩ := hq
          have hl3 := hk3.same _ _ (by omega) hl2 rfl
          have hlt3 : D + 1 < W3.heap.size := (Array.getElem?_eq_some_iff.1 hl3).1
          exact ⟨_, _, run_endRound (P := P) none hl3, .inl ⟨rfl, ⟨hI.putObj _ hi3 (by omega) hl3 rfl, World.putObj_heap_same hlt3, (World.putObj_heap_other (by omega)).trans (hk3.same _ _ (Nat.le_refl _) hk2 rfl)⟩,
            (hs2.trans hs3).trans (Spares.putObj _ (Nat.le_trans hn₀ (by omega)) (by omega) hl3 rfl)⟩⟩
        | ret =>
          obtain ⟨hk3, hi3⟩ := hq
          have hl3 := hk3.same _ _ (by omega) hl2 rfl
          have hlt3 : D + 1 < W3.heap.size := (Array.getElem?_eq_some_iff.1 hl3).1
          exact ⟨_, _, run_endRound (P := P) (some .ret) hl3, .inr ⟨rfl, hIx.putObj _ hi3 (by omega) hl3 rfl, World.putObj_heap_same hlt3, (World.putObj_heap_other (by omega)).trans (hk3.same _ _ (Nat.le_refl _) hk2 rfl)⟩⟩
        | exit id => exact hq.elim
        | goto t => exact hq.elim
        | panic ch => exact hq.elim
        | outgrown => exact hq.elim
      | ret => exact hp.elim
      | exit id => exact hp.elim
      | goto t => exact hp.elim
      | panic ch => exact hp.elim
      | outgrown => exact hp.elim
    · rintro e W2 ⟨⟨v, rfl⟩, (⟨xs, hF, hi, hl, hk⟩ | ⟨pre, hG, hi, hl, hk⟩)⟩
      · exact ⟨none, _, run_endLoop (P := P) hl (by simp [rec_]), hdone D xs _ (Nat.le_refl _) hF (hI.putObj _ hi (by omega) hl rfl) ((World.putObj_heap_other (by omega)).trans hk)⟩
      · exact ⟨some .ret, _, run_endLoop (P := P) hl (by simp [rec_]), hstop D pre _ (Nat.le_refl _) hG (hIx.putObj _ hi (by omega) hl rfl) ((World.putObj_heap_other (by omega)).trans hk)⟩

end Go.Proofs.Ythogiakfbgehnaa

namespace Go.Proofs.Ythogiakfbgehnaa
open Go.RowKit

theorem slice_of_own {w : World} {base e size n : Nat} {v : Value} {xs : List Value} (h : w.ownsRow base e size v n xs) : ∃ a cap, v = .slice a n cap := by
  rcases h.2 with ⟨rfl, rfl⟩ | ⟨g, cap, _, rfl, _⟩
  · exact ⟨_, _, rfl⟩
  · exact ⟨_, _, rfl⟩

theorem strCells_eq (s : ByteArray) : Lib.strCells s = s.data.toList.map bv := rfl

/-- An append whose run is known. -/
theorem wpList_append_run {P : Program} {w : World} {ops : Array Oper} {rest : List Oper} {o : Oper} {a : Act} {Q : Exit → Act → World → Prop} (hg : o.guard = none) (s x : Operand) (t t2 : TypeId)
    (hop : o.op = Op.call { callee := Callee.builtin Builtin.append, args := #[s, x], argTypes := #[t, t2] }) (vs vx v' : Value) (w' : World) (hs : a.eval s = vs) (hx : a.eval x = vx)
    (hrun : (Builtin.append_ #[t, t2] o.type #[vs, vx]).run P w = .ok v' w') (h : wpList P ops Q rest (a.put o.dst v') w') : wpList P ops Q (o :: rest) a w := by
  refine wpList_plain hg fun K hK' => ?_
  unfold Oper.wp
  simp [execOp, hop, resolve, invoke, builtin, hs, hx, hrun, Result.andThen]
  exact hK' _ _ h

end Go.Proofs.Ythogiakfbgehnaa

namespace Go.Proofs.Ythogiakfbgehnaa
open Go.RowKit Go.Shelf

attribute [local go_sem] Oper.semAt_some

/-- A node with the value of its list. -/
structure Nx where
  nd : Nd
  sa : Option Addr
  sc : Nat
  a : Option Addr
  cap : Nat

def encs (x : Nx) : Array Value := #[.int .i64 (x.nd.d : Int), itemV x.nd.h x.sa x.sc x.a x.nd.len x.cap]

/-- What may have come; the spans of what came lie as they lay in w0. -/
def Good (w0 : World) (all : List Nd) (pre : List Nx) : Prop := (∃ r, pre.map (·.nd) ++ r = all) ∧ ∀ x ∈ pre, Sps w0 x.sa x.sc x.nd.h.set
def Full (all : List Nd) (pre : List Nx) : Prop := pre.map (·.nd) = all

/-- An append whose run is known, as a step of a region that draws its order. -/
theorem step_append_run {P : Program} {ops : Array Oper} {o : Oper} {a : Act} {w : World} {K : Act → World → Prop} {Q : Exit → Act → World → Prop} {E : Prop} (hgd : o.guard = none) (s x : Operand) (t t2 : TypeId)
    (hop : o.op = Op.call { callee := Callee.builtin Builtin.append, args := #[s, x], argTypes := #[t, t2] }) (vs vx v' : Value) (w' : World) (hs : a.eval s = vs) (hx : a.eval x = vx)
    (hrun : (Builtin.append_ #[t, t2] o.type #[vs, vx]).run P w = .ok v' w') (h : K (a.put o.dst v') w') :
    if Region.wanted o (yielded ops a.tmps) = true then Oper.wp P o a w K Q else E := by
  have hw : Region.wanted o (yielded ops a.tmps) = true := by simp [Region.wanted, hgd]
  rw [if_pos hw]
  unfold Oper.wp
  simp [execOp, hop, resolve, invoke, builtin, hs, hx, hrun, Result.andThen]
  exact h

theorem new_cell (W : World) (v : Value) (t : TypeId) : ∀ j u, [v][j]? = some u → (W.alloc (.cells #[v] t)).cell? ((⟨W.heap.size, 0, none⟩ : Addr).add j) = some u := by
  intro j u h
  have hj : j = 0 := by
    rcases j with _ | j
    · rfl
    · simp at h
  subst hj
  simp only [List.getElem?_cons_zero, Option.some.injEq] at h
  subst h
  have := World.alloc_heap_new W (.cells #[v] t)
  show World.cell? _ ⟨W.heap.size, 0, none⟩ = _
  unfold World.cell?
  rw [show ((⟨W.heap.size, 0, none⟩ : Addr).block) = W.heap.size from rfl, this]
  simp

end Go.Proofs.Ythogiakfbgehnaa

namespace Go.Proofs.Ythogiakfbgehnaa

/-- A way: what it makes, and what it needs. -/
structure Wy (α : Type) where
  n : α
  l : List α
/-- What the ways make. -/
inductive Mk {α : Type} (ws : List (Wy α)) : α → Prop
  | by_ {w : Wy α} : w ∈ ws → (∀ x ∈ w.l, Mk ws x) → Mk ws w.n
theorem Mk.mono {α : Type} {ws vs : List (Wy α)} (h : ∀ w ∈ ws, w ∈ vs) {x : α} (k : Mk ws x) : Mk vs x := by
  induction k with
  | by_ h1 _ ih => exact .by_ (h _ h1) ih
/-- A way as it lies in memory: what it makes, what it still needs, and where that lies. -/
structure WyD (α : Type) where
  n : α
  l : List α
  a : Option Addr
  c : Nat
/-- This is what is left of a way that was taken: all ahead of it is made. -/
def Of {α : Type} (T : List (Wy α)) (M : α → Bool) (w : WyD α) : Prop := ∃ pre, (⟨w.n, pre ++ w.l⟩ : Wy α) ∈ T ∧ ∀ x ∈ pre, M x = true
theorem Of.mono {α : Type} {T V : List (Wy α)} {M N : α → Bool} {w : WyD α} (h : Of T M w) (h1 : ∀ t ∈ T, t ∈ V) (h2 : ∀ x, M x = true → N x = true) : Of V N w := by
  obtain ⟨pre, h3, h4⟩ := h
  exact ⟨pre, h1 _ h3, fun x hx => h2 x (h4 x hx)⟩
end Go.Proofs.Ythogiakfbgehnaa

namespace Go.Proofs.Ythogiakfbgehnaa

/-- Reached from these, by steps. -/
inductive Rchd {α : Type} (from_ : List α) (St : α → α → Prop) : α → Prop
  | base {x : α} : x ∈ from_ → Rchd from_ St x
  | step {x y : α} : Rchd from_ St x → St x y → Rchd from_ St y
end Go.Proofs.Ythogiakfbgehnaa

namespace Go.Proofs.Ythogiakfbgehnaa

/-- The place of the rule that a number names. -/
def ruL (x : Int) : Nat := (-1 - x).toNat
theorem ruL_of (r : Nat) : ruL (-1 - (r : Int)) = r := by unfold ruL; omega
theorem of_ruL {x : Int} (h : x < 0) : (-1 - (ruL x : Int)) = x := by unfold ruL; omega
/-- The ways by which a rule is made of nothing. -/
def wyR (al : List (List (List Int))) (r : Nat) : List (Wy Int) := (al.getD r []).map (fun a => ⟨-1 - (r : Int), a⟩)
def nulW (al : List (List (List Int))) (n : Nat) : List (Wy Int) := (List.range n).flatMap (wyR al)
theorem nulW_mem {al : List (List (List Int))} {w : Wy Int} : w ∈ nulW al al.length ↔ ∃ r, r < al.length ∧ ∃ a ∈ al.getD r [], w = ⟨-1 - (r : Int), a⟩ := by
  unfold nulW wyR
  simp only [List.mem_flatMap, List.mem_range, List.mem_map]
  constructor
  · rintro ⟨r, h, a, ha, rfl⟩
    exact ⟨r, h, a, ha, rfl⟩
  · rintro ⟨r, h, a, ha, rfl⟩
    exact ⟨r, h, a, ha, rfl⟩
/-- Whether the empty sentence comes from a rule. -/
def NulP (al : List (List (List Int))) (r : Nat) : Prop := Mk (nulW al al.length) (-1 - (r : Int))
open Classical in
noncomputable def nulB (al : List (List (List Int))) (r : Nat) : Bool := decide (NulP al r)
theorem nulB_iff {al : List (List (List Int))} {r : Nat} : nulB al r = true ↔ NulP al r := by unfold nulB; simp
/-- Whether all of a list may be empty, by what is known. -/
def emp (f : Nat → Bool) (s : List Int) : Bool := s.all (fun k => decide (k < 0) && f (ruL k))
theorem emp_cons (f : Nat → Bool) (k : Int) (s : List Int) : emp f (k :: s) = ((decide (k < 0) && f (ruL k)) && emp f s) := rfl
theorem emp_iff {f : Nat → Bool} {s : List Int} : emp f s = true ↔ ∀ k ∈ s, k < 0 ∧ f (ruL k) = true := by unfold emp; simp
theorem emp_mono {f g : Nat → Bool} (h : ∀ r, f r = true → g r = true) {s : List Int} (he : emp f s = true) : emp g s = true := by
  rw [emp_iff] at he ⊢
  exact fun k hk => ⟨(he k hk).1, h _ (he k hk).2⟩
theorem mk_neg {al : List (List (List Int))} {x : Int} (h : Mk (nulW al al.length) x) : ∃ r, r < al.length ∧ x = -1 - (r : Int) := by
  cases h with
  | by_ h1 h2 =>
    obtain ⟨r, hr, a, ha, rfl⟩ := nulW_mem.1 h1
    exact ⟨r, hr, rfl⟩
theorem mk_emp {al : List (List (List Int))} {a : List Int} : (∀ x ∈ a, Mk (nulW al al.length) x) ↔ emp (nulB al) a = true := by
  rw [emp_iff]
  constructor
  · intro h k hk
    obtain ⟨r, hr, rfl⟩ := mk_neg (h k hk)
    refine ⟨by omega, ?_⟩
    rw [ruL_of]
    exact nulB_iff.2 (h _ hk)
  · intro h k hk
    obtain ⟨h1, h2⟩ := h k hk
    have := nulB_iff.1 h2
    unfold NulP at this
    rwa [of_ruL h1] at this
theorem nul_iff {al : List (List (List Int))} {r : Nat} (h : r < al.length) : nulB al r = true ↔ ∃ a ∈ al.getD r [], emp (nulB al) a = true := by
  rw [nulB_iff]
  constructor
  · intro k
    unfold NulP at k
    generalize hx : -1 - (r : Int) = x at k
    cases k with
    | by_ h1 h2 =>
      obtain ⟨s, hs, a, ha, rfl⟩ := nulW_mem.1 h1
      dsimp only at hx h2
      obtain rfl : r = s := by omega
      exact ⟨a, ha, mk_emp.1 h2⟩
  · rintro ⟨a, ha, he⟩
    exact Mk.by_ (w := ⟨-1 - (r : Int), a⟩) (nulW_mem.2 ⟨r, h, a, ha, rfl⟩) (mk_emp.2 he)
theorem countP_lt {α : Type} {p q : α → Bool} : ∀ {l : List α}, (∀ x ∈ l, q x = true → p x = true) → (∃ x ∈ l, p x = true ∧ q x = false) → l.countP q < l.countP p
  | [], _, ⟨_, h, _⟩ => by cases h
  | x :: l, h, hx => by
    rw [List.countP_cons, List.countP_cons]
    have h1 : l.countP q ≤ l.countP p := List.countP_mono_left (fun y hy => h y (List.mem_cons_of_mem _ hy))
    obtain ⟨y, hy, h2, h3⟩ := hx
    rcases List.mem_cons.1 hy with rfl | hy
    · simp [h2, h3]; omega
    · have h4 := countP_lt (fun z hz => h z (List.mem_cons_of_mem _ hz)) ⟨y, hy, h2, h3⟩
      have h5 := h x (by simp)
      cases e1 : q x <;> cases e2 : p x <;> simp_all <;> omega
/-- What of a list stands first in something that comes from it. -/
def ahd (f : Nat → Bool) : List Int → List Int
  | [] => []
  | k :: s => if (decide (k < 0) && f (ruL k)) = true then k :: ahd f s else [k]
/-- One step on the way to what begins. -/
def StA (al : List (List (List Int))) (f : Nat → Bool) (x y : Int) : Prop := x < 0 ∧ ∃ a ∈ al.getD (ruL x) [], y ∈ ahd f a
/-- The tokens with which begins what comes from some numbers. -/
def TokP (al : List (List (List Int))) (f : Nat → Bool) (l : List Int) (t : Int) : Prop := 0 ≤ t ∧ Rchd l (StA al f) t
theorem Rchd.sub {α : Type} {l m : List α} {St : α → α → Prop} {x : α} (h : Rchd l St x) (hs : ∀ y ∈ l, Rchd m St y) : Rchd m St x := by
  induction h with
  | base h => exact hs _ h
  | step _ h2 ih => exact ih.step h2
theorem Rchd.one {α : Type} {l : List α} {St : α → α → Prop} {x : α} (h : Rchd l St x) : ∃ y ∈ l, Rchd [y] St x := by
  induction h with
  | base h => exact ⟨_, h, .base (by simp)⟩
  | step _ h2 ih =>
    obtain ⟨y, h3, h4⟩ := ih
    exact ⟨y, h3, h4.step h2⟩
theorem tok_iff {al : List (List (List Int))} {f : Nat → Bool} {l : List Int} {t : Int} : TokP al f l t ↔ ∃ x ∈ l, TokP al f [x] t := by
  constructor
  · rintro ⟨h1, h2⟩
    obtain ⟨x, h3, h4⟩ := h2.one
    exact ⟨x, h3, h1, h4⟩
  · rintro ⟨x, h3, h1, h4⟩
    exact ⟨h1, h4.sub (fun y hy => by rw [List.mem_singleton] at hy; subst hy; exact .base h3)⟩
theorem tok_self {al : List (List (List Int))} {f : Nat → Bool} {x : Int} (hx : 0 ≤ x) : TokP al f [x] x := ⟨hx, .base (by simp)⟩
/-- What an alternative begins with its rule does. -/
theorem tok_rule {al : List (List (List Int))} {f : Nat → Bool} {r : Nat} {a : List Int} {t : Int} (ha : a ∈ al.getD r []) (h : TokP al f (ahd f a) t) : TokP al f [-1 - (r : Int)] t :=
  ⟨h.1, h.2.sub (fun y hy => (Rchd.base (x := -1 - (r : Int)) (by simp)).step ⟨by omega, a, by rw [ruL_of]; exact ha, hy⟩)⟩
/-- What stands right behind a rule in an alternative, or behind it and what may be empty; behind the first rule the end does. -/
def BehP (al : List (List (List Int))) (f : Nat → Bool) (T : Nat) (s : Nat) (y : Int) : Prop :=
  (s = 0 ∧ y = (T : Int)) ∨ ∃ r, r < al.length ∧ ∃ a ∈ al.getD r [], ∃ i, a[i]? = some (-1 - (s : Int)) ∧ y ∈ ahd f (a.drop (i + 1))
/-- The rules in one of whose alternatives a rule stands last, or ahead of what may be empty alone. -/
def LstP (al : List (List (List Int))) (f : Nat → Bool) (s r : Nat) : Prop := r < al.length ∧ ∃ a ∈ al.getD r [], ∃ i, a[i]? = some (-1 - (s : Int)) ∧ emp f (a.drop (i + 1)) = true
/-- What follows a rule. -/
def FolP (al : List (List (List Int))) (f : Nat → Bool) (T : Nat) (s : Nat) (t : Int) : Prop := 0 ≤ t ∧ ∃ o, Rchd [s] (LstP al f) o ∧ ∃ y, BehP al f T o y ∧ TokP al f [y] t
theorem fol_beh {al : List (List (List Int))} {f : Nat → Bool} {T s : Nat} {t : Int} {r : Nat} {a : List Int} {i : Nat} (hr : r < al.length) (ha : a ∈ al.getD r []) (hi : a[i]? = some (-1 - (s : Int))) (h : TokP al f (ahd f (a.drop (i + 1))) t) : FolP al f T s t := by
  obtain ⟨y, hy, h2⟩ := tok_iff.1 h
  exact ⟨h.1, s, .base (by simp), y, .inr ⟨r, hr, a, ha, i, hi, hy⟩, h2⟩
theorem fol_last {al : List (List (List Int))} {f : Nat → Bool} {T s r : Nat} {t : Int} (hl : LstP al f s r) (h : FolP al f T r t) : FolP al f T s t := by
  obtain ⟨h0, o, h1, h2⟩ := h
  exact ⟨h0, o, h1.sub (fun y hy => by rw [List.mem_singleton] at hy; subst hy; exact (Rchd.base (by simp)).step hl), h2⟩
end Go.Proofs.Ythogiakfbgehnaa

namespace Go.Proofs.Ythogiakfbgehnaa
/-- Of a tree: symbol, alternative, place. -/
structure TrH where
  k : Int
  i : Int
  a : Int
/-- Trees in a row, each with what is in it. -/
inductive TrF where
  | nil
  | cons (h : TrH) (kids rest : TrF)
def TrF.app : TrF → TrF → TrF
  | .nil, g => g
  | .cons h kids rest, g => .cons h kids (rest.app g)
theorem TrF.app_nil : ∀ (f : TrF), f.app .nil = f
  | .nil => rfl
  | .cons h kids rest => by unfold TrF.app; rw [TrF.app_nil rest]
theorem TrF.app_assoc : ∀ (f g h : TrF), (f.app g).app h = f.app (g.app h)
  | .nil, _, _ => rfl
  | .cons x kids rest, g, h => by
    show TrF.cons x kids ((rest.app g).app h) = TrF.cons x kids (rest.app (g.app h))
    rw [TrF.app_assoc rest g h]
/-- A tree. -/
structure Tre where
  k : Int
  i : Int
  a : Int
  l : TrF
def Tre.con (x : Tre) (f : TrF) : TrF := .cons ⟨x.k, x.i, x.a⟩ x.l f
/-- Refused at a place, or something, the place behind it, and how many nodes may still be put. -/
inductive PsR (α : Type) where
  | bad (at_ : Nat) (e : Int)
  | ok (x : α) (at_ left : Nat)
def PsR.bind {α β : Type} (r : PsR α) (f : α → Nat → Nat → PsR β) : PsR β :=
  match r with
  | .bad a e => .bad a e
  | .ok x a n => f x a n
end Go.Proofs.Ythogiakfbgehnaa

namespace Go.Proofs.Ythogiakfbgehnaa

/-- How many tokens come from a list, if so many come from each rule. -/
def lenP (V : Nat → Int) : List Int → Int
  | [] => 0
  | k :: s => (if k < 0 then V (ruL k) else 1) + lenP V s
/-- A rule has a sentence of so many tokens. -/
inductive Der (al : List (List (List Int))) : Nat → Int → Prop
  | by_ {r : Nat} {a : List Int} (W : Nat → Int) : a ∈ al.getD r [] → (∀ k ∈ a, k < 0 → Der al (ruL k) (W (ruL k))) → Der al r (lenP W a)
end Go.Proofs.Ythogiakfbgehnaa

namespace Go.Proofs.Ythogiakfbgehnaa
open Go.RowKit

def letB (c : UInt8) : Bool := (decide (97 ≤ c.toNat) && decide (c.toNat ≤ 122)) || (decide (65 ≤ c.toNat) && decide (c.toNat ≤ 90)) || decide (c.toNat = 95)
def digB (c : UInt8) : Bool := decide (48 ≤ c.toNat) && decide (c.toNat ≤ 57)
/-- Whether a text is a name. -/
def nameL : List UInt8 → Bool
  | [] => false
  | c :: r => decide (r.length < 32) && !digB c && (c :: r).all (fun d => letB d || digB d)
def nameB (s : ByteArray) : Bool := nameL s.data.toList

/-- A row of values of one cell. -/
structure Vs (w : World) (a : Option Addr) (cap : Nat) (l : List Value) : Prop where
  le : l.length ≤ cap
  max : cap ≤ 9223372036854775807
  nil_ : a = none → cap = 0
  at_ : ∀ i, i < l.length → ∃ b off, a = some ⟨b, off, none⟩
  cell : ∀ b off, a = some ⟨b, off, none⟩ → ∀ i, (h : i < l.length) → w.cell? ⟨b, off + i, none⟩ = some l[i]
theorem cell_up {w w' : World} (hb : Below w.heap.size w w') {b off : Nat} {v : Value} (h : w.cell? ⟨b, off, none⟩ = some v) : w'.cell? ⟨b, off, none⟩ = some v := (hb.cell (p := ⟨b, off, none⟩) (World.block_lt_of_cell? w _ h)).trans h
theorem Vs.grown {w w' : World} {a : Option Addr} {cap : Nat} {l : List Value} (h : Vs w a cap l) (hb : Below w.heap.size w w') : Vs w' a cap l :=
  ⟨h.le, h.max, h.nil_, h.at_, fun b off e i hi => cell_up hb (h.cell b off e i hi)⟩
theorem Vs.nil (w : World) : Vs w none 0 [] := ⟨by simp, by omega, fun _ => rfl, fun i h => by simp at h, fun b off e => by cases e⟩
/-- A list of names. -/
abbrev Nms (w : World) (a : Option Addr) (cap : Nat) (l : List ByteArray) : Prop := Vs w a cap (l.map Value.string)
/-- An alternative: its names, and where they lie. -/
structure AltD where
  l : List ByteArray
  a : Option Addr
  c : Nat
abbrev AltD.v (d : AltD) : Value := .slice d.a d.l.length d.c
structure Alts (w : World) (a : Option Addr) (cap : Nat) (ds : List AltD) : Prop where
  row : Vs w a cap (ds.map AltD.v)
  nms : ∀ d ∈ ds, Nms w d.a d.c d.l
theorem Alts.grown {w w' : World} {a : Option Addr} {cap : Nat} {l : List AltD} (h : Alts w a cap l) (hb : Below w.heap.size w w') : Alts w' a cap l := ⟨h.row.grown hb, fun d hd => (h.nms d hd).grown hb⟩
theorem Alts.nil (w : World) : Alts w none 0 [] := ⟨Vs.nil w, fun d h => by cases h⟩
/-- A rule: its name, its alternatives, and where they lie. -/
structure RlD where
  n : ByteArray
  ds : List AltD
  a : Option Addr
  c : Nat
def RlD.cells (r : RlD) : List Value := [.string r.n, .slice r.a r.ds.length r.c]
/-- Rules, each of two cells. -/
structure Rls (w : World) (a : Option Addr) (cap : Nat) (rs : List RlD) : Prop where
  le : rs.length ≤ cap
  max : cap ≤ 9223372036854775807
  nil_ : a = none → cap = 0
  at_ : ∀ i, i < rs.length → ∃ b off, a = some ⟨b, off, none⟩
  cell : ∀ b off, a = some ⟨b, off, none⟩ → ∀ i, (h : i < rs.length) → w.cell? ⟨b, off + i * 2, none⟩ = some (.string rs[i].n) ∧ w.cell? ⟨b, off + i * 2 + 1, none⟩ = some (.slice rs[i].a rs[i].ds.length rs[i].c)
  alts : ∀ r ∈ rs, Alts w r.a r.c r.ds
theorem Rls.grown {w w' : World} {a : Option Addr} {cap : Nat} {rs : List RlD} (h : Rls w a cap rs) (hb : Below w.heap.size w w') : Rls w' a cap rs :=
  ⟨h.le, h.max, h.nil_, h.at_, fun b off e i hi => ⟨cell_up hb (h.cell b off e i hi).1, cell_up hb (h.cell b off e i hi).2⟩, fun r hr => (h.alts r hr).grown hb⟩
theorem Rls.nil (w : World) : Rls w none 0 [] := ⟨by simp, by omega, fun _ => rfl, fun i h => by simp at h, fun b off e => (by cases e), fun r h => (by cases h)⟩
/-- A rule, without where it lies. -/
abbrev Rl := ByteArray × List (List ByteArray)
def RlD.p (r : RlD) : Rl := (r.n, r.ds.map AltD.l)
def grP (rs : List RlD) : List Rl := rs.map RlD.p

end Go.Proofs.Ythogiakfbgehnaa

namespace Go.Proofs.Ythogiakfbgehnaa
open Go.RowKit Go.Maps Go.WideMaps

end Go.Proofs.Ythogiakfbgehnaa

namespace Go.Proofs.Ythogiakfbgehnaa
open Go.RowKit Go.Maps

end Go.Proofs.Ythogiakfbgehnaa

namespace Go.Proofs.Ythogiakfbgehnaa
open Go.RowKit

section
variable {w w' : World} {base e size n cap : Nat} {v : Value} {a : Option Addr} {xs : List Value}
theorem own_typ (h : w.ownsRow base e size (.slice a n cap) n xs) : ∀ g, (Value.slice a n cap).ownBlock = some g → base ≤ g ∧ ∃ cur, w.heap[g]? = some (.cells cur e (0, 0)) := by
  intro g hg
  rcases h.2 with ⟨e, _⟩ | ⟨g', cap', cur, e, hb, hk, _⟩
  · rw [e] at hg; cases hg
  · rw [e] at hg
    simp only [Value.ownBlock, Option.some.injEq] at hg
    subst hg
    exact ⟨hb, cur, hk⟩
theorem own_ne_ty (h : w.ownsRow base e size (.slice a n cap) n xs) {g t : Nat} {cur : Array Value} {fr : Nat × Nat} (hk : w.heap[g]? = some (.cells cur t fr)) (ht : e ≠ t) : (Value.slice a n cap).ownBlock ≠ some g := by
  intro e0
  obtain ⟨_, cur', h2⟩ := own_typ h g e0
  rw [hk] at h2
  cases h2
  exact ht rfl
theorem own_mono {base' : Nat} (h : w.ownsRow base e size v n xs) (hb : base' ≤ base) : w.ownsRow base' e size v n xs :=
  ⟨h.1, h.2.imp id (fun ⟨g, cp, cur, e1, e2, e3⟩ => ⟨g, cp, cur, e1, Nat.le_trans hb e2, e3⟩)⟩
end
/-- A value is put onto an own row. -/
theorem run_pushV (w : World) (sT ty eT : TypeId) (zv : Value) (sz by_ : Nat) (hu : Try.prog.underlying sT = some (.slice eT)) (hinfo : (Try.prog.info? eT).map (fun i => (i.zero, i.size, i.bytes)) = some (some zv, sz, by_)) (hzs : zv.cells.size = sz) (hsz : 0 < sz) (hby : by_ ≤ 40) (cs : List Value) (hcl : cs.length = sz) (h1 : ∀ u ∈ cs, u.oneCell' = true)
    {base n cap : Nat} {a : Option Addr} {xs : List Value} (hown : w.ownsRow base eT sz (.slice a n cap) n xs) (hn : n + 1 ≤ 1099511627780) (hbase : base ≤ w.heap.size) :
    ∃ a' cap' w', (Builtin.append_ #[sT, sT] ty #[.slice a n cap, .slice (some ⟨w.heap.size, 0, none⟩) 1 1]).run Try.prog (w.alloc (.cells cs.toArray eT)) = .ok (.slice a' (n + 1) cap') w' ∧
      w'.ownsRow base eT sz (.slice a' (n + 1) cap') (n + 1) (xs ++ cs) ∧ w.grownBy w' (Value.slice a n cap).ownBlock := by
  obtain ⟨i0, hi, hz0, hz1, hz2⟩ := info_parts hinfo
  have hnew : ∀ j u, cs[j]? = some u → (w.alloc (.cells cs.toArray eT)).cell? ((⟨w.heap.size, 0, none⟩ : Addr).add j) = some u := by
    intro j u hj
    have := World.alloc_heap_new w (.cells cs.toArray eT)
    have e : ((⟨w.heap.size, 0, none⟩ : Addr).add j) = ⟨w.heap.size, j, none⟩ := by simp [Addr.add]; exact Eq.symm
    rw [e]
    unfold World.cell?
    rw [show ((⟨w.heap.size, j, none⟩ : Addr).block) = w.heap.size from rfl, this]
    simp only [Option.bind_some]
    simpa using hj
  obtain ⟨y, w', hrun, ho, hg, _⟩ := run_append_own (P := Try.prog) (w.alloc (.cells cs.toArray eT)) base sT ty eT i0 zv sz by_ hu hi hz0 hz1 hz2 hzs hsz _ n _ (hown.alloc _) ⟨w.heap.size, 0, none⟩ 1 1 cs (by rw [hcl]; omega) hnew h1 (by unfold maxLen; omega) (by have := Nat.mul_le_mul (show n + 1 ≤ 1099511627780 from hn) hby; omega) (by simp; omega)
  obtain ⟨a', cap', rfl⟩ := slice_of_own ho
  exact ⟨a', cap', w', hrun, ho, grownBy_trans (World.grownBy_alloc w _ _) hg (fun i e => .inl e)⟩
theorem info_str : (Try.prog.info? 9).map (fun i => (i.zero, i.size, i.bytes)) = some (some (.string ⟨#[]⟩), 1, 16) := by kernel_rfl
theorem info_rule : (Try.prog.info? 177).map (fun i => (i.zero, i.size, i.bytes)) = some (some (.agg #[.string ⟨#[]⟩, .slice none 0 0]), 2, 40) := by kernel_rfl
end Go.Proofs.Ythogiakfbgehnaa

namespace Go.Proofs.Ythogiakfbgehnaa
open Go.RowKit Go.Maps Go.WideMaps

theorem belowAt {B : Nat} {a b : World} {r : Option Nat} (h : a.grownBy b r) (hr : ∀ i, r = some i → B ≤ i) (hB : B ≤ a.heap.size) : Below B a b :=
  ⟨h.os, h.tape, h.output, h.size, fun k hk => h.block k (Nat.lt_of_lt_of_le hk hB) (fun e => by have := hr k e.symm; omega)⟩
end Go.Proofs.Ythogiakfbgehnaa

namespace Go.Proofs.Ythogiakfbgehnaa
open Go.RowKit Go.Maps

attribute [local go_sem] Oper.semAt_some

end Go.Proofs.Ythogiakfbgehnaa

namespace Go.Proofs.Ythogiakfbgehnaa
open Go.RowKit Go.Maps

attribute [local go_sem] Oper.semAt_some

end Go.Proofs.Ythogiakfbgehnaa

namespace Go.Proofs.Ythogiakfbgehnaa
open Go.RowKit

abbrev OwnR (w : World) (base : Nat) (a : Option Addr) (c : Nat) (rs : List RlD) : Prop := w.ownsRow base 177 2 (.slice a rs.length c) rs.length (rs.flatMap RlD.cells)
section
variable {w w' : World} {base size n cap : Nat} {e : TypeId} {a : Option Addr} {xs : List Value} {row : Option Nat}
theorem own_kept_ty (h : w.ownsRow base e size (.slice a n cap) n xs) (hg : w.grownBy w' row) (hrow : ∀ g, row = some g → ∃ cur t fr, w.heap[g]? = some (.cells cur t fr) ∧ e ≠ t) : w'.ownsRow base e size (.slice a n cap) n xs := by
  rcases h0 : (Value.slice a n cap).ownBlock with _ | k
  · exact h.kept hg (.inl h0)
  · refine h.kept hg (.inr (fun e0 => ?_))
    rw [h0] at e0
    obtain ⟨cur, t, fr, hk, ht⟩ := hrow k e0.symm
    exact own_ne_ty h hk ht h0
end
end Go.Proofs.Ythogiakfbgehnaa

namespace Go.Proofs.Ythogiakfbgehnaa
open Go.RowKit Go.Shelf

attribute [local go_sem] Oper.semAt_some

end Go.Proofs.Ythogiakfbgehnaa

namespace Go.Proofs.Ythogiakfbgehnaa
open Go.RowKit Go.Shelf

attribute [local go_sem] Oper.semAt_some

theorem let_t {c : UInt8} (h : (97 ≤ c.toNat ∧ c.toNat ≤ 122) ∨ (65 ≤ c.toNat ∧ c.toNat ≤ 90) ∨ c.toNat = 95) : letB c = true := by
  unfold letB; simp only [Bool.or_eq_true, Bool.and_eq_true, decide_eq_true_eq]; omega
theorem let_f {c : UInt8} (h : ¬ ((97 ≤ c.toNat ∧ c.toNat ≤ 122) ∨ (65 ≤ c.toNat ∧ c.toNat ≤ 90) ∨ c.toNat = 95)) : letB c = false := by
  rw [Bool.eq_false_iff]; unfold letB; simp only [ne_eq, Bool.or_eq_true, Bool.and_eq_true, decide_eq_true_eq]; omega
theorem dig_t {c : UInt8} (h : 48 ≤ c.toNat ∧ c.toNat ≤ 57) : digB c = true := by
  unfold digB; simp only [Bool.and_eq_true, decide_eq_true_eq]; omega
theorem dig_f {c : UInt8} (h : ¬ (48 ≤ c.toNat ∧ c.toNat ≤ 57)) : digB c = false := by
  rw [Bool.eq_false_iff]; unfold digB; simp only [ne_eq, Bool.and_eq_true, decide_eq_true_eq]; omega
theorem dlen (s : ByteArray) : s.data.toList.length = s.size := by rw [Array.length_toList]; rfl

end Go.Proofs.Ythogiakfbgehnaa

namespace Go.Proofs
open Go.Shelf
end Go.Proofs

namespace Go.Proofs.Ythogiakfbgehnaa
open Go.RowKit Go.Shelf

attribute [local go_sem] Oper.semAt_some

end Go.Proofs.Ythogiakfbgehnaa

namespace Go.Proofs.Ythogiakfbgehnaa
open Go.RowKit Go.Shelf

attribute [local go_sem] Oper.semAt_some

end Go.Proofs.Ythogiakfbgehnaa

namespace Go.Proofs.Ythogiakfbgehnaa
open Go.RowKit Go.Shelf

attribute [local go_sem] Oper.semAt_some

theorem loop_is (s : ByteArray) : ∀ (n i : Nat) (r : List UInt8), s.size - i = n → ByteArray.toList.loop s i r = r.reverse ++ s.data.toList.drop i := by
  intro n
  induction n with
  | zero => intro i r h; unfold ByteArray.toList.loop; rw [if_neg (by omega), List.drop_eq_nil_of_le (by rw [dlen]; omega)]; simp
  | succ n ih =>
    intro i r h
    have hi : i < s.data.toList.length := by rw [dlen]; omega
    unfold ByteArray.toList.loop
    rw [if_pos (by omega), ih _ _ (by omega), List.drop_eq_getElem_cons hi]
    have : s.get! i = s.data.toList[i] := by
      cases s with
      | mk data =>
        show data[i]! = data.toList[i]
        rw [getElem!_pos data i (by simpa using hi)]
        simp
    rw [this]
    simp
theorem toList_is (s : ByteArray) : s.toList = s.data.toList := by
  unfold ByteArray.toList
  rw [loop_is s _ 0 [] rfl]
  simp
end Go.Proofs.Ythogiakfbgehnaa

namespace Go.Proofs.Ythogiakfbgehnaa
open Go.RowKit Go.Shelf

end Go.Proofs.Ythogiakfbgehnaa

namespace Go.Proofs.Ythogiakfbgehnaa
open Go.RowKit Go.Shelf

attribute [local go_sem] Oper.semAt_some

end Go.Proofs.Ythogiakfbgehnaa

namespace Go.Proofs.Ythogiakfbgehnaa
open Go.RowKit Go.Shelf

attribute [local go_sem] Oper.semAt_some

def longA (d : AltD) : Bool := decide (30 < d.l.length)
def longR (r : RlD) : Bool := decide (30 < r.ds.length) || r.ds.any longA
def longG (rs : List RlD) : Bool := decide (60 < rs.length) || rs.any longR

end Go.Proofs.Ythogiakfbgehnaa

namespace Go.Proofs.Ythogiakfbgehnaa
open Go.RowKit Go.Shelf

/-- A row that is one's own lies as a row. -/
theorem own_vs {w : World} {base n cap : Nat} {e : TypeId} {a : Option Addr} {xs : List Value} (h : w.ownsRow base e 1 (.slice a n cap) n xs) : Vs w a cap xs := by
  have hn : xs.length = n := by have := h.1; omega
  rcases h.2 with ⟨e1, e0⟩ | ⟨g, cp, cur, e1, hb, hk, hnc, hcm, _⟩
  · injection e1 with e1 e2 e3
    exact ⟨by omega, by omega, fun _ => e3, fun i hi => by omega, fun b off e => (by rw [e1] at e; cases e)⟩
  · injection e1 with e1 e2 e3
    refine ⟨by omega, by unfold maxLen at hcm; omega, fun e => (by rw [e1] at e; cases e), fun i hi => ⟨g, 0, e1⟩, fun b off e i hi => ?_⟩
    rw [e1] at e
    cases e
    subst e1
    have := World.ownsRow.cellAt h i (by omega)
    rw [Nat.zero_add, this]
    exact List.getElem?_eq_getElem hi
end Go.Proofs.Ythogiakfbgehnaa

namespace Go.Proofs.Ythogiakfbgehnaa
open Go.RowKit Go.Shelf

attribute [local go_sem] Oper.semAt_some

def mayR (r : RlD) : Bool := nameB r.n && decide (r.ds.length ≠ 0) && r.ds.all (fun d => d.l.all nameB)
def mayG (rs : List RlD) : Bool := rs.all mayR && decide (0 < rs.length)
def chkG (rs : List RlD) : Int := if mayG rs then if longG rs then 2 else 0 else 1

end Go.Proofs.Ythogiakfbgehnaa

namespace Go.Proofs.Ythogiakfbgehnaa
end Go.Proofs.Ythogiakfbgehnaa

namespace Go.Proofs.Ythogiakfbgehnaa
open Go.RowKit Go.Shelf

attribute [local go_sem] Oper.semAt_some

theorem str_ne {s t : ByteArray} (h : ¬ s = t) : (s.toList == t.toList) = false := by
  rw [beq_eq_false_iff_ne]
  intro e
  rw [toList_is, toList_is] at e
  exact h (by cases s; cases t; rename_i x y; simp at e; rw [e])

set_option maxRecDepth 100000 in
set_option maxHeartbeats 1000000 in
theorem sameNames_any (a b : Option Addr) (ac bc : Nat) (l m : List ByteArray) (w : World) (hl : Nms w a ac l) (hm : Nms w b bc m) :
    Calls Try.prog 141 #[.slice a l.length ac, .slice b m.length bc] w fun e w' => e = .returned (.bool (decide (l = m))) ∧ Below w.heap.size w w' := by
  have hle : l.length ≤ ac := by have := hl.le; rwa [List.length_map] at this
  have hmx := hl.max
  have hle2 : m.length ≤ bc := by have := hm.le; rwa [List.length_map] at this
  have hmx2 := hm.max
  obtain ⟨L, HL⟩ : ∃ L, Hid (l.length = L) := ⟨_, Lib.hid rfl⟩
  obtain ⟨M, HM⟩ : ∃ L, Hid (m.length = L) := ⟨_, Lib.hid rfl⟩
  rw [HL.out] at hle ⊢
  rw [HM.out] at hle2 ⊢
  by_cases hLM : L = M
  · subst hLM
    go_enter Try.func141, Try.ntmps141
    go_wp2_with (fail)
    go_loopw [5, 13] (fun _ i wr => ∃ (k : Nat), k ≤ L ∧ i = .int .i64 (k : Int) ∧ l.take k = m.take k ∧ Below w.heap.size w wr) (fun _ i _ => L - (intOf i).toNat)
    case atStart => exact ⟨0, by omega, rfl, rfl, Below.refl _ w⟩
    case round =>
      obtain ⟨k, hk, rfl, hr, hbr⟩ := hrel
      have HR := Lib.hid hr
      clear hr
      by_cases hlt : k < L
      · have hkl : k < l.length := by rw [HL.out]; exact hlt
        have hkm : k < m.length := by rw [HM.out]; exact hlt
        have hkI : (k : Int) < (L : Int) := by omega
        have hkI0 : (0 : Int) ≤ (k : Int) := by omega
        obtain ⟨b1, o1, rfl⟩ := hl.at_ k (by rw [List.length_map]; exact hkl)
        obtain ⟨b2, o2, rfl⟩ := hm.at_ k (by rw [List.length_map]; exact hkm)
        have c0 := (hl.grown hbr).cell b1 o1 rfl k (by rw [List.length_map]; exact hkl)
        have d0 := (hm.grown hbr).cell b2 o2 rfl k (by rw [List.length_map]; exact hkm)
        rw [List.getElem_map] at c0 d0
        obtain ⟨s, HS⟩ : ∃ s, Hid (l[k] = s) := ⟨_, Lib.hid rfl⟩
        obtain ⟨t, HT⟩ : ∃ s, Hid (m[k] = s) := ⟨_, Lib.hid rfl⟩
        rw [HS.out] at c0
        rw [HT.out] at d0
        have hmore : Hid (l.take (k + 1) = l.take k ++ [s] ∧ m.take (k + 1) = m.take k ++ [t]) := Lib.hid ⟨by rw [List.take_add_one, List.getElem?_eq_getElem hkl, HS.out]; rfl, by rw [List.take_add_one, List.getElem?_eq_getElem hkm, HT.out]; rfl⟩
        have hne : Hid (s ≠ t → decide (l = m) = false) := Lib.hid (fun h => decide_eq_false (fun e => h (by rw [← HS.out, ← HT.out]; subst e; rfl)))
        have hbd : Below w.heap.size w wr := hbr
        have hbl := World.block_lt_of_cell? _ _ c0
        have hbl2 := World.block_lt_of_cell? _ _ d0
        by_cases e1 : s = t
        · subst e1
          clear hl hm
          go_wp2_with (fail)
          go_region
          all_goals
            go_wp2_with (fail)
            go_roundw
          case rel => exact ⟨k + 1, by omega, by go_num, by rw [hmore.out.1, hmore.out.2, HR.out], hbd.drew⟩
          case measure => simp [intOf]; omega
        · have e3 : (s.toList == t.toList) = false := str_ne e1
          have hF := Lib.hid (hne.out e1)
          clear hl hm
          go_wp2_with (fail)
          go_region
          go_wp2_with (fail)
          exact bodyPost_ret (v := .bool false) (by simp [results, Try.results141, go_sem]; try rfl) rfl ⟨by rw [hF.out], hbd.drew⟩
      · obtain rfl : k = L := by omega
        have hT : Hid (decide (l = m) = true) := Lib.hid (decide_eq_true (by have := HR.out; rwa [List.take_of_length_le (by rw [HL.out]; exact Nat.le_refl _), List.take_of_length_le (by rw [HM.out]; exact Nat.le_refl _)] at this))
        go_wp2_with (fail)
        exact bodyPost_ret (v := .bool true) (by simp [results, Try.results141, go_sem]; try rfl) rfl ⟨by rw [hT.out], hbr⟩
  · have hF : Hid (decide (l = m) = false) := Lib.hid (decide_eq_false (fun e => hLM (by rw [← HL.out, ← HM.out, e])))
    have hne : ((L : Int) == (M : Int)) = false := by rw [beq_eq_false_iff_ne]; omega
    go_enter Try.func141, Try.ntmps141
    go_wp2_with (fail)
    all_goals first
      | exact bodyPost_ret (v := .bool false) (by simp [results, Try.results141, go_sem]; try rfl) rfl ⟨by rw [hF.out], Below.refl _ w⟩
      | (exfalso; omega)

end Go.Proofs.Ythogiakfbgehnaa

namespace Go.Proofs.Ythogiakfbgehnaa
open Go.RowKit Go.Shelf

attribute [local go_sem] Oper.semAt_some

theorem altv (d : AltD) : d.v = .slice d.a d.l.length d.c := rfl
end Go.Proofs.Ythogiakfbgehnaa

namespace Go.Proofs.Ythogiakfbgehnaa
open Go.RowKit Go.Shelf

attribute [local go_sem] Oper.semAt_some

end Go.Proofs.Ythogiakfbgehnaa

namespace Go.Proofs.Ythogiakfbgehnaa
open Go.RowKit Go.Shelf

attribute [local go_sem] Oper.semAt_some

theorem grP_take (l : List RlD) (k : Nat) (h : k < l.length) : grP (l.take (k + 1)) = grP (l.take k) ++ [(l[k]).p] := by
  unfold grP; rw [List.take_add_one, List.getElem?_eq_getElem h, List.map_append]; rfl
theorem alP_take (l : List AltD) (k : Nat) (h : k < l.length) : (l.take (k + 1)).map AltD.l = (l.take k).map AltD.l ++ [(l[k]).l] := by
  rw [List.take_add_one, List.getElem?_eq_getElem h, List.map_append]; rfl

end Go.Proofs.Ythogiakfbgehnaa

namespace Go.Proofs.Ythogiakfbgehnaa
end Go.Proofs.Ythogiakfbgehnaa

