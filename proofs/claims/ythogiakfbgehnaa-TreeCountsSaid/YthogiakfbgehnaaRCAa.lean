/- Texts joined: Bytes Mem Item Range Append All Ia Ib Ja Zh Jb Xa Ba Bb Xe Ic Ih Ii Xf Xg Xb Shelf Xc Xd Xh Xi Xj Xk Xl Xn Xq Xr Xs Xt Xu Xv Yd Ye Yf Bc Bd Be Bf Bg Bh Bi Bj Bk Bl Bm Bs Bt Ij Id Ie If Bu Ig Ik Il Bn Bo Bp Bq Br Im In Io Ip Iq Bv Bw Bx Ir. -/
import Derived.WalkKit
import Derived.WalkSmall
import Derived.Lib.Hide
import Derived.RangeFuncBox
import Derived.RangeFuncNested
import Derived.RangeFuncBound
import Derived.RangeFuncCalls
import Derived.RangeFuncLeaves
import Derived.Shelf.Abstract
import Derived.Test.YthogiakfbgehnaaRows
import Derived.OwnWalk
import Derived.Laws.CopyOwn
import Derived.Deep.QuietTactic
import Derived.BigQuiet
import Derived.StillTailTactics
import Derived.Deep.RegionWith
import Derived.Lib.AppendStr
import Derived.OwnWalkIn
import Derived.TacticsInMore
import Derived.LoopNIn
import Derived.LoopIn
import Derived.Sort.LoopGhostIn
import Derived.Deep.RegionLaw
import Derived.Outline
import Derived.WalkLawsBesides
import Derived.WalkSpells
import Derived.Below
import Derived.Maps.Own
import Derived.Maps.OwnOps
import Derived.Maps.OwnSet
import Derived.Maps.Views
import Derived.StringKeys
import Derived.BigRegion
import Derived.Maps.AppendAt
import Derived.Deep.LoopGhost
import Derived.Shelf.Small.Strs
import Derived.Shelf.Strings.Search1
import Derived.Test.YthogiakfbgehnaaProg
import Derived.Deep.RegionHeld3
import Derived.Lib.AppendZeros
import Derived.DeepKeys4
import Derived.Laws.MakeOwn
import Derived.Lib.SliceRun
set_option linter.unusedVariables false
set_option linter.unusedSimpArgs false
namespace Go.Proofs.Ythogiakfbgehnaa
open Go.RowKit

/-- A byte as the model's value. -/
abbrev bv (c : UInt8) : Value := .int .u8 (c.toNat : Int)

end Go.Proofs.Ythogiakfbgehnaa

namespace Go.Proofs.Ythogiakfbgehnaa
open Go.RowKit

/-- Block b holds just these cells, none frozen. -/
def Blk (w : World) (b : Nat) (e : TypeId) (cs : List Value) : Prop := w.heap[b]? = some (.cells cs.toArray e (0, 0))

section
variable {w w' : World} {b e : Nat} {cs : List Value}
theorem Blk.lt (h : Blk w b e cs) : b < w.heap.size := (Array.getElem?_eq_some_iff.1 h).1
theorem Blk.cell (h : Blk w b e cs) (j : Nat) : w.cell? ⟨b, j, none⟩ = cs[j]? := by
  simp [World.cell?, show w.heap[b]? = _ from h]
theorem Blk.frozen (h : Blk w b e cs) (j : Nat) : w.frozen? ⟨b, j, none⟩ = false := by
  simp [World.frozen?, show w.heap[b]? = _ from h]
theorem Blk.kept {row : Option Nat} (h : Blk w b e cs) (hg : w.grownBy w' row) (hne : some b ≠ row) : Blk w' b e cs := (hg.block b h.lt hne).trans h
theorem Blk.below {B : Nat} (h : Blk w b e cs) (hb : Below B w w') (hlt : b < B) : Blk w' b e cs := (hb.block b hlt).trans h
theorem Blk.alloc (h : Blk w b e cs) (o : Obj) : Blk (w.alloc o) b e cs := h.kept (World.grownBy_alloc w o none) (by simp)
theorem Blk.new (w : World) (e : TypeId) (cs : Array Value) : Blk (w.alloc (.cells cs e)) w.heap.size e cs.toList := by
  have := World.alloc_heap_new w (.cells cs e)
  simpa [Blk] using this
theorem Blk.set (h : Blk w b e cs) (j : Nat) (v : Value) : Blk (w.setCell ⟨b, j, none⟩ v) b e (cs.set j v) := by
  obtain ⟨hlt, hk⟩ := Array.getElem?_eq_some_iff.1 h
  show (w.heap.modify b _)[b]? = _
  rw [Array.getElem?_eq_getElem (by rw [Array.size_modify]; exact hlt), Array.getElem_modify_self, hk]
  simp
theorem Blk.setOther {b' j : Nat} (h : Blk w b e cs) (hne : b ≠ b') (v : Value) : Blk (w.setCell ⟨b', j, none⟩ v) b e cs := by
  show (w.setCell ⟨b', j, none⟩ v).heap[b]? = _
  rw [Below.heap_setCell _ _ _ _ (by simpa using hne)]; exact h
end

theorem grownBy_set (w : World) (b j : Nat) (v : Value) : w.grownBy (w.setCell ⟨b, j, none⟩ v) (some b) :=
  ⟨rfl, rfl, rfl, (KeepsWalks.setCell w _ v).size, fun k _ hk => Below.heap_setCell _ _ _ k (fun e => hk (by rw [e]))⟩

/-- Two steps: the second may write the row of the first, or what the first has laid. -/
theorem grownBy_trans {a b c : World} {r s : Option Nat} (h : a.grownBy b r) (k : b.grownBy c s) (hs : ∀ i, s = some i → r = some i ∨ a.heap.size ≤ i) : a.grownBy c r :=
  ⟨k.os.trans h.os, k.tape.trans h.tape, k.output.trans h.output, Nat.le_trans h.size k.size, fun i hi hr =>
    (k.block i (Nat.lt_of_lt_of_le hi h.size) (fun e => by rcases hs i e.symm with h1 | h1; exact hr h1.symm; omega)).trans (h.block i hi hr)⟩

theorem grownBy_below {a b : World} {r : Option Nat} (h : a.grownBy b r) (hr : ∀ i, r = some i → a.heap.size ≤ i) : Below a.heap.size a b :=
  ⟨h.os, h.tape, h.output, h.size, fun k hk => h.block k hk (fun e => by have := hr k e.symm; omega)⟩

theorem below_grownBy {a b : World} (h : Below a.heap.size a b) (r : Option Nat) : a.grownBy b r := ⟨h.os, h.tape, h.output, h.size, fun k hk _ => h.block k hk⟩

theorem grownBy_none {a b : World} (h : a.grownBy b none) (r : Option Nat) : a.grownBy b r := below_grownBy (grownBy_below h (fun i e => by cases e)) r

theorem grownBy_drew (w : World) (r : Option Nat) : w.grownBy w.drew r := ⟨rfl, rfl, rfl, Nat.le_refl _, fun _ _ _ => rfl⟩

/-- What stands in a row when its cells from off on are overwritten. -/
def over (cs : List Value) (off : Nat) (new : List Value) : List Value := cs.take off ++ new ++ cs.drop (off + new.length)
end Go.Proofs.Ythogiakfbgehnaa

namespace Go.Proofs.Ythogiakfbgehnaa
open Go.RowKit

/-- A span. -/
structure Sp where
  lo : UInt8
  hi : UInt8
deriving DecidableEq

/-- A slice of spans reads as these. -/
structure Sps (w : World) (a : Option Addr) (cap : Nat) (l : List Sp) : Prop where
  le : l.length ≤ cap
  max : cap ≤ 9223372036854775807
  nil_ : a = none → cap = 0
  at_ : ∀ i, i < l.length → ∃ b off, a = some ⟨b, off, none⟩
  cell : ∀ b off, a = some ⟨b, off, none⟩ → ∀ i, (h : i < l.length) → w.cell? ⟨b, off + i * 2, none⟩ = some (.int .u8 (l[i].lo.toNat : Int)) ∧ w.cell? ⟨b, off + i * 2 + 1, none⟩ = some (.int .u8 (l[i].hi.toNat : Int))

theorem Sps.grown {w w' : World} {a : Option Addr} {cap : Nat} {l : List Sp} (h : Sps w a cap l) (hb : Below w.heap.size w w') : Sps w' a cap l := by
  have hc : ∀ b off v, w.cell? ⟨b, off, none⟩ = some v → w'.cell? ⟨b, off, none⟩ = some v := fun b off v h => (hb.cell (p := ⟨b, off, none⟩) (World.block_lt_of_cell? w _ h)).trans h
  exact ⟨h.le, h.max, h.nil_, h.at_, fun b off e i hi => ⟨hc _ _ _ (h.cell b off e i hi).1, hc _ _ _ (h.cell b off e i hi).2⟩⟩
theorem Sps.nil (w : World) : Sps w none 0 [] := ⟨by simp, by omega, fun _ => rfl, fun i h => by simp at h, fun b off e => by cases e⟩

/-- What an expression holds itself. -/
structure Hd where
  k : Int
  set : List Sp

/-- A list of expressions, each with its own list. -/
inductive Fo where
  | nil
  | cons (h : Hd) (kids rest : Fo)

def Fo.len : Fo → Nat
  | .nil => 0
  | .cons _ _ rest => rest.len + 1

/-- How many expressions there are in all. -/
def Fo.size : Fo → Nat
  | .nil => 0
  | .cons _ kids rest => kids.size + rest.size + 1

/-- An expression as a value. -/
abbrev itemV (h : Hd) (sa : Option Addr) (sc : Nat) (a : Option Addr) (len cap : Nat) : Value := .agg #[.int .i64 h.k, .slice sa h.set.length sc, .slice a len cap]

/-- A node of the walk over all that is in an expression: how deep it stands, what it holds, how many it has. -/
structure Nd where
  d : Nat
  h : Hd
  len : Nat

/-- A list's expressions and all that are in them, each ahead of its own list. -/
def Fo.pre (d : Nat) : Fo → List Nd
  | .nil => []
  | .cons h kids rest => ⟨d, h, kids.len⟩ :: (kids.pre (d + 1) ++ rest.pre d)

/-- Rounds that are still to come. -/
def steps : List Fo → Nat
  | [] => 0
  | f :: fs => 2 * f.size + 1 + steps fs

end Go.Proofs.Ythogiakfbgehnaa

namespace Go.Proofs.Ythogiakfbgehnaa
open Go.RowKit Go.Shelf

/-- A block that the iterator may write: no cells, or cells of one of its types. -/
def Turns (T : TypeId → Bool) (o : Obj) : Prop := o.isCells = false ∨ ∃ cs t fr, o = Obj.cells cs t fr ∧ T t = true

/-- An invariant that does not mind what the iterator, and the loop's own book-keeping, write from block B on. -/
def Bears {β : Type} (B : Nat) (T : TypeId → Bool) (I : β → World → Prop) : Prop :=
  ∀ s W W' row, I s W → W.grownBy W' row → (∀ r, row = some r → B ≤ r ∧ ∃ o, W.heap[r]? = some o ∧ Turns T o) → I s W'

theorem Bears.and {β : Type} {B : Nat} {T : TypeId → Bool} {I J : β → World → Prop} (h : Bears B T I) (k : Bears B T J) : Bears B T (fun s W => I s W ∧ J s W) :=
  fun s W W' row hs hg hr => ⟨h s W W' row hs.1 hg hr, k s W W' row hs.2 hg hr⟩
theorem Bears.mono {β : Type} {B B' : Nat} {T : TypeId → Bool} {I : β → World → Prop} (h : Bears B T I) (hB : B ≤ B') : Bears B' T I :=
  fun s W W' row hs hg hr => h s W W' row hs hg (fun r e => ⟨Nat.le_trans hB (hr r e).1, (hr r e).2⟩)
theorem Bears.putObj {β : Type} {B : Nat} {T : TypeId → Bool} {I : β → World → Prop} (h : Bears B T I) {s : β} {W : World} {l : Nat} {o : Obj} (o' : Obj) (hs : I s W) (hB : B ≤ l) (hl : W.heap[l]? = some o) (ho : o.isCells = false) : I s (W.putObj l o') :=
  h s W _ (some l) hs (grownBy_putObj' W l o') (fun r e => by cases e; exact ⟨hB, o, hl, .inl ho⟩)
theorem Bears.alloc {β : Type} {B : Nat} {T : TypeId → Bool} {I : β → World → Prop} (h : Bears B T I) {s : β} {W : World} (o : Obj) (hs : I s W) : I s (W.alloc o) :=
  h s W _ none hs (World.grownBy_alloc W o none) (fun r e => by cases e)
theorem bears_pure {β : Type} (B : Nat) (T : TypeId → Bool) (p : β → Prop) : Bears B T (fun s _ => p s) := fun _ _ _ _ hs _ _ => hs
theorem bears_below {β : Type} {B n₀ : Nat} {T : TypeId → Bool} {w : World} (h0 : n₀ ≤ B) (hB : n₀ ≤ w.heap.size) : Bears B T (fun (_ : β) W => Below n₀ w W) :=
  fun _ _ _ _ hs hg hr => hs.grown hg (Nat.le_trans hB hs.size) (fun k e => Nat.le_trans h0 (hr k e).1)
/-- A box of another type. -/
theorem bears_boxed {β : Type} (B b : Nat) {T : TypeId → Bool} (t : TypeId) (ht : T t = false) (f : β → Value) : Bears B T (fun s W => Boxed W b t (f s)) :=
  fun s W W' row hs hg hr => hs.kept hg (fun e => by
    obtain ⟨_, o, ho, hc⟩ := hr b e.symm
    rw [show W.heap[b]? = _ from hs] at ho
    cases ho
    rcases hc with hc | ⟨cs, t', fr, e2, ht'⟩
    · cases hc
    · cases e2; rw [ht] at ht'; cases ht')

/-- What a round leaves to the iterator: what lay below n₀, and each block of its types. -/
structure Spares (n₀ : Nat) (T : TypeId → Bool) (W W' : World) : Prop where
  below : Below n₀ W W'
  same : ∀ (k : Nat) (cs : Array Value) (t : TypeId) (fr : Nat × Nat), W.heap[k]? = some (Obj.cells cs t fr) → T t = true → W'.heap[k]? = some (Obj.cells cs t fr)

theorem Spares.refl (n₀ : Nat) (T : TypeId → Bool) (W : World) : Spares n₀ T W W := ⟨Below.refl _ _, fun _ _ _ _ h _ => h⟩
theorem Spares.trans {n₀ : Nat} {T : TypeId → Bool} {A B C : World} (h : Spares n₀ T A B) (k : Spares n₀ T B C) : Spares n₀ T A C :=
  ⟨h.below.trans k.below, fun i cs t fr hi ht => k.same i cs t fr (h.same i cs t fr hi ht) ht⟩
/-- One block written that is none of the iterator's, at or beyond n₀. -/
theorem Spares.grown {n₀ : Nat} {T : TypeId → Bool} {W W' : World} {row : Option Nat} (hg : W.grownBy W' row) (hn : n₀ ≤ W.heap.size) (hr : ∀ r, row = some r → n₀ ≤ r ∧ ∀ (cs : Array Value) (t : TypeId) (fr : Nat × Nat), W.heap[r]? = some (Obj.cells cs t fr) → T t = false) : Spares n₀ T W W' :=
  ⟨(Below.refl n₀ W).grown hg hn (fun k e => (hr k e).1), fun k cs t fr hk ht => by
    refine (hg.block k (Array.getElem?_eq_some_iff.1 hk).1 (fun e => ?_)).trans hk
    rw [(hr k e.symm).2 cs t fr hk] at ht; cases ht⟩
theorem Spares.putObj {n₀ : Nat} {T : TypeId → Bool} {W : World} {l : Nat} {o : Obj} (o' : Obj) (hn : n₀ ≤ W.heap.size) (hl : n₀ ≤ l) (h : W.heap[l]? = some o) (ho : o.isCells = false) : Spares n₀ T W (W.putObj l o') :=
  Spares.grown (grownBy_putObj' W l o') hn (fun r e => by cases e; exact ⟨hl, fun cs t fr hk => by rw [h] at hk; cases hk; cases ho⟩)

/-- HOW A ROUND'S BODY MAY BE LEFT. -/
def roundEnd {α : Type} (B n₀ : Nat) (T : TypeId → Bool) (I Ix : List α → World → Prop) (xs : List α) (W : World) : Exit → Act → World → Prop
  | .normal, _, W' => KeepsFrom B W W' ∧ Spares n₀ T W W' ∧ I xs W'
  | .ret, _, W' => KeepsFrom B W W' ∧ Ix xs W'
  | _, _, _ => False

/-- THE ITERATOR's CONTRACT. Good: what may have come; Full: all has come. -/
def Walks {α : Type} (P : Program) (gf : Nat) (lb : Array Value) (encs : α → Array Value) (Good Full : List α → Prop) (n₀ : Nat) (T : TypeId → Bool) (w : World) : Prop :=
  ∀ (l : Nat) (J Jx : List α → World → Prop) (W : World), Below w.heap.size w W → Bears W.heap.size T J → Bears W.heap.size T Jx →
    (∀ pre x W1, J pre W1 → Good (pre ++ [x]) → YieldAt Fence.wide 0 P l (encs x) W1 fun e W' =>
      (e = .returned (.bool true) ∧ J (pre ++ [x]) W' ∧ Spares n₀ T W1 W') ∨ (e = .returned (.bool false) ∧ Jx (pre ++ [x]) W')) →
    J [] W →
    CallsIn Fence.wide 0 P gf (#[.func (.yield l) #[] #[]] ++ lb) W fun e W' => (∃ v, e = .returned v) ∧ ((∃ xs, Full xs ∧ J xs W') ∨ (∃ pre, Good pre ∧ Jx pre W'))

variable {P : Program}

theorem range_law {α : Type} {g : Operand} {ps : Array Tmp} {assign body : Code} {Q : Exit → Act → World → Prop} {a : Act} {w : World}
    {gf : Nat} {lb : Array Value} (hg : a.eval g = .func (.func gf) #[] lb) (eg : ∀ args w, (callFunc gf args).run P w = .ok (.enter gf args) w)
    {encs : α → Array Value} {Good Full : List α → Prop} {n₀ : Nat} {T : TypeId → Bool} (hn₀ : n₀ ≤ w.heap.size) (hit : Walks P gf lb encs Good Full n₀ T w) (hps : ∀ x, (encs x).size = ps.size)
    (I Ix : List α → World → Prop) (hI : Bears w.heap.size T I) (hIx : Bears w.heap.size T Ix) (h0 : I [] w)
    (hround : ∀ (l : Nat) (pre : List α) (x : α) (W : World), w.heap.size ≤ l → (∃ r, W.heap[l]? = some (.loop r)) → I pre W → Good (pre ++ [x]) →
      assign.wpIn (Fence.wide.inRound l) 0 P (Exit.then (fun a₁ w₁ => KeepsFrom w.heap.size W w₁ ∧ Spares n₀ T W w₁ ∧
          ∀ W2, w₁.grownBy W2 (some l) → body.wpIn (Fence.wide.inRound l) 0 P (roundEnd w.heap.size n₀ T I Ix (pre ++ [x]) W2) a₁ W2) (fun _ _ _ => False))
        { tmps := (ps.zip (encs x)).foldl (fun t (p, v) => t.setIfInBounds p v) a.tmps, defers := [] } W)
    (hdone : ∀ (D : Nat) (xs : List α) (W : World), w.heap.size ≤ D → Full xs → I xs W → W.heap[D]? = some (.deferred (some [])) → Q .normal { a with defers := { target := .collected D, args := #[] } :: a.defers } W)
    (hstop : ∀ (D : Nat) (pre : List α) (W : World), w.heap.size ≤ D → Good pre → Ix pre W → W.heap[D]? = some (.deferred (some [])) → Code.ret.wpIn Fence.wide 0 P Q { a with defers := { target := .collected D, args := #[] } :: a.defers } W) :
    (Code.rangeFunc g ps assign body).wpIn Fence.wide 0 P Q a w := by
  refine wpIn_rangeFunc ?_
  intro fn hfn
  -- the two blocks of book-keeping: D, the rounds' deferred calls; D + 1, the loop's record
  let rec_ : LoopState → Option Code → Obj := fun st pe => .loop { state := st, pending := pe, fn, tmps := a.tmps, params := ps, assign, body, defers := w.heap.size }
  generalize hD : w.heap.size = D at hn₀ hI hIx hround hdone hstop ⊢
  obtain ⟨W1, hW1⟩ : ∃ W1, (w.alloc (.deferred (some []))).alloc (rec_ .ready none) = W1 := ⟨_, rfl⟩
  have hL1 : W1.heap[D + 1]? = some (rec_ .ready none) := by
    have := World.alloc_heap_new (w.alloc (.deferred (some []))) (rec_ .ready none)
    rw [World.size_alloc, hD] at this
    rw [← hW1]; exact this
  have hK1 : W1.heap[D]? = some (.deferred (some [])) := by
    rw [← hW1]
    exact (Below.heap_alloc _ _ _ (by rw [World.size_alloc]; omega)).trans (hD ▸ World.alloc_heap_new w _)
  have hb1 : Below w.heap.size w W1 := by
    rw [← hW1]; exact ((Below.refl _ w).alloc (Nat.le_refl _) _).alloc (by simp) _
  have hI1 : I [] W1 := by rw [← hW1]; exact hI.alloc _ (hI.alloc _ h0)
  have hDW : D ≤ W1.heap.size := by rw [← hD]; exact hb1.size
  refine ⟨D + 1, [{ target := .collected D, args := #[] }], W1, { target := .fn (.func gf) lb, args := #[.func (.yield (D + 1)) #[] #[]] }, W1, gf, #[.func (.yield (D + 1)) #[] #[]] ++ lb, W1, ?_, ?_, ?_, ?_, ?_, ?_⟩
  · have := run_enterLoop_outer (P := P) (w := w) fn a.tmps ps assign body
    rw [hW1.symm, ← hD]; exact this
  · simp only [resolve, hg]; simp [go_sem]
  · intro f' _; trivial
  · simp [invoke, go_sem, eg]
  · intro h; cases h
  · refine (hit (D + 1)
      (fun pre W => I pre W ∧ W.heap[D + 1]? = some (rec_ .ready none) ∧ W.heap[D]? = some (.deferred (some [])))
      (fun pre W => Ix pre W ∧ W.heap[D + 1]? = some (rec_ .done (some .ret)) ∧ W.heap[D]? = some (.deferred (some [])))
      W1 hb1 ?_ ?_ ?_ ⟨hI1, hL1, hK1⟩).mono ?_
    · rintro s A B row ⟨h1, h2, h3⟩ hg' hr
      exact ⟨hI s A B row h1 hg' (fun r e => ⟨Nat.le_trans hDW (hr r e).1, (hr r e).2⟩),
        (hg'.block (D + 1) (Array.getElem?_eq_some_iff.1 h2).1 (fun e => by have := (hr _ e.symm).1; have := (Array.getElem?_eq_some_iff.1 hL1).1; omega)).trans h2,
        (hg'.block D (Array.getElem?_eq_some_iff.1 h3).1 (fun e => by have := (hr _ e.symm).1; have := (Array.getElem?_eq_some_iff.1 hL1).1; omega)).trans h3⟩
    · rintro s A B row ⟨h1, h2, h3⟩ hg' hr
      exact ⟨hIx s A B row h1 hg' (fun r e => ⟨Nat.le_trans hDW (hr r e).1, (hr r e).2⟩),
        (hg'.block (D + 1) (Array.getElem?_eq_some_iff.1 h2).1 (fun e => by have := (hr _ e.symm).1; have := (Array.getElem?_eq_some_iff.1 hL1).1; omega)).trans h2,
        (hg'.block D (Array.getElem?_eq_some_iff.1 h3).1 (fun e => by have := (hr _ e.symm).1; have := (Array.getElem?_eq_some_iff.1 hL1).1; omega)).trans h3⟩
    · rintro pre x W ⟨hi, hl, hk⟩ hgood
      have hlt : D + 1 < W.heap.size := (Array.getElem?_eq_some_iff.1 hl).1
      refine ⟨fn, _, assign, body, run_yield (P := P) (args := encs x) hl (hps x), roundIn_of_wpIn trivial (wpIn_mono (hround (D + 1) pre x W (by omega) ⟨_, hl⟩ hi hgood) ?_)⟩
      rintro e a₁ w₁ hp
      cases e with
      | normal =>
        obtain ⟨hkf, hsp, hbody⟩ := hp
        have hl1 := hkf.same _ _ (by omega) hl rfl
        have hk1 := hkf.same _ _ (Nat.le_refl _) hk rfl
        have hlt1 : D + 1 < w₁.heap.size := (Array.getElem?_eq_some_iff.1 hl1).1
        refine ⟨_, run_beginRound hl1 rfl, wpIn_mono (hbody _ (grownBy_putObj' _ _ _)) ?_⟩
        have hl2 : (w₁.putObj (D + 1) (rec_ .busy none)).heap[D + 1]? = some (rec_ .busy none) := World.putObj_heap_same hlt1
        have hk2 : (w₁.putObj (D + 1) (rec_ .busy none)).heap[D]? = some (.deferred (some [])) := (World.putObj_heap_other (by omega)).trans hk1
        have hs2 : Spares n₀ T W (w₁.putObj (D + 1) (rec_ .busy none)) := hsp.trans (Spares.putObj _ (Nat.le_trans hn₀ (by omega)) (by omega) hl1 rfl)
        rintro e2 a3 W3 hq
        cases e2 with
        | normal =>
          obtain ⟨hk3, hs3, hi3⟩ := hq
          have hl3 := hk3.same _ _ (by omega) hl2 rfl
          have hlt3 : D + 1 < W3.heap.size := (Array.getElem?_eq_some_iff.1 hl3).1
          exact ⟨_, _, run_endRound (P := P) none hl3, .inl ⟨rfl, ⟨hI.putObj _ hi3 (by omega) hl3 rfl, World.putObj_heap_same hlt3, (World.putObj_heap_other (by omega)).trans (hk3.same _ _ (Nat.le_refl _) hk2 rfl)⟩,
            (hs2.trans hs3).trans (Spares.putObj _ (Nat.le_trans hn₀ (by omega)) (by omega) hl3 rfl)⟩⟩
        | ret =>
          obtain ⟨hk3, hi3⟩ := hq
          have hl3 := hk3.same _ _ (by omega) hl2 rfl
          have hlt3 : D + 1 < W3.heap.size := (Array.getElem?_eq_some_iff.1 hl3).1
          exact ⟨_, _, run_endRound (P := P) (some .ret) hl3, .inr ⟨rfl, hIx.putObj _ hi3 (by omega) hl3 rfl, World.putObj_heap_same hlt3, (World.putObj_heap_other (by omega)).trans (hk3.same _ _ (Nat.le_refl _) hk2 rfl)⟩⟩
        | exit id => exact hq.elim
        | goto t => exact hq.elim
        | panic ch => exact hq.elim
        | outgrown => exact hq.elim
      | ret => exact hp.elim
      | exit id => exact hp.elim
      | goto t => exact hp.elim
      | panic ch => exact hp.elim
      | outgrown => exact hp.elim
    · rintro e W2 ⟨⟨v, rfl⟩, (⟨xs, hF, hi, hl, hk⟩ | ⟨pre, hG, hi, hl, hk⟩)⟩
      · exact ⟨none, _, run_endLoop (P := P) hl (by simp [rec_]), hdone D xs _ (Nat.le_refl _) hF (hI.putObj _ hi (by omega) hl rfl) ((World.putObj_heap_other (by omega)).trans hk)⟩
      · exact ⟨some .ret, _, run_endLoop (P := P) hl (by simp [rec_]), hstop D pre _ (Nat.le_refl _) hG (hIx.putObj _ hi (by omega) hl rfl) ((World.putObj_heap_other (by omega)).trans hk)⟩

end Go.Proofs.Ythogiakfbgehnaa

namespace Go.Proofs.Ythogiakfbgehnaa
open Go.RowKit

theorem slice_of_own {w : World} {base e size n : Nat} {v : Value} {xs : List Value} (h : w.ownsRow base e size v n xs) : ∃ a cap, v = .slice a n cap := by
  rcases h.2 with ⟨rfl, rfl⟩ | ⟨g, cap, _, rfl, _⟩
  · exact ⟨_, _, rfl⟩
  · exact ⟨_, _, rfl⟩

theorem strCells_eq (s : ByteArray) : Lib.strCells s = s.data.toList.map bv := rfl

/-- An append whose run is known. -/
theorem wpList_append_run {P : Program} {w : World} {ops : Array Oper} {rest : List Oper} {o : Oper} {a : Act} {Q : Exit → Act → World → Prop} (hg : o.guard = none) (s x : Operand) (t t2 : TypeId)
    (hop : o.op = Op.call { callee := Callee.builtin Builtin.append, args := #[s, x], argTypes := #[t, t2] }) (vs vx v' : Value) (w' : World) (hs : a.eval s = vs) (hx : a.eval x = vx)
    (hrun : (Builtin.append_ #[t, t2] o.type #[vs, vx]).run P w = .ok v' w') (h : wpList P ops Q rest (a.put o.dst v') w') : wpList P ops Q (o :: rest) a w := by
  refine wpList_plain hg fun K hK' => ?_
  unfold Oper.wp
  simp [execOp, hop, resolve, invoke, builtin, hs, hx, hrun, Result.andThen]
  exact hK' _ _ h

end Go.Proofs.Ythogiakfbgehnaa

namespace Go.Proofs.Ythogiakfbgehnaa
open Go.RowKit Go.Shelf

attribute [local go_sem] Oper.semAt_some

/-- A node with the value of its list. -/
structure Nx where
  nd : Nd
  sa : Option Addr
  sc : Nat
  a : Option Addr
  cap : Nat

def encs (x : Nx) : Array Value := #[.int .i64 (x.nd.d : Int), itemV x.nd.h x.sa x.sc x.a x.nd.len x.cap]

/-- What may have come; the spans of what came lie as they lay in w0. -/
def Good (w0 : World) (all : List Nd) (pre : List Nx) : Prop := (∃ r, pre.map (·.nd) ++ r = all) ∧ ∀ x ∈ pre, Sps w0 x.sa x.sc x.nd.h.set
def Full (all : List Nd) (pre : List Nx) : Prop := pre.map (·.nd) = all

/-- An append whose run is known, as a step of a region that draws its order. -/
theorem step_append_run {P : Program} {ops : Array Oper} {o : Oper} {a : Act} {w : World} {K : Act → World → Prop} {Q : Exit → Act → World → Prop} {E : Prop} (hgd : o.guard = none) (s x : Operand) (t t2 : TypeId)
    (hop : o.op = Op.call { callee := Callee.builtin Builtin.append, args := #[s, x], argTypes := #[t, t2] }) (vs vx v' : Value) (w' : World) (hs : a.eval s = vs) (hx : a.eval x = vx)
    (hrun : (Builtin.append_ #[t, t2] o.type #[vs, vx]).run P w = .ok v' w') (h : K (a.put o.dst v') w') :
    if Region.wanted o (yielded ops a.tmps) = true then Oper.wp P o a w K Q else E := by
  have hw : Region.wanted o (yielded ops a.tmps) = true := by simp [Region.wanted, hgd]
  rw [if_pos hw]
  unfold Oper.wp
  simp [execOp, hop, resolve, invoke, builtin, hs, hx, hrun, Result.andThen]
  exact h

theorem new_cell (W : World) (v : Value) (t : TypeId) : ∀ j u, [v][j]? = some u → (W.alloc (.cells #[v] t)).cell? ((⟨W.heap.size, 0, none⟩ : Addr).add j) = some u := by
  intro j u h
  have hj : j = 0 := by
    rcases j with _ | j
    · rfl
    · simp at h
  subst hj
  simp only [List.getElem?_cons_zero, Option.some.injEq] at h
  subst h
  have := World.alloc_heap_new W (.cells #[v] t)
  show World.cell? _ ⟨W.heap.size, 0, none⟩ = _
  unfold World.cell?
  rw [show ((⟨W.heap.size, 0, none⟩ : Addr).block) = W.heap.size from rfl, this]
  simp

end Go.Proofs.Ythogiakfbgehnaa

namespace Go.Proofs.Ythogiakfbgehnaa

/-- A way: what it makes, and what it needs. -/
structure Wy (α : Type) where
  n : α
  l : List α
/-- A way as it lies in memory: what it makes, what it still needs, and where that lies. -/
structure WyD (α : Type) where
  n : α
  l : List α
  a : Option Addr
  c : Nat
/-- This is what is left of a way that was taken: all ahead of it is made. -/
def Of {α : Type} (T : List (Wy α)) (M : α → Bool) (w : WyD α) : Prop := ∃ pre, (⟨w.n, pre ++ w.l⟩ : Wy α) ∈ T ∧ ∀ x ∈ pre, M x = true
theorem Of.mono {α : Type} {T V : List (Wy α)} {M N : α → Bool} {w : WyD α} (h : Of T M w) (h1 : ∀ t ∈ T, t ∈ V) (h2 : ∀ x, M x = true → N x = true) : Of V N w := by
  obtain ⟨pre, h3, h4⟩ := h
  exact ⟨pre, h1 _ h3, fun x hx => h2 x (h4 x hx)⟩
end Go.Proofs.Ythogiakfbgehnaa

namespace Go.Proofs.Ythogiakfbgehnaa

end Go.Proofs.Ythogiakfbgehnaa

namespace Go.Proofs.Ythogiakfbgehnaa

/-- The place of the rule that a number names. -/
def ruL (x : Int) : Nat := (-1 - x).toNat
end Go.Proofs.Ythogiakfbgehnaa

namespace Go.Proofs.Ythogiakfbgehnaa
/-- Of a tree: symbol, alternative, place. -/
structure TrH where
  k : Int
  i : Int
  a : Int
/-- Trees in a row, each with what is in it. -/
inductive TrF where
  | nil
  | cons (h : TrH) (kids rest : TrF)
def TrF.app : TrF → TrF → TrF
  | .nil, g => g
  | .cons h kids rest, g => .cons h kids (rest.app g)
theorem TrF.app_nil : ∀ (f : TrF), f.app .nil = f
  | .nil => rfl
  | .cons h kids rest => by unfold TrF.app; rw [TrF.app_nil rest]
theorem TrF.app_assoc : ∀ (f g h : TrF), (f.app g).app h = f.app (g.app h)
  | .nil, _, _ => rfl
  | .cons x kids rest, g, h => by
    show TrF.cons x kids ((rest.app g).app h) = TrF.cons x kids (rest.app (g.app h))
    rw [TrF.app_assoc rest g h]
/-- A tree. -/
structure Tre where
  k : Int
  i : Int
  a : Int
  l : TrF
def Tre.con (x : Tre) (f : TrF) : TrF := .cons ⟨x.k, x.i, x.a⟩ x.l f
/-- Refused at a place, or something, the place behind it, and how many nodes may still be put. -/
inductive PsR (α : Type) where
  | bad (at_ : Nat) (e : Int)
  | ok (x : α) (at_ left : Nat)
def PsR.bind {α β : Type} (r : PsR α) (f : α → Nat → Nat → PsR β) : PsR β :=
  match r with
  | .bad a e => .bad a e
  | .ok x a n => f x a n
end Go.Proofs.Ythogiakfbgehnaa

namespace Go.Proofs.Ythogiakfbgehnaa

end Go.Proofs.Ythogiakfbgehnaa

namespace Go.Proofs.Ythogiakfbgehnaa
open Go.RowKit

/-- A row of values of one cell. -/
structure Vs (w : World) (a : Option Addr) (cap : Nat) (l : List Value) : Prop where
  le : l.length ≤ cap
  max : cap ≤ 9223372036854775807
  nil_ : a = none → cap = 0
  at_ : ∀ i, i < l.length → ∃ b off, a = some ⟨b, off, none⟩
  cell : ∀ b off, a = some ⟨b, off, none⟩ → ∀ i, (h : i < l.length) → w.cell? ⟨b, off + i, none⟩ = some l[i]
theorem cell_up {w w' : World} (hb : Below w.heap.size w w') {b off : Nat} {v : Value} (h : w.cell? ⟨b, off, none⟩ = some v) : w'.cell? ⟨b, off, none⟩ = some v := (hb.cell (p := ⟨b, off, none⟩) (World.block_lt_of_cell? w _ h)).trans h
theorem Vs.grown {w w' : World} {a : Option Addr} {cap : Nat} {l : List Value} (h : Vs w a cap l) (hb : Below w.heap.size w w') : Vs w' a cap l :=
  ⟨h.le, h.max, h.nil_, h.at_, fun b off e i hi => cell_up hb (h.cell b off e i hi)⟩
theorem Vs.nil (w : World) : Vs w none 0 [] := ⟨by simp, by omega, fun _ => rfl, fun i h => by simp at h, fun b off e => by cases e⟩
/-- A list of names. -/
abbrev Nms (w : World) (a : Option Addr) (cap : Nat) (l : List ByteArray) : Prop := Vs w a cap (l.map Value.string)
/-- An alternative: its names, and where they lie. -/
structure AltD where
  l : List ByteArray
  a : Option Addr
  c : Nat
abbrev AltD.v (d : AltD) : Value := .slice d.a d.l.length d.c
/-- A rule, without where it lies. -/
abbrev Rl := ByteArray × List (List ByteArray)
end Go.Proofs.Ythogiakfbgehnaa

namespace Go.Proofs.Ythogiakfbgehnaa
open Go.RowKit Go.Maps Go.WideMaps

end Go.Proofs.Ythogiakfbgehnaa

namespace Go.Proofs.Ythogiakfbgehnaa
open Go.RowKit Go.Maps

end Go.Proofs.Ythogiakfbgehnaa

namespace Go.Proofs.Ythogiakfbgehnaa
open Go.RowKit

section
variable {w w' : World} {base e size n cap : Nat} {v : Value} {a : Option Addr} {xs : List Value}
theorem own_typ (h : w.ownsRow base e size (.slice a n cap) n xs) : ∀ g, (Value.slice a n cap).ownBlock = some g → base ≤ g ∧ ∃ cur, w.heap[g]? = some (.cells cur e (0, 0)) := by
  intro g hg
  rcases h.2 with ⟨e, _⟩ | ⟨g', cap', cur, e, hb, hk, _⟩
  · rw [e] at hg; cases hg
  · rw [e] at hg
    simp only [Value.ownBlock, Option.some.injEq] at hg
    subst hg
    exact ⟨hb, cur, hk⟩
end
end Go.Proofs.Ythogiakfbgehnaa

namespace Go.Proofs.Ythogiakfbgehnaa
open Go.RowKit Go.Maps Go.WideMaps

theorem belowAt {B : Nat} {a b : World} {r : Option Nat} (h : a.grownBy b r) (hr : ∀ i, r = some i → B ≤ i) (hB : B ≤ a.heap.size) : Below B a b :=
  ⟨h.os, h.tape, h.output, h.size, fun k hk => h.block k (Nat.lt_of_lt_of_le hk hB) (fun e => by have := hr k e.symm; omega)⟩
end Go.Proofs.Ythogiakfbgehnaa

namespace Go.Proofs.Ythogiakfbgehnaa
open Go.RowKit Go.Maps

attribute [local go_sem] Oper.semAt_some

end Go.Proofs.Ythogiakfbgehnaa

namespace Go.Proofs.Ythogiakfbgehnaa
open Go.RowKit Go.Maps

attribute [local go_sem] Oper.semAt_some

end Go.Proofs.Ythogiakfbgehnaa

namespace Go.Proofs.Ythogiakfbgehnaa
open Go.RowKit

end Go.Proofs.Ythogiakfbgehnaa

namespace Go.Proofs.Ythogiakfbgehnaa
open Go.RowKit Go.Shelf

attribute [local go_sem] Oper.semAt_some

end Go.Proofs.Ythogiakfbgehnaa

namespace Go.Proofs.Ythogiakfbgehnaa
open Go.RowKit Go.Shelf

attribute [local go_sem] Oper.semAt_some

end Go.Proofs.Ythogiakfbgehnaa

namespace Go.Proofs
open Go.Shelf
end Go.Proofs

namespace Go.Proofs.Ythogiakfbgehnaa
open Go.RowKit Go.Shelf

attribute [local go_sem] Oper.semAt_some

end Go.Proofs.Ythogiakfbgehnaa

namespace Go.Proofs.Ythogiakfbgehnaa
open Go.RowKit Go.Shelf

attribute [local go_sem] Oper.semAt_some

end Go.Proofs.Ythogiakfbgehnaa

namespace Go.Proofs.Ythogiakfbgehnaa
open Go.RowKit Go.Shelf

attribute [local go_sem] Oper.semAt_some

end Go.Proofs.Ythogiakfbgehnaa

namespace Go.Proofs.Ythogiakfbgehnaa
open Go.RowKit Go.Shelf

end Go.Proofs.Ythogiakfbgehnaa

namespace Go.Proofs.Ythogiakfbgehnaa
open Go.RowKit Go.Shelf

attribute [local go_sem] Oper.semAt_some

end Go.Proofs.Ythogiakfbgehnaa

namespace Go.Proofs.Ythogiakfbgehnaa
open Go.RowKit Go.Shelf

attribute [local go_sem] Oper.semAt_some

end Go.Proofs.Ythogiakfbgehnaa

namespace Go.Proofs.Ythogiakfbgehnaa
open Go.RowKit Go.Shelf

end Go.Proofs.Ythogiakfbgehnaa

namespace Go.Proofs.Ythogiakfbgehnaa
open Go.RowKit Go.Shelf

attribute [local go_sem] Oper.semAt_some

end Go.Proofs.Ythogiakfbgehnaa

namespace Go.Proofs.Ythogiakfbgehnaa
end Go.Proofs.Ythogiakfbgehnaa

namespace Go.Proofs.Ythogiakfbgehnaa
open Go.RowKit Go.Shelf

attribute [local go_sem] Oper.semAt_some

end Go.Proofs.Ythogiakfbgehnaa

namespace Go.Proofs.Ythogiakfbgehnaa
open Go.RowKit Go.Shelf

attribute [local go_sem] Oper.semAt_some

end Go.Proofs.Ythogiakfbgehnaa

namespace Go.Proofs.Ythogiakfbgehnaa
open Go.RowKit Go.Shelf

attribute [local go_sem] Oper.semAt_some

end Go.Proofs.Ythogiakfbgehnaa

namespace Go.Proofs.Ythogiakfbgehnaa
open Go.RowKit Go.Shelf

attribute [local go_sem] Oper.semAt_some

end Go.Proofs.Ythogiakfbgehnaa

namespace Go.Proofs.Ythogiakfbgehnaa
end Go.Proofs.Ythogiakfbgehnaa

namespace Go.Proofs.Ythogiakfbgehnaa
open Go.RowKit Go.Shelf

attribute [local go_sem] Oper.semAt_some

end Go.Proofs.Ythogiakfbgehnaa

namespace Go.Proofs.Ythogiakfbgehnaa
open Go.RowKit Go.Shelf

attribute [local go_sem] Oper.semAt_some

end Go.Proofs.Ythogiakfbgehnaa

namespace Go.Proofs.Ythogiakfbgehnaa
open Go.RowKit Go.Shelf

attribute [local go_sem] Oper.semAt_some

end Go.Proofs.Ythogiakfbgehnaa

namespace Go.Proofs.Ythogiakfbgehnaa
open Go.RowKit

attribute [local go_sem] Oper.semAt_some

/-- Whether a name is among some. -/
def mem (s : ByteArray) (l : List ByteArray) : Bool := l.any (fun t => decide (t = s))
end Go.Proofs.Ythogiakfbgehnaa

namespace Go.Proofs.Ythogiakfbgehnaa
open Go.RowKit

attribute [local go_sem] Oper.semAt_some

end Go.Proofs.Ythogiakfbgehnaa

namespace Go.Proofs.Ythogiakfbgehnaa
open Go.RowKit

attribute [local go_sem] Oper.semAt_some

end Go.Proofs.Ythogiakfbgehnaa

namespace Go.Proofs.Ythogiakfbgehnaa
open Go.RowKit Go.Shelf

attribute [local go_sem] Oper.semAt_some

end Go.Proofs.Ythogiakfbgehnaa

namespace Go.Proofs.Ythogiakfbgehnaa
open Go.RowKit

end Go.Proofs.Ythogiakfbgehnaa

namespace Go.Proofs.Ythogiakfbgehnaa
open Go.RowKit Go.Shelf

attribute [local go_sem] Oper.semAt_some

end Go.Proofs.Ythogiakfbgehnaa

namespace Go.Proofs.Ythogiakfbgehnaa
open Go.RowKit

end Go.Proofs.Ythogiakfbgehnaa

namespace Go.Proofs.Ythogiakfbgehnaa
open Go.RowKit Go.Shelf

attribute [local go_sem] Oper.semAt_some

end Go.Proofs.Ythogiakfbgehnaa

namespace Go.Proofs.Ythogiakfbgehnaa
open Go.RowKit

theorem Vs.take {w : World} {a : Option Addr} {cap : Nat} {l : List Value} (h : Vs w a cap l) (k : Nat) : Vs w a cap (l.take k) :=
  ⟨by have := h.le; simp; omega, h.max, h.nil_, fun i hi => h.at_ i (by simp at hi; omega), fun b off e i hi => by
    rw [h.cell b off e i (by simp at hi; omega), List.getElem_take]⟩
theorem Nms.take {w : World} {a : Option Addr} {cap : Nat} {l : List ByteArray} (h : Nms w a cap l) (k : Nat) : Nms w a cap (l.take k) := by
  have := Vs.take h k
  rw [← List.map_take] at this
  exact this
end Go.Proofs.Ythogiakfbgehnaa

namespace Go.Proofs.Ythogiakfbgehnaa
open Go.RowKit Go.Shelf

attribute [local go_sem] Oper.semAt_some

end Go.Proofs.Ythogiakfbgehnaa

namespace Go.Proofs.Ythogiakfbgehnaa
open Go.RowKit Go.Shelf

attribute [local go_sem] Oper.semAt_some

end Go.Proofs.Ythogiakfbgehnaa

namespace Go.Proofs.Ythogiakfbgehnaa
open Go.RowKit

/-- A sentence comes from this name. -/
inductive Fert (rs : List Rl) (ts : List ByteArray) : ByteArray → Prop
  | tok {s : ByteArray} : s ∈ ts → Fert rs ts s
  | rule {r : Rl} {a : List ByteArray} : r ∈ rs → a ∈ r.2 → (∀ n ∈ a, Fert rs ts n) → Fert rs ts r.1
/-- What comes to be known: tokens, and names of rules, each of these once. -/
def Grow (rs : List Rl) (ts o : List ByteArray) : Prop := ∃ t, o = ts ++ t ∧ t.Nodup ∧ (∀ x ∈ t, x ∈ rs.map Prod.fst) ∧ ∀ x ∈ o, Fert rs ts x
end Go.Proofs.Ythogiakfbgehnaa

namespace Go.Proofs.Ythogiakfbgehnaa
open Go.RowKit

end Go.Proofs.Ythogiakfbgehnaa

namespace Go.Proofs.Ythogiakfbgehnaa
open Go.RowKit Go.Maps Go.WideMaps

end Go.Proofs.Ythogiakfbgehnaa

namespace Go.Proofs.Ythogiakfbgehnaa
open Go.RowKit Go.Maps Go.WideMaps

end Go.Proofs.Ythogiakfbgehnaa

namespace Go.Proofs.Ythogiakfbgehnaa
open Go.RowKit Go.Maps

attribute [local go_sem] Oper.semAt_some

theorem iatLS {α : Type} {l : List α} {i : Nat} {x : α} (h : l[i]? = some x) : l.toArray[i]? = some x := by simpa using h
theorem iatZS {α : Type} {a : α} {l : List α} : (a :: l)[0]? = some a := rfl
theorem iatSS {α : Type} {a : α} {l : List α} {i : Nat} {x : α} (h : l[i]? = some x) : (a :: l)[i + 1]? = some x := by simpa using h

end Go.Proofs.Ythogiakfbgehnaa

namespace Go.Proofs.Ythogiakfbgehnaa
open Go.RowKit Go.Maps

attribute [local go_sem] Oper.semAt_some

/-- A way, without where it lies. -/
def WyD.p {α : Type} (y : WyD α) : Wy α := ⟨y.n, y.l⟩
end Go.Proofs.Ythogiakfbgehnaa

namespace Go.Proofs.Ythogiakfbgehnaa
open Go.RowKit Go.Shelf

attribute [local go_sem] Oper.semAt_some

end Go.Proofs.Ythogiakfbgehnaa

namespace Go.Proofs.Ythogiakfbgehnaa
open Go.RowKit Go.Maps

attribute [local go_sem] Oper.semAt_some

end Go.Proofs.Ythogiakfbgehnaa

namespace Go.Proofs.Ythogiakfbgehnaa
open Go.RowKit Go.Maps

attribute [local go_sem] Oper.semAt_some

end Go.Proofs.Ythogiakfbgehnaa

namespace Go.Proofs.Ythogiakfbgehnaa
open Go.RowKit Go.Maps

attribute [local go_sem] Oper.semAt_some

end Go.Proofs.Ythogiakfbgehnaa

namespace Go.Proofs.Ythogiakfbgehnaa
open Go.RowKit Go.Maps Go.WideMaps

end Go.Proofs.Ythogiakfbgehnaa

namespace Go.Proofs.Ythogiakfbgehnaa
open Go.RowKit Go.Maps Go.WideMaps

end Go.Proofs.Ythogiakfbgehnaa

namespace Go.Proofs.Ythogiakfbgehnaa
open Go.RowKit Go.Maps

end Go.Proofs.Ythogiakfbgehnaa

namespace Go.Proofs.Ythogiakfbgehnaa
open Go.RowKit Go.Maps

attribute [local go_sem] Oper.semAt_some

end Go.Proofs.Ythogiakfbgehnaa

namespace Go.Proofs.Ythogiakfbgehnaa
open Go.RowKit Go.Maps

attribute [local go_sem] Oper.semAt_some

end Go.Proofs.Ythogiakfbgehnaa

namespace Go.Proofs.Ythogiakfbgehnaa
open Go.RowKit Go.Maps

end Go.Proofs.Ythogiakfbgehnaa

namespace Go.Proofs.Ythogiakfbgehnaa
open Go.RowKit Go.Maps

attribute [local go_sem] Oper.semAt_some

theorem run_storeF {P : Program} (w : World) (a : Addr) (m : Mode) (f : Fn) (x y : Array Value) : (store a (.func f x y) m).run P w = stored P w a (.func f x y) m := run_store P w a _ m rfl
attribute [local go_sem] run_storeF
end Go.Proofs.Ythogiakfbgehnaa

namespace Go.Proofs.Ythogiakfbgehnaa
open Go.RowKit

/-- An alternative by numbers: its numbers, and where they lie. -/
structure IltD where
  l : List Int
  a : Option Addr
  c : Nat
abbrev IltD.v (d : IltD) : Value := .slice d.a d.l.length d.c
abbrev Ints (w : World) (a : Option Addr) (cap : Nat) (l : List Int) : Prop := Vs w a cap (l.map (Value.int .i64))
structure AltsI (w : World) (a : Option Addr) (cap : Nat) (ds : List IltD) : Prop where
  row : Vs w a cap (ds.map IltD.v)
  nms : ∀ d ∈ ds, Ints w d.a d.c d.l
theorem AltsI.grown {w w' : World} {a : Option Addr} {cap : Nat} {l : List IltD} (h : AltsI w a cap l) (hb : Below w.heap.size w w') : AltsI w' a cap l := ⟨h.row.grown hb, fun d hd => (h.nms d hd).grown hb⟩
theorem own_vals {W : World} {base n cap : Nat} {e : TypeId} {a : Option Addr} {l : List Value} (h : W.ownsRow base e 1 (.slice a n cap) n l) (hn : n = l.length) : Vs W a cap l := by
  subst hn
  rcases h.2 with ⟨e1, e2⟩ | ⟨g, cap', cur, e1, hb, hg, hle, hm, hs, ht⟩
  · have : l = [] := List.length_eq_zero_iff.1 e2
    subst this
    simp only [Value.slice.injEq] at e1
    obtain ⟨rfl, -, rfl⟩ := e1
    exact Vs.nil W
  · simp only [Value.slice.injEq] at e1
    obtain ⟨rfl, -, rfl⟩ := e1
    refine ⟨hle, by unfold maxLen at hm; omega, fun e => (by cases e), fun i _ => ⟨g, 0, rfl⟩, fun b off e i hi => ?_⟩
    cases e
    rw [Nat.zero_add, h.cellAt i (by omega), List.getElem?_eq_getElem hi]
end Go.Proofs.Ythogiakfbgehnaa

namespace Go.Proofs.Ythogiakfbgehnaa
open Go.RowKit

attribute [local go_sem] Oper.semAt_some

end Go.Proofs.Ythogiakfbgehnaa

namespace Go.Proofs.Ythogiakfbgehnaa
open Go.RowKit

attribute [local go_sem] Oper.semAt_some

end Go.Proofs.Ythogiakfbgehnaa

namespace Go.Proofs.Ythogiakfbgehnaa
open Go.RowKit Go.Maps

attribute [local go_sem] Oper.semAt_some

end Go.Proofs.Ythogiakfbgehnaa

namespace Go.Proofs.Ythogiakfbgehnaa
open Go.RowKit Go.Maps Go.WideMaps

attribute [local go_sem] Oper.semAt_some

end Go.Proofs.Ythogiakfbgehnaa

namespace Go.Proofs.Ythogiakfbgehnaa
open Go.RowKit

attribute [local go_sem] Oper.semAt_some

end Go.Proofs.Ythogiakfbgehnaa

namespace Go.Proofs.Ythogiakfbgehnaa
open Go.RowKit Go.Maps

attribute [local go_sem] Oper.semAt_some

/-- A grammar by numbers, plainly. -/
structure CfP where
  toks : List ByteArray
  names : List ByteArray
  alts : List (List (List Int))
deriving DecidableEq
/-- A rule's alternatives by numbers, and where they lie. -/
structure IrD where
  ds : List IltD
  a : Option Addr
  c : Nat
abbrev IrD.v (r : IrD) : Value := .slice r.a r.ds.length r.c
def IrD.p (r : IrD) : List (List Int) := r.ds.map (fun d => d.l)
/-- A grammar by numbers, and where it lies. -/
structure CfD where
  toks : List ByteArray
  ta : Option Addr
  tc : Nat
  names : List ByteArray
  na : Option Addr
  nc : Nat
  alts : List IrD
  aa : Option Addr
  ac : Nat
def CfD.p (d : CfD) : CfP := ⟨d.toks, d.names, d.alts.map IrD.p⟩
abbrev CfD.v (d : CfD) : Value := .agg #[.slice d.ta d.toks.length d.tc, .slice d.na d.names.length d.nc, .slice d.aa d.alts.length d.ac]
structure CfAt (W : World) (d : CfD) : Prop where
  toks : Nms W d.ta d.tc d.toks
  names : Nms W d.na d.nc d.names
  alts : Vs W d.aa d.ac (d.alts.map IrD.v)
  rules : ∀ r ∈ d.alts, AltsI W r.a r.c r.ds
theorem CfAt.grown {W W' : World} {d : CfD} (h : CfAt W d) (hb : Below W.heap.size W W') : CfAt W' d := ⟨h.toks.grown hb, h.names.grown hb, h.alts.grown hb, fun r hr => (h.rules r hr).grown hb⟩
end Go.Proofs.Ythogiakfbgehnaa

