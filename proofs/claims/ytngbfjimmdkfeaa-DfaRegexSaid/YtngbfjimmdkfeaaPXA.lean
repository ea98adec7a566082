/- Texts joined: Bytes Mem Item Drop Range Append Shelf Only. -/
import Derived.WalkKit
import Derived.WalkSmall
import Derived.Lib.Hide
import Derived.RangeFuncBox
import Derived.RangeFuncNested
import Derived.RangeFuncBound
import Derived.RangeFuncCalls
import Derived.RangeFuncLeaves
import Derived.Shelf.Abstract
import Derived.Test.YtngbfjimmdkfeaaRows
import Derived.OwnWalk
import Derived.Laws.CopyOwn
import Derived.Deep.QuietTactic
import Derived.BigQuiet
import Derived.StillTailTactics
import Derived.Deep.RegionWith
import Derived.Lib.AppendStr
import Derived.Shelf.Small.Strs
import Derived.Shelf.Strings.Search1
import Derived.Test.YtngbfjimmdkfeaaProg
set_option linter.unusedVariables false
set_option linter.unusedSimpArgs false
namespace Go.Proofs.Ytngbfjimmdkfeaa
open Go.RowKit

/-- A byte as the model's value. -/
abbrev bv (c : UInt8) : Value := .int .u8 (c.toNat : Int)

/-- The slice with this address and capacity reads as xs (its length is xs.length). -/
structure Bytes (w : World) (a : Option Addr) (cap : Nat) (xs : List UInt8) : Prop where
  le : xs.length ≤ cap
  max : cap ≤ 9223372036854775807
  at_ : ∀ i, i < xs.length → ∃ b off, a = some ⟨b, off, none⟩
  cell : ∀ b off, a = some ⟨b, off, none⟩ → ∀ i, (h : i < xs.length) → w.cell? ⟨b, off + i, none⟩ = some (bv xs[i])
  nil_ : a = none → cap = 0

theorem Bytes.len {w : World} {a : Option Addr} {cap : Nat} {xs : List UInt8} (h : Bytes w a cap xs) : xs.length ≤ 9223372036854775807 := Nat.le_trans h.le h.max

theorem Bytes.nil (w : World) : Bytes w none 0 [] := ⟨by simp, by omega, fun i h => by simp at h, fun b off h => (by cases h), fun _ => rfl⟩

theorem Bytes.below {w w' : World} {B : Nat} {a : Option Addr} {cap : Nat} {xs : List UInt8} (h : Bytes w a cap xs) (hb : Below B w w') (ha : ∀ b off, a = some ⟨b, off, none⟩ → b < B) : Bytes w' a cap xs :=
  ⟨h.le, h.max, h.at_, fun b off e i hi => (hb.cell (p := ⟨b, off + i, none⟩) (ha b off e)).trans (h.cell b off e i hi), h.nil_⟩

/-- Whatever reads in w reads in every world that has w's blocks as they were. -/
theorem Bytes.grown {w w' : World} {a : Option Addr} {cap : Nat} {xs : List UInt8} (h : Bytes w a cap xs) (hb : Below w.heap.size w w') : Bytes w' a cap xs :=
  ⟨h.le, h.max, h.at_, fun b off e i hi => by
    have hc := h.cell b off e i hi
    have hlt := World.block_lt_of_cell? w _ hc
    exact (hb.cell (p := ⟨b, off + i, none⟩) hlt).trans hc, h.nil_⟩

/-- An owned row of bytes reads. -/
theorem Bytes.own {w : World} {base e : Nat} {xs : List UInt8} {a : Option Addr} {n cap : Nat} (h : w.ownsRow base e 1 (.slice a n cap) n (xs.map bv)) : Bytes w a cap xs ∧ n = xs.length := by
  have hn : n = xs.length := by have := h.1; simpa using this.symm
  subst hn
  rcases h.2 with ⟨e1, e2⟩ | ⟨g, cap', cur, e1, hb, hg, hle, hm, hs, ht⟩
  · have : xs = [] := List.length_eq_zero_iff.1 e2
    subst this
    simp only [Value.slice.injEq] at e1
    obtain ⟨rfl, -, rfl⟩ := e1
    exact ⟨Bytes.nil w, rfl⟩
  · simp only [Value.slice.injEq] at e1
    obtain ⟨rfl, -, rfl⟩ := e1
    refine ⟨⟨hle, by unfold maxLen at hm; omega, fun i _ => ⟨g, 0, rfl⟩, ?_, fun e => by cases e⟩, rfl⟩
    intro b off e i hi
    cases e
    have := h.cellAt i (by omega)
    rw [Nat.zero_add, this]
    simp [hi]

end Go.Proofs.Ytngbfjimmdkfeaa

namespace Go.Proofs.Ytngbfjimmdkfeaa
open Go.RowKit

/-- Block b holds just these cells, none frozen. -/
def Blk (w : World) (b : Nat) (e : TypeId) (cs : List Value) : Prop := w.heap[b]? = some (.cells cs.toArray e (0, 0))

section
variable {w w' : World} {b e : Nat} {cs : List Value}
theorem Blk.lt (h : Blk w b e cs) : b < w.heap.size := (Array.getElem?_eq_some_iff.1 h).1
theorem Blk.cell (h : Blk w b e cs) (j : Nat) : w.cell? ⟨b, j, none⟩ = cs[j]? := by
  simp [World.cell?, show w.heap[b]? = _ from h]
theorem Blk.frozen (h : Blk w b e cs) (j : Nat) : w.frozen? ⟨b, j, none⟩ = false := by
  simp [World.frozen?, show w.heap[b]? = _ from h]
theorem Blk.kept {row : Option Nat} (h : Blk w b e cs) (hg : w.grownBy w' row) (hne : some b ≠ row) : Blk w' b e cs := (hg.block b h.lt hne).trans h
theorem Blk.below {B : Nat} (h : Blk w b e cs) (hb : Below B w w') (hlt : b < B) : Blk w' b e cs := (hb.block b hlt).trans h
theorem Blk.alloc (h : Blk w b e cs) (o : Obj) : Blk (w.alloc o) b e cs := h.kept (World.grownBy_alloc w o none) (by simp)
theorem Blk.new (w : World) (e : TypeId) (cs : Array Value) : Blk (w.alloc (.cells cs e)) w.heap.size e cs.toList := by
  have := World.alloc_heap_new w (.cells cs e)
  simpa [Blk] using this
theorem Blk.set (h : Blk w b e cs) (j : Nat) (v : Value) : Blk (w.setCell ⟨b, j, none⟩ v) b e (cs.set j v) := by
  obtain ⟨hlt, hk⟩ := Array.getElem?_eq_some_iff.1 h
  show (w.heap.modify b _)[b]? = _
  rw [Array.getElem?_eq_getElem (by rw [Array.size_modify]; exact hlt), Array.getElem_modify_self, hk]
  simp
theorem Blk.setOther {b' j : Nat} (h : Blk w b e cs) (hne : b ≠ b') (v : Value) : Blk (w.setCell ⟨b', j, none⟩ v) b e cs := by
  show (w.setCell ⟨b', j, none⟩ v).heap[b]? = _
  rw [Below.heap_setCell _ _ _ _ (by simpa using hne)]; exact h
end

theorem grownBy_set (w : World) (b j : Nat) (v : Value) : w.grownBy (w.setCell ⟨b, j, none⟩ v) (some b) :=
  ⟨rfl, rfl, rfl, (KeepsWalks.setCell w _ v).size, fun k _ hk => Below.heap_setCell _ _ _ k (fun e => hk (by rw [e]))⟩

/-- Two steps: the second may write the row of the first, or what the first has laid. -/
theorem grownBy_trans {a b c : World} {r s : Option Nat} (h : a.grownBy b r) (k : b.grownBy c s) (hs : ∀ i, s = some i → r = some i ∨ a.heap.size ≤ i) : a.grownBy c r :=
  ⟨k.os.trans h.os, k.tape.trans h.tape, k.output.trans h.output, Nat.le_trans h.size k.size, fun i hi hr =>
    (k.block i (Nat.lt_of_lt_of_le hi h.size) (fun e => by rcases hs i e.symm with h1 | h1; exact hr h1.symm; omega)).trans (h.block i hi hr)⟩

theorem below_grownBy {a b : World} (h : Below a.heap.size a b) (r : Option Nat) : a.grownBy b r := ⟨h.os, h.tape, h.output, h.size, fun k hk _ => h.block k hk⟩

theorem grownBy_drew (w : World) (r : Option Nat) : w.grownBy w.drew r := ⟨rfl, rfl, rfl, Nat.le_refl _, fun _ _ _ => rfl⟩

/-- What stands in a row when its cells from off on are overwritten. -/
def over (cs : List Value) (off : Nat) (new : List Value) : List Value := cs.take off ++ new ++ cs.drop (off + new.length)
end Go.Proofs.Ytngbfjimmdkfeaa

namespace Go.Proofs.Ytngbfjimmdkfeaa
open Go.RowKit

/-- A span. -/
structure Sp where
  lo : UInt8
  hi : UInt8
deriving DecidableEq

/-- A slice of spans reads as these. -/
structure Sps (w : World) (a : Option Addr) (cap : Nat) (l : List Sp) : Prop where
  le : l.length ≤ cap
  max : cap ≤ 9223372036854775807
  nil_ : a = none → cap = 0
  at_ : ∀ i, i < l.length → ∃ b off, a = some ⟨b, off, none⟩
  cell : ∀ b off, a = some ⟨b, off, none⟩ → ∀ i, (h : i < l.length) → w.cell? ⟨b, off + i * 2, none⟩ = some (.int .u8 (l[i].lo.toNat : Int)) ∧ w.cell? ⟨b, off + i * 2 + 1, none⟩ = some (.int .u8 (l[i].hi.toNat : Int))

theorem Sps.grown {w w' : World} {a : Option Addr} {cap : Nat} {l : List Sp} (h : Sps w a cap l) (hb : Below w.heap.size w w') : Sps w' a cap l := by
  have hc : ∀ b off v, w.cell? ⟨b, off, none⟩ = some v → w'.cell? ⟨b, off, none⟩ = some v := fun b off v h => (hb.cell (p := ⟨b, off, none⟩) (World.block_lt_of_cell? w _ h)).trans h
  exact ⟨h.le, h.max, h.nil_, h.at_, fun b off e i hi => ⟨hc _ _ _ (h.cell b off e i hi).1, hc _ _ _ (h.cell b off e i hi).2⟩⟩
theorem Sps.nil (w : World) : Sps w none 0 [] := ⟨by simp, by omega, fun _ => rfl, fun i h => by simp at h, fun b off e => by cases e⟩

/-- What an expression holds itself. -/
structure Hd where
  k : Int
  set : List Sp

/-- A list of expressions, each with its own list. -/
inductive Fo where
  | nil
  | cons (h : Hd) (kids rest : Fo)

def Fo.len : Fo → Nat
  | .nil => 0
  | .cons _ _ rest => rest.len + 1

/-- How many expressions there are in all. -/
def Fo.size : Fo → Nat
  | .nil => 0
  | .cons _ kids rest => kids.size + rest.size + 1

theorem Fo.len_le (f : Fo) : f.len ≤ f.size := by induction f <;> simp [Fo.len, Fo.size]; omega

/-- The cells from an address on read as these expressions. -/
def Elems (w : World) : Fo → Nat → Nat → Prop
  | .nil, _, _ => True
  | .cons h kids rest, b, off =>
    w.cell? ⟨b, off, none⟩ = some (.int .i64 h.k) ∧ (∃ sa sc, w.cell? ⟨b, off + 1, none⟩ = some (.slice sa h.set.length sc) ∧ Sps w sa sc h.set) ∧
    (∃ a cap, w.cell? ⟨b, off + 2, none⟩ = some (.slice a kids.len cap) ∧ kids.len ≤ cap ∧ cap ≤ 9223372036854775807 ∧ (a = none → cap = 0) ∧ (0 < kids.len → ∃ b' off', a = some ⟨b', off', none⟩ ∧ Elems w kids b' off')) ∧
    Elems w rest b (off + 3)

/-- A slice of expressions. -/
structure Items (w : World) (a : Option Addr) (cap : Nat) (f : Fo) : Prop where
  le : f.len ≤ cap
  max : cap ≤ 9223372036854775807
  nil_ : a = none → cap = 0
  at_ : 0 < f.len → ∃ b off, a = some ⟨b, off, none⟩ ∧ Elems w f b off

theorem Elems.grown {w w' : World} (hb : Below w.heap.size w w') : ∀ (f : Fo) (b off : Nat), Elems w f b off → Elems w' f b off := by
  have hc : ∀ b off v, w.cell? ⟨b, off, none⟩ = some v → w'.cell? ⟨b, off, none⟩ = some v := fun b off v h => (hb.cell (p := ⟨b, off, none⟩) (World.block_lt_of_cell? w _ h)).trans h
  intro f
  induction f with
  | nil => intro b off _; trivial
  | cons h kids rest ihk ihr =>
    rintro b off ⟨h1, ⟨sa, sc, h2, h3⟩, ⟨a, cap, h4, h5, h6, h7, h8⟩, h9⟩
    exact ⟨hc _ _ _ h1, ⟨sa, sc, hc _ _ _ h2, h3.grown hb⟩, ⟨a, cap, hc _ _ _ h4, h5, h6, h7, fun hn => by obtain ⟨b', o', e, hk⟩ := h8 hn; exact ⟨b', o', e, ihk _ _ hk⟩⟩, ihr _ _ h9⟩

theorem Items.grown {w w' : World} {a : Option Addr} {cap : Nat} {f : Fo} (h : Items w a cap f) (hb : Below w.heap.size w w') : Items w' a cap f :=
  ⟨h.le, h.max, h.nil_, fun hn => by obtain ⟨b, o, e, hk⟩ := h.at_ hn; exact ⟨b, o, e, Elems.grown hb f b o hk⟩⟩

theorem Items.nil (w : World) : Items w none 0 .nil := ⟨by simp [Fo.len], by omega, fun _ => rfl, fun h => by simp [Fo.len] at h⟩

/-- An expression as a value. -/
abbrev itemV (h : Hd) (sa : Option Addr) (sc : Nat) (a : Option Addr) (len cap : Nat) : Value := .agg #[.int .i64 h.k, .slice sa h.set.length sc, .slice a len cap]

/-- A node of the walk over all that is in an expression: how deep it stands, what it holds, how many it has. -/
structure Nd where
  d : Nat
  h : Hd
  len : Nat

/-- A list's expressions and all that are in them, each ahead of its own list. -/
def Fo.pre (d : Nat) : Fo → List Nd
  | .nil => []
  | .cons h kids rest => ⟨d, h, kids.len⟩ :: (kids.pre (d + 1) ++ rest.pre d)

theorem Fo.pre_length (f : Fo) : ∀ d, (f.pre d).length = f.size := by
  induction f with
  | nil => intro d; rfl
  | cons h kids rest ihk ihr => intro d; simp [Fo.pre, Fo.size, ihk, ihr]

/-- What is still to come, where these lists are open, the innermost one first. -/
def rem : List Fo → List Nd
  | [] => []
  | f :: fs => f.pre (fs.length + 1) ++ rem fs

/-- Rounds that are still to come. -/
def steps : List Fo → Nat
  | [] => 0
  | f :: fs => 2 * f.size + 1 + steps fs

end Go.Proofs.Ytngbfjimmdkfeaa

namespace Go.Proofs.Ytngbfjimmdkfeaa
open Go.RowKit

/-- The expressions from the k-th on. -/
def Fo.drop : Nat → Fo → Fo
  | 0, f => f
  | _ + 1, .nil => .nil
  | k + 1, .cons _ _ rest => rest.drop k

theorem Fo.drop_len : ∀ (k : Nat) (f : Fo), (f.drop k).len = f.len - k := by
  intro k
  induction k with
  | zero => intro f; rfl
  | succ k ih => intro f; cases f with
    | nil => simp [Fo.drop, Fo.len]
    | cons h kids rest => simp only [Fo.drop, Fo.len, ih]; omega
theorem Fo.drop_succ : ∀ (k : Nat) (f : Fo) (h : Hd) (kids rest : Fo), f.drop k = .cons h kids rest → f.drop (k + 1) = rest := by
  intro k
  induction k with
  | zero => intro f h kids rest e; simp only [Fo.drop] at e; subst e; rfl
  | succ k ih => intro f h kids rest e; cases f with
    | nil => simp [Fo.drop] at e
    | cons h' kids' rest' => simp only [Fo.drop] at e ⊢; exact ih _ _ _ _ e
theorem Fo.drop_cons {k : Nat} {f : Fo} (h : k < f.len) : ∃ hd kids rest, f.drop k = .cons hd kids rest := by
  have := Fo.drop_len k f
  cases e : f.drop k with
  | nil => rw [e] at this; simp [Fo.len] at this; omega
  | cons hd kids rest => exact ⟨_, _, _, rfl⟩
theorem Fo.drop_all {f : Fo} {k : Nat} (h : f.len ≤ k) : f.drop k = .nil := by
  have := Fo.drop_len k f
  cases e : f.drop k with
  | nil => rfl
  | cons hd kids rest => rw [e] at this; simp [Fo.len] at this; omega
theorem Fo.drop_size : ∀ (k : Nat) (f : Fo), (f.drop k).size ≤ f.size := by
  intro k
  induction k with
  | zero => intro f; exact Nat.le_refl _
  | succ k ih => intro f; cases f with
    | nil => exact Nat.le_refl _
    | cons h kids rest => simp only [Fo.drop, Fo.size]; have := ih rest; omega
theorem Elems.drop {w : World} : ∀ (k : Nat) (f : Fo) (b off : Nat), Elems w f b off → Elems w (f.drop k) b (off + k * 3) := by
  intro k
  induction k with
  | zero => intro f b off h; simpa [Fo.drop] using h
  | succ k ih => intro f b off h; cases f with
    | nil => trivial
    | cons hd kids rest =>
      have := ih rest b (off + 3) h.2.2.2
      rw [show off + (k + 1) * 3 = off + 3 + k * 3 from by omega]
      exact this

end Go.Proofs.Ytngbfjimmdkfeaa

namespace Go.Proofs.Ytngbfjimmdkfeaa
open Go.RowKit Go.Shelf

/-- A block that the iterator may write: no cells, or cells of one of its types. -/
def Turns (T : TypeId → Bool) (o : Obj) : Prop := o.isCells = false ∨ ∃ cs t fr, o = Obj.cells cs t fr ∧ T t = true

/-- An invariant that does not mind what the iterator, and the loop's own book-keeping, write from block B on. -/
def Bears {β : Type} (B : Nat) (T : TypeId → Bool) (I : β → World → Prop) : Prop :=
  ∀ s W W' row, I s W → W.grownBy W' row → (∀ r, row = some r → B ≤ r ∧ ∃ o, W.heap[r]? = some o ∧ Turns T o) → I s W'

theorem Bears.and {β : Type} {B : Nat} {T : TypeId → Bool} {I J : β → World → Prop} (h : Bears B T I) (k : Bears B T J) : Bears B T (fun s W => I s W ∧ J s W) :=
  fun s W W' row hs hg hr => ⟨h s W W' row hs.1 hg hr, k s W W' row hs.2 hg hr⟩
theorem Bears.mono {β : Type} {B B' : Nat} {T : TypeId → Bool} {I : β → World → Prop} (h : Bears B T I) (hB : B ≤ B') : Bears B' T I :=
  fun s W W' row hs hg hr => h s W W' row hs hg (fun r e => ⟨Nat.le_trans hB (hr r e).1, (hr r e).2⟩)
theorem Bears.putObj {β : Type} {B : Nat} {T : TypeId → Bool} {I : β → World → Prop} (h : Bears B T I) {s : β} {W : World} {l : Nat} {o : Obj} (o' : Obj) (hs : I s W) (hB : B ≤ l) (hl : W.heap[l]? = some o) (ho : o.isCells = false) : I s (W.putObj l o') :=
  h s W _ (some l) hs (grownBy_putObj' W l o') (fun r e => by cases e; exact ⟨hB, o, hl, .inl ho⟩)
theorem Bears.alloc {β : Type} {B : Nat} {T : TypeId → Bool} {I : β → World → Prop} (h : Bears B T I) {s : β} {W : World} (o : Obj) (hs : I s W) : I s (W.alloc o) :=
  h s W _ none hs (World.grownBy_alloc W o none) (fun r e => by cases e)
theorem bears_pure {β : Type} (B : Nat) (T : TypeId → Bool) (p : β → Prop) : Bears B T (fun s _ => p s) := fun _ _ _ _ hs _ _ => hs
theorem bears_below {β : Type} {B n₀ : Nat} {T : TypeId → Bool} {w : World} (h0 : n₀ ≤ B) (hB : n₀ ≤ w.heap.size) : Bears B T (fun (_ : β) W => Below n₀ w W) :=
  fun _ _ _ _ hs hg hr => hs.grown hg (Nat.le_trans hB hs.size) (fun k e => Nat.le_trans h0 (hr k e).1)
/-- A box of another type. -/
theorem bears_boxed {β : Type} (B b : Nat) {T : TypeId → Bool} (t : TypeId) (ht : T t = false) (f : β → Value) : Bears B T (fun s W => Boxed W b t (f s)) :=
  fun s W W' row hs hg hr => hs.kept hg (fun e => by
    obtain ⟨_, o, ho, hc⟩ := hr b e.symm
    rw [show W.heap[b]? = _ from hs] at ho
    cases ho
    rcases hc with hc | ⟨cs, t', fr, e2, ht'⟩
    · cases hc
    · cases e2; rw [ht] at ht'; cases ht')

/-- What a round leaves to the iterator: what lay below n₀, and each block of its types. -/
structure Spares (n₀ : Nat) (T : TypeId → Bool) (W W' : World) : Prop where
  below : Below n₀ W W'
  same : ∀ (k : Nat) (cs : Array Value) (t : TypeId) (fr : Nat × Nat), W.heap[k]? = some (Obj.cells cs t fr) → T t = true → W'.heap[k]? = some (Obj.cells cs t fr)

theorem Spares.refl (n₀ : Nat) (T : TypeId → Bool) (W : World) : Spares n₀ T W W := ⟨Below.refl _ _, fun _ _ _ _ h _ => h⟩
theorem Spares.trans {n₀ : Nat} {T : TypeId → Bool} {A B C : World} (h : Spares n₀ T A B) (k : Spares n₀ T B C) : Spares n₀ T A C :=
  ⟨h.below.trans k.below, fun i cs t fr hi ht => k.same i cs t fr (h.same i cs t fr hi ht) ht⟩
/-- One block written that is none of the iterator's, at or beyond n₀. -/
theorem Spares.grown {n₀ : Nat} {T : TypeId → Bool} {W W' : World} {row : Option Nat} (hg : W.grownBy W' row) (hn : n₀ ≤ W.heap.size) (hr : ∀ r, row = some r → n₀ ≤ r ∧ ∀ (cs : Array Value) (t : TypeId) (fr : Nat × Nat), W.heap[r]? = some (Obj.cells cs t fr) → T t = false) : Spares n₀ T W W' :=
  ⟨(Below.refl n₀ W).grown hg hn (fun k e => (hr k e).1), fun k cs t fr hk ht => by
    refine (hg.block k (Array.getElem?_eq_some_iff.1 hk).1 (fun e => ?_)).trans hk
    rw [(hr k e.symm).2 cs t fr hk] at ht; cases ht⟩
theorem Spares.putObj {n₀ : Nat} {T : TypeId → Bool} {W : World} {l : Nat} {o : Obj} (o' : Obj) (hn : n₀ ≤ W.heap.size) (hl : n₀ ≤ l) (h : W.heap[l]? = some o) (ho : o.isCells = false) : Spares n₀ T W (W.putObj l o') :=
  Spares.grown (grownBy_putObj' W l o') hn (fun r e => by cases e; exact ⟨hl, fun cs t fr hk => by rw [h] at hk; cases hk; cases ho⟩)

/-- HOW A ROUND'S BODY MAY BE LEFT. -/
def roundEnd {α : Type} (B n₀ : Nat) (T : TypeId → Bool) (I Ix : List α → World → Prop) (xs : List α) (W : World) : Exit → Act → World → Prop
  | .normal, _, W' => KeepsFrom B W W' ∧ Spares n₀ T W W' ∧ I xs W'
  | .ret, _, W' => KeepsFrom B W W' ∧ Ix xs W'
  | _, _, _ => False

/-- THE ITERATOR's CONTRACT. Good: what may have come; Full: all has come. -/
def Walks {α : Type} (P : Program) (gf : Nat) (lb : Array Value) (encs : α → Array Value) (Good Full : List α → Prop) (n₀ : Nat) (T : TypeId → Bool) (w : World) : Prop :=
  ∀ (l : Nat) (J Jx : List α → World → Prop) (W : World), Below w.heap.size w W → Bears W.heap.size T J → Bears W.heap.size T Jx →
    (∀ pre x W1, J pre W1 → Good (pre ++ [x]) → YieldAt Fence.wide 0 P l (encs x) W1 fun e W' =>
      (e = .returned (.bool true) ∧ J (pre ++ [x]) W' ∧ Spares n₀ T W1 W') ∨ (e = .returned (.bool false) ∧ Jx (pre ++ [x]) W')) →
    J [] W →
    CallsIn Fence.wide 0 P gf (#[.func (.yield l) #[] #[]] ++ lb) W fun e W' => (∃ v, e = .returned v) ∧ ((∃ xs, Full xs ∧ J xs W') ∨ (∃ pre, Good pre ∧ Jx pre W'))

variable {P : Program}

theorem range_law {α : Type} {g : Operand} {ps : Array Tmp} {assign body : Code} {Q : Exit → Act → World → Prop} {a : Act} {w : World}
    {gf : Nat} {lb : Array Value} (hg : a.eval g = .func (.func gf) #[] lb) (eg : ∀ args w, (callFunc gf args).run P w = .ok (.enter gf args) w)
    {encs : α → Array Value} {Good Full : List α → Prop} {n₀ : Nat} {T : TypeId → Bool} (hn₀ : n₀ ≤ w.heap.size) (hit : Walks P gf lb encs Good Full n₀ T w) (hps : ∀ x, (encs x).size = ps.size)
    (I Ix : List α → World → Prop) (hI : Bears w.heap.size T I) (hIx : Bears w.heap.size T Ix) (h0 : I [] w)
    (hround : ∀ (l : Nat) (pre : List α) (x : α) (W : World), w.heap.size ≤ l → (∃ r, W.heap[l]? = some (.loop r)) → I pre W → Good (pre ++ [x]) →
      assign.wpIn (Fence.wide.inRound l) 0 P (Exit.then (fun a₁ w₁ => KeepsFrom w.heap.size W w₁ ∧ Spares n₀ T W w₁ ∧
          ∀ W2, w₁.grownBy W2 (some l) → body.wpIn (Fence.wide.inRound l) 0 P (roundEnd w.heap.size n₀ T I Ix (pre ++ [x]) W2) a₁ W2) (fun _ _ _ => False))
        { tmps := (ps.zip (encs x)).foldl (fun t (p, v) => t.setIfInBounds p v) a.tmps, defers := [] } W)
    (hdone : ∀ (D : Nat) (xs : List α) (W : World), w.heap.size ≤ D → Full xs → I xs W → W.heap[D]? = some (.deferred (some [])) → Q .normal { a with defers := { target := .collected D, args := #[] } :: a.defers } W)
    (hstop : ∀ (D : Nat) (pre : List α) (W : World), w.heap.size ≤ D → Good pre → Ix pre W → W.heap[D]? = some (.deferred (some [])) → Code.ret.wpIn Fence.wide 0 P Q { a with defers := { target := .collected D, args := #[] } :: a.defers } W) :
    (Code.rangeFunc g ps assign body).wpIn Fence.wide 0 P Q a w := by
  refine wpIn_rangeFunc ?_
  intro fn hfn
  -- the two blocks of book-keeping: D, the rounds' deferred calls; D + 1, the loop's record
  let rec_ : LoopState → Option Code → Obj := fun st pe => .loop { state := st, pending := pe, fn, tmps := a.tmps, params := ps, assign, body, defers := w.heap.size }
  generalize hD : w.heap.size = D at hn₀ hI hIx hround hdone hstop ⊢
  obtain ⟨W1, hW1⟩ : ∃ W1, (w.alloc (.deferred (some []))).alloc (rec_ .ready none) = W1 := ⟨_, rfl⟩
  have hL1 : W1.heap[D + 1]? = some (rec_ .ready none) := by
    have := World.alloc_heap_new (w.alloc (.deferred (some []))) (rec_ .ready none)
    rw [World.size_alloc, hD] at this
    rw [← hW1]; exact this
  have hK1 : W1.heap[D]? = some (.deferred (some [])) := by
    rw [← hW1]
    exact (Below.heap_alloc _ _ _ (by rw [World.size_alloc]; omega)).trans (hD ▸ World.alloc_heap_new w _)
  have hb1 : Below w.heap.size w W1 := by
    rw [← hW1]; exact ((Below.refl _ w).alloc (Nat.le_refl _) _).alloc (by simp) _
  have hI1 : I [] W1 := by rw [← hW1]; exact hI.alloc _ (hI.alloc _ h0)
  have hDW : D ≤ W1.heap.size := by rw [← hD]; exact hb1.size
  refine ⟨D + 1, [{ target := .collected D, args := #[] }], W1, { target := .fn (.func gf) lb, args := #[.func (.yield (D + 1)) #[] #[]] }, W1, gf, #[.func (.yield (D + 1)) #[] #[]] ++ lb, W1, ?_, ?_, ?_, ?_, ?_, ?_⟩
  · have := run_enterLoop_outer (P := P) (w := w) fn a.tmps ps assign body
    rw [hW1.symm, ← hD]; exact this
  · simp only [resolve, hg]; simp [go_sem]
  · intro f' _; trivial
  · simp [invoke, go_sem, eg]
  · intro h; cases h
  · refine (hit (D + 1)
      (fun pre W => I pre W ∧ W.heap[D + 1]? = some (rec_ .ready none) ∧ W.heap[D]? = some (.deferred (some [])))
      (fun pre W => Ix pre W ∧ W.heap[D + 1]? = some (rec_ .done (some .ret)) ∧ W.heap[D]? = some (.deferred (some [])))
      W1 hb1 ?_ ?_ ?_ ⟨hI1, hL1, hK1⟩).mono ?_
    · rintro s A B row ⟨h1, h2, h3⟩ hg' hr
      exact ⟨hI s A B row h1 hg' (fun r e => ⟨Nat.le_trans hDW (hr r e).1, (hr r e).2⟩),
        (hg'.block (D + 1) (Array.getElem?_eq_some_iff.1 h2).1 (fun e => by have := (hr _ e.symm).1; have := (Array.getElem?_eq_some_iff.1 hL1).1; omega)).trans h2,
        (hg'.block D (Array.getElem?_eq_some_iff.1 h3).1 (fun e => by have := (hr _ e.symm).1; have := (Array.getElem?_eq_some_iff.1 hL1).1; omega)).trans h3⟩
    · rintro s A B row ⟨h1, h2, h3⟩ hg' hr
      exact ⟨hIx s A B row h1 hg' (fun r e => ⟨Nat.le_trans hDW (hr r e).1, (hr r e).2⟩),
        (hg'.block (D + 1) (Array.getElem?_eq_some_iff.1 h2).1 (fun e => by have := (hr _ e.symm).1; have := (Array.getElem?_eq_some_iff.1 hL1).1; omega)).trans h2,
        (hg'.block D (Array.getElem?_eq_some_iff.1 h3).1 (fun e => by have := (hr _ e.symm).1; have := (Array.getElem?_eq_some_iff.1 hL1).1; omega)).trans h3⟩
    · rintro pre x W ⟨hi, hl, hk⟩ hgood
      have hlt : D + 1 < W.heap.size := (Array.getElem?_eq_some_iff.1 hl).1
      refine ⟨fn, _, assign, body, run_yield (P := P) (args := encs x) hl (hps x), roundIn_of_wpIn trivial (wpIn_mono (hround (D + 1) pre x W (by omega) ⟨_, hl⟩ hi hgood) ?_)⟩
      rintro e a₁ w₁ hp
      cases e with
      | normal =>
        obtain ⟨hkf, hsp, hbody⟩ := hp
        have hl1 := hkf.same _ _ (by omega) hl rfl
        have hk1 := hkf.same _ _ (Nat.le_refl _) hk rfl
        have hlt1 : D + 1 < w₁.heap.size := (Array.getElem?_eq_some_iff.1 hl1).1
        refine ⟨_, run_beginRound hl1 rfl, wpIn_mono (hbody _ (grownBy_putObj' _ _ _)) ?_⟩
        have hl2 : (w₁.putObj (D + 1) (rec_ .busy none)).heap[D + 1]? = some (rec_ .busy none) := World.putObj_heap_same hlt1
        have hk2 : (w₁.putObj (D + 1) (rec_ .busy none)).heap[D]? = some (.deferred (some [])) := (World.putObj_heap_other (by omega)).trans hk1
        have hs2 : Spares n₀ T W (w₁.putObj (D + 1) (rec_ .busy none)) := hsp.trans (Spares.putObj _ (Nat.le_trans hn₀ (by omega)) (by omega) hl1 rfl)
        rintro e2 a3 W3 hq
        cases e2 with
        | normal =>
          obtain ⟨hk3, hs3, hi3⟩ := hq
          have hl3 := hk3.same _ _ (by omega) hl2 rfl
          have hlt3 : D + 1 < W3.heap.size := (Array.getElem?_eq_some_iff.1 hl3).1
          exact ⟨_, _, run_endRound (P := P) none hl3, .inl ⟨rfl, ⟨hI.putObj _ hi3 (by omega) hl3 rfl, World.putObj_heap_same hlt3, (World.putObj_heap_other (by omega)).trans (hk3.same _ _ (Nat.le_refl _) hk2 rfl)⟩,
            (hs2.trans hs3).trans (Spares.putObj _ (Nat.le_trans hn₀ (by omega)) (by omega) hl3 rfl)⟩⟩
        | ret =>
          obtain ⟨hk3, hi3⟩ := hq
          have hl3 := hk3.same _ _ (by omega) hl2 rfl
          have hlt3 : D + 1 < W3.heap.size := (Array.getElem?_eq_some_iff.1 hl3).1
          exact ⟨_, _, run_endRound (P := P) (some .ret) hl3, .inr ⟨rfl, hIx.putObj _ hi3 (by omega) hl3 rfl, World.putObj_heap_same hlt3, (World.putObj_heap_other (by omega)).trans (hk3.same _ _ (Nat.le_refl _) hk2 rfl)⟩⟩
        | exit id => exact hq.elim
        | goto t => exact hq.elim
        | panic ch => exact hq.elim
        | outgrown => exact hq.elim
      | ret => exact hp.elim
      | exit id => exact hp.elim
      | goto t => exact hp.elim
      | panic ch => exact hp.elim
      | outgrown => exact hp.elim
    · rintro e W2 ⟨⟨v, rfl⟩, (⟨xs, hF, hi, hl, hk⟩ | ⟨pre, hG, hi, hl, hk⟩)⟩
      · exact ⟨none, _, run_endLoop (P := P) hl (by simp [rec_]), hdone D xs _ (Nat.le_refl _) hF (hI.putObj _ hi (by omega) hl rfl) ((World.putObj_heap_other (by omega)).trans hk)⟩
      · exact ⟨some .ret, _, run_endLoop (P := P) hl (by simp [rec_]), hstop D pre _ (Nat.le_refl _) hG (hIx.putObj _ hi (by omega) hl rfl) ((World.putObj_heap_other (by omega)).trans hk)⟩

end Go.Proofs.Ytngbfjimmdkfeaa

namespace Go.Proofs.Ytngbfjimmdkfeaa
open Go.RowKit

/-- The slice owns a row of bytes at or beyond base. -/
def OwnB (w : World) (base : Nat) (a : Option Addr) (n cap : Nat) (xs : List UInt8) : Prop := w.ownsRow base 5 1 (.slice a n cap) n (xs.map bv)

theorem OwnB.len {w : World} {base n cap : Nat} {a : Option Addr} {xs : List UInt8} (h : OwnB w base a n cap xs) : n = xs.length := (Bytes.own h).2
theorem OwnB.bytes {w : World} {base n cap : Nat} {a : Option Addr} {xs : List UInt8} (h : OwnB w base a n cap xs) : Bytes w a cap xs := (Bytes.own h).1
theorem OwnB.nil (w : World) (base : Nat) : OwnB w base none 0 0 [] := World.ownsRow_nil w base _ 1
theorem OwnB.kept {w w' : World} {base n cap : Nat} {a : Option Addr} {xs : List UInt8} {row : Option Nat} (h : OwnB w base a n cap xs) (hg : w.grownBy w' row) (hne : (Value.slice a n cap).ownBlock = none ∨ (Value.slice a n cap).ownBlock ≠ row) : OwnB w' base a n cap xs := World.ownsRow.kept h hg hne
theorem OwnB.mono {w : World} {base base' n cap : Nat} {a : Option Addr} {xs : List UInt8} (h : OwnB w base a n cap xs) (hb : base' ≤ base) : OwnB w base' a n cap xs := by
  refine ⟨h.1, ?_⟩
  rcases h.2 with h2 | ⟨g, c, cur, e, hg, r⟩
  · exact .inl h2
  · exact .inr ⟨g, c, cur, e, Nat.le_trans hb hg, r⟩
/-- A new block of bytes that the walk has written out. -/
theorem OwnB.lit (w : World) (base : Nat) (cs : Array Value) (xs : List UInt8) (hb : base ≤ w.heap.size) (hm : xs.length ≤ 9223372036854775807) (hcs : cs.toList = xs.map bv) : OwnB (w.alloc (.cells cs 5)) base (some ⟨w.heap.size, 0, none⟩) xs.length xs.length xs := by
  have hsz : cs.size = xs.length * 1 := by rw [← Array.length_toList, hcs]; simp
  have := World.ownsRow_lit (base := base) (e := 5) (size := 1) w cs xs.length hb (by unfold maxLen; omega) hsz
  rw [hcs] at this
  exact this

theorem slice_of_own {w : World} {base e size n : Nat} {v : Value} {xs : List Value} (h : w.ownsRow base e size v n xs) : ∃ a cap, v = .slice a n cap := by
  rcases h.2 with ⟨rfl, rfl⟩ | ⟨g, cap, _, rfl, _⟩
  · exact ⟨_, _, rfl⟩
  · exact ⟨_, _, rfl⟩

/-- The value lies where it lay, or in a new block. -/
def New (n : Nat) (a a' : Option Addr) : Prop := a' = a ∨ ∃ g, a' = some ⟨g, 0, none⟩ ∧ n ≤ g
theorem New.trans {n m : Nat} {a b c : Option Addr} (h : New n a b) (k : New m b c) (hm : n ≤ m) : New n a c := by
  rcases k with rfl | ⟨g, rfl, hg⟩
  · exact h
  · exact .inr ⟨g, rfl, by omega⟩
theorem New.le {n m : Nat} {a b : Option Addr} (h : New m a b) (hm : n ≤ m) : New n a b := h.imp id fun ⟨g, e, hg⟩ => ⟨g, e, by omega⟩
theorem New.block {n l c l' c' : Nat} {a a' : Option Addr} (h : New n a a') : ∀ i, (Value.slice a' l' c').ownBlock = some i → (Value.slice a l c).ownBlock = some i ∨ n ≤ i := by
  intro i e
  rcases h with rfl | ⟨g, rfl, hg⟩
  · cases a' with
    | none => cases e
    | some p => exact .inl e
  · cases e; exact .inr hg

/-- An append whose run is known. -/
theorem wpList_append_run {P : Program} {w : World} {ops : Array Oper} {rest : List Oper} {o : Oper} {a : Act} {Q : Exit → Act → World → Prop} (hg : o.guard = none) (s x : Operand) (t t2 : TypeId)
    (hop : o.op = Op.call { callee := Callee.builtin Builtin.append, args := #[s, x], argTypes := #[t, t2] }) (vs vx v' : Value) (w' : World) (hs : a.eval s = vs) (hx : a.eval x = vx)
    (hrun : (Builtin.append_ #[t, t2] o.type #[vs, vx]).run P w = .ok v' w') (h : wpList P ops Q rest (a.put o.dst v') w') : wpList P ops Q (o :: rest) a w := by
  refine wpList_plain hg fun K hK' => ?_
  unfold Oper.wp
  simp [execOp, hop, resolve, invoke, builtin, hs, hx, hrun, Result.andThen]
  exact hK' _ _ h

end Go.Proofs.Ytngbfjimmdkfeaa

namespace Go.Proofs
open Go.Shelf
end Go.Proofs

namespace Go.Proofs.Ytngbfjimmdkfeaa
open Go.RowKit

structure Only (base : Nat) (t : TypeId) (w w' : World) : Prop where
  os : w'.os = w.os
  tape : w'.tape = w.tape
  output : w'.output = w.output
  size : w.heap.size ≤ w'.heap.size
  same : ∀ (k : Nat) (o : Obj), w.heap[k]? = some o → (k < base ∨ ∀ (cs : Array Value) (fr : Nat × Nat), o ≠ Obj.cells cs t fr) → w'.heap[k]? = some o

section
variable {base : Nat} {t : TypeId} {w w' w'' : World}
theorem Only.refl (base : Nat) (t : TypeId) (w : World) : Only base t w w := ⟨rfl, rfl, rfl, Nat.le_refl _, fun _ _ h _ => h⟩
theorem Only.trans (h : Only base t w w') (k : Only base t w' w'') : Only base t w w'' :=
  ⟨k.os.trans h.os, k.tape.trans h.tape, k.output.trans h.output, Nat.le_trans h.size k.size, fun i o hi ho => k.same i o (h.same i o hi ho) ho⟩
theorem Only.of_grownBy {row : Option Nat} (hg : w.grownBy w' row) (hr : ∀ i, row = some i → base ≤ i ∧ ∃ (cs : Array Value) (fr : Nat × Nat), w.heap[i]? = some (Obj.cells cs t fr)) : Only base t w w' :=
  ⟨hg.os, hg.tape, hg.output, hg.size, fun k o hk ho => by
    refine (hg.block k (Array.getElem?_eq_some_iff.1 hk).1 (fun e => ?_)).trans hk
    obtain ⟨h1, cs, fr, h2⟩ := hr k e.symm
    rw [hk] at h2; cases h2
    rcases ho with ho | ho
    · omega
    · exact ho cs fr rfl⟩
theorem Only.of_none (hg : w.grownBy w' none) : Only base t w w' := Only.of_grownBy hg (fun i e => by cases e)
theorem Only.alloc (w : World) (o : Obj) : Only base t w (w.alloc o) := Only.of_none (World.grownBy_alloc w o none)
theorem Only.drew (w : World) : Only base t w w.drew := ⟨rfl, rfl, rfl, Nat.le_refl _, fun _ _ h _ => h⟩
theorem Only.below (h : Only base t w w') {B : Nat} (hB : B ≤ base) (hs : B ≤ w.heap.size) : Below B w w' :=
  ⟨h.os, h.tape, h.output, h.size, fun k hk => by
    have hlt : k < w.heap.size := by omega
    exact (h.same k _ (Array.getElem?_eq_getElem hlt) (.inl (by omega))).trans (Array.getElem?_eq_getElem hlt).symm⟩
theorem Only.mono (h : Only base t w w') {b2 : Nat} (hb : b2 ≤ base) : Only b2 t w w' :=
  ⟨h.os, h.tape, h.output, h.size, fun k o hk ho => h.same k o hk (ho.elim (fun h1 => .inl (by omega)) .inr)⟩
theorem Only.blk (h : Only base t w w') {b e : Nat} {cs : List Value} (hb : Blk w b e cs) (hne : e ≠ t) : Blk w' b e cs :=
  h.same b _ hb (.inr (fun cs' fr e' => by cases e'; exact hne rfl))
theorem Only.spares (h : Only base t w w') {n₀ : Nat} {T : TypeId → Bool} (hn : n₀ ≤ base) (hs : n₀ ≤ w.heap.size) (hT : T t = false) : Spares n₀ T w w' :=
  ⟨h.below hn hs, fun k cs t' fr hk ht => h.same k _ hk (.inr (fun cs' fr' e => by cases e; rw [hT] at ht; cases ht))⟩
theorem Only.keeps (h : Only base t w w') (B : Nat) : KeepsFrom B w w' :=
  ⟨h.size, fun k o _ hk hc => h.same k o hk (.inr (fun cs' fr' e => by subst e; cases hc))⟩
theorem Only.bytes (h : Only base t w w') {a : Option Addr} {cap : Nat} {xs : List UInt8} (hb : Bytes w a cap xs) (ha : ∀ b off, a = some ⟨b, off, none⟩ → b < base) : Bytes w' a cap xs :=
  ⟨hb.le, hb.max, hb.at_, fun b off e i hi => by
    have hc := hb.cell b off e i hi
    have hlt := World.block_lt_of_cell? w _ hc
    have hk := h.same b _ (Array.getElem?_eq_getElem hlt) (.inl (ha b off e))
    exact (World.cell?_of_block (w := w) (a := ⟨b, off + i, none⟩) (by rw [Array.getElem?_eq_getElem hlt]; exact hk)).trans hc, hb.nil_⟩
end

theorem OwnB.row {w : World} {base n cap : Nat} {a : Option Addr} {xs : List UInt8} (h : OwnB w base a n cap xs) : ∀ i, (Value.slice a n cap).ownBlock = some i → base ≤ i ∧ ∃ (cs : Array Value) (fr : Nat × Nat), w.heap[i]? = some (Obj.cells cs 5 fr) := by
  intro i e
  rcases h.2 with ⟨e1, _⟩ | ⟨g, c, cur, e1, hb, hg, _⟩
  · rw [e1] at e; simp [Value.ownBlock] at e
  · rw [e1] at e
    simp only [Value.ownBlock, Option.some.injEq] at e
    subst e
    exact ⟨hb, cur, _, hg⟩

theorem OwnB.only {w w' : World} {base n cap : Nat} {a : Option Addr} {xs : List UInt8} (h : OwnB w base a n cap xs) (hg : w.grownBy w' (Value.slice a n cap).ownBlock) : Only base 5 w w' := Only.of_grownBy hg h.row

end Go.Proofs.Ytngbfjimmdkfeaa

