/- Texts joined: Da Db Dc. -/
import Derived.Test.YtngbfjimmdkfeaaPXN1
import Derived.Test.YtngbfjimmdkfeaaPXA
import Derived.Deep.QuietTactic
import Derived.BigQuiet
import Derived.Deep.RegionHeld3
import Derived.Test.YtngbfjimmdkfeaaPXN2
set_option linter.unusedVariables false
set_option linter.unusedSimpArgs false
namespace Go.Proofs.Ytngbfjimmdkfeaa
open Go.RowKit

/-- A move. -/
structure Mv where
  lo : Nat
  hi : Nat
  to : Int
  deriving DecidableEq
abbrev Mv.cells (m : Mv) : List Value := [.int .u8 (m.lo : Int), .int .u8 (m.hi : Int), .int .i64 m.to]
/-- A slice of moves reads as these. -/
structure Mvs (w : World) (a : Option Addr) (cap : Nat) (l : List Mv) : Prop where
  le : l.length ≤ cap
  max : cap ≤ 9223372036854775807
  nil_ : a = none → cap = 0
  at_ : ∀ i, i < l.length → ∃ b off, a = some ⟨b, off, none⟩
  cell : ∀ b off, a = some ⟨b, off, none⟩ → ∀ i, (h : i < l.length) → (w.cell? ⟨b, off + i * 3, none⟩ = some (.int .u8 (l[i].lo : Int)) ∧ w.cell? ⟨b, off + i * 3 + 1, none⟩ = some (.int .u8 (l[i].hi : Int)) ∧ w.cell? ⟨b, off + i * 3 + 2, none⟩ = some (.int .i64 l[i].to)) ∧ l[i].lo < 256 ∧ l[i].hi < 256
theorem Mvs.grown {w w' : World} {a : Option Addr} {cap : Nat} {l : List Mv} (h : Mvs w a cap l) (hb : Below w.heap.size w w') : Mvs w' a cap l :=
  ⟨h.le, h.max, h.nil_, h.at_, fun b off e i hi => ⟨⟨cell_up hb (h.cell b off e i hi).1.1, cell_up hb (h.cell b off e i hi).1.2.1, cell_up hb (h.cell b off e i hi).1.2.2⟩, (h.cell b off e i hi).2⟩⟩
theorem Mvs.nil (w : World) : Mvs w none 0 [] := ⟨by simp, by omega, fun _ => rfl, fun i h => by simp at h, fun b off e => by cases e⟩
/-- A state's moves, and where they lie. -/
structure MvD where
  l : List Mv
  a : Option Addr
  c : Nat
abbrev MvD.v (d : MvD) : Value := .slice d.a d.l.length d.c
/-- All states' moves. -/
structure Mrs (w : World) (a : Option Addr) (cap : Nat) (rs : List MvD) : Prop where
  le : rs.length ≤ cap
  max : cap ≤ 9223372036854775807
  nil_ : a = none → cap = 0
  at_ : ∀ i, i < rs.length → ∃ b off, a = some ⟨b, off, none⟩
  cell : ∀ b off, a = some ⟨b, off, none⟩ → ∀ i, (h : i < rs.length) → w.cell? ⟨b, off + i, none⟩ = some (.slice rs[i].a rs[i].l.length rs[i].c)
  mvs : ∀ r ∈ rs, Mvs w r.a r.c r.l
theorem Mrs.grown {w w' : World} {a : Option Addr} {cap : Nat} {rs : List MvD} (h : Mrs w a cap rs) (hb : Below w.heap.size w w') : Mrs w' a cap rs :=
  ⟨h.le, h.max, h.nil_, h.at_, fun b off e i hi => cell_up hb (h.cell b off e i hi), fun r hr => (h.mvs r hr).grown hb⟩
theorem Mrs.nil (w : World) : Mrs w none 0 [] := ⟨by simp, by omega, fun _ => rfl, fun i h => by simp at h, fun b off e => (by cases e), fun r h => (by cases h)⟩
/-- An automaton with one way, plainly. -/
structure Df where
  ms : List (List Mv)
  ac : List Int
  deriving DecidableEq
/-- Where it lies. -/
structure DfL where
  rs : List MvD
  ma : Option Addr
  mc : Nat
  aa : Option Addr
  ac : Nat
structure DfAt (w : World) (x : Df) (p : DfL) : Prop where
  ms : Mrs w p.ma p.mc p.rs
  eq : p.rs.map MvD.l = x.ms
  acc : Ints w p.aa p.ac x.ac
theorem DfAt.grown {w w' : World} {x : Df} {p : DfL} (h : DfAt w x p) (hb : Below w.heap.size w w') : DfAt w' x p := ⟨h.ms.grown hb, h.eq, h.acc.grown hb⟩
theorem DfAt.len {w : World} {x : Df} {p : DfL} (h : DfAt w x p) : p.rs.length = x.ms.length := by rw [← h.eq, List.length_map]
/-- Where a list of moves leads by a byte. -/
def goM : List Mv → Nat → Int
  | [], _ => -1
  | m :: r, c => if m.lo ≤ c ∧ c ≤ m.hi then m.to else goM r c
def nextP (x : Df) (s : Int) (c : Nat) : Int := if 0 ≤ s ∧ s < (x.ms.length : Int) then goM (x.ms.getD s.toNat []) c else -1
def wayP (x : Df) : Int → List UInt8 → Int
  | s, [] => s
  | s, c :: r => wayP x (nextP x s c.toNat) r
def accP (x : Df) (s : Int) : Int := if 0 ≤ s ∧ s < (x.ac.length : Int) then x.ac.getD s.toNat (-1) else -1
/-- What a text comes to. -/
def drunP (x : Df) (s : List UInt8) : Int := accP x (wayP x 0 s)
theorem next_none (x : Df) (c : Nat) : nextP x (-1) c = -1 := by unfold nextP; rw [if_neg (by omega)]
theorem way_none (x : Df) : ∀ s : List UInt8, wayP x (-1) s = -1
  | [] => rfl
  | c :: r => by rw [wayP, next_none, way_none x r]
end Go.Proofs.Ytngbfjimmdkfeaa

namespace Go.Proofs.Ytngbfjimmdkfeaa
open Go.RowKit Go.Shelf

attribute [local go_sem] Oper.semAt_some

theorem up_one (w : World) (o : Obj) : Below w.heap.size w (w.alloc o) := (Below.refl _ w).alloc (Nat.le_refl _) _

end Go.Proofs.Ytngbfjimmdkfeaa

namespace Go.Proofs.Ytngbfjimmdkfeaa
open Go.RowKit Go.Shelf

attribute [local go_sem] Oper.semAt_some

end Go.Proofs.Ytngbfjimmdkfeaa

