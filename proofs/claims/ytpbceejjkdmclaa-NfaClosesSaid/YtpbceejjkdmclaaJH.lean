/- Texts of layer 2 joined: TPart. -/
import Derived.Test.YtpbceejjkdmclaaJG
import Derived.Deep.RegionLaw
import Derived.Outline
set_option linter.unusedVariables false
set_option linter.unusedSimpArgs false
/- regex.appendPart: a part of an expression. -/
namespace Go.Proofs.Ytpbceejjkdmclaa
open Go.RowKit Go.Shelf

attribute [local go_sem] Oper.semAt_some

/-- What is known at each step: what came in, the own row, the box. -/
structure St (W0 : World) (bx : Nat) (cs : List Value) (w : World) (a : Option Addr) (n cap : Nat) (ys : List UInt8) : Prop where
  below : Below W0.heap.size W0 w
  own : OwnB w W0.heap.size a n cap ys
  box : Blk w bx 35 cs
theorem St.alloc {W0 w : World} {bx n cap : Nat} {cs : List Value} {a : Option Addr} {ys : List UInt8} (h : St W0 bx cs w a n cap ys) (o : Obj) : St W0 bx cs (w.alloc o) a n cap ys :=
  ⟨h.below.alloc h.below.size _, World.ownsRow.alloc h.own _, h.box.alloc _⟩
theorem St.drew {W0 w : World} {bx n cap : Nat} {cs : List Value} {a : Option Addr} {ys : List UInt8} (h : St W0 bx cs w a n cap ys) : St W0 bx cs w.drew a n cap ys :=
  ⟨⟨h.below.os, h.below.tape, h.below.output, h.below.size, h.below.block⟩, World.ownsRow.drew h.own, h.box⟩
theorem St.grw {W0 w w' : World} {bx n cap n' cap' : Nat} {cs : List Value} {a a' : Option Addr} {ys ys' : List UInt8} (h : St W0 bx cs w a n cap ys) (ho : OwnB w' W0.heap.size a' n' cap' ys') (hg : Grw W0.heap.size w a w' a') : St W0 bx cs w' a' n' cap' ys' :=
  ⟨h.below.trans (hg.only.below (Nat.le_refl _) h.below.size), ho, hg.blk h.box (by decide)⟩
/-- A byte that was written out, beside the own row. -/
structure Lit (w : World) (g : Nat) (c : UInt8) (a : Option Addr) : Prop where
  blk : Blk w g 5 [bv c]
  ne : ∀ p, a = some p → p.block ≠ g
theorem OwnB.lt {w : World} {base n cap : Nat} {a : Option Addr} {ys : List UInt8} (h : OwnB w base a n cap ys) : ∀ p, a = some p → p.block < w.heap.size := by
  rintro p rfl
  obtain ⟨_, cs, fr, e⟩ := h.row p.block rfl
  exact (Array.getElem?_eq_some_iff.1 e).1
theorem Lit.new {w : World} {base n cap : Nat} {a : Option Addr} {ys : List UInt8} (h : OwnB w base a n cap ys) (c : UInt8) (v : Value) (hv : v = bv c) : Lit (w.alloc (.cells #[v] 5)) w.heap.size c a := by
  subst hv
  exact ⟨Blk.new w 5 #[bv c], fun p e => by have := h.lt p e; omega⟩
theorem Lit.new' {w : World} {base n cap g : Nat} {a : Option Addr} {ys : List UInt8} (h : OwnB w base a n cap ys) (c : UInt8) (v : Value) (hv : v = bv c) (hg : g = w.heap.size) : Lit (w.alloc (.cells #[v] 5)) g c a := by
  subst hg; exact Lit.new h c v hv
theorem Lit.alloc {w : World} {g : Nat} {c : UInt8} {a : Option Addr} (h : Lit w g c a) (o : Obj) : Lit (w.alloc o) g c a := ⟨h.blk.alloc o, h.ne⟩
theorem Lit.drew {w : World} {g : Nat} {c : UInt8} {a : Option Addr} (h : Lit w g c a) : Lit w.drew g c a := ⟨h.blk, h.ne⟩
theorem Lit.grw {base : Nat} {w w' : World} {g : Nat} {c : UInt8} {a a' : Option Addr} (h : Lit w g c a) (hg : Grw base w a w' a') : Lit w' g c a' :=
  ⟨hg.keep g _ h.blk h.ne, fun p e => by
    rcases hg.new with rfl | ⟨k, e1, hk⟩
    · exact h.ne p e
    · rw [e1] at e; cases e; have := h.blk.lt; show k ≠ g; omega⟩
theorem Lit.bytes {w : World} {g : Nat} {c : UInt8} {a : Option Addr} (h : Lit w g c a) : Bytes w (some ⟨g, 0, none⟩) 1 [c] :=
  ⟨by simp, by omega, fun i _ => ⟨g, 0, rfl⟩, fun b off e i hi => by
    cases e
    have : i = 0 := by simpa using hi
    subst this
    exact h.blk.cell 0, fun e => by cases e⟩

end Go.Proofs.Ytpbceejjkdmclaa
