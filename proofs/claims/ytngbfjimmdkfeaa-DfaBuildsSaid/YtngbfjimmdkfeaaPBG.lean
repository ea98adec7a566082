/- Texts joined: TSet Txt TPart Text TextF. -/
import Derived.Test.YtngbfjimmdkfeaaPBC
import Derived.Test.YtngbfjimmdkfeaaPBA
import Derived.Outline
import Derived.Test.YtngbfjimmdkfeaaPBB
import Derived.Deep.RegionLaw
set_option linter.unusedVariables false
set_option linter.unusedSimpArgs false
namespace Go.Proofs.Ytngbfjimmdkfeaa
open Go.RowKit Go.Shelf

attribute [local go_sem] Oper.semAt_some

/-- A step that writes the own row alone, and what becomes of the row. -/
structure Grw (base : Nat) (w : World) (a : Option Addr) (w' : World) (a' : Option Addr) : Prop where
  only : Only base 5 w w'
  keep : ∀ (i : Nat) (o : Obj), w.heap[i]? = some o → (∀ p, a = some p → p.block ≠ i) → w'.heap[i]? = some o
  new : New w.heap.size a a'
theorem Grw.trans {base : Nat} {w w' w'' : World} {a a' a'' : Option Addr} (h : Grw base w a w' a') (k : Grw base w' a' w'' a'') : Grw base w a w'' a'' :=
  ⟨h.only.trans k.only, fun i o hi ha => k.keep i o (h.keep i o hi ha) (fun p e => by
    have hlt : i < w.heap.size := (Array.getElem?_eq_some_iff.1 hi).1
    rcases h.new with e1 | ⟨g, e1, hg⟩
    · exact ha p (by rw [← e1]; exact e)
    · rw [e1] at e; cases e; show g ≠ i; omega), h.new.trans k.new h.only.size⟩
theorem Grw.still {base : Nat} {w w' : World} (a : Option Addr) (h : Only base 5 w w') (hk : ∀ (i : Nat) (o : Obj), w.heap[i]? = some o → w'.heap[i]? = some o) : Grw base w a w' a := ⟨h, fun i o hi _ => hk i o hi, .inl rfl⟩
theorem Grw.alloc (base : Nat) (w : World) (a : Option Addr) (o : Obj) : Grw base w a (w.alloc o) a := Grw.still a (Only.alloc w o) (fun i o' hi => by
  have hlt : i < w.heap.size := (Array.getElem?_eq_some_iff.1 hi).1
  exact ((World.grownBy_alloc w o none).block i hlt (by simp)).trans hi)
theorem Grw.drewN (base : Nat) (w : World) (a : Option Addr) (k : Nat) : Grw base w a (w.drewN k) a := Grw.still a ⟨rfl, rfl, rfl, Nat.le_refl _, fun _ _ h _ => h⟩ (fun _ _ h => h)
theorem Grw.drew (base : Nat) (w : World) (a : Option Addr) : Grw base w a w.drew a := Grw.still a ⟨rfl, rfl, rfl, Nat.le_refl _, fun _ _ h _ => h⟩ (fun _ _ h => h)
theorem Grw.of {base n cap : Nat} {w w' : World} {a a' : Option Addr} {ys : List UInt8} (hown : OwnB w base a n cap ys) (hg : w.grownBy w' (Value.slice a n cap).ownBlock) (hn : New w.heap.size a a') : Grw base w a w' a' :=
  ⟨hown.only hg, fun i o hi ha => (hg.block i (Array.getElem?_eq_some_iff.1 hi).1 (fun e => by
    cases a with
    | none => cases e
    | some p => cases e; exact ha p rfl rfl)).trans hi, hn⟩
theorem Grw.blk {base b e : Nat} {w w' : World} {a a' : Option Addr} {cs : List Value} (h : Grw base w a w' a') (hb : Blk w b e cs) (hne : e ≠ 5) : Blk w' b e cs := h.only.blk hb hne

theorem OwnB.drewN {w : World} {base n cap : Nat} {a : Option Addr} {ys : List UInt8} (h : OwnB w base a n cap ys) (k : Nat) : OwnB (w.drewN k) base a n cap ys := h
theorem Only.drewN (w : World) (base : Nat) (t : TypeId) (k : Nat) : Only base t w (w.drewN k) := ⟨rfl, rfl, rfl, Nat.le_refl _, fun _ _ h _ => h⟩
theorem Sps.drewN {w : World} {a : Option Addr} {cap : Nat} {l : List Sp} (h : Sps w a cap l) (k : Nat) : Sps (w.drewN k) a cap l := ⟨h.le, h.max, h.nil_, h.at_, h.cell⟩

end Go.Proofs.Ytngbfjimmdkfeaa

namespace Go.Proofs.Ytngbfjimmdkfeaa
open Go.RowKit

/-- Every expression has just what its kind has. -/
def okF : Fo → Prop
  | .nil => True
  | .cons h kids rest => plainB h kids.len = true ∧ okF kids ∧ okF rest
/-- The parts up to the j-th. -/
def Fo.take : Nat → Fo → Fo
  | 0, _ => .nil
  | _ + 1, .nil => .nil
  | k + 1, .cons h kids rest => .cons h kids (rest.take k)
end Go.Proofs.Ytngbfjimmdkfeaa

namespace Go.Proofs.Ytngbfjimmdkfeaa
open Go.RowKit Go.Shelf

attribute [local go_sem] Oper.semAt_some

/-- A byte that was written out, beside the own row. -/
structure Lit (w : World) (g : Nat) (c : UInt8) (a : Option Addr) : Prop where
  blk : Blk w g 5 [bv c]
  ne : ∀ p, a = some p → p.block ≠ g
theorem OwnB.lt {w : World} {base n cap : Nat} {a : Option Addr} {ys : List UInt8} (h : OwnB w base a n cap ys) : ∀ p, a = some p → p.block < w.heap.size := by
  rintro p rfl
  obtain ⟨_, cs, fr, e⟩ := h.row p.block rfl
  exact (Array.getElem?_eq_some_iff.1 e).1
theorem Lit.new {w : World} {base n cap : Nat} {a : Option Addr} {ys : List UInt8} (h : OwnB w base a n cap ys) (c : UInt8) (v : Value) (hv : v = bv c) : Lit (w.alloc (.cells #[v] 5)) w.heap.size c a := by
  subst hv
  exact ⟨Blk.new w 5 #[bv c], fun p e => by have := h.lt p e; omega⟩
theorem Lit.alloc {w : World} {g : Nat} {c : UInt8} {a : Option Addr} (h : Lit w g c a) (o : Obj) : Lit (w.alloc o) g c a := ⟨h.blk.alloc o, h.ne⟩
theorem Lit.drew {w : World} {g : Nat} {c : UInt8} {a : Option Addr} (h : Lit w g c a) : Lit w.drew g c a := ⟨h.blk, h.ne⟩
theorem Lit.grw {base : Nat} {w w' : World} {g : Nat} {c : UInt8} {a a' : Option Addr} (h : Lit w g c a) (hg : Grw base w a w' a') : Lit w' g c a' :=
  ⟨hg.keep g _ h.blk h.ne, fun p e => by
    rcases hg.new with rfl | ⟨k, e1, hk⟩
    · exact h.ne p e
    · rw [e1] at e; cases e; have := h.blk.lt; show k ≠ g; omega⟩
theorem Lit.bytes {w : World} {g : Nat} {c : UInt8} {a : Option Addr} (h : Lit w g c a) : Bytes w (some ⟨g, 0, none⟩) 1 [c] :=
  ⟨by simp, by omega, fun i _ => ⟨g, 0, rfl⟩, fun b off e i hi => by
    cases e
    have : i = 0 := by simpa using hi
    subst this
    exact h.blk.cell 0, fun e => by cases e⟩

end Go.Proofs.Ytngbfjimmdkfeaa

namespace Go.Proofs.Ytngbfjimmdkfeaa
open Go.RowKit Go.Shelf

attribute [local go_sem] Oper.semAt_some

end Go.Proofs.Ytngbfjimmdkfeaa

namespace Go.Proofs.Ytngbfjimmdkfeaa
open Go.RowKit Go.Shelf

attribute [local go_sem] Oper.semAt_some

theorem okF_of_pre : ∀ (f : Fo) (d : Nat), (f.pre d).all (fun x => plainB x.h x.len) = true → okF f := by
  intro f
  induction f with
  | nil => intro d _; trivial
  | cons h kids rest ihk ihr =>
    intro d hp
    simp only [Fo.pre, List.all_cons, List.all_append, Bool.and_eq_true] at hp
    exact ⟨hp.1, ihk _ hp.2.1, ihr _ hp.2.2⟩
end Go.Proofs.Ytngbfjimmdkfeaa

