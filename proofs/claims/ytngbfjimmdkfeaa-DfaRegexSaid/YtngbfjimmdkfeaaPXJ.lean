/- Texts joined: Pl Rdr Rdi Rdm Rdj Eq4 Rdc Rda Rdb Rdp Rdl Rdv Rds Rdx Rdy Rdz. -/
import Derived.Test.YtngbfjimmdkfeaaPXC
import Derived.Test.YtngbfjimmdkfeaaPXA
import Derived.Outline
import Derived.Laws.StructEq
import Derived.Test.YtngbfjimmdkfeaaPXB
import Derived.Defers
import Derived.Recover
import Derived.WalkLawsBesides
import Derived.Test.YtngbfjimmdkfeaaPXG
set_option linter.unusedVariables false
set_option linter.unusedSimpArgs false
namespace Go.Proofs.Ytngbfjimmdkfeaa
open Go.RowKit

/-- What reading comes to: a value and what is left; or it gives up there. -/
inductive Rd (α : Type) where
  | ok (v : α) (r : List UInt8)
  | bad (r : List UInt8)

def Rd.bind {α β : Type} (x : Rd α) (f : α → List UInt8 → Rd β) : Rd β :=
  match x with
  | .ok v r => f v r
  | .bad r => .bad r
@[simp] theorem Rd.bind_ok {α β : Type} (v : α) (r : List UInt8) (f : α → List UInt8 → Rd β) : (Rd.ok v r).bind f = f v r := rfl
@[simp] theorem Rd.bind_bad {α β : Type} (r : List UInt8) (f : α → List UInt8 → Rd β) : (Rd.bad r : Rd α).bind f = .bad r := rfl

/-- An expression. -/
structure Ex where
  h : Hd
  k : Fo
def reps : List UInt8 := [42, 43, 63]
def repsP : Ex → List UInt8 → Ex × List UInt8
  | x, [] => (x, [])
  | x, c :: r => if 0 ≤ Lib.indexByte reps c then repsP ⟨⟨5 + Lib.indexByte reps c, []⟩, .cons x.h x.k .nil⟩ r else (x, c :: r)

theorem dlen (s : ByteArray) : s.data.toList.length = s.size := by rw [Array.length_toList]; rfl
end Go.Proofs.Ytngbfjimmdkfeaa

namespace Go.Proofs.Ytngbfjimmdkfeaa
open Go.RowKit Go.Shelf

attribute [local go_sem] Oper.semAt_some

theorem grownBy_refl (w : World) (r : Option Nat) : w.grownBy w r := ⟨rfl, rfl, rfl, Nat.le_refl _, fun _ _ _ => rfl⟩

end Go.Proofs.Ytngbfjimmdkfeaa

namespace Go.Proofs.Ytngbfjimmdkfeaa
open Go.RowKit Go.Shelf

attribute [local go_sem] Oper.semAt_some

theorem Sps.setOther {w : World} {a : Option Addr} {cap b' j : Nat} {l : List Sp} (h : Sps w a cap l) (hne : ∀ b off, a = some ⟨b, off, none⟩ → b ≠ b') (v : Value) : Sps (w.setCell ⟨b', j, none⟩ v) a cap l :=
  ⟨h.le, h.max, h.nil_, h.at_, fun b off e i hi => by
    have hc : ∀ o, (w.setCell ⟨b', j, none⟩ v).cell? ⟨b, o, none⟩ = w.cell? ⟨b, o, none⟩ := fun o => by
      simp only [World.cell?]
      rw [Below.heap_setCell _ _ _ _ (by simpa using hne b off e)]
    exact ⟨(hc _).trans (h.cell b off e i hi).1, (hc _).trans (h.cell b off e i hi).2⟩⟩
end Go.Proofs.Ytngbfjimmdkfeaa

namespace Go.Proofs.Ytngbfjimmdkfeaa
open Go.RowKit

/-- An expression that was read: what it holds, its parts, and where they lie. -/
structure Ea where
  x : Ex
  sa : Option Addr
  sc : Nat
  a : Option Addr
  c : Nat
def Ea.row (e : Ea) : List Value := [.int .i64 e.x.h.k, .slice e.sa e.x.h.set.length e.sc, .slice e.a e.x.k.len e.c]
end Go.Proofs.Ytngbfjimmdkfeaa

namespace Go.Proofs.Ytngbfjimmdkfeaa
open Go.RowKit Go.Shelf

attribute [local go_sem] Oper.semAt_some

end Go.Proofs.Ytngbfjimmdkfeaa

namespace Go.Proofs.Ytngbfjimmdkfeaa
open Go.RowKit

end Go.Proofs.Ytngbfjimmdkfeaa

namespace Go.Proofs.Ytngbfjimmdkfeaa
open Go.RowKit Go.Shelf

attribute [local go_sem] Oper.semAt_some

end Go.Proofs.Ytngbfjimmdkfeaa

namespace Go.Proofs.Ytngbfjimmdkfeaa
open Go.RowKit Go.Shelf

attribute [local go_sem] Oper.semAt_some

end Go.Proofs.Ytngbfjimmdkfeaa

namespace Go.Proofs.Ytngbfjimmdkfeaa
open Go.RowKit Go.Shelf

attribute [local go_sem] Oper.semAt_some

/-- One span that was written out. -/
theorem Sps.lit (w : World) (sp : Sp) : Sps (w.alloc (.cells #[.int .u8 (sp.lo.toNat : Int), .int .u8 (sp.hi.toNat : Int)] 55)) (some ⟨w.heap.size, 0, none⟩) 1 [sp] := by
  have hB := Blk.new w 55 #[.int .u8 (sp.lo.toNat : Int), .int .u8 (sp.hi.toNat : Int)]
  refine ⟨by simp, by omega, fun e => (by cases e), fun i _ => ⟨_, _, rfl⟩, fun b off e i hi => ?_⟩
  cases e
  have : i = 0 := by simpa using hi
  subst this
  exact ⟨hB.cell 0, hB.cell 1⟩

end Go.Proofs.Ytngbfjimmdkfeaa

namespace Go.Proofs.Ytngbfjimmdkfeaa
open Go.RowKit Go.Shelf

attribute [local go_sem] Oper.semAt_some

end Go.Proofs.Ytngbfjimmdkfeaa

namespace Go.Proofs.Ytngbfjimmdkfeaa
open Go.RowKit Go.Shelf

end Go.Proofs.Ytngbfjimmdkfeaa

namespace Go.Proofs.Ytngbfjimmdkfeaa
open Go.RowKit Go.Shelf

attribute [local go_sem] Oper.semAt_some

end Go.Proofs.Ytngbfjimmdkfeaa

namespace Go.Proofs.Ytngbfjimmdkfeaa
open Go.RowKit Go.Shelf

attribute [local go_sem] Oper.semAt_some

end Go.Proofs.Ytngbfjimmdkfeaa

namespace Go.Proofs.Ytngbfjimmdkfeaa
open Go.RowKit Go.Shelf

attribute [local go_sem] Oper.semAt_some

end Go.Proofs.Ytngbfjimmdkfeaa

namespace Go.Proofs.Ytngbfjimmdkfeaa
open Go.RowKit Go.Shelf

attribute [local go_sem] Oper.semAt_some

end Go.Proofs.Ytngbfjimmdkfeaa

namespace Go.Proofs.Ytngbfjimmdkfeaa
open Go.RowKit Go.Shelf

attribute [local go_sem] Oper.semAt_some

end Go.Proofs.Ytngbfjimmdkfeaa

