/- A block of the call's own, known whole; how worlds grow. No program is imported. -/
import Derived.WalkKit
import Derived.WalkSmall
import Derived.Lib.Hide
import Derived.RangeFuncBox
import Derived.Test.YtfdhaochnbfndaaBytes
namespace Go.Proofs.Ytfdhaochnbfndaa
open Go.RowKit

/-- Block b holds just these cells, none frozen. -/
def Blk (w : World) (b : Nat) (e : TypeId) (cs : List Value) : Prop := w.heap[b]? = some (.cells cs.toArray e (0, 0))

section
variable {w w' : World} {b e : Nat} {cs : List Value}
theorem Blk.lt (h : Blk w b e cs) : b < w.heap.size := (Array.getElem?_eq_some_iff.1 h).1
theorem Blk.cell (h : Blk w b e cs) (j : Nat) : w.cell? ⟨b, j, none⟩ = cs[j]? := by
  simp [World.cell?, show w.heap[b]? = _ from h]
theorem Blk.frozen (h : Blk w b e cs) (j : Nat) : w.frozen? ⟨b, j, none⟩ = false := by
  simp [World.frozen?, show w.heap[b]? = _ from h]
theorem Blk.kept {row : Option Nat} (h : Blk w b e cs) (hg : w.grownBy w' row) (hne : some b ≠ row) : Blk w' b e cs := (hg.block b h.lt hne).trans h
theorem Blk.below {B : Nat} (h : Blk w b e cs) (hb : Below B w w') (hlt : b < B) : Blk w' b e cs := (hb.block b hlt).trans h
theorem Blk.alloc (h : Blk w b e cs) (o : Obj) : Blk (w.alloc o) b e cs := h.kept (World.grownBy_alloc w o none) (by simp)
theorem Blk.new (w : World) (e : TypeId) (cs : Array Value) : Blk (w.alloc (.cells cs e)) w.heap.size e cs.toList := by
  have := World.alloc_heap_new w (.cells cs e)
  simpa [Blk] using this
theorem Blk.set (h : Blk w b e cs) (j : Nat) (v : Value) : Blk (w.setCell ⟨b, j, none⟩ v) b e (cs.set j v) := by
  obtain ⟨hlt, hk⟩ := Array.getElem?_eq_some_iff.1 h
  show (w.heap.modify b _)[b]? = _
  rw [Array.getElem?_eq_getElem (by rw [Array.size_modify]; exact hlt), Array.getElem_modify_self, hk]
  simp
theorem Blk.setOther {b' j : Nat} (h : Blk w b e cs) (hne : b ≠ b') (v : Value) : Blk (w.setCell ⟨b', j, none⟩ v) b e cs := by
  show (w.setCell ⟨b', j, none⟩ v).heap[b]? = _
  rw [Below.heap_setCell _ _ _ _ (by simpa using hne)]; exact h
end

theorem grownBy_set (w : World) (b j : Nat) (v : Value) : w.grownBy (w.setCell ⟨b, j, none⟩ v) (some b) :=
  ⟨rfl, rfl, rfl, (KeepsWalks.setCell w _ v).size, fun k _ hk => Below.heap_setCell _ _ _ k (fun e => hk (by rw [e]))⟩

/-- Two steps: the second may write the row of the first, or what the first has laid. -/
theorem grownBy_trans {a b c : World} {r s : Option Nat} (h : a.grownBy b r) (k : b.grownBy c s) (hs : ∀ i, s = some i → r = some i ∨ a.heap.size ≤ i) : a.grownBy c r :=
  ⟨k.os.trans h.os, k.tape.trans h.tape, k.output.trans h.output, Nat.le_trans h.size k.size, fun i hi hr =>
    (k.block i (Nat.lt_of_lt_of_le hi h.size) (fun e => by rcases hs i e.symm with h1 | h1; exact hr h1.symm; omega)).trans (h.block i hi hr)⟩

theorem grownBy_below {a b : World} {r : Option Nat} (h : a.grownBy b r) (hr : ∀ i, r = some i → a.heap.size ≤ i) : Below a.heap.size a b :=
  ⟨h.os, h.tape, h.output, h.size, fun k hk => h.block k hk (fun e => by have := hr k e.symm; omega)⟩

theorem below_grownBy {a b : World} (h : Below a.heap.size a b) (r : Option Nat) : a.grownBy b r := ⟨h.os, h.tape, h.output, h.size, fun k hk _ => h.block k hk⟩

theorem grownBy_none {a b : World} (h : a.grownBy b none) (r : Option Nat) : a.grownBy b r := below_grownBy (grownBy_below h (fun i e => by cases e)) r

theorem grownBy_drew (w : World) (r : Option Nat) : w.grownBy w.drew r := ⟨rfl, rfl, rfl, Nat.le_refl _, fun _ _ _ => rfl⟩

/-- The bytes of a number, the highest first; the lowest first. -/
def hiB : Nat → Nat → List UInt8
  | 0, _ => []
  | k + 1, v => UInt8.ofNat (v / 256 ^ k) :: hiB k v
def loB : Nat → Nat → List UInt8
  | 0, _ => []
  | k + 1, v => loB k v ++ [UInt8.ofNat (v / 256 ^ k)]
theorem hiB_length (k v : Nat) : (hiB k v).length = k := by induction k <;> simp [hiB, *]
theorem loB_length (k v : Nat) : (loB k v).length = k := by induction k <;> simp [loB, *]

/-- What stands in a row when its cells from off on are overwritten. -/
def over (cs : List Value) (off : Nat) (new : List Value) : List Value := cs.take off ++ new ++ cs.drop (off + new.length)
theorem over_length {cs new : List Value} {off : Nat} (h : off + new.length ≤ cs.length) : (over cs off new).length = cs.length := by
  simp [over]; omega
theorem over_nil (cs : List Value) (off : Nat) : over cs off [] = cs := by simp [over]
theorem over_get {cs new : List Value} {off : Nat} (h : off + new.length ≤ cs.length) (j : Nat) : (over cs off new)[j]? = if off ≤ j ∧ j < off + new.length then new[j - off]? else cs[j]? := by
  unfold over
  rw [List.append_assoc]
  have hto : (cs.take off).length = off := by simp; omega
  rcases Nat.lt_or_ge j off with h1 | h1
  · rw [List.getElem?_append_left (by rw [hto]; exact h1), if_neg (by omega), List.getElem?_take, if_pos h1]
  · rw [List.getElem?_append_right (by rw [hto]; exact h1), hto]
    rcases Nat.lt_or_ge j (off + new.length) with h2 | h2
    · rw [List.getElem?_append_left (by omega), if_pos ⟨h1, h2⟩]
    · rw [List.getElem?_append_right (by omega), if_neg (by omega), List.getElem?_drop]
      congr 1; omega
theorem over_set_front {cs new : List Value} {off : Nat} (v : Value) (h : off + 1 + new.length ≤ cs.length) : (over cs (off + 1) new).set off v = over cs off (v :: new) := by
  apply List.ext_getElem?
  intro j
  rw [List.getElem?_set, over_get (by simpa using h), over_get (by simp; omega), over_length (by simpa using h)]
  by_cases e : off = j
  · subst e
    rw [if_pos rfl, if_pos (by omega), if_pos (by simp)]
    simp
  · rw [if_neg e]
    by_cases h1 : off + 1 ≤ j ∧ j < off + 1 + new.length
    · rw [if_pos h1, if_pos (by simp; omega), show j - off = (j - (off + 1)) + 1 from by omega, List.getElem?_cons_succ]
    · rw [if_neg h1, if_neg (by simp; omega)]
theorem over_set_back {cs new : List Value} {off : Nat} (v : Value) (h : off + new.length + 1 ≤ cs.length) : (over cs off new).set (off + new.length) v = over cs off (new ++ [v]) := by
  apply List.ext_getElem?
  intro j
  rw [List.getElem?_set, over_get (by omega), over_get (by simp; omega), over_length (by omega)]
  by_cases e : off + new.length = j
  · subst e
    rw [if_pos rfl, if_pos (by omega), if_pos (by simp)]
    simp
  · rw [if_neg e]
    by_cases h1 : off ≤ j ∧ j < off + new.length
    · rw [if_pos h1, if_pos (by simp; omega), List.getElem?_append_left (by omega)]
    · rw [if_neg h1, if_neg (by simp; omega)]

end Go.Proofs.Ytfdhaochnbfndaa
