/- A frame by the kind of block: of what lay, rows of one element type at or beyond base alone may have turned. -/
import Derived.Test.YtahibjiiaocjkaaAppend
import Derived.Test.YtahibjiiaocjkaaRange
namespace Go.Proofs.Ytahibjiiaocjkaa
open Go.RowKit

structure Only (base : Nat) (t : TypeId) (w w' : World) : Prop where
  os : w'.os = w.os
  tape : w'.tape = w.tape
  output : w'.output = w.output
  size : w.heap.size ≤ w'.heap.size
  same : ∀ (k : Nat) (o : Obj), w.heap[k]? = some o → (k < base ∨ ∀ (cs : Array Value) (fr : Nat × Nat), o ≠ Obj.cells cs t fr) → w'.heap[k]? = some o

section
variable {base : Nat} {t : TypeId} {w w' w'' : World}
theorem Only.refl (base : Nat) (t : TypeId) (w : World) : Only base t w w := ⟨rfl, rfl, rfl, Nat.le_refl _, fun _ _ h _ => h⟩
theorem Only.trans (h : Only base t w w') (k : Only base t w' w'') : Only base t w w'' :=
  ⟨k.os.trans h.os, k.tape.trans h.tape, k.output.trans h.output, Nat.le_trans h.size k.size, fun i o hi ho => k.same i o (h.same i o hi ho) ho⟩
theorem Only.of_grownBy {row : Option Nat} (hg : w.grownBy w' row) (hr : ∀ i, row = some i → base ≤ i ∧ ∃ (cs : Array Value) (fr : Nat × Nat), w.heap[i]? = some (Obj.cells cs t fr)) : Only base t w w' :=
  ⟨hg.os, hg.tape, hg.output, hg.size, fun k o hk ho => by
    refine (hg.block k (Array.getElem?_eq_some_iff.1 hk).1 (fun e => ?_)).trans hk
    obtain ⟨h1, cs, fr, h2⟩ := hr k e.symm
    rw [hk] at h2; cases h2
    rcases ho with ho | ho
    · omega
    · exact ho cs fr rfl⟩
theorem Only.of_none (hg : w.grownBy w' none) : Only base t w w' := Only.of_grownBy hg (fun i e => by cases e)
theorem Only.alloc (w : World) (o : Obj) : Only base t w (w.alloc o) := Only.of_none (World.grownBy_alloc w o none)
theorem Only.drew (w : World) : Only base t w w.drew := ⟨rfl, rfl, rfl, Nat.le_refl _, fun _ _ h _ => h⟩
theorem Only.below (h : Only base t w w') {B : Nat} (hB : B ≤ base) (hs : B ≤ w.heap.size) : Below B w w' :=
  ⟨h.os, h.tape, h.output, h.size, fun k hk => by
    have hlt : k < w.heap.size := by omega
    exact (h.same k _ (Array.getElem?_eq_getElem hlt) (.inl (by omega))).trans (Array.getElem?_eq_getElem hlt).symm⟩
theorem Only.mono (h : Only base t w w') {b2 : Nat} (hb : b2 ≤ base) : Only b2 t w w' :=
  ⟨h.os, h.tape, h.output, h.size, fun k o hk ho => h.same k o hk (ho.elim (fun h1 => .inl (by omega)) .inr)⟩
theorem Only.fromBelow (h : Below w.heap.size w w') : Only base t w w' :=
  ⟨h.os, h.tape, h.output, h.size, fun k o hk _ => (h.block k (Array.getElem?_eq_some_iff.1 hk).1).trans hk⟩
theorem Only.blk (h : Only base t w w') {b e : Nat} {cs : List Value} (hb : Blk w b e cs) (hne : e ≠ t) : Blk w' b e cs :=
  h.same b _ hb (.inr (fun cs' fr e' => by cases e'; exact hne rfl))
theorem Only.boxed (h : Only base t w w') {b e : Nat} {v : Value} (hb : Boxed w b e v) (hne : e ≠ t) : Boxed w' b e v :=
  h.same b _ hb (.inr (fun cs' fr e' => by cases e'; exact hne rfl))
theorem Only.spares (h : Only base t w w') {n₀ : Nat} {T : TypeId → Bool} (hn : n₀ ≤ base) (hs : n₀ ≤ w.heap.size) (hT : T t = false) : Spares n₀ T w w' :=
  ⟨h.below hn hs, fun k cs t' fr hk ht => h.same k _ hk (.inr (fun cs' fr' e => by cases e; rw [hT] at ht; cases ht))⟩
theorem Only.keeps (h : Only base t w w') (B : Nat) : KeepsFrom B w w' :=
  ⟨h.size, fun k o _ hk hc => h.same k o hk (.inr (fun cs' fr' e => by subst e; cases hc))⟩
theorem Only.bytes (h : Only base t w w') {a : Option Addr} {cap : Nat} {xs : List UInt8} (hb : Bytes w a cap xs) (ha : ∀ b off, a = some ⟨b, off, none⟩ → b < base) : Bytes w' a cap xs :=
  ⟨hb.le, hb.max, hb.at_, fun b off e i hi => by
    have hc := hb.cell b off e i hi
    have hlt := World.block_lt_of_cell? w _ hc
    have hk := h.same b _ (Array.getElem?_eq_getElem hlt) (.inl (ha b off e))
    exact (World.cell?_of_block (w := w) (a := ⟨b, off + i, none⟩) (by rw [Array.getElem?_eq_getElem hlt]; exact hk)).trans hc, hb.nil_⟩
end

theorem OwnB.row {w : World} {base n cap : Nat} {a : Option Addr} {xs : List UInt8} (h : OwnB w base a n cap xs) : ∀ i, (Value.slice a n cap).ownBlock = some i → base ≤ i ∧ ∃ (cs : Array Value) (fr : Nat × Nat), w.heap[i]? = some (Obj.cells cs 5 fr) := by
  intro i e
  rcases h.2 with ⟨e1, _⟩ | ⟨g, c, cur, e1, hb, hg, _⟩
  · rw [e1] at e; simp [Value.ownBlock] at e
  · rw [e1] at e
    simp only [Value.ownBlock, Option.some.injEq] at e
    subst e
    exact ⟨hb, cur, _, hg⟩

theorem OwnB.only {w w' : World} {base n cap : Nat} {a : Option Addr} {xs : List UInt8} (h : OwnB w base a n cap xs) (hg : w.grownBy w' (Value.slice a n cap).ownBlock) : Only base 5 w w' := Only.of_grownBy hg h.row

end Go.Proofs.Ytahibjiiaocjkaa
