/- Texts joined: Pl Rdr Rdi Rdm Rdj Eq4 Rdc Rda Rdb Rdp Rdl Rdv Rds Rdx Rdy Rdz. -/
import Derived.Test.YtngbfjimmdkfeaaJC
import Derived.Test.YtngbfjimmdkfeaaJA
import Derived.Outline
import Derived.Laws.StructEq
import Derived.Test.YtngbfjimmdkfeaaJB
import Derived.Defers
import Derived.Recover
import Derived.WalkLawsBesides
import Derived.Test.YtngbfjimmdkfeaaJG
set_option linter.unusedVariables false
set_option linter.unusedSimpArgs false
namespace Go.Proofs.Ytngbfjimmdkfeaa
open Go.RowKit

/-- What reading comes to: a value and what is left; or it gives up there. -/
inductive Rd (α : Type) where
  | ok (v : α) (r : List UInt8)
  | bad (r : List UInt8)

def Rd.bind {α β : Type} (x : Rd α) (f : α → List UInt8 → Rd β) : Rd β :=
  match x with
  | .ok v r => f v r
  | .bad r => .bad r
@[simp] theorem Rd.bind_ok {α β : Type} (v : α) (r : List UInt8) (f : α → List UInt8 → Rd β) : (Rd.ok v r).bind f = f v r := rfl
@[simp] theorem Rd.bind_bad {α β : Type} (r : List UInt8) (f : α → List UInt8 → Rd β) : (Rd.bad r : Rd α).bind f = .bad r := rfl

/-- An expression. -/
structure Ex where
  h : Hd
  k : Fo
def reps : List UInt8 := [42, 43, 63]
def repsP : Ex → List UInt8 → Ex × List UInt8
  | x, [] => (x, [])
  | x, c :: r => if 0 ≤ Lib.indexByte reps c then repsP ⟨⟨5 + Lib.indexByte reps c, []⟩, .cons x.h x.k .nil⟩ r else (x, c :: r)

/-- What stands from a place on. -/
structure Suf (s : ByteArray) (a : Nat) (r : List UInt8) : Prop where
  le : a ≤ s.size
  eq : s.data.toList.drop a = r
theorem dlen (s : ByteArray) : s.data.toList.length = s.size := by rw [Array.length_toList]; rfl
theorem Suf.len {s : ByteArray} {a : Nat} {r : List UInt8} (h : Suf s a r) : a + r.length = s.size := by
  have := congrArg List.length h.eq
  rw [List.length_drop, dlen] at this
  have := h.le
  omega
theorem Suf.nil {s : ByteArray} {a : Nat} (h : Suf s a []) : a = s.size := by have := h.len; simpa using this
theorem Suf.cons {s : ByteArray} {a : Nat} {c : UInt8} {r : List UInt8} (h : Suf s a (c :: r)) : ∃ hlt : a < s.size, s[a] = c ∧ Suf s (a + 1) r := by
  have hl := h.len
  simp only [List.length_cons] at hl
  have hlt : a < s.size := by omega
  refine ⟨hlt, ?_, by omega, ?_⟩
  · have := h.eq
    rw [List.drop_eq_getElem_cons (by rw [dlen]; exact hlt)] at this
    exact (List.cons.inj this).1
  · have := h.eq
    rw [List.drop_eq_getElem_cons (by rw [dlen]; exact hlt)] at this
    exact (List.cons.inj this).2
theorem Suf.head {s : ByteArray} {a : Nat} {r : List UInt8} (h : Suf s a r) : (a = s.size ∧ r = []) ∨ ∃ (hlt : a < s.size) (r1 : List UInt8), r = s[a] :: r1 ∧ Suf s (a + 1) r1 := by
  cases r with
  | nil => exact .inl ⟨h.nil, rfl⟩
  | cons c r => obtain ⟨hlt, e, h2⟩ := h.cons; exact .inr ⟨hlt, r, by rw [e], h2⟩
end Go.Proofs.Ytngbfjimmdkfeaa

namespace Go.Proofs.Ytngbfjimmdkfeaa
open Go.RowKit Go.Shelf

attribute [local go_sem] Oper.semAt_some

theorem grownBy_refl (w : World) (r : Option Nat) : w.grownBy w r := ⟨rfl, rfl, rfl, Nat.le_refl _, fun _ _ _ => rfl⟩

end Go.Proofs.Ytngbfjimmdkfeaa

namespace Go.Proofs.Ytngbfjimmdkfeaa
open Go.RowKit Go.Shelf

attribute [local go_sem] Oper.semAt_some

theorem Sps.setOther {w : World} {a : Option Addr} {cap b' j : Nat} {l : List Sp} (h : Sps w a cap l) (hne : ∀ b off, a = some ⟨b, off, none⟩ → b ≠ b') (v : Value) : Sps (w.setCell ⟨b', j, none⟩ v) a cap l :=
  ⟨h.le, h.max, h.nil_, h.at_, fun b off e i hi => by
    have hc : ∀ o, (w.setCell ⟨b', j, none⟩ v).cell? ⟨b, o, none⟩ = w.cell? ⟨b, o, none⟩ := fun o => by
      simp only [World.cell?]
      rw [Below.heap_setCell _ _ _ _ (by simpa using hne b off e)]
    exact ⟨(hc _).trans (h.cell b off e i hi).1, (hc _).trans (h.cell b off e i hi).2⟩⟩
end Go.Proofs.Ytngbfjimmdkfeaa

namespace Go.Proofs.Ytngbfjimmdkfeaa
open Go.RowKit

/-- A slice of spans in blocks of which p holds. -/
structure SpsP (p : Nat → Prop) (w : World) (a : Option Addr) (cap : Nat) (l : List Sp) : Prop where
  sps : Sps w a cap l
  loc : ∀ b off, a = some ⟨b, off, none⟩ → 0 < l.length → p b
/-- The cells from an address on read as these expressions, all in blocks of which p holds. -/
def ElemsP (p : Nat → Prop) (w : World) : Fo → Nat → Nat → Prop
  | .nil, _, _ => True
  | .cons h kids rest, b, off =>
    p b ∧ w.cell? ⟨b, off, none⟩ = some (.int .i64 h.k) ∧ (∃ sa sc, w.cell? ⟨b, off + 1, none⟩ = some (.slice sa h.set.length sc) ∧ SpsP p w sa sc h.set) ∧
    (∃ a cap, w.cell? ⟨b, off + 2, none⟩ = some (.slice a kids.len cap) ∧ kids.len ≤ cap ∧ cap ≤ 9223372036854775807 ∧ (a = none → cap = 0) ∧ (0 < kids.len → ∃ b' off', a = some ⟨b', off', none⟩ ∧ ElemsP p w kids b' off')) ∧
    ElemsP p w rest b (off + 3)
structure ItemsP (p : Nat → Prop) (w : World) (a : Option Addr) (cap : Nat) (f : Fo) : Prop where
  le : f.len ≤ cap
  max : cap ≤ 9223372036854775807
  nil_ : a = none → cap = 0
  at_ : 0 < f.len → ∃ b off, a = some ⟨b, off, none⟩ ∧ ElemsP p w f b off

theorem ElemsP.elems {p : Nat → Prop} {w : World} : ∀ (f : Fo) (b off : Nat), ElemsP p w f b off → Elems w f b off := by
  intro f
  induction f with
  | nil => intro b off _; trivial
  | cons h kids rest ihk ihr =>
    rintro b off ⟨_, h1, ⟨sa, sc, h2, h3⟩, ⟨a, cap, h4, h5, h6, h7, h8⟩, h9⟩
    exact ⟨h1, ⟨sa, sc, h2, h3.sps⟩, ⟨a, cap, h4, h5, h6, h7, fun hn => by obtain ⟨b', o', e, hk⟩ := h8 hn; exact ⟨b', o', e, ihk _ _ hk⟩⟩, ihr _ _ h9⟩
theorem ItemsP.items {p : Nat → Prop} {w : World} {a : Option Addr} {cap : Nat} {f : Fo} (h : ItemsP p w a cap f) : Items w a cap f :=
  ⟨h.le, h.max, h.nil_, fun hn => by obtain ⟨b, o, e, hk⟩ := h.at_ hn; exact ⟨b, o, e, hk.elems f b o⟩⟩
theorem cell_move {w w' : World} {b : Nat} (hb : w'.heap[b]? = w.heap[b]?) (o : Nat) : w'.cell? ⟨b, o, none⟩ = w.cell? ⟨b, o, none⟩ := by
  simp only [World.cell?]
  rw [hb]
theorem SpsP.move {p q : Nat → Prop} {w w' : World} {a : Option Addr} {cap : Nat} {l : List Sp} (h : SpsP p w a cap l) (hm : ∀ b, p b → b < w.heap.size → q b ∧ w'.heap[b]? = w.heap[b]?) : SpsP q w' a cap l := by
  have hlt : ∀ b off, a = some ⟨b, off, none⟩ → 0 < l.length → p b ∧ b < w.heap.size := fun b off e h0 => ⟨h.loc b off e h0, World.block_lt_of_cell? w _ (h.sps.cell b off e 0 h0).1⟩
  refine ⟨⟨h.sps.le, h.sps.max, h.sps.nil_, h.sps.at_, fun b off e i hi => ?_⟩, fun b off e h0 => (hm b (hlt b off e h0).1 (hlt b off e h0).2).1⟩
  have h0 : 0 < l.length := by omega
  have hb := (hm b (hlt b off e h0).1 (hlt b off e h0).2).2
  exact ⟨(cell_move hb _).trans (h.sps.cell b off e i hi).1, (cell_move hb _).trans (h.sps.cell b off e i hi).2⟩
theorem ElemsP.move {p q : Nat → Prop} {w w' : World} (hm : ∀ b, p b → b < w.heap.size → q b ∧ w'.heap[b]? = w.heap[b]?) : ∀ (f : Fo) (b off : Nat), ElemsP p w f b off → ElemsP q w' f b off := by
  intro f
  induction f with
  | nil => intro b off _; trivial
  | cons h kids rest ihk ihr =>
    rintro b off ⟨hp, h1, ⟨sa, sc, h2, h3⟩, ⟨a, cap, h4, h5, h6, h7, h8⟩, h9⟩
    obtain ⟨hq, hb⟩ := hm b hp (World.block_lt_of_cell? w _ h1)
    have hc : ∀ o v, w.cell? ⟨b, o, none⟩ = some v → w'.cell? ⟨b, o, none⟩ = some v := fun o v hv => (cell_move hb o).trans hv
    exact ⟨hq, hc _ _ h1, ⟨sa, sc, hc _ _ h2, h3.move hm⟩, ⟨a, cap, hc _ _ h4, h5, h6, h7, fun hn => by obtain ⟨b', o', e, hk⟩ := h8 hn; exact ⟨b', o', e, ihk _ _ hk⟩⟩, ihr _ _ h9⟩
theorem ItemsP.move {p q : Nat → Prop} {w w' : World} {a : Option Addr} {cap : Nat} {f : Fo} (h : ItemsP p w a cap f) (hm : ∀ b, p b → b < w.heap.size → q b ∧ w'.heap[b]? = w.heap[b]?) : ItemsP q w' a cap f :=
  ⟨h.le, h.max, h.nil_, fun hn => by obtain ⟨b, o, e, hk⟩ := h.at_ hn; exact ⟨b, o, e, ElemsP.move hm f b o hk⟩⟩
theorem ItemsP.nil (p : Nat → Prop) (w : World) : ItemsP p w none 0 .nil := ⟨by simp [Fo.len], by omega, fun _ => rfl, fun h => by simp [Fo.len] at h⟩
theorem SpsP.nil (p : Nat → Prop) (w : World) : SpsP p w none 0 [] := ⟨Sps.nil w, fun _ _ e => by cases e⟩

/-- An expression that was read: what it holds, its parts, and where they lie. -/
structure Ea where
  x : Ex
  sa : Option Addr
  sc : Nat
  a : Option Addr
  c : Nat
def Ea.row (e : Ea) : List Value := [.int .i64 e.x.h.k, .slice e.sa e.x.h.set.length e.sc, .slice e.a e.x.k.len e.c]
structure EaP (p : Nat → Prop) (w : World) (e : Ea) : Prop where
  sps : SpsP p w e.sa e.sc e.x.h.set
  items : ItemsP p w e.a e.c e.x.k
theorem EaP.move {p q : Nat → Prop} {w w' : World} {e : Ea} (h : EaP p w e) (hm : ∀ b, p b → b < w.heap.size → q b ∧ w'.heap[b]? = w.heap[b]?) : EaP q w' e := ⟨h.sps.move hm, h.items.move hm⟩
def rowE : List Ea → List Value
  | [] => []
  | e :: r => e.row ++ rowE r
theorem rowE_snoc (es : List Ea) (e : Ea) : rowE (es ++ [e]) = rowE es ++ e.row := by
  induction es with
  | nil => simp [rowE]
  | cons x r ih => simp [rowE, ih]
theorem info_re : (Try.prog.info? 45).map (fun i => (i.zero, i.size, i.bytes)) = some (some (.agg #[.int .i64 0, .slice none 0 0, .slice none 0 0]), 3, 56) := by kernel_rfl

theorem new_cells3 (W : World) (v1 v2 v3 : Value) (t : TypeId) : ∀ j u, [v1, v2, v3][j]? = some u → (W.alloc (.cells #[v1, v2, v3] t)).cell? ((⟨W.heap.size, 0, none⟩ : Addr).add j) = some u := by
  intro j u h
  have hb := Blk.new W t #[v1, v2, v3]
  rw [show (⟨W.heap.size, 0, none⟩ : Addr).add j = ⟨W.heap.size, 0 + j, none⟩ from by unfold Addr.add; split <;> simp_all, Nat.zero_add, hb.cell j]
  exact h

/-- append of one expression onto an own row; the row stays where it is, or goes into a new block. -/
theorem run_item (w : World) (ty : TypeId) {base n cap : Nat} {a : Option Addr} {row : List Value} (e : Ea) (hown : w.ownsRow base 45 3 (.slice a n cap) n row) (hn : n + 1 ≤ 2147483648) (hbase : base ≤ w.heap.size) :
    ∃ a' cap' w', (Builtin.append_ #[42, 42] ty #[.slice a n cap, .slice (some ⟨w.heap.size, 0, none⟩) 1 1]).run Try.prog (w.alloc (.cells #[.int .i64 e.x.h.k, .slice e.sa e.x.h.set.length e.sc, .slice e.a e.x.k.len e.c] 45)) = .ok (.slice a' (n + 1) cap') w' ∧
      w'.ownsRow base 45 3 (.slice a' (n + 1) cap') (n + 1) (row ++ e.row) ∧ w.grownBy w' (Value.slice a n cap).ownBlock ∧ New w.heap.size a a' := by
  obtain ⟨i0, hi, hz0, hz1, hz2⟩ := info_parts info_re
  have hc := new_cells3 w (.int .i64 e.x.h.k) (.slice e.sa e.x.h.set.length e.sc) (.slice e.a e.x.k.len e.c) 45
  have h1 : ∀ u ∈ [Value.int .i64 e.x.h.k, .slice e.sa e.x.h.set.length e.sc, .slice e.a e.x.k.len e.c], u.oneCell' = true := by simp [Value.oneCell']
  have hown2 : (w.alloc (.cells #[.int .i64 e.x.h.k, .slice e.sa e.x.h.set.length e.sc, .slice e.a e.x.k.len e.c] 45)).ownsRow base 45 3 (.slice a n cap) n row := hown.alloc _
  obtain ⟨v', w', hrun, ho, hg, _⟩ := run_append_own (P := Try.prog) (w.alloc (.cells #[.int .i64 e.x.h.k, .slice e.sa e.x.h.set.length e.sc, .slice e.a e.x.k.len e.c] 45)) base 42 ty 45 i0 _ 3 56 Try.underlying42 hi hz0 hz1 hz2 rfl (by decide) _ n _ hown2 ⟨w.heap.size, 0, none⟩ 1 1 [.int .i64 e.x.h.k, .slice e.sa e.x.h.set.length e.sc, .slice e.a e.x.k.len e.c] rfl hc h1 (by unfold maxLen; omega) (by omega) (by simp; omega)
  obtain ⟨a', cap', rfl⟩ := slice_of_own ho
  refine ⟨a', cap', w', hrun, ho, grownBy_trans (World.grownBy_alloc w _ _) hg (fun i e => .inl e), ?_⟩
  rcases hown2.2 with ⟨e1, e0⟩ | ⟨g, cap2, cur, e1, hbg, hg2, hnc, hcm, hcs, htake⟩
  · cases e1
    have hr := run_append_nil (P := Try.prog) (w.alloc (.cells #[.int .i64 e.x.h.k, .slice e.sa e.x.h.set.length e.sc, .slice e.a e.x.k.len e.c] 45)) 42 ty 45 i0 _ Try.underlying42 hi hz0 ⟨w.heap.size, 0, none⟩ 1 1 [.int .i64 e.x.h.k, .slice e.sa e.x.h.set.length e.sc, .slice e.a e.x.k.len e.c] (by rw [hz1]; rfl) hc (by omega) (by omega) (by rw [hz2]; omega)
    rw [hr] at hrun
    simp only [Result.ok.injEq, Value.slice.injEq] at hrun
    exact .inr ⟨_, hrun.1.1.symm, by simp⟩
  · simp only [Value.slice.injEq, true_and] at e1
    obtain ⟨rfl, rfl⟩ := e1
    by_cases hroom : n + 1 ≤ cap
    · obtain ⟨w2, hr, _, _⟩ := run_append_fits (P := Try.prog) (w.alloc (.cells #[.int .i64 e.x.h.k, .slice e.sa e.x.h.set.length e.sc, .slice e.a e.x.k.len e.c] 45)) base 42 ty 45 i0 3 Try.underlying42 hi hz1 g n cap _ hown2 ⟨w.heap.size, 0, none⟩ 1 1 [.int .i64 e.x.h.k, .slice e.sa e.x.h.set.length e.sc, .slice e.a e.x.k.len e.c] rfl hc h1 hroom
      rw [hr] at hrun
      simp only [Result.ok.injEq, Value.slice.injEq] at hrun
      exact .inl hrun.1.1.symm
    · have holds : ∀ j u, row[j]? = some u → (w.alloc (.cells #[.int .i64 e.x.h.k, .slice e.sa e.x.h.set.length e.sc, .slice e.a e.x.k.len e.c] 45)).cell? ((⟨g, 0, none⟩ : Addr).add j) = some u := hown2.cells (g := g) rfl
      have hr := run_append_grow (P := Try.prog) (w.alloc (.cells #[.int .i64 e.x.h.k, .slice e.sa e.x.h.set.length e.sc, .slice e.a e.x.k.len e.c] 45)) 42 ty 45 i0 _ Try.underlying42 hi hz0 ⟨g, 0, none⟩ n cap row (by rw [hown2.1, hz1]) holds ⟨w.heap.size, 0, none⟩ 1 1 [.int .i64 e.x.h.k, .slice e.sa e.x.h.set.length e.sc, .slice e.a e.x.k.len e.c] (by rw [hz1]; rfl) hc (by omega) (by omega) (growslice_fits (by omega) (by rw [hz2]; omega))
      rw [hr] at hrun
      simp only [Result.ok.injEq, Value.slice.injEq] at hrun
      exact .inr ⟨_, hrun.1.1.symm, by simp⟩
end Go.Proofs.Ytngbfjimmdkfeaa

namespace Go.Proofs.Ytngbfjimmdkfeaa
open Go.RowKit Go.Shelf

attribute [local go_sem] Oper.semAt_some

end Go.Proofs.Ytngbfjimmdkfeaa

namespace Go.Proofs.Ytngbfjimmdkfeaa
open Go.RowKit

end Go.Proofs.Ytngbfjimmdkfeaa

namespace Go.Proofs.Ytngbfjimmdkfeaa
open Go.RowKit Go.Shelf

attribute [local go_sem] Oper.semAt_some

end Go.Proofs.Ytngbfjimmdkfeaa

namespace Go.Proofs.Ytngbfjimmdkfeaa
open Go.RowKit Go.Shelf

attribute [local go_sem] Oper.semAt_some

end Go.Proofs.Ytngbfjimmdkfeaa

namespace Go.Proofs.Ytngbfjimmdkfeaa
open Go.RowKit Go.Shelf

attribute [local go_sem] Oper.semAt_some

/-- One span that was written out. -/
theorem Sps.lit (w : World) (sp : Sp) : Sps (w.alloc (.cells #[.int .u8 (sp.lo.toNat : Int), .int .u8 (sp.hi.toNat : Int)] 55)) (some ⟨w.heap.size, 0, none⟩) 1 [sp] := by
  have hB := Blk.new w 55 #[.int .u8 (sp.lo.toNat : Int), .int .u8 (sp.hi.toNat : Int)]
  refine ⟨by simp, by omega, fun e => (by cases e), fun i _ => ⟨_, _, rfl⟩, fun b off e i hi => ?_⟩
  cases e
  have : i = 0 := by simpa using hi
  subst this
  exact ⟨hB.cell 0, hB.cell 1⟩

end Go.Proofs.Ytngbfjimmdkfeaa

namespace Go.Proofs.Ytngbfjimmdkfeaa
open Go.RowKit Go.Shelf

attribute [local go_sem] Oper.semAt_some

end Go.Proofs.Ytngbfjimmdkfeaa

namespace Go.Proofs.Ytngbfjimmdkfeaa
open Go.RowKit Go.Shelf

/-- The list so far: an own row, whose expressions lie beside it. -/
structure Lst (n0 : Nat) (W : World) (es : List Ea) (A : Option Addr) (C : Nat) : Prop where
  own : W.ownsRow n0 45 3 (.slice A es.length C) es.length (rowE es)
  eas : ∀ e ∈ es, EaP (fun b => n0 ≤ b ∧ b < W.heap.size ∧ (Value.slice A es.length C).ownBlock ≠ some b) W e
theorem Lst.lt {n0 : Nat} {W : World} {es : List Ea} {A : Option Addr} {C : Nat} (h : Lst n0 W es A C) : ∀ i, (Value.slice A es.length C).ownBlock = some i → n0 ≤ i ∧ i < W.heap.size := by
  intro i e
  rcases h.own.2 with ⟨e1, _⟩ | ⟨g, c, cur, e1, hb, hg, _⟩
  · rw [e1] at e; cases e
  · rw [e1] at e
    cases e
    exact ⟨hb, (Array.getElem?_eq_some_iff.1 hg).1⟩
theorem Lst.nil (n0 : Nat) (W : World) : Lst n0 W [] none 0 := ⟨World.ownsRow_nil W n0 _ 3, fun e he => by cases he⟩
/-- A world that has left alone what lies from n0 on. -/
theorem Lst.kept {n0 : Nat} {W W' : World} {es : List Ea} {A : Option Addr} {C : Nat} (h : Lst n0 W es A C) {r : Option Nat} (hg : W.grownBy W' r) (hr : ∀ i, r = some i → i < n0) : Lst n0 W' es A C :=
  ⟨by
    by_cases hA : (Value.slice A es.length C).ownBlock = none
    · exact h.own.kept hg (.inl hA)
    · refine h.own.kept hg (.inr fun e => ?_)
      cases hr2 : r with
      | none => exact hA (e.trans hr2)
      | some i => have := h.lt i (e.trans hr2); have := hr i hr2; omega,
   fun e he => (h.eas e he).move fun b hp hlt => ⟨⟨hp.1, Nat.lt_of_lt_of_le hp.2.1 hg.size, hp.2.2⟩, hg.block b hlt (fun e => by have := hr b e.symm; omega)⟩⟩

/-- One expression more, which was read since. -/
theorem Lst.push {n0 : Nat} {W : World} {es : List Ea} {A : Option Addr} {C : Nat} (h : Lst n0 W es A C) (ea : Ea) (he : EaP (fun b => n0 ≤ b ∧ b < W.heap.size ∧ (Value.slice A es.length C).ownBlock ≠ some b) W ea) (hn : es.length + 1 ≤ 2147483648) (hbase : n0 ≤ W.heap.size) (ty : TypeId) :
    ∃ a' c' w', (Builtin.append_ #[42, 42] ty #[.slice A es.length C, .slice (some ⟨W.heap.size, 0, none⟩) 1 1]).run Try.prog (W.alloc (.cells #[.int .i64 ea.x.h.k, .slice ea.sa ea.x.h.set.length ea.sc, .slice ea.a ea.x.k.len ea.c] 45)) = .ok (.slice a' (es.length + 1) c') w' ∧
      Lst n0 w' (es ++ [ea]) a' c' ∧ W.grownBy w' (Value.slice A es.length C).ownBlock := by
  obtain ⟨a', c', w', hrun, ho, hg, hnw⟩ := run_item W ty ea h.own hn hbase
  refine ⟨a', c', w', hrun, ⟨?_, fun e hm => ?_⟩, hg⟩
  · rw [List.length_append, rowE_snoc]; exact ho
  · have hq : EaP (fun b => n0 ≤ b ∧ b < W.heap.size ∧ (Value.slice A es.length C).ownBlock ≠ some b) W e := by
      rcases List.mem_append.1 hm with hm | hm
      · exact h.eas e hm
      · rw [List.mem_singleton.1 hm]; exact he
    refine hq.move fun b hp hlt => ⟨⟨hp.1, Nat.lt_of_lt_of_le hp.2.1 hg.size, fun e => ?_⟩, hg.block b hlt (fun e => hp.2.2 e.symm)⟩
    rcases hnw.block (l := es.length) (c := C) b e with h1 | h1
    · exact hp.2.2 h1
    · omega
end Go.Proofs.Ytngbfjimmdkfeaa

namespace Go.Proofs.Ytngbfjimmdkfeaa
open Go.RowKit Go.Shelf

attribute [local go_sem] Oper.semAt_some

end Go.Proofs.Ytngbfjimmdkfeaa

namespace Go.Proofs.Ytngbfjimmdkfeaa
open Go.RowKit Go.Shelf

attribute [local go_sem] Oper.semAt_some

end Go.Proofs.Ytngbfjimmdkfeaa

namespace Go.Proofs.Ytngbfjimmdkfeaa
open Go.RowKit Go.Shelf

attribute [local go_sem] Oper.semAt_some

end Go.Proofs.Ytngbfjimmdkfeaa

namespace Go.Proofs.Ytngbfjimmdkfeaa
open Go.RowKit Go.Shelf

attribute [local go_sem] Oper.semAt_some

end Go.Proofs.Ytngbfjimmdkfeaa

namespace Go.Proofs.Ytngbfjimmdkfeaa
open Go.RowKit Go.Shelf

attribute [local go_sem] Oper.semAt_some

end Go.Proofs.Ytngbfjimmdkfeaa

