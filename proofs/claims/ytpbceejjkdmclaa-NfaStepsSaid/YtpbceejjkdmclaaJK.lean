/- Texts of layer 2 joined: Rdm Rdj Rda Rdb Rdp Rdl Rdv Rds Rdx Rdy Rdz. -/
import Derived.Test.YtpbceejjkdmclaaJJ
import Derived.Test.YtpbceejjkdmclaaJB
import Derived.Defers
import Derived.Recover
import Derived.WalkLawsBesides
import Derived.Test.YtpbceejjkdmclaaJI
set_option linter.unusedVariables false
set_option linter.unusedSimpArgs false
/- Expressions that were read, where they lie; a row of expressions of the call's own grows by one. -/
namespace Go.Proofs.Ytpbceejjkdmclaa
open Go.RowKit

/-- A slice of spans in blocks of which p holds. -/
structure SpsP (p : Nat → Prop) (w : World) (a : Option Addr) (cap : Nat) (l : List Sp) : Prop where
  sps : Sps w a cap l
  loc : ∀ b off, a = some ⟨b, off, none⟩ → 0 < l.length → p b
/-- The cells from an address on read as these expressions, all in blocks of which p holds. -/
def ElemsP (p : Nat → Prop) (w : World) : Fo → Nat → Nat → Prop
  | .nil, _, _ => True
  | .cons h kids rest, b, off =>
    p b ∧ w.cell? ⟨b, off, none⟩ = some (.int .i64 h.k) ∧ (∃ sa sc, w.cell? ⟨b, off + 1, none⟩ = some (.slice sa h.set.length sc) ∧ SpsP p w sa sc h.set) ∧
    (∃ a cap, w.cell? ⟨b, off + 2, none⟩ = some (.slice a kids.len cap) ∧ kids.len ≤ cap ∧ cap ≤ 9223372036854775807 ∧ (a = none → cap = 0) ∧ (0 < kids.len → ∃ b' off', a = some ⟨b', off', none⟩ ∧ ElemsP p w kids b' off')) ∧
    ElemsP p w rest b (off + 3)
structure ItemsP (p : Nat → Prop) (w : World) (a : Option Addr) (cap : Nat) (f : Fo) : Prop where
  le : f.len ≤ cap
  max : cap ≤ 9223372036854775807
  nil_ : a = none → cap = 0
  at_ : 0 < f.len → ∃ b off, a = some ⟨b, off, none⟩ ∧ ElemsP p w f b off

theorem ElemsP.elems {p : Nat → Prop} {w : World} : ∀ (f : Fo) (b off : Nat), ElemsP p w f b off → Elems w f b off := by
  intro f
  induction f with
  | nil => intro b off _; trivial
  | cons h kids rest ihk ihr =>
    rintro b off ⟨_, h1, ⟨sa, sc, h2, h3⟩, ⟨a, cap, h4, h5, h6, h7, h8⟩, h9⟩
    exact ⟨h1, ⟨sa, sc, h2, h3.sps⟩, ⟨a, cap, h4, h5, h6, h7, fun hn => by obtain ⟨b', o', e, hk⟩ := h8 hn; exact ⟨b', o', e, ihk _ _ hk⟩⟩, ihr _ _ h9⟩
theorem ItemsP.items {p : Nat → Prop} {w : World} {a : Option Addr} {cap : Nat} {f : Fo} (h : ItemsP p w a cap f) : Items w a cap f :=
  ⟨h.le, h.max, h.nil_, fun hn => by obtain ⟨b, o, e, hk⟩ := h.at_ hn; exact ⟨b, o, e, hk.elems f b o⟩⟩
theorem cell_move {w w' : World} {b : Nat} (hb : w'.heap[b]? = w.heap[b]?) (o : Nat) : w'.cell? ⟨b, o, none⟩ = w.cell? ⟨b, o, none⟩ := by
  simp only [World.cell?]
  rw [hb]
theorem SpsP.move {p q : Nat → Prop} {w w' : World} {a : Option Addr} {cap : Nat} {l : List Sp} (h : SpsP p w a cap l) (hm : ∀ b, p b → b < w.heap.size → q b ∧ w'.heap[b]? = w.heap[b]?) : SpsP q w' a cap l := by
  have hlt : ∀ b off, a = some ⟨b, off, none⟩ → 0 < l.length → p b ∧ b < w.heap.size := fun b off e h0 => ⟨h.loc b off e h0, World.block_lt_of_cell? w _ (h.sps.cell b off e 0 h0).1⟩
  refine ⟨⟨h.sps.le, h.sps.max, h.sps.nil_, h.sps.at_, fun b off e i hi => ?_⟩, fun b off e h0 => (hm b (hlt b off e h0).1 (hlt b off e h0).2).1⟩
  have h0 : 0 < l.length := by omega
  have hb := (hm b (hlt b off e h0).1 (hlt b off e h0).2).2
  exact ⟨(cell_move hb _).trans (h.sps.cell b off e i hi).1, (cell_move hb _).trans (h.sps.cell b off e i hi).2⟩
theorem ElemsP.move {p q : Nat → Prop} {w w' : World} (hm : ∀ b, p b → b < w.heap.size → q b ∧ w'.heap[b]? = w.heap[b]?) : ∀ (f : Fo) (b off : Nat), ElemsP p w f b off → ElemsP q w' f b off := by
  intro f
  induction f with
  | nil => intro b off _; trivial
  | cons h kids rest ihk ihr =>
    rintro b off ⟨hp, h1, ⟨sa, sc, h2, h3⟩, ⟨a, cap, h4, h5, h6, h7, h8⟩, h9⟩
    obtain ⟨hq, hb⟩ := hm b hp (World.block_lt_of_cell? w _ h1)
    have hc : ∀ o v, w.cell? ⟨b, o, none⟩ = some v → w'.cell? ⟨b, o, none⟩ = some v := fun o v hv => (cell_move hb o).trans hv
    exact ⟨hq, hc _ _ h1, ⟨sa, sc, hc _ _ h2, h3.move hm⟩, ⟨a, cap, hc _ _ h4, h5, h6, h7, fun hn => by obtain ⟨b', o', e, hk⟩ := h8 hn; exact ⟨b', o', e, ihk _ _ hk⟩⟩, ihr _ _ h9⟩
theorem ItemsP.move {p q : Nat → Prop} {w w' : World} {a : Option Addr} {cap : Nat} {f : Fo} (h : ItemsP p w a cap f) (hm : ∀ b, p b → b < w.heap.size → q b ∧ w'.heap[b]? = w.heap[b]?) : ItemsP q w' a cap f :=
  ⟨h.le, h.max, h.nil_, fun hn => by obtain ⟨b, o, e, hk⟩ := h.at_ hn; exact ⟨b, o, e, ElemsP.move hm f b o hk⟩⟩
theorem ItemsP.nil (p : Nat → Prop) (w : World) : ItemsP p w none 0 .nil := ⟨by simp [Fo.len], by omega, fun _ => rfl, fun h => by simp [Fo.len] at h⟩
theorem SpsP.nil (p : Nat → Prop) (w : World) : SpsP p w none 0 [] := ⟨Sps.nil w, fun _ _ e => by cases e⟩

/-- An expression that was read: what it holds, its parts, and where they lie. -/
structure Ea where
  x : Ex
  sa : Option Addr
  sc : Nat
  a : Option Addr
  c : Nat
def Ea.row (e : Ea) : List Value := [.int .i64 e.x.h.k, .slice e.sa e.x.h.set.length e.sc, .slice e.a e.x.k.len e.c]
abbrev Ea.val (e : Ea) : Value := itemV e.x.h e.sa e.sc e.a e.x.k.len e.c
structure EaP (p : Nat → Prop) (w : World) (e : Ea) : Prop where
  sps : SpsP p w e.sa e.sc e.x.h.set
  items : ItemsP p w e.a e.c e.x.k
theorem EaP.move {p q : Nat → Prop} {w w' : World} {e : Ea} (h : EaP p w e) (hm : ∀ b, p b → b < w.heap.size → q b ∧ w'.heap[b]? = w.heap[b]?) : EaP q w' e := ⟨h.sps.move hm, h.items.move hm⟩
def rowE : List Ea → List Value
  | [] => []
  | e :: r => e.row ++ rowE r
def foE (es : List Ea) : Fo := foX (es.map (·.x))
theorem rowE_length (es : List Ea) : (rowE es).length = es.length * 3 := by
  induction es with
  | nil => rfl
  | cons e r ih => simp [rowE, Ea.row, ih]; omega
theorem rowE_snoc (es : List Ea) (e : Ea) : rowE (es ++ [e]) = rowE es ++ e.row := by
  induction es with
  | nil => simp [rowE]
  | cons x r ih => simp [rowE, ih]
theorem foE_len (es : List Ea) : (foE es).len = es.length := by
  unfold foE
  induction es with
  | nil => rfl
  | cons e r ih => simp [foX, Fo.len, ih]

theorem elems_row {p : Nat → Prop} {w : World} {g : Nat} (hg : p g) : ∀ (es : List Ea) (off : Nat), (∀ j u, (rowE es)[j]? = some u → w.cell? ⟨g, off + j, none⟩ = some u) → (∀ e ∈ es, EaP p w e) → ElemsP p w (foE es) g off := by
  intro es
  induction es with
  | nil => intro off _ _; trivial
  | cons e r ih =>
    intro off hc hi
    have he := hi e (List.mem_cons_self ..)
    refine ⟨hg, by have := hc 0 _ rfl; simpa using this, ⟨e.sa, e.sc, hc 1 _ rfl, he.sps⟩, ⟨e.a, e.c, hc 2 _ rfl, he.items.le, he.items.max, he.items.nil_, he.items.at_⟩, ?_⟩
    refine ih (off + 3) (fun j u hj => ?_) (fun x hx => hi x (List.mem_cons_of_mem _ hx))
    have := hc (j + 3) u (by simpa [rowE, Ea.row] using hj)
    rw [show off + 3 + j = off + (j + 3) from by omega]
    exact this

/-- The row of what was read, as a list of expressions. -/
theorem items_row {p : Nat → Prop} {w : World} {base : Nat} {a : Option Addr} {cap : Nat} {es : List Ea} (ho : w.ownsRow base 35 3 (.slice a es.length cap) es.length (rowE es)) (hg : ∀ g, (Value.slice a es.length cap).ownBlock = some g → p g) (hi : ∀ e ∈ es, EaP p w e) : ItemsP p w a cap (foE es) := by
  rcases ho.2 with ⟨e, e0⟩ | ⟨g, cap', cur, e, _, _, h1, h2, _⟩
  · have hes : es = [] := List.eq_nil_of_length_eq_zero e0
    subst hes
    simp only [List.length_nil, Value.slice.injEq] at e
    obtain ⟨rfl, -, rfl⟩ := e
    exact ItemsP.nil p w
  · simp only [Value.slice.injEq, true_and] at e
    obtain ⟨rfl, rfl⟩ := e
    refine ⟨by rw [foE_len]; exact h1, by unfold maxLen at h2; omega, fun e => (by cases e), fun _ => ⟨g, 0, rfl, ?_⟩⟩
    refine elems_row (hg g rfl) es 0 (fun j u hj => ?_) hi
    rw [Nat.zero_add, ho.cellAt j (by rw [← ho.1]; exact (List.getElem?_eq_some_iff.1 hj).1)]
    exact hj

theorem info_re : (Try.prog.info? 35).map (fun i => (i.zero, i.size, i.bytes)) = some (some (.agg #[.int .i64 0, .slice none 0 0, .slice none 0 0]), 3, 56) := by kernel_rfl

theorem new_cells3 (W : World) (v1 v2 v3 : Value) (t : TypeId) : ∀ j u, [v1, v2, v3][j]? = some u → (W.alloc (.cells #[v1, v2, v3] t)).cell? ((⟨W.heap.size, 0, none⟩ : Addr).add j) = some u := by
  intro j u h
  have hb := Blk.new W t #[v1, v2, v3]
  rw [show (⟨W.heap.size, 0, none⟩ : Addr).add j = ⟨W.heap.size, 0 + j, none⟩ from by unfold Addr.add; split <;> simp_all, Nat.zero_add, hb.cell j]
  exact h

/-- append of one expression onto an own row; the row stays where it is, or goes into a new block. -/
theorem run_item (w : World) (ty : TypeId) {base n cap : Nat} {a : Option Addr} {row : List Value} (e : Ea) (hown : w.ownsRow base 35 3 (.slice a n cap) n row) (hn : n + 1 ≤ 2147483648) (hbase : base ≤ w.heap.size) :
    ∃ a' cap' w', (Builtin.append_ #[33, 33] ty #[.slice a n cap, .slice (some ⟨w.heap.size, 0, none⟩) 1 1]).run Try.prog (w.alloc (.cells #[.int .i64 e.x.h.k, .slice e.sa e.x.h.set.length e.sc, .slice e.a e.x.k.len e.c] 35)) = .ok (.slice a' (n + 1) cap') w' ∧
      w'.ownsRow base 35 3 (.slice a' (n + 1) cap') (n + 1) (row ++ e.row) ∧ w.grownBy w' (Value.slice a n cap).ownBlock ∧ New w.heap.size a a' := by
  obtain ⟨i0, hi, hz0, hz1, hz2⟩ := info_parts info_re
  have hc := new_cells3 w (.int .i64 e.x.h.k) (.slice e.sa e.x.h.set.length e.sc) (.slice e.a e.x.k.len e.c) 35
  have h1 : ∀ u ∈ [Value.int .i64 e.x.h.k, .slice e.sa e.x.h.set.length e.sc, .slice e.a e.x.k.len e.c], u.oneCell' = true := by simp [Value.oneCell']
  have hown2 : (w.alloc (.cells #[.int .i64 e.x.h.k, .slice e.sa e.x.h.set.length e.sc, .slice e.a e.x.k.len e.c] 35)).ownsRow base 35 3 (.slice a n cap) n row := hown.alloc _
  obtain ⟨v', w', hrun, ho, hg, _⟩ := run_append_own (P := Try.prog) (w.alloc (.cells #[.int .i64 e.x.h.k, .slice e.sa e.x.h.set.length e.sc, .slice e.a e.x.k.len e.c] 35)) base 33 ty 35 i0 _ 3 56 Try.underlying33 hi hz0 hz1 hz2 rfl (by decide) _ n _ hown2 ⟨w.heap.size, 0, none⟩ 1 1 [.int .i64 e.x.h.k, .slice e.sa e.x.h.set.length e.sc, .slice e.a e.x.k.len e.c] rfl hc h1 (by unfold maxLen; omega) (by omega) (by simp; omega)
  obtain ⟨a', cap', rfl⟩ := slice_of_own ho
  refine ⟨a', cap', w', hrun, ho, grownBy_trans (World.grownBy_alloc w _ _) hg (fun i e => .inl e), ?_⟩
  rcases hown2.2 with ⟨e1, e0⟩ | ⟨g, cap2, cur, e1, hbg, hg2, hnc, hcm, hcs, htake⟩
  · cases e1
    have hr := run_append_nil (P := Try.prog) (w.alloc (.cells #[.int .i64 e.x.h.k, .slice e.sa e.x.h.set.length e.sc, .slice e.a e.x.k.len e.c] 35)) 33 ty 35 i0 _ Try.underlying33 hi hz0 ⟨w.heap.size, 0, none⟩ 1 1 [.int .i64 e.x.h.k, .slice e.sa e.x.h.set.length e.sc, .slice e.a e.x.k.len e.c] (by rw [hz1]; rfl) hc (by omega) (by omega) (by rw [hz2]; omega)
    rw [hr] at hrun
    simp only [Result.ok.injEq, Value.slice.injEq] at hrun
    exact .inr ⟨_, hrun.1.1.symm, by simp⟩
  · simp only [Value.slice.injEq, true_and] at e1
    obtain ⟨rfl, rfl⟩ := e1
    by_cases hroom : n + 1 ≤ cap
    · obtain ⟨w2, hr, _, _⟩ := run_append_fits (P := Try.prog) (w.alloc (.cells #[.int .i64 e.x.h.k, .slice e.sa e.x.h.set.length e.sc, .slice e.a e.x.k.len e.c] 35)) base 33 ty 35 i0 3 Try.underlying33 hi hz1 g n cap _ hown2 ⟨w.heap.size, 0, none⟩ 1 1 [.int .i64 e.x.h.k, .slice e.sa e.x.h.set.length e.sc, .slice e.a e.x.k.len e.c] rfl hc h1 hroom
      rw [hr] at hrun
      simp only [Result.ok.injEq, Value.slice.injEq] at hrun
      exact .inl hrun.1.1.symm
    · have holds : ∀ j u, row[j]? = some u → (w.alloc (.cells #[.int .i64 e.x.h.k, .slice e.sa e.x.h.set.length e.sc, .slice e.a e.x.k.len e.c] 35)).cell? ((⟨g, 0, none⟩ : Addr).add j) = some u := hown2.cells (g := g) rfl
      have hr := run_append_grow (P := Try.prog) (w.alloc (.cells #[.int .i64 e.x.h.k, .slice e.sa e.x.h.set.length e.sc, .slice e.a e.x.k.len e.c] 35)) 33 ty 35 i0 _ Try.underlying33 hi hz0 ⟨g, 0, none⟩ n cap row (by rw [hown2.1, hz1]) holds ⟨w.heap.size, 0, none⟩ 1 1 [.int .i64 e.x.h.k, .slice e.sa e.x.h.set.length e.sc, .slice e.a e.x.k.len e.c] (by rw [hz1]; rfl) hc (by omega) (by omega) (growslice_fits (by omega) (by rw [hz2]; omega))
      rw [hr] at hrun
      simp only [Result.ok.injEq, Value.slice.injEq] at hrun
      exact .inr ⟨_, hrun.1.1.symm, by simp⟩
end Go.Proofs.Ytpbceejjkdmclaa

/- regex.joined. -/
namespace Go.Proofs.Ytpbceejjkdmclaa
open Go.RowKit Go.Shelf

attribute [local go_sem] Oper.semAt_some

def joinV (kind : Int) (es : List Ea) (A : Option Addr) (C : Nat) : Value :=
  match es with
  | [] => itemV ⟨1, []⟩ none 0 none 0 0
  | [e] => e.val
  | es => itemV ⟨kind, []⟩ none 0 A es.length C

theorem blk_put3 {w : World} {b : Nat} {e : TypeId} {c0 c1 c2 : Value} (h : Blk w b e [c0, c1, c2]) (v0 v1 v2 : Value) :
    Blk (((w.setCell ⟨b, 0, none⟩ v0).setCell ⟨b, 1, none⟩ v1).setCell ⟨b, 2, none⟩ v2) b e [v0, v1, v2] := ((h.set 0 v0).set 1 v1).set 2 v2
theorem below_put3 {w0 w : World} {B b : Nat} (h : Below B w0 w) (hb : B ≤ b) (v0 v1 v2 : Value) :
    Below B w0 (((w.setCell ⟨b, 0, none⟩ v0).setCell ⟨b, 1, none⟩ v1).setCell ⟨b, 2, none⟩ v2) := ((h.setCell (p := ⟨b, 0, none⟩) hb v0).setCell (p := ⟨b, 1, none⟩) hb v1).setCell (p := ⟨b, 2, none⟩) hb v2
theorem put3_other {w : World} {b g : Nat} (h : g ≠ b) (v0 v1 v2 : Value) : (((w.setCell ⟨b, 0, none⟩ v0).setCell ⟨b, 1, none⟩ v1).setCell ⟨b, 2, none⟩ v2).heap[g]? = w.heap[g]? := by
  rw [Below.heap_setCell _ _ _ _ (by simpa using h), Below.heap_setCell _ _ _ _ (by simpa using h), Below.heap_setCell _ _ _ _ (by simpa using h)]
theorem put3_size (w : World) (b : Nat) (v0 v1 v2 : Value) : (((w.setCell ⟨b, 0, none⟩ v0).setCell ⟨b, 1, none⟩ v1).setCell ⟨b, 2, none⟩ v2).heap.size = w.heap.size := by
  simp [World.setCell]

end Go.Proofs.Ytpbceejjkdmclaa

/- regex.reader.atom, where alternatives is as it should be. -/
namespace Go.Proofs.Ytpbceejjkdmclaa
open Go.RowKit Go.Shelf

attribute [local go_sem] Oper.semAt_some

/-- An expression that was read, in blocks that were made since. -/
def exV (n : Nat) (x : Ex) (w' : World) (val : Value) : Prop := ∃ e : Ea, e.x = x ∧ val = e.val ∧ EaP (fun b => n ≤ b ∧ b < w'.heap.size) w' e
theorem EaP.grow {w w' : World} {n : Nat} {r : Option Nat} {e : Ea} (h : EaP (fun b => n ≤ b ∧ b < w.heap.size) w e) (hg : w.grownBy w' r) (hr : ∀ i, r = some i → i < n) : EaP (fun b => n ≤ b ∧ b < w'.heap.size) w' e :=
  h.move fun b hp hlt => ⟨⟨hp.1, Nat.lt_of_lt_of_le hp.2 hg.size⟩, hg.block b hlt (fun e => by have := hr b e.symm; omega)⟩
theorem EaP.weak {w : World} {n m : Nat} {e : Ea} (h : EaP (fun b => n ≤ b ∧ b < w.heap.size) w e) (hm : m ≤ n) : EaP (fun b => m ≤ b ∧ b < w.heap.size) w e :=
  h.move fun b hp _ => ⟨⟨Nat.le_trans hm hp.1, hp.2⟩, rfl⟩
theorem grow_put3 {w w' : World} {b : Nat} {r : Option Nat} (h : w.grownBy w' r) (hb : w.heap.size ≤ b) (v0 v1 v2 : Value) : w.grownBy (((w'.setCell ⟨b, 0, none⟩ v0).setCell ⟨b, 1, none⟩ v1).setCell ⟨b, 2, none⟩ v2) r :=
  grow_new (grow_new (grow_new h hb 0 v0) hb 1 v1) hb 2 v2
theorem put3_grow (w : World) (b : Nat) (v0 v1 v2 : Value) : w.grownBy (((w.setCell ⟨b, 0, none⟩ v0).setCell ⟨b, 1, none⟩ v1).setCell ⟨b, 2, none⟩ v2) (some b) :=
  grownBy_rb (grownBy_rb (grownBy_set w b 0 v0) (grownBy_set _ b 1 v1)) (grownBy_set _ b 2 v2)

abbrev re0 : Array Value := #[.int .i64 0, .slice none 0 0, .slice none 0 0]

end Go.Proofs.Ytpbceejjkdmclaa

/- regex.reader.atom: a dot, a class, a letter. -/
namespace Go.Proofs.Ytpbceejjkdmclaa
open Go.RowKit Go.Shelf

attribute [local go_sem] Oper.semAt_some

/-- One span that was written out. -/
theorem Sps.lit (w : World) (sp : Sp) : Sps (w.alloc (.cells #[.int .u8 (sp.lo.toNat : Int), .int .u8 (sp.hi.toNat : Int)] 79)) (some ⟨w.heap.size, 0, none⟩) 1 [sp] := by
  have hB := Blk.new w 79 #[.int .u8 (sp.lo.toNat : Int), .int .u8 (sp.hi.toNat : Int)]
  refine ⟨by simp, by omega, fun e => (by cases e), fun i _ => ⟨_, _, rfl⟩, fun b off e i hi => ?_⟩
  cases e
  have : i = 0 := by simpa using hi
  subst this
  exact ⟨hB.cell 0, hB.cell 1⟩

/-- The expression of a Set that ofSet has made. -/
theorem set_ea {w w' : World} {p : Nat → Bool} {a : Option Addr} {cap : Nat} (hs : Sps w' a cap (spP p 256)) (hloc : ∀ b off, a = some ⟨b, off, none⟩ → w.heap.size ≤ b) : EaP (fun b => w.heap.size ≤ b ∧ b < w'.heap.size) w' ⟨setX (spP p 256), a, cap, none, 0⟩ :=
  ⟨⟨hs, fun b off e h0 => ⟨hloc b off e, World.block_lt_of_cell? w' _ (hs.cell b off e 0 h0).1⟩⟩, ItemsP.nil _ _⟩

theorem outs_arg : (ByteArray.mk #[92, 124, 42, 43, 63, 40, 41, 91, 93, 46]).data.toList = outs := rfl

end Go.Proofs.Ytpbceejjkdmclaa

/- regex.reader.piece, where alternatives is as it should be. -/
namespace Go.Proofs.Ytpbceejjkdmclaa
open Go.RowKit Go.Shelf

attribute [local go_sem] Oper.semAt_some

theorem reps_le (c : UInt8) : Lib.indexByte reps c ≤ 2 := by
  unfold reps
  simp only [Lib.indexByte]
  repeat' split
  all_goals omega

end Go.Proofs.Ytpbceejjkdmclaa

/- A list of expressions that grows while a text is read: what both alternative and alternatives do. -/
namespace Go.Proofs.Ytpbceejjkdmclaa
open Go.RowKit Go.Shelf

/-- What joined makes, and where its parts lie. -/
def joinE (kind : Int) (es : List Ea) (A : Option Addr) (C : Nat) : Ea :=
  match es with
  | [] => ⟨⟨⟨1, []⟩, .nil⟩, none, 0, none, 0⟩
  | [e] => e
  | es => ⟨⟨⟨kind, []⟩, foE es⟩, none, 0, A, C⟩
theorem joinE_val (kind : Int) (es : List Ea) (A : Option Addr) (C : Nat) : (joinE kind es A C).val = joinV kind es A C := by
  match es with
  | [] => rfl
  | [e] => rfl
  | e :: f :: r =>
    show itemV ⟨kind, []⟩ none 0 A (foE (e :: f :: r)).len C = _
    rw [foE_len]
    rfl
theorem joinE_x (kind : Int) (es : List Ea) (A : Option Addr) (C : Nat) : (joinE kind es A C).x = joinX kind (es.map (·.x)) := by
  match es with
  | [] => rfl
  | [e] => rfl
  | e :: f :: r => rfl

/-- The list so far: an own row, whose expressions lie beside it. -/
structure Lst (n0 : Nat) (W : World) (es : List Ea) (A : Option Addr) (C : Nat) : Prop where
  own : W.ownsRow n0 35 3 (.slice A es.length C) es.length (rowE es)
  eas : ∀ e ∈ es, EaP (fun b => n0 ≤ b ∧ b < W.heap.size ∧ (Value.slice A es.length C).ownBlock ≠ some b) W e
theorem Lst.lt {n0 : Nat} {W : World} {es : List Ea} {A : Option Addr} {C : Nat} (h : Lst n0 W es A C) : ∀ i, (Value.slice A es.length C).ownBlock = some i → n0 ≤ i ∧ i < W.heap.size := by
  intro i e
  rcases h.own.2 with ⟨e1, _⟩ | ⟨g, c, cur, e1, hb, hg, _⟩
  · rw [e1] at e; cases e
  · rw [e1] at e
    cases e
    exact ⟨hb, (Array.getElem?_eq_some_iff.1 hg).1⟩
theorem Lst.nil (n0 : Nat) (W : World) : Lst n0 W [] none 0 := ⟨World.ownsRow_nil W n0 _ 3, fun e he => by cases he⟩
/-- A world that has left alone what lies from n0 on. -/
theorem Lst.kept {n0 : Nat} {W W' : World} {es : List Ea} {A : Option Addr} {C : Nat} (h : Lst n0 W es A C) {r : Option Nat} (hg : W.grownBy W' r) (hr : ∀ i, r = some i → i < n0) : Lst n0 W' es A C :=
  ⟨by
    by_cases hA : (Value.slice A es.length C).ownBlock = none
    · exact h.own.kept hg (.inl hA)
    · refine h.own.kept hg (.inr fun e => ?_)
      cases hr2 : r with
      | none => exact hA (e.trans hr2)
      | some i => have := h.lt i (e.trans hr2); have := hr i hr2; omega,
   fun e he => (h.eas e he).move fun b hp hlt => ⟨⟨hp.1, Nat.lt_of_lt_of_le hp.2.1 hg.size, hp.2.2⟩, hg.block b hlt (fun e => by have := hr b e.symm; omega)⟩⟩

theorem joinE_ea {n0 : Nat} {W : World} {kind : Int} {es : List Ea} {A : Option Addr} {C : Nat} (h : Lst n0 W es A C) : EaP (fun b => n0 ≤ b ∧ b < W.heap.size) W (joinE kind es A C) := by
  have hes : ∀ e ∈ es, EaP (fun b => n0 ≤ b ∧ b < W.heap.size) W e := fun e he => (h.eas e he).move (fun b hp _ => ⟨⟨hp.1, hp.2.1⟩, rfl⟩)
  match es, h, hes with
  | [], h, hes => exact ⟨SpsP.nil _ _, ItemsP.nil _ _⟩
  | [e], h, hes => exact hes e (by simp)
  | e :: f :: r, h, hes =>
    refine ⟨SpsP.nil _ _, ?_⟩
    exact items_row h.own (fun g hg => h.lt g hg) hes

/-- One expression more, which was read since. -/
theorem Lst.push {n0 : Nat} {W : World} {es : List Ea} {A : Option Addr} {C : Nat} (h : Lst n0 W es A C) (ea : Ea) (he : EaP (fun b => n0 ≤ b ∧ b < W.heap.size ∧ (Value.slice A es.length C).ownBlock ≠ some b) W ea) (hn : es.length + 1 ≤ 2147483648) (hbase : n0 ≤ W.heap.size) (ty : TypeId) :
    ∃ a' c' w', (Builtin.append_ #[33, 33] ty #[.slice A es.length C, .slice (some ⟨W.heap.size, 0, none⟩) 1 1]).run Try.prog (W.alloc (.cells #[.int .i64 ea.x.h.k, .slice ea.sa ea.x.h.set.length ea.sc, .slice ea.a ea.x.k.len ea.c] 35)) = .ok (.slice a' (es.length + 1) c') w' ∧
      Lst n0 w' (es ++ [ea]) a' c' ∧ W.grownBy w' (Value.slice A es.length C).ownBlock := by
  obtain ⟨a', c', w', hrun, ho, hg, hnw⟩ := run_item W ty ea h.own hn hbase
  refine ⟨a', c', w', hrun, ⟨?_, fun e hm => ?_⟩, hg⟩
  · rw [List.length_append, rowE_snoc]; exact ho
  · have hq : EaP (fun b => n0 ≤ b ∧ b < W.heap.size ∧ (Value.slice A es.length C).ownBlock ≠ some b) W e := by
      rcases List.mem_append.1 hm with hm | hm
      · exact h.eas e hm
      · rw [List.mem_singleton.1 hm]; exact he
    refine hq.move fun b hp hlt => ⟨⟨hp.1, Nat.lt_of_lt_of_le hp.2.1 hg.size, fun e => ?_⟩, hg.block b hlt (fun e => hp.2.2 e.symm)⟩
    rcases hnw.block (l := es.length) (c := C) b e with h1 | h1
    · exact hp.2.2 h1
    · omega
end Go.Proofs.Ytpbceejjkdmclaa

/- regex.reader.alternative, where alternatives is as it should be. -/
namespace Go.Proofs.Ytpbceejjkdmclaa
open Go.RowKit Go.Shelf

attribute [local go_sem] Oper.semAt_some

theorem repsP_le : ∀ (r : List UInt8) (x : Ex), (repsP x r).2.length ≤ r.length := by
  intro r
  induction r with
  | nil => intro x; simp [repsP]
  | cons c r ih =>
    intro x
    rw [repsP]
    split
    · have := ih ⟨⟨5 + Lib.indexByte reps c, []⟩, .cons x.h x.k .nil⟩
      simp; omega
    · simp

/-- What is left is less. -/
def Less (F : Nat) : Prop := (∀ r x r', altsP F r = .ok x r' → r'.length ≤ r.length) ∧ (∀ r l x r', moreP F r l = .ok x r' → r'.length ≤ r.length) ∧ (∀ r x r', altP F r = .ok x r' → r'.length ≤ r.length) ∧
  (∀ r l x r', piecesP F r l = .ok x r' → r'.length ≤ r.length) ∧ (∀ r x r', pieceP F r = .ok x r' → r'.length < r.length) ∧ (∀ r x r', atomP F r = .ok x r' → r'.length < r.length)
theorem bind_inv {α β : Type} {x : Rd α} {f : α → List UInt8 → Rd β} {v : β} {r : List UInt8} (h : x.bind f = .ok v r) : ∃ y r1, x = .ok y r1 ∧ f y r1 = .ok v r := by
  cases x with
  | ok y r1 => exact ⟨y, r1, rfl, h⟩
  | bad r1 => cases h
theorem itemsP_le : ∀ (F : Nat) (r : List UInt8) (l l' : List Sp) (r' : List UInt8), itemsP F r l = .ok l' r' → r'.length ≤ r.length := by
  intro F
  induction F with
  | zero => intro r l l' r' h; cases h
  | succ F ih =>
    intro r l l' r' h
    rw [itemsP] at h
    split at h
    · rename_i hh; have := tail_lt hh; cases h; omega
    · obtain ⟨s, r1, h1, h2⟩ := bind_inv h
      have := itemP_lt h1
      have := ih _ _ _ _ h2
      omega
theorem classP_le {r r' : List UInt8} {x : List Sp × Bool} (h : classP r = .ok x r') : r'.length ≤ r.length := by
  unfold classP at h
  obtain ⟨s, r1, h1, h2⟩ := bind_inv h
  obtain ⟨l, r2, h3, h4⟩ := bind_inv h2
  have a1 := itemP_lt h1
  have a2 := itemsP_le _ _ _ _ _ h3
  unfold classE at h4
  have ht : (if headIs 94 r = true then r.tail else r).length ≤ r.length := by split <;> simp
  split at h4
  · cases h4
  · cases h4; omega
theorem less : ∀ F, Less F := by
  intro F
  induction F with
  | zero => exact ⟨fun r x r' h => (by cases h), fun r l x r' h => (by cases h), fun r x r' h => (by cases h), fun r l x r' h => (by cases h), fun r x r' h => (by cases h), fun r x r' h => (by cases h)⟩
  | succ F ih =>
    obtain ⟨i1, i2, i3, i4, i5, i6⟩ := ih
    refine ⟨fun r x r' h => ?_, fun r l x r' h => ?_, fun r x r' h => ?_, fun r l x r' h => ?_, fun r x r' h => ?_, fun r x r' h => ?_⟩
    · rw [altsP] at h
      obtain ⟨y, r1, h1, h2⟩ := bind_inv h
      have := i3 _ _ _ h1
      have := i2 _ _ _ _ h2
      omega
    · rw [moreP] at h
      split at h
      · rename_i hh
        have := tail_lt hh
        obtain ⟨y, r1, h1, h2⟩ := bind_inv h
        have := i3 _ _ _ h1
        have := i2 _ _ _ _ h2
        omega
      · cases h; exact Nat.le_refl _
    · rw [altP] at h; exact i4 _ _ _ _ h
    · rw [piecesP] at h
      split at h
      · cases h; exact Nat.le_refl _
      · obtain ⟨y, r1, h1, h2⟩ := bind_inv h
        have := i5 _ _ _ h1
        have := i4 _ _ _ _ h2
        omega
    · rw [pieceP] at h
      obtain ⟨y, r1, h1, h2⟩ := bind_inv h
      have := i6 _ _ _ h1
      have := repsP_le r1 y
      cases h2
      omega
    · rw [atomP] at h
      split at h
      · rename_i hh
        have := tail_lt hh
        obtain ⟨y, r1, h1, h2⟩ := bind_inv h
        have := i1 _ _ _ h1
        unfold closeP at h2
        split at h2
        · cases h2; simp; omega
        · cases h2
      · split at h
        · rename_i hh; have := tail_lt hh; cases h; omega
        · split at h
          · rename_i hh
            have := tail_lt hh
            obtain ⟨y, r1, h1, h2⟩ := bind_inv h
            have := classP_le h1
            cases h2; omega
          · obtain ⟨y, r1, h1, h2⟩ := bind_inv h
            have := letP_lt h1
            cases h2; omega

end Go.Proofs.Ytpbceejjkdmclaa

/- regex.reader.alternatives. -/
namespace Go.Proofs.Ytpbceejjkdmclaa
open Go.RowKit Go.Shelf

attribute [local go_sem] Oper.semAt_some

end Go.Proofs.Ytpbceejjkdmclaa

/- regex.Parse's deferred function. -/
namespace Go.Proofs.Ytpbceejjkdmclaa
open Go.RowKit Go.Shelf

attribute [local go_sem] Oper.semAt_some

end Go.Proofs.Ytpbceejjkdmclaa

/- regex.Parse. -/
namespace Go.Proofs.Ytpbceejjkdmclaa
open Go.RowKit Go.Shelf

attribute [local go_sem] Oper.semAt_some

/-- How many expressions a list holds in all. -/
def szL : List Ex → Nat
  | [] => 0
  | x :: r => x.k.size + 1 + szL r
theorem szL_snoc (l : List Ex) (x : Ex) : szL (l ++ [x]) = szL l + (x.k.size + 1) := by
  induction l with
  | nil => simp [szL]
  | cons y r ih => simp [szL, ih]; omega
theorem foX_size (l : List Ex) : (foX l).size = szL l := by
  induction l with
  | nil => rfl
  | cons y r ih => simp [foX, szL, Fo.size, ih]; omega
theorem joinX_size (k : Int) (l : List Ex) : (joinX k l).k.size + 1 ≤ szL l + 1 := by
  match l with
  | [] => simp [joinX, Fo.size, szL]
  | [x] => simp [joinX, szL]
  | x :: y :: r => show (foX (x :: y :: r)).size + 1 ≤ _; rw [foX_size]; omega
theorem repsP_size : ∀ (r : List UInt8) (x : Ex), (repsP x r).1.k.size + (repsP x r).2.length ≤ x.k.size + r.length := by
  intro r
  induction r with
  | nil => intro x; simp [repsP]
  | cons c r ih =>
    intro x
    rw [repsP]
    split
    · have := ih ⟨⟨5 + Lib.indexByte reps c, []⟩, .cons x.h x.k .nil⟩
      simp [Fo.size] at this ⊢
      omega
    · simp
def Sized (F : Nat) : Prop := (∀ r x r', altsP F r = .ok x r' → x.k.size + 1 + 2 * r'.length ≤ 2 * r.length + 1) ∧ (∀ r l x r', moreP F r l = .ok x r' → x.k.size + 1 + 2 * r'.length ≤ 2 * r.length + szL l + (if l.length = 1 then 0 else 1)) ∧ (∀ r x r', altP F r = .ok x r' → x.k.size + 1 + 2 * r'.length ≤ 2 * r.length + 1) ∧
  (∀ r l x r', piecesP F r l = .ok x r' → x.k.size + 1 + 2 * r'.length ≤ 2 * r.length + szL l + 1) ∧ (∀ r x r', pieceP F r = .ok x r' → x.k.size + 1 + 2 * r'.length ≤ 2 * r.length) ∧ (∀ r x r', atomP F r = .ok x r' → x.k.size + 1 + 2 * r'.length ≤ 2 * r.length)
theorem setX_size (l : List Sp) : (setX l).k.size = 0 := rfl
theorem sized : ∀ F, Sized F := by
  intro F
  induction F with
  | zero => exact ⟨fun r x r' h => (by cases h), fun r l x r' h => (by cases h), fun r x r' h => (by cases h), fun r l x r' h => (by cases h), fun r x r' h => (by cases h), fun r x r' h => (by cases h)⟩
  | succ F ih =>
    obtain ⟨i1, i2, i3, i4, i5, i6⟩ := ih
    refine ⟨fun r x r' h => ?_, fun r l x r' h => ?_, fun r x r' h => ?_, fun r l x r' h => ?_, fun r x r' h => ?_, fun r x r' h => ?_⟩
    · rw [altsP] at h
      obtain ⟨y, r1, h1, h2⟩ := bind_inv h
      have a1 := i3 _ _ _ h1
      have a2 := i2 _ _ _ _ h2
      simp only [szL, List.length_singleton, if_true] at a2
      omega
    · rw [moreP] at h
      split at h
      · rename_i hh
        have := tail_lt hh
        obtain ⟨y, r1, h1, h2⟩ := bind_inv h
        have a1 := i3 _ _ _ h1
        have a2 := i2 _ _ _ _ h2
        rw [szL_snoc] at a2
        have : (if (l ++ [y]).length = 1 then 0 else 1) ≤ 1 := by split <;> omega
        omega
      · cases h
        have := joinX_size 4 l
        match l with
        | [] => simp [joinX, szL, Fo.size]; omega
        | [x] => simp [joinX, szL]; omega
        | x :: y :: l => simp at this ⊢; omega
    · rw [altP] at h; have := i4 _ _ _ _ h; simp [szL] at this; omega
    · rw [piecesP] at h
      split at h
      · cases h; have := joinX_size 3 l; omega
      · obtain ⟨y, r1, h1, h2⟩ := bind_inv h
        have a1 := i5 _ _ _ h1
        have a2 := i4 _ _ _ _ h2
        rw [szL_snoc] at a2
        omega
    · rw [pieceP] at h
      obtain ⟨y, r1, h1, h2⟩ := bind_inv h
      have a1 := i6 _ _ _ h1
      have a2 := repsP_size r1 y
      have a3 := repsP_le r1 y
      cases h2
      omega
    · rw [atomP] at h
      split at h
      · rename_i hh
        have := tail_lt hh
        obtain ⟨y, r1, h1, h2⟩ := bind_inv h
        have a1 := i1 _ _ _ h1
        unfold closeP at h2
        split at h2
        · rename_i hh2
          have := tail_lt hh2
          cases h2; omega
        · cases h2
      · split at h
        · rename_i hh; have := tail_lt hh; cases h; rw [setX_size]; omega
        · split at h
          · rename_i hh
            have := tail_lt hh
            obtain ⟨y, r1, h1, h2⟩ := bind_inv h
            have := classP_le h1
            cases h2; rw [setX_size]; omega
          · obtain ⟨y, r1, h1, h2⟩ := bind_inv h
            have := letP_lt h1
            cases h2; rw [setX_size]; omega
end Go.Proofs.Ytpbceejjkdmclaa

/- regex.Parse. -/
namespace Go.Proofs.Ytpbceejjkdmclaa
open Go.RowKit Go.Shelf

attribute [local go_sem] Oper.semAt_some

def zeroX : Ex := ⟨⟨0, []⟩, .nil⟩
/-- What Parse answers. -/
def parseP (l : List UInt8) : Ex × Nat × Int :=
  if 4096 < l.length then (zeroX, 0, 2) else
  match altsP (8 * l.length + 8) l with
  | .bad r => (zeroX, l.length - r.length, 20)
  | .ok x r => if r.length ≠ 0 then (zeroX, l.length - r.length, 20) else if ckE x.h x.k ≠ 0 then (zeroX, 0, 3) else (x, 0, 0)
/-- What a call of Parse comes to. -/
def ParA (l : List UInt8) (w : World) (e : Ending) (w' : World) : Prop :=
  ∃ ea : Ea, ea.x = (parseP l).1 ∧ e = .returned (.tuple #[ea.val, .int .i64 ((parseP l).2.1 : Int), .int .i64 (parseP l).2.2]) ∧ EaP (fun b => w.heap.size ≤ b ∧ b < w'.heap.size) w' ea ∧ Below w.heap.size w w'

theorem parA_zero {l : List UInt8} {w w' : World} {a : Nat} {k : Int} (hP : parseP l = (zeroX, a, k)) (hb : Below w.heap.size w w') : ParA l w (.returned (.tuple #[.agg #[.int .i64 0, .slice none 0 0, .slice none 0 0], .int .i64 (a : Int), .int .i64 k])) w' :=
  ⟨⟨zeroX, none, 0, none, 0⟩, by rw [hP], by rw [hP]; rfl, ⟨SpsP.nil _ _, ItemsP.nil _ _⟩, hb⟩

theorem make_run (fn : Fn) (first cap : Array Value) (w : World) : (Instr.makeFunc fn first cap).run Try.prog w = .ok (.func fn first cap) w := rfl

end Go.Proofs.Ytpbceejjkdmclaa
