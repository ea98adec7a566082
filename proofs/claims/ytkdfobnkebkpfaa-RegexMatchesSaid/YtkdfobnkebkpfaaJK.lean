/- Texts of layer 2 joined: Rdm Rdj Rda Rdb Rdp Rdl Rdv Rds Rdx Rdy Rdz. -/
import Derived.Test.YtkdfobnkebkpfaaJJ
import Derived.Test.YtkdfobnkebkpfaaJB
import Derived.Defers
import Derived.Recover
import Derived.WalkLawsBesides
import Derived.Test.YtkdfobnkebkpfaaJI
set_option linter.unusedVariables false
set_option linter.unusedSimpArgs false
/- Expressions that were read, where they lie; a row of expressions of the call's own grows by one. -/
namespace Go.Proofs.Ytkdfobnkebkpfaa
open Go.RowKit

/-- A slice of spans in blocks of which p holds. -/
structure SpsP (p : Nat → Prop) (w : World) (a : Option Addr) (cap : Nat) (l : List Sp) : Prop where
  sps : Sps w a cap l
  loc : ∀ b off, a = some ⟨b, off, none⟩ → 0 < l.length → p b
/-- The cells from an address on read as these expressions, all in blocks of which p holds. -/
def ElemsP (p : Nat → Prop) (w : World) : Fo → Nat → Nat → Prop
  | .nil, _, _ => True
  | .cons h kids rest, b, off =>
    p b ∧ w.cell? ⟨b, off, none⟩ = some (.int .i64 h.k) ∧ (∃ sa sc, w.cell? ⟨b, off + 1, none⟩ = some (.slice sa h.set.length sc) ∧ SpsP p w sa sc h.set) ∧
    (∃ a cap, w.cell? ⟨b, off + 2, none⟩ = some (.slice a kids.len cap) ∧ kids.len ≤ cap ∧ cap ≤ 9223372036854775807 ∧ (a = none → cap = 0) ∧ (0 < kids.len → ∃ b' off', a = some ⟨b', off', none⟩ ∧ ElemsP p w kids b' off')) ∧
    ElemsP p w rest b (off + 3)
structure ItemsP (p : Nat → Prop) (w : World) (a : Option Addr) (cap : Nat) (f : Fo) : Prop where
  le : f.len ≤ cap
  max : cap ≤ 9223372036854775807
  nil_ : a = none → cap = 0
  at_ : 0 < f.len → ∃ b off, a = some ⟨b, off, none⟩ ∧ ElemsP p w f b off

theorem ElemsP.elems {p : Nat → Prop} {w : World} : ∀ (f : Fo) (b off : Nat), ElemsP p w f b off → Elems w f b off := by
  intro f
  induction f with
  | nil => intro b off _; trivial
  | cons h kids rest ihk ihr =>
    rintro b off ⟨_, h1, ⟨sa, sc, h2, h3⟩, ⟨a, cap, h4, h5, h6, h7, h8⟩, h9⟩
    exact ⟨h1, ⟨sa, sc, h2, h3.sps⟩, ⟨a, cap, h4, h5, h6, h7, fun hn => by obtain ⟨b', o', e, hk⟩ := h8 hn; exact ⟨b', o', e, ihk _ _ hk⟩⟩, ihr _ _ h9⟩
theorem ItemsP.items {p : Nat → Prop} {w : World} {a : Option Addr} {cap : Nat} {f : Fo} (h : ItemsP p w a cap f) : Items w a cap f :=
  ⟨h.le, h.max, h.nil_, fun hn => by obtain ⟨b, o, e, hk⟩ := h.at_ hn; exact ⟨b, o, e, hk.elems f b o⟩⟩
theorem cell_move {w w' : World} {b : Nat} (hb : w'.heap[b]? = w.heap[b]?) (o : Nat) : w'.cell? ⟨b, o, none⟩ = w.cell? ⟨b, o, none⟩ := by
  simp only [World.cell?]
  rw [hb]
theorem SpsP.move {p q : Nat → Prop} {w w' : World} {a : Option Addr} {cap : Nat} {l : List Sp} (h : SpsP p w a cap l) (hm : ∀ b, p b → b < w.heap.size → q b ∧ w'.heap[b]? = w.heap[b]?) : SpsP q w' a cap l := by
  have hlt : ∀ b off, a = some ⟨b, off, none⟩ → 0 < l.length → p b ∧ b < w.heap.size := fun b off e h0 => ⟨h.loc b off e h0, World.block_lt_of_cell? w _ (h.sps.cell b off e 0 h0).1⟩
  refine ⟨⟨h.sps.le, h.sps.max, h.sps.nil_, h.sps.at_, fun b off e i hi => ?_⟩, fun b off e h0 => (hm b (hlt b off e h0).1 (hlt b off e h0).2).1⟩
  have h0 : 0 < l.length := by omega
  have hb := (hm b (hlt b off e h0).1 (hlt b off e h0).2).2
  exact ⟨(cell_move hb _).trans (h.sps.cell b off e i hi).1, (cell_move hb _).trans (h.sps.cell b off e i hi).2⟩
theorem ElemsP.move {p q : Nat → Prop} {w w' : World} (hm : ∀ b, p b → b < w.heap.size → q b ∧ w'.heap[b]? = w.heap[b]?) : ∀ (f : Fo) (b off : Nat), ElemsP p w f b off → ElemsP q w' f b off := by
  intro f
  induction f with
  | nil => intro b off _; trivial
  | cons h kids rest ihk ihr =>
    rintro b off ⟨hp, h1, ⟨sa, sc, h2, h3⟩, ⟨a, cap, h4, h5, h6, h7, h8⟩, h9⟩
    obtain ⟨hq, hb⟩ := hm b hp (World.block_lt_of_cell? w _ h1)
    have hc : ∀ o v, w.cell? ⟨b, o, none⟩ = some v → w'.cell? ⟨b, o, none⟩ = some v := fun o v hv => (cell_move hb o).trans hv
    exact ⟨hq, hc _ _ h1, ⟨sa, sc, hc _ _ h2, h3.move hm⟩, ⟨a, cap, hc _ _ h4, h5, h6, h7, fun hn => by obtain ⟨b', o', e, hk⟩ := h8 hn; exact ⟨b', o', e, ihk _ _ hk⟩⟩, ihr _ _ h9⟩
theorem ItemsP.move {p q : Nat → Prop} {w w' : World} {a : Option Addr} {cap : Nat} {f : Fo} (h : ItemsP p w a cap f) (hm : ∀ b, p b → b < w.heap.size → q b ∧ w'.heap[b]? = w.heap[b]?) : ItemsP q w' a cap f :=
  ⟨h.le, h.max, h.nil_, fun hn => by obtain ⟨b, o, e, hk⟩ := h.at_ hn; exact ⟨b, o, e, ElemsP.move hm f b o hk⟩⟩
theorem ItemsP.nil (p : Nat → Prop) (w : World) : ItemsP p w none 0 .nil := ⟨by simp [Fo.len], by omega, fun _ => rfl, fun h => by simp [Fo.len] at h⟩
theorem SpsP.nil (p : Nat → Prop) (w : World) : SpsP p w none 0 [] := ⟨Sps.nil w, fun _ _ e => by cases e⟩

/-- An expression that was read: what it holds, its parts, and where they lie. -/
structure Ea where
  x : Ex
  sa : Option Addr
  sc : Nat
  a : Option Addr
  c : Nat
def Ea.row (e : Ea) : List Value := [.int .i64 e.x.h.k, .slice e.sa e.x.h.set.length e.sc, .slice e.a e.x.k.len e.c]
abbrev Ea.val (e : Ea) : Value := itemV e.x.h e.sa e.sc e.a e.x.k.len e.c
structure EaP (p : Nat → Prop) (w : World) (e : Ea) : Prop where
  sps : SpsP p w e.sa e.sc e.x.h.set
  items : ItemsP p w e.a e.c e.x.k
theorem EaP.move {p q : Nat → Prop} {w w' : World} {e : Ea} (h : EaP p w e) (hm : ∀ b, p b → b < w.heap.size → q b ∧ w'.heap[b]? = w.heap[b]?) : EaP q w' e := ⟨h.sps.move hm, h.items.move hm⟩
def rowE : List Ea → List Value
  | [] => []
  | e :: r => e.row ++ rowE r
def foE (es : List Ea) : Fo := foX (es.map (·.x))
theorem rowE_length (es : List Ea) : (rowE es).length = es.length * 3 := by
  induction es with
  | nil => rfl
  | cons e r ih => simp [rowE, Ea.row, ih]; omega
theorem rowE_snoc (es : List Ea) (e : Ea) : rowE (es ++ [e]) = rowE es ++ e.row := by
  induction es with
  | nil => simp [rowE]
  | cons x r ih => simp [rowE, ih]
theorem foE_len (es : List Ea) : (foE es).len = es.length := by
  unfold foE
  induction es with
  | nil => rfl
  | cons e r ih => simp [foX, Fo.len, ih]

theorem elems_row {p : Nat → Prop} {w : World} {g : Nat} (hg : p g) : ∀ (es : List Ea) (off : Nat), (∀ j u, (rowE es)[j]? = some u → w.cell? ⟨g, off + j, none⟩ = some u) → (∀ e ∈ es, EaP p w e) → ElemsP p w (foE es) g off := by
  intro es
  induction es with
  | nil => intro off _ _; trivial
  | cons e r ih =>
    intro off hc hi
    have he := hi e (List.mem_cons_self ..)
    refine ⟨hg, by have := hc 0 _ rfl; simpa using this, ⟨e.sa, e.sc, hc 1 _ rfl, he.sps⟩, ⟨e.a, e.c, hc 2 _ rfl, he.items.le, he.items.max, he.items.nil_, he.items.at_⟩, ?_⟩
    refine ih (off + 3) (fun j u hj => ?_) (fun x hx => hi x (List.mem_cons_of_mem _ hx))
    have := hc (j + 3) u (by simpa [rowE, Ea.row] using hj)
    rw [show off + 3 + j = off + (j + 3) from by omega]
    exact this

/-- The row of what was read, as a list of expressions. -/
theorem items_row {p : Nat → Prop} {w : World} {base : Nat} {a : Option Addr} {cap : Nat} {es : List Ea} (ho : w.ownsRow base 25 3 (.slice a es.length cap) es.length (rowE es)) (hg : ∀ g, (Value.slice a es.length cap).ownBlock = some g → p g) (hi : ∀ e ∈ es, EaP p w e) : ItemsP p w a cap (foE es) := by
  rcases ho.2 with ⟨e, e0⟩ | ⟨g, cap', cur, e, _, _, h1, h2, _⟩
  · have hes : es = [] := List.eq_nil_of_length_eq_zero e0
    subst hes
    simp only [List.length_nil, Value.slice.injEq] at e
    obtain ⟨rfl, -, rfl⟩ := e
    exact ItemsP.nil p w
  · simp only [Value.slice.injEq, true_and] at e
    obtain ⟨rfl, rfl⟩ := e
    refine ⟨by rw [foE_len]; exact h1, by unfold maxLen at h2; omega, fun e => (by cases e), fun _ => ⟨g, 0, rfl, ?_⟩⟩
    refine elems_row (hg g rfl) es 0 (fun j u hj => ?_) hi
    rw [Nat.zero_add, ho.cellAt j (by rw [← ho.1]; exact (List.getElem?_eq_some_iff.1 hj).1)]
    exact hj

theorem info_re : (Try.prog.info? 25).map (fun i => (i.zero, i.size, i.bytes)) = some (some (.agg #[.int .i64 0, .slice none 0 0, .slice none 0 0]), 3, 56) := by kernel_rfl

theorem new_cells3 (W : World) (v1 v2 v3 : Value) (t : TypeId) : ∀ j u, [v1, v2, v3][j]? = some u → (W.alloc (.cells #[v1, v2, v3] t)).cell? ((⟨W.heap.size, 0, none⟩ : Addr).add j) = some u := by
  intro j u h
  have hb := Blk.new W t #[v1, v2, v3]
  rw [show (⟨W.heap.size, 0, none⟩ : Addr).add j = ⟨W.heap.size, 0 + j, none⟩ from by unfold Addr.add; split <;> simp_all, Nat.zero_add, hb.cell j]
  exact h

/-- append of one expression onto an own row; the row stays where it is, or goes into a new block. -/
theorem run_item (w : World) (ty : TypeId) {base n cap : Nat} {a : Option Addr} {row : List Value} (e : Ea) (hown : w.ownsRow base 25 3 (.slice a n cap) n row) (hn : n + 1 ≤ 2147483648) (hbase : base ≤ w.heap.size) :
    ∃ a' cap' w', (Builtin.append_ #[23, 23] ty #[.slice a n cap, .slice (some ⟨w.heap.size, 0, none⟩) 1 1]).run Try.prog (w.alloc (.cells #[.int .i64 e.x.h.k, .slice e.sa e.x.h.set.length e.sc, .slice e.a e.x.k.len e.c] 25)) = .ok (.slice a' (n + 1) cap') w' ∧
      w'.ownsRow base 25 3 (.slice a' (n + 1) cap') (n + 1) (row ++ e.row) ∧ w.grownBy w' (Value.slice a n cap).ownBlock ∧ New w.heap.size a a' := by
  obtain ⟨i0, hi, hz0, hz1, hz2⟩ := info_parts info_re
  have hc := new_cells3 w (.int .i64 e.x.h.k) (.slice e.sa e.x.h.set.length e.sc) (.slice e.a e.x.k.len e.c) 25
  have h1 : ∀ u ∈ [Value.int .i64 e.x.h.k, .slice e.sa e.x.h.set.length e.sc, .slice e.a e.x.k.len e.c], u.oneCell' = true := by simp [Value.oneCell']
  have hown2 : (w.alloc (.cells #[.int .i64 e.x.h.k, .slice e.sa e.x.h.set.length e.sc, .slice e.a e.x.k.len e.c] 25)).ownsRow base 25 3 (.slice a n cap) n row := hown.alloc _
  obtain ⟨v', w', hrun, ho, hg, _⟩ := run_append_own (P := Try.prog) (w.alloc (.cells #[.int .i64 e.x.h.k, .slice e.sa e.x.h.set.length e.sc, .slice e.a e.x.k.len e.c] 25)) base 23 ty 25 i0 _ 3 56 Try.underlying23 hi hz0 hz1 hz2 rfl (by decide) _ n _ hown2 ⟨w.heap.size, 0, none⟩ 1 1 [.int .i64 e.x.h.k, .slice e.sa e.x.h.set.length e.sc, .slice e.a e.x.k.len e.c] rfl hc h1 (by unfold maxLen; omega) (by omega) (by simp; omega)
  obtain ⟨a', cap', rfl⟩ := slice_of_own ho
  refine ⟨a', cap', w', hrun, ho, grownBy_trans (World.grownBy_alloc w _ _) hg (fun i e => .inl e), ?_⟩
  rcases hown2.2 with ⟨e1, e0⟩ | ⟨g, cap2, cur, e1, hbg, hg2, hnc, hcm, hcs, htake⟩
  · cases e1
    have hr := run_append_nil (P := Try.prog) (w.alloc (.cells #[.int .i64 e.x.h.k, .slice e.sa e.x.h.set.length e.sc, .slice e.a e.x.k.len e.c] 25)) 23 ty 25 i0 _ Try.underlying23 hi hz0 ⟨w.heap.size, 0, none⟩ 1 1 [.int .i64 e.x.h.k, .slice e.sa e.x.h.set.length e.sc, .slice e.a e.x.k.len e.c] (by rw [hz1]; rfl) hc (by omega) (by omega) (by rw [hz2]; omega)
    rw [hr] at hrun
    simp only [Result.ok.injEq, Value.slice.injEq] at hrun
    exact .inr ⟨_, hrun.1.1.symm, by simp⟩
  · simp only [Value.slice.injEq, true_and] at e1
    obtain ⟨rfl, rfl⟩ := e1
    by_cases hroom : n + 1 ≤ cap
    · obtain ⟨w2, hr, _, _⟩ := run_append_fits (P := Try.prog) (w.alloc (.cells #[.int .i64 e.x.h.k, .slice e.sa e.x.h.set.length e.sc, .slice e.a e.x.k.len e.c] 25)) base 23 ty 25 i0 3 Try.underlying23 hi hz1 g n cap _ hown2 ⟨w.heap.size, 0, none⟩ 1 1 [.int .i64 e.x.h.k, .slice e.sa e.x.h.set.length e.sc, .slice e.a e.x.k.len e.c] rfl hc h1 hroom
      rw [hr] at hrun
      simp only [Result.ok.injEq, Value.slice.injEq] at hrun
      exact .inl hrun.1.1.symm
    · have holds : ∀ j u, row[j]? = some u → (w.alloc (.cells #[.int .i64 e.x.h.k, .slice e.sa e.x.h.set.length e.sc, .slice e.a e.x.k.len e.c] 25)).cell? ((⟨g, 0, none⟩ : Addr).add j) = some u := hown2.cells (g := g) rfl
      have hr := run_append_grow (P := Try.prog) (w.alloc (.cells #[.int .i64 e.x.h.k, .slice e.sa e.x.h.set.length e.sc, .slice e.a e.x.k.len e.c] 25)) 23 ty 25 i0 _ Try.underlying23 hi hz0 ⟨g, 0, none⟩ n cap row (by rw [hown2.1, hz1]) holds ⟨w.heap.size, 0, none⟩ 1 1 [.int .i64 e.x.h.k, .slice e.sa e.x.h.set.length e.sc, .slice e.a e.x.k.len e.c] (by rw [hz1]; rfl) hc (by omega) (by omega) (growslice_fits (by omega) (by rw [hz2]; omega))
      rw [hr] at hrun
      simp only [Result.ok.injEq, Value.slice.injEq] at hrun
      exact .inr ⟨_, hrun.1.1.symm, by simp⟩
end Go.Proofs.Ytkdfobnkebkpfaa

/- regex.joined. -/
namespace Go.Proofs.Ytkdfobnkebkpfaa
open Go.RowKit Go.Shelf

attribute [local go_sem] Oper.semAt_some

def joinV (kind : Int) (es : List Ea) (A : Option Addr) (C : Nat) : Value :=
  match es with
  | [] => itemV ⟨1, []⟩ none 0 none 0 0
  | [e] => e.val
  | es => itemV ⟨kind, []⟩ none 0 A es.length C

theorem blk_put3 {w : World} {b : Nat} {e : TypeId} {c0 c1 c2 : Value} (h : Blk w b e [c0, c1, c2]) (v0 v1 v2 : Value) :
    Blk (((w.setCell ⟨b, 0, none⟩ v0).setCell ⟨b, 1, none⟩ v1).setCell ⟨b, 2, none⟩ v2) b e [v0, v1, v2] := ((h.set 0 v0).set 1 v1).set 2 v2
theorem below_put3 {w0 w : World} {B b : Nat} (h : Below B w0 w) (hb : B ≤ b) (v0 v1 v2 : Value) :
    Below B w0 (((w.setCell ⟨b, 0, none⟩ v0).setCell ⟨b, 1, none⟩ v1).setCell ⟨b, 2, none⟩ v2) := ((h.setCell (p := ⟨b, 0, none⟩) hb v0).setCell (p := ⟨b, 1, none⟩) hb v1).setCell (p := ⟨b, 2, none⟩) hb v2
theorem put3_other {w : World} {b g : Nat} (h : g ≠ b) (v0 v1 v2 : Value) : (((w.setCell ⟨b, 0, none⟩ v0).setCell ⟨b, 1, none⟩ v1).setCell ⟨b, 2, none⟩ v2).heap[g]? = w.heap[g]? := by
  rw [Below.heap_setCell _ _ _ _ (by simpa using h), Below.heap_setCell _ _ _ _ (by simpa using h), Below.heap_setCell _ _ _ _ (by simpa using h)]
theorem put3_size (w : World) (b : Nat) (v0 v1 v2 : Value) : (((w.setCell ⟨b, 0, none⟩ v0).setCell ⟨b, 1, none⟩ v1).setCell ⟨b, 2, none⟩ v2).heap.size = w.heap.size := by
  simp [World.setCell]

set_option maxRecDepth 100000 in
set_option maxHeartbeats 400000 in
theorem joined_any (kind : Int) (es : List Ea) (A : Option Addr) (n C base : Nat) (w : World) (ho : w.ownsRow base 25 3 (.slice A n C) n (rowE es)) (hn : n = es.length) (hn2 : n ≤ 2147483648) :
    Calls Try.prog 58 #[.int .i64 kind, .slice A n C] w fun e w' => e = .returned (joinV kind es A C) ∧ Below w.heap.size w w' := by
  have hB0 := Blk.new w 25 #[.int .i64 0, .slice none 0 0, .slice none 0 0]
  have hb0 : Below w.heap.size w (w.alloc (.cells #[.int .i64 0, .slice none 0 0, .slice none 0 0] 25)) := (Below.refl _ w).alloc (Nat.le_refl _) _
  by_cases h0 : n = 0
  · have hes : es = [] := List.length_eq_zero_iff.1 (hn.symm.trans h0)
    subst hes
    subst h0
    clear hn ho
    go_enter Try.func58, Try.ntmps58
    go_wp2_with (fail)
    have hF := blk_put3 hB0 (.int .i64 1) (.slice none 0 0) (.slice none 0 0)
    have hbF := below_put3 hb0 (Nat.le_refl w.heap.size) (.int .i64 1) (.slice none 0 0) (.slice none 0 0)
    refine bodyPost_ret (v := itemV ⟨1, []⟩ none 0 none 0 0) ?_ rfl ⟨rfl, ?_⟩
    · simp [results, Try.f58, go_sem]
    · exact (Below.refl _ w).alloc (Nat.le_refl _) _
  · by_cases h1 : n = 1
    · obtain ⟨e, rfl⟩ := List.length_eq_one_iff.1 (hn.symm.trans h1)
      subst h1
      obtain ⟨g, rfl⟩ : ∃ g, A = some ⟨g, 0, none⟩ := by
        rcases ho.2 with ⟨_, e⟩ | ⟨g, cap', cur, e, _⟩
        · omega
        · injection e with e1 _ _; exact ⟨g, e1⟩
      have c0 := ho.cellAt 0 (by omega)
      have c1 := ho.cellAt 1 (by omega)
      have c2 := ho.cellAt 2 (by omega)
      simp only [rowE, Ea.row, List.cons_append, List.nil_append, List.getElem?_cons_zero, List.getElem?_cons_succ] at c0 c1 c2
      have hg := World.block_lt_of_cell? w _ c0
      have hle : 1 ≤ C := by
        rcases ho.2 with ⟨_, e⟩ | ⟨g, cap', cur, e, _, _, h, _⟩
        · omega
        · injection e with _ _ e; omega
      clear ho hn h0
      go_enter Try.func58, Try.ntmps58
      go_wp2_with (fail)
      refine bodyPost_ret (v := e.val) ?_ rfl ⟨rfl, (Below.refl _ w).alloc (Nat.le_refl _) _⟩
      simp [results, Try.f58, go_sem, itemV]
    · have hes : joinV kind es A C = itemV ⟨kind, []⟩ none 0 A es.length C := by
        match es, hn with
        | [], hn => simp at hn; omega
        | [_], hn => simp at hn; omega
        | _ :: _ :: _, _ => rfl
      rw [hes, ← hn]
      have q0 : ((n : Int) == 0) = false := by simp; omega
      have q1 : ((n : Int) == 1) = false := by simp; omega
      clear ho hn h0 h1 hes
      go_enter Try.func58, Try.ntmps58
      go_wp2_with (fail)
      refine bodyPost_ret (v := itemV ⟨kind, []⟩ none 0 A n C) ?_ rfl ⟨rfl, (Below.refl _ w).alloc (Nat.le_refl _) _⟩
      simp [results, Try.f58, go_sem]
end Go.Proofs.Ytkdfobnkebkpfaa

/- regex.reader.atom, where alternatives is as it should be. -/
namespace Go.Proofs.Ytkdfobnkebkpfaa
open Go.RowKit Go.Shelf

attribute [local go_sem] Oper.semAt_some

/-- An expression that was read, in blocks that were made since. -/
def exV (n : Nat) (x : Ex) (w' : World) (val : Value) : Prop := ∃ e : Ea, e.x = x ∧ val = e.val ∧ EaP (fun b => n ≤ b ∧ b < w'.heap.size) w' e
theorem EaP.grow {w w' : World} {n : Nat} {r : Option Nat} {e : Ea} (h : EaP (fun b => n ≤ b ∧ b < w.heap.size) w e) (hg : w.grownBy w' r) (hr : ∀ i, r = some i → i < n) : EaP (fun b => n ≤ b ∧ b < w'.heap.size) w' e :=
  h.move fun b hp hlt => ⟨⟨hp.1, Nat.lt_of_lt_of_le hp.2 hg.size⟩, hg.block b hlt (fun e => by have := hr b e.symm; omega)⟩
theorem EaP.weak {w : World} {n m : Nat} {e : Ea} (h : EaP (fun b => n ≤ b ∧ b < w.heap.size) w e) (hm : m ≤ n) : EaP (fun b => m ≤ b ∧ b < w.heap.size) w e :=
  h.move fun b hp _ => ⟨⟨Nat.le_trans hm hp.1, hp.2⟩, rfl⟩
theorem At.put3 {w : World} {b rb a : Nat} {s : ByteArray} (h : At w rb s a) (hne : rb ≠ b) (v0 v1 v2 : Value) : At (((w.setCell ⟨b, 0, none⟩ v0).setCell ⟨b, 1, none⟩ v1).setCell ⟨b, 2, none⟩ v2) rb s a :=
  ((Blk.setOther h hne v0).setOther hne v1).setOther hne v2
theorem grow_put3 {w w' : World} {b : Nat} {r : Option Nat} (h : w.grownBy w' r) (hb : w.heap.size ≤ b) (v0 v1 v2 : Value) : w.grownBy (((w'.setCell ⟨b, 0, none⟩ v0).setCell ⟨b, 1, none⟩ v1).setCell ⟨b, 2, none⟩ v2) r :=
  grow_new (grow_new (grow_new h hb 0 v0) hb 1 v1) hb 2 v2
theorem put3_grow (w : World) (b : Nat) (v0 v1 v2 : Value) : w.grownBy (((w.setCell ⟨b, 0, none⟩ v0).setCell ⟨b, 1, none⟩ v1).setCell ⟨b, 2, none⟩ v2) (some b) :=
  grownBy_rb (grownBy_rb (grownBy_set w b 0 v0) (grownBy_set _ b 1 v1)) (grownBy_set _ b 2 v2)

/-- alternatives' contract for what is shorter. -/
def AltsC (N : Nat) : Prop := ∀ (w : World) (rb : Nat) (s : ByteArray) (a : Nat) (r : List UInt8) (F : Nat), r.length < N → 8 * r.length + 8 ≤ F → At w rb s a → Suf s a r → s.size ≤ 4096 →
  Calls Try.prog 41 #[.pointer (some ⟨rb, 0, none⟩)] w (Ans (exV w.heap.size) w rb s (altsP F r))

abbrev re0 : Array Value := #[.int .i64 0, .slice none 0 0, .slice none 0 0]

/-- What is returned out of the result's own cells. -/
theorem ret_cells {w w' : World} {rb : Nat} {s : ByteArray} {a : Nat} {X : Rd Ex} {r : List UInt8} {e : Ea} {n : Nat} (hX : X = .ok e.x r) (hS : Suf s a r) (hA : At w' rb s a) (hg : w.grownBy w' (some rb)) (hB : Blk w' w.heap.size 25 [.int .i64 0, .slice none 0 0, .slice none 0 0] ∨ True) (he : EaP (fun b => n ≤ b ∧ b < w'.heap.size) w' e) (hn : w.heap.size < n) (hrb : rb < w.heap.size) :
    Ans (exV w.heap.size) w rb s X (.returned e.val) (((w'.setCell ⟨w.heap.size, 0, none⟩ (.int .i64 e.x.h.k)).setCell ⟨w.heap.size, 1, none⟩ (.slice e.sa e.x.h.set.length e.sc)).setCell ⟨w.heap.size, 2, none⟩ (.slice e.a e.x.k.len e.c)) :=
  Ans.ok' hX hS ⟨e, rfl, rfl, (he.grow (put3_grow w' w.heap.size _ _ _) (fun i ei => by cases ei; exact hn)).weak (by omega)⟩ (hA.put3 (by omega) _ _ _) (grow_put3 hg (Nat.le_refl _) _ _ _)

set_option maxRecDepth 100000 in
set_option maxHeartbeats 1000000 in
theorem atom_paren (N : Nat) (ih : AltsC N) (w : World) (rb : Nat) (s : ByteArray) (a : Nat) (r : List UInt8) (F : Nat) (hN : r.length < N + 1) (hF : 8 * r.length + 1 ≤ F) (hA : At w rb s a) (hS : Suf s a r) (hs : s.size ≤ 4096) (hh : headIs 40 r = true) :
    Calls Try.prog 80 #[.pointer (some ⟨rb, 0, none⟩)] w (Ans (exV w.heap.size) w rb s (atomP F r)) := by
  have hrb := hA.lt
  cases F with
  | zero => omega
  | succ F =>
  have hE : Hid (atomP (F + 1) r = (altsP F r.tail).bind closeP) := Lib.hid (by simp only [atomP, hh, if_true])
  have hB0 := Blk.new w 25 re0
  have hg0 := World.grownBy_alloc w (.cells re0 25) (some rb)
  have hA0 := hA.alloc (.cells re0 25)
  obtain ⟨hlt, hc, hS1⟩ := headIs_lt hS hh
  have htl := tail_lt hh
  have ht := take_yes _ rb s a r 40 40 rfl hA0 hS hs hh
  have hsz0 : (w.alloc (.cells re0 25)).heap.size = w.heap.size + 1 := by simp
  clear hS hc hA hh
  go_enter Try.func80, Try.ntmps80
  go_wp2_with (go_at_call 57; (with_reducible refine ht.mono ?_); rintro e w2 ⟨rfl, hA2, hg2⟩)
  have hB2 := hB0.kept hg2 (by simp; omega)
  have hg02 := grownBy_rb hg0 hg2
  have hz2 : w.heap.size < w2.heap.size := hB2.lt
  refine (ih w2 rb s (a + 1) r.tail F (by omega) (by omega) hA2 hS1 hs).mono ?_
  rintro e w3 hans
  rcases hans.parts with ⟨x, r3, a3, val, hd, hS3, rfl, hval, hA3, hg3⟩ | ⟨r3, a3, hd, hS3, rfl, hg3⟩
  · obtain ⟨ea, rfl, rfl, hea⟩ := hval
    have HD := Lib.hid hd
    have hB3 := hB2.kept hg3 (by simp; omega)
    have hg03 := grownBy_rb hg02 hg3
    clear hd hans ht hB2 hB0 hg02 hg2 hg3 hg0 hA2 hA0
    dsimp only [Ea.val, itemV]
    have hA4 := hA3.alloc (.cells #[.int .i64 ea.x.h.k, .slice ea.sa ea.x.h.set.length ea.sc, .slice ea.a ea.x.k.len ea.c] 25)
    have hB4 := hB3.alloc (.cells #[.int .i64 ea.x.h.k, .slice ea.sa ea.x.h.set.length ea.sc, .slice ea.a ea.x.k.len ea.c] 25)
    have hC4 := Blk.new w3 25 #[.int .i64 ea.x.h.k, .slice ea.sa ea.x.h.set.length ea.sc, .slice ea.a ea.x.k.len ea.c]
    have hg04 := grownBy_rb hg03 (World.grownBy_alloc w3 (.cells #[.int .i64 ea.x.h.k, .slice ea.sa ea.x.h.set.length ea.sc, .slice ea.a ea.x.k.len ea.c] 25) (some rb))
    have hea4 := hea.grow (World.grownBy_alloc w3 (.cells #[.int .i64 ea.x.h.k, .slice ea.sa ea.x.h.set.length ea.sc, .slice ea.a ea.x.k.len ea.c] 25) none) (fun i e => by cases e)
    have hz3 := hB3.lt
    by_cases hh : headIs 41 r3 = true
    · obtain ⟨hlt3, hc3, hS5⟩ := headIs_lt hS3 hh
      have ht := take_yes _ rb s a3 r3 41 41 rfl hA4 hS3 hs hh
      have HH := Lib.hid hh
      clear hh hc3
      go_wp2_with (go_at_call 57; (with_reducible refine ht.mono ?_); rintro e w5 ⟨rfl, hA5, hg5⟩; have hB5 := hB4.kept hg5 (by simp; omega); have hC5 := hC4.kept hg5 (by simp; omega); have b0 := hC5.cell 0; have b1 := hC5.cell 1; have b2 := hC5.cell 2; have z0 := hB5.cell 0; have z1 := hB5.cell 1; have z2 := hB5.cell 2; have f0 := hB5.frozen 0; have f1 := hB5.frozen 1; have f2 := hB5.frozen 2; simp only [re0, List.getElem?_cons_zero, List.getElem?_cons_succ] at b0 b1 b2 z0 z1 z2; have hbl := hB5.lt; have hcl := hC5.lt)
      have hg05 := grownBy_rb hg04 hg5
      have hea5 := hea4.grow hg5 (fun i e => by cases e; omega)
      have hF := blk_put3 hB5 (.int .i64 ea.x.h.k) (.slice ea.sa ea.x.h.set.length ea.sc) (.slice ea.a ea.x.k.len ea.c)
      have g0 := hF.cell 0
      have g1 := hF.cell 1
      have g2 := hF.cell 2
      simp only [List.getElem?_cons_zero, List.getElem?_cons_succ] at g0 g1 g2
      refine bodyPost_ret (v := ea.val) ?_ rfl (ret_cells (r := r3.tail) ?_ hS5 hA5 hg05 (.inr trivial) hea5 hz2 hrb)
      · simp [results, Try.f80, go_sem, g0, g1, g2, itemV]
      · rw [hE.out, HD.out, Rd.bind_ok, closeP, if_pos HH.out]
    · rw [Bool.not_eq_true] at hh
      have ht := take_no _ rb s a3 r3 41 41 rfl hA4 hS3 hs hh
      have HH := Lib.hid hh
      clear hh
      go_wp2_with (go_at_call 57; (with_reducible refine ht.mono ?_); rintro e w5 ⟨rfl, hA5, hg5⟩; obtain ⟨d0, d1⟩ := hA5.cells)
      exact ⟨rfl, Ans.bad' (by rw [hE.out, HD.out, Rd.bind_ok, closeP, if_neg (by rw [HH.out]; simp)]) hS3 (grownBy_rb hg04 hg5)⟩
  · have hg03 := grownBy_rb hg02 hg3
    go_wp2_with (fail)
    exact ⟨rfl, Ans.bad' (by rw [hE.out, hd, Rd.bind_bad]) hS3 hg03⟩
end Go.Proofs.Ytkdfobnkebkpfaa

/- regex.reader.atom: a dot, a class, a letter. -/
namespace Go.Proofs.Ytkdfobnkebkpfaa
open Go.RowKit Go.Shelf

attribute [local go_sem] Oper.semAt_some

/-- One span that was written out. -/
theorem Sps.lit (w : World) (sp : Sp) : Sps (w.alloc (.cells #[.int .u8 (sp.lo.toNat : Int), .int .u8 (sp.hi.toNat : Int)] 52)) (some ⟨w.heap.size, 0, none⟩) 1 [sp] := by
  have hB := Blk.new w 52 #[.int .u8 (sp.lo.toNat : Int), .int .u8 (sp.hi.toNat : Int)]
  refine ⟨by simp, by omega, fun e => (by cases e), fun i _ => ⟨_, _, rfl⟩, fun b off e i hi => ?_⟩
  cases e
  have : i = 0 := by simpa using hi
  subst this
  exact ⟨hB.cell 0, hB.cell 1⟩

/-- The expression of a Set that ofSet has made. -/
theorem set_ea {w w' : World} {p : Nat → Bool} {a : Option Addr} {cap : Nat} (hs : Sps w' a cap (spP p 256)) (hloc : ∀ b off, a = some ⟨b, off, none⟩ → w.heap.size ≤ b) : EaP (fun b => w.heap.size ≤ b ∧ b < w'.heap.size) w' ⟨setX (spP p 256), a, cap, none, 0⟩ :=
  ⟨⟨hs, fun b off e h0 => ⟨hloc b off e, World.block_lt_of_cell? w' _ (hs.cell b off e 0 h0).1⟩⟩, ItemsP.nil _ _⟩

set_option maxRecDepth 100000 in
set_option maxHeartbeats 1000000 in
theorem atom_dot (w : World) (rb : Nat) (s : ByteArray) (a : Nat) (r : List UInt8) (F : Nat) (hF : 1 ≤ F) (hA : At w rb s a) (hS : Suf s a r) (hs : s.size ≤ 4096) (h40 : headIs 40 r = false) (hh : headIs 46 r = true) :
    Calls Try.prog 80 #[.pointer (some ⟨rb, 0, none⟩)] w (Ans (exV w.heap.size) w rb s (atomP F r)) := by
  have hrb := hA.lt
  cases F with
  | zero => omega
  | succ F =>
  have hE : Hid (atomP (F + 1) r = .ok (setX (spP (setM ([⟨10, 10⟩], true)) 256)) r.tail) := Lib.hid (by simp only [atomP, h40, hh, if_true, Bool.false_eq_true, if_false])
  have hB0 := Blk.new w 25 re0
  have hg0 := World.grownBy_alloc w (.cells re0 25) (some rb)
  have hA0 := hA.alloc (.cells re0 25)
  obtain ⟨hlt, hc, hS1⟩ := headIs_lt hS hh
  have ht1 := take_no _ rb s a r 40 40 rfl hA0 hS hs h40
  have HS := Lib.hid hS
  have H46 := Lib.hid hh
  clear hS hc hA hh h40
  go_enter Try.func80, Try.ntmps80
  go_wp2_with (go_at_call 57; (with_reducible refine ht1.mono ?_); rintro e w1 ⟨rfl, hA1, hg1⟩)
  have hB1 := hB0.kept hg1 (by simp; omega)
  have hg01 := grownBy_rb hg0 hg1
  refine (take_yes w1 rb s a r 46 46 rfl hA1 HS.out hs H46.out).mono ?_
  rintro e w2 ⟨rfl, hA2, hg2⟩
  have hB2 := hB1.kept hg2 (by simp; omega)
  have hg02 := grownBy_rb hg01 hg2
  clear hB0 hB1 hg0 hg1 hg2 hg01 hA0 hA1 ht1
  have hsp := Sps.lit w2 ⟨10, 10⟩
  have hso := setOf_any _ 1 1 _ _ hsp rfl
  have hb3 : Below w2.heap.size w2 (w2.alloc (.cells #[.int .u8 10, .int .u8 10] 52)) := (Below.refl _ _).alloc (Nat.le_refl _) _
  change Calls Try.prog 38 _ (w2.alloc (.cells #[.int .u8 10, .int .u8 10] 52)) _ at hso
  have Hso := Lib.hid hso
  clear hso hsp
  go_wp2_with (first
    | (go_at_call 38; (with_reducible refine Hso.out.mono ?_); rintro e w4 ⟨⟨f, rfl, hf⟩, hb4⟩)
    | (go_at_call 85; (with_reducible refine (others_any _ f).mono ?_); rintro e w5 ⟨rfl, hb5⟩; have hof := ofSet_any w5 (fun i => ~~~ f i) (setM ([⟨10, 10⟩], true)) (fun c => by rw [hasW_not, hf]; rfl))
    | (go_at_call 84; (with_reducible refine hof.mono ?_); rintro e w6 ⟨a6, c6, rfl, hs6, hloc6, hb6⟩;
       have hb26 : Below w2.heap.size w2 w6 := ((hb3.trans (hb4.mono (by simp))).trans (hb5.mono (Nat.le_trans (by simp) hb4.size))).trans (hb6.mono (Nat.le_trans (Nat.le_trans (by simp) hb4.size) hb5.size));
       have hB6 := hB2.below hb26 hB2.lt; have z0 := hB6.cell 0; have z1 := hB6.cell 1; have z2 := hB6.cell 2; have f0 := hB6.frozen 0; have f1 := hB6.frozen 1; have f2 := hB6.frozen 2; simp only [re0, List.getElem?_cons_zero, List.getElem?_cons_succ] at z0 z1 z2; have hbl := hB6.lt))
  have hz2 : w.heap.size < w5.heap.size := by
    have h1 := hB2.lt
    have h2 := hb4.size
    have h3 := hb5.size
    simp at h2
    omega
  have hF := blk_put3 hB6 (.int .i64 2) (.slice a6 (spP (setM ([⟨10, 10⟩], true)) 256).length c6) (.slice none 0 0)
  have g0 := hF.cell 0
  have g1 := hF.cell 1
  have g2 := hF.cell 2
  simp only [List.getElem?_cons_zero, List.getElem?_cons_succ] at g0 g1 g2
  have hA6 := Blk.below hA2 hb26 hA2.lt
  refine bodyPost_ret (v := itemV ⟨2, spP (setM ([⟨10, 10⟩], true)) 256⟩ a6 c6 none 0 0) ?_ rfl (ret_cells (e := ⟨setX (spP (setM ([⟨10, 10⟩], true)) 256), a6, c6, none, 0⟩) (r := r.tail) hE.out hS1 hA6 (grownBy_rb hg02 (below_grownBy hb26 (some rb))) (.inr trivial) (set_ea hs6 hloc6) hz2 hrb)
  simp [results, Try.f80, go_sem, g0, g1, g2]

set_option maxRecDepth 100000 in
set_option maxHeartbeats 1000000 in
theorem atom_class (w : World) (rb : Nat) (s : ByteArray) (a : Nat) (r : List UInt8) (F : Nat) (hF : 1 ≤ F) (hA : At w rb s a) (hS : Suf s a r) (hs : s.size ≤ 4096) (h40 : headIs 40 r = false) (h46 : headIs 46 r = false) (hh : headIs 91 r = true) :
    Calls Try.prog 80 #[.pointer (some ⟨rb, 0, none⟩)] w (Ans (exV w.heap.size) w rb s (atomP F r)) := by
  have hrb := hA.lt
  cases F with
  | zero => omega
  | succ F =>
  have hE : Hid (atomP (F + 1) r = (classP r.tail).bind fun x r1 => .ok (setX (spP (setM x) 256)) r1) := Lib.hid (by simp only [atomP, h40, h46, hh, if_true, Bool.false_eq_true, if_false])
  have hB0 := Blk.new w 25 re0
  have hg0 := World.grownBy_alloc w (.cells re0 25) (some rb)
  have hA0 := hA.alloc (.cells re0 25)
  obtain ⟨hlt, hc, hS1⟩ := headIs_lt hS hh
  have ht1 := take_no _ rb s a r 40 40 rfl hA0 hS hs h40
  have HS := Lib.hid hS
  have H46 := Lib.hid h46
  have H91 := Lib.hid hh
  clear hS hc hA hh h40 h46
  go_enter Try.func80, Try.ntmps80
  go_wp2_with (go_at_call 57; (with_reducible refine ht1.mono ?_); rintro e w1 ⟨rfl, hA1, hg1⟩)
  have hB1 := hB0.kept hg1 (by simp; omega)
  have hg01 := grownBy_rb hg0 hg1
  refine (take_no w1 rb s a r 46 46 rfl hA1 HS.out hs H46.out).mono ?_
  rintro e w2 ⟨rfl, hA2, hg2⟩
  have hB2 := hB1.kept hg2 (by simp; omega)
  have hg02 := grownBy_rb hg01 hg2
  clear hB0 hB1 hg0 hg1 hg2 hg01 hA0 hA1 ht1
  go_wp2_with (fail)
  refine (take_yes w2 rb s a r 91 91 rfl hA2 HS.out hs H91.out).mono ?_
  rintro e w3 ⟨rfl, hA3, hg3⟩
  have hB3 := hB2.kept hg3 (by simp; omega)
  have hg03 := grownBy_rb hg02 hg3
  clear hB2 hg02 hg3 hA2
  go_wp2_with (fail)
  refine (class_any w3 rb s (a + 1) r.tail hA3 hS1 hs).mono ?_
  rintro e w4 hans
  rcases hans.parts with ⟨x, r4, a4, val, hd, hS4, rfl, hval, hA4, hg4⟩ | ⟨r4, a4, hd, hS4, rfl, hg4⟩
  · obtain ⟨f, rfl, hf⟩ := hval
    have HD := Lib.hid hd
    have hB4 := hB3.kept hg4 (by simp; omega)
    have hg04 := grownBy_rb hg03 hg4
    have hof := ofSet_any w4 f (setM x) hf
    have Hof := Lib.hid hof
    clear hd hans hB3 hg03 hg4 hf hof
    go_wp2_with (go_at_call 84; (with_reducible refine Hof.out.mono ?_); rintro e w6 ⟨a6, c6, rfl, hs6, hloc6, hb6⟩; have hB6 := hB4.below hb6 hB4.lt; have z0 := hB6.cell 0; have z1 := hB6.cell 1; have z2 := hB6.cell 2; have f0 := hB6.frozen 0; have f1 := hB6.frozen 1; have f2 := hB6.frozen 2; simp only [re0, List.getElem?_cons_zero, List.getElem?_cons_succ] at z0 z1 z2; have hbl := hB6.lt)
    have hz2 : w.heap.size < w4.heap.size := hB4.lt
    have hF := blk_put3 hB6 (.int .i64 2) (.slice a6 (spP (setM x) 256).length c6) (.slice none 0 0)
    have g0 := hF.cell 0
    have g1 := hF.cell 1
    have g2 := hF.cell 2
    simp only [List.getElem?_cons_zero, List.getElem?_cons_succ] at g0 g1 g2
    have hA6 := Blk.below hA4 hb6 hA4.lt
    refine bodyPost_ret (v := itemV ⟨2, spP (setM x) 256⟩ a6 c6 none 0 0) ?_ rfl (ret_cells (e := ⟨setX (spP (setM x) 256), a6, c6, none, 0⟩) (r := r4) (by rw [hE.out, HD.out, Rd.bind_ok]) hS4 hA6 (grownBy_rb hg04 (below_grownBy hb6 (some rb))) (.inr trivial) (set_ea hs6 hloc6) hz2 hrb)
    simp [results, Try.f80, go_sem, g0, g1, g2]
  · have hg04 := grownBy_rb hg03 hg4
    go_wp2_with (fail)
    exact ⟨rfl, Ans.bad' (by rw [hE.out, hd, Rd.bind_bad]) hS4 hg04⟩

theorem outs_arg : (ByteArray.mk #[92, 124, 42, 43, 63, 40, 41, 91, 93, 46]).data.toList = outs := rfl

set_option maxRecDepth 100000 in
set_option maxHeartbeats 1000000 in
theorem atom_letter (w : World) (rb : Nat) (s : ByteArray) (a : Nat) (r : List UInt8) (F : Nat) (hF : 1 ≤ F) (hA : At w rb s a) (hS : Suf s a r) (hs : s.size ≤ 4096) (h40 : headIs 40 r = false) (h46 : headIs 46 r = false) (hh : headIs 91 r = false) :
    Calls Try.prog 80 #[.pointer (some ⟨rb, 0, none⟩)] w (Ans (exV w.heap.size) w rb s (atomP F r)) := by
  have hrb := hA.lt
  cases F with
  | zero => omega
  | succ F =>
  have hE : Hid (atomP (F + 1) r = (letP outs r).bind fun c r1 => .ok (setX (spP (setM ([⟨c, c⟩], false)) 256)) r1) := Lib.hid (by simp only [atomP, h40, h46, hh, Bool.false_eq_true, if_false])
  have hB0 := Blk.new w 25 re0
  have hg0 := World.grownBy_alloc w (.cells re0 25) (some rb)
  have hA0 := hA.alloc (.cells re0 25)
  have ht1 := take_no _ rb s a r 40 40 rfl hA0 hS hs h40
  have HS := Lib.hid hS
  have H46 := Lib.hid h46
  have H91 := Lib.hid hh
  clear hS hA hh h40 h46
  go_enter Try.func80, Try.ntmps80
  go_wp2_with (go_at_call 57; (with_reducible refine ht1.mono ?_); rintro e w1 ⟨rfl, hA1, hg1⟩)
  have hB1 := hB0.kept hg1 (by simp; omega)
  have hg01 := grownBy_rb hg0 hg1
  refine (take_no w1 rb s a r 46 46 rfl hA1 HS.out hs H46.out).mono ?_
  rintro e w2 ⟨rfl, hA2, hg2⟩
  have hB2 := hB1.kept hg2 (by simp; omega)
  have hg02 := grownBy_rb hg01 hg2
  clear hB0 hB1 hg0 hg1 hg2 hg01 hA0 hA1 ht1
  go_wp2_with (fail)
  refine (take_no w2 rb s a r 91 91 rfl hA2 HS.out hs H91.out).mono ?_
  rintro e w3 ⟨rfl, hA3, hg3⟩
  have hB3 := hB2.kept hg3 (by simp; omega)
  have hg03 := grownBy_rb hg02 hg3
  clear hB2 hg02 hg3 hA2
  go_wp2_with (fail)
  have hl := letter_any w3 rb s a r (ByteArray.mk #[92, 124, 42, 43, 63, 40, 41, 91, 93, 46]) hA3 HS.out hs
  rw [outs_arg] at hl
  refine hl.mono ?_
  rintro e w4 hans
  rcases hans.parts with ⟨c, r4, a4, val, hd, hS4, rfl, hval, hA4, hg4⟩ | ⟨r4, a4, hd, hS4, rfl, hg4⟩
  · unfold u8V at hval
    subst hval
    have HD := Lib.hid hd
    have hB4 := hB3.kept hg4 (by simp; omega)
    have hg04 := grownBy_rb hg03 hg4
    have hsp := Sps.lit w4 ⟨c, c⟩
    have hso := setOf_any _ 1 1 _ _ hsp rfl
    have hb5 : Below w4.heap.size w4 (w4.alloc (.cells #[.int .u8 (c.toNat : Int), .int .u8 (c.toNat : Int)] 52)) := (Below.refl _ _).alloc (Nat.le_refl _) _
    dsimp only at hso
    have Hso := Lib.hid hso
    clear hd hans hB3 hg03 hg4 hso hsp hl
    go_wp2_with (first
      | (go_at_call 38; (with_reducible refine Hso.out.mono ?_); rintro e w5 ⟨⟨f, rfl, hf⟩, hb6⟩; have hof := ofSet_any w5 f (setM ([⟨c, c⟩], false)) (fun d => by rw [hf]; rfl))
      | (go_at_call 84; (with_reducible refine hof.mono ?_); rintro e w6 ⟨a6, c6, rfl, hs6, hloc6, hb7⟩;
         have hb47 : Below w4.heap.size w4 w6 := (hb5.trans (hb6.mono (by simp))).trans (hb7.mono (Nat.le_trans (by simp) hb6.size));
         have hB6 := hB4.below hb47 hB4.lt; have z0 := hB6.cell 0; have z1 := hB6.cell 1; have z2 := hB6.cell 2; have f0 := hB6.frozen 0; have f1 := hB6.frozen 1; have f2 := hB6.frozen 2; simp only [re0, List.getElem?_cons_zero, List.getElem?_cons_succ] at z0 z1 z2; have hbl := hB6.lt))
    have hz2 : w.heap.size < w5.heap.size := by
      have h1 := hB4.lt
      have h2 := hb6.size
      simp at h2
      omega
    have hF := blk_put3 hB6 (.int .i64 2) (.slice a6 (spP (setM ([⟨c, c⟩], false)) 256).length c6) (.slice none 0 0)
    have g0 := hF.cell 0
    have g1 := hF.cell 1
    have g2 := hF.cell 2
    simp only [List.getElem?_cons_zero, List.getElem?_cons_succ] at g0 g1 g2
    have hA6 := Blk.below hA4 hb47 hA4.lt
    refine bodyPost_ret (v := itemV ⟨2, spP (setM ([⟨c, c⟩], false)) 256⟩ a6 c6 none 0 0) ?_ rfl (ret_cells (e := ⟨setX (spP (setM ([⟨c, c⟩], false)) 256), a6, c6, none, 0⟩) (r := r4) (by rw [hE.out, HD.out, Rd.bind_ok]) hS4 hA6 (grownBy_rb hg04 (below_grownBy hb47 (some rb))) (.inr trivial) (set_ea hs6 hloc6) hz2 hrb)
    simp [results, Try.f80, go_sem, g0, g1, g2]
  · have hg04 := grownBy_rb hg03 hg4
    go_wp2_with (fail)
    exact ⟨rfl, Ans.bad' (by rw [hE.out, hd, Rd.bind_bad]) hS4 hg04⟩

theorem atom_any (N : Nat) (ih : AltsC N) (w : World) (rb : Nat) (s : ByteArray) (a : Nat) (r : List UInt8) (F : Nat) (hN : r.length < N + 1) (hF : 8 * r.length + 1 ≤ F) (hA : At w rb s a) (hS : Suf s a r) (hs : s.size ≤ 4096) :
    Calls Try.prog 80 #[.pointer (some ⟨rb, 0, none⟩)] w (Ans (exV w.heap.size) w rb s (atomP F r)) := by
  cases h40 : headIs 40 r with
  | true => exact atom_paren N ih w rb s a r F hN hF hA hS hs h40
  | false =>
    cases h46 : headIs 46 r with
    | true => exact atom_dot w rb s a r F (by omega) hA hS hs h40 h46
    | false =>
      cases h91 : headIs 91 r with
      | true => exact atom_class w rb s a r F (by omega) hA hS hs h40 h46 h91
      | false => exact atom_letter w rb s a r F (by omega) hA hS hs h40 h46 h91
end Go.Proofs.Ytkdfobnkebkpfaa

/- regex.reader.piece, where alternatives is as it should be. -/
namespace Go.Proofs.Ytkdfobnkebkpfaa
open Go.RowKit Go.Shelf

attribute [local go_sem] Oper.semAt_some

theorem reps_le (c : UInt8) : Lib.indexByte reps c ≤ 2 := by
  unfold reps
  simp only [Lib.indexByte]
  repeat' split
  all_goals omega

/-- What is known between two rounds: the expression so far stands in a box. -/
def PcI (w : World) (rb bx : Nat) (s : ByteArray) (X : Ex × List UInt8) (W : World) : Prop :=
  ∃ (ea : Ea) (r : List UInt8) (a : Nat), Suf s a r ∧ At W rb s a ∧ Blk W bx 25 ea.row ∧ EaP (fun b => w.heap.size + 1 ≤ b ∧ b < W.heap.size ∧ b ≠ bx) W ea ∧ w.grownBy W (some rb) ∧ Blk W w.heap.size 25 [.int .i64 0, .slice none 0 0, .slice none 0 0] ∧ repsP ea.x r = X

/-- One repetition more. -/
theorem pc_step {w : World} {rb bx : Nat} {s : ByteArray} {X : Ex × List UInt8} {V : World} {eb : Ea} {r3 : List UInt8} {a2 : Nat} {K : Int} (hS : Suf s (a2 + 1) r3) (hA : At V rb s a2) (hC : Blk V bx 25 eb.row) (he : EaP (fun b => w.heap.size + 1 ≤ b ∧ b < V.heap.size ∧ b ≠ bx) V eb) (hg : w.grownBy V (some rb)) (hB : Blk V w.heap.size 25 [.int .i64 0, .slice none 0 0, .slice none 0 0])
    (hrb : rb < w.heap.size) (hbx : w.heap.size < bx) (hX : repsP ⟨⟨5 + K, []⟩, .cons eb.x.h eb.x.k .nil⟩ r3 = X) :
    PcI w rb bx s X (((((V.setCell ⟨rb, 1, none⟩ (.int .i64 ((a2 : Int) + 1))).setCell ⟨bx, 0, none⟩ (.int .i64 (5 + K))).setCell ⟨bx, 1, none⟩ (.slice none 0 0)).setCell ⟨bx, 2, none⟩ (.slice (some ⟨V.heap.size, 0, none⟩) 1 1)).alloc (.cells #[.int .i64 eb.x.h.k, .slice eb.sa eb.x.h.set.length eb.sc, .slice eb.a eb.x.k.len eb.c] 25)) ∧
    At (((((V.setCell ⟨rb, 1, none⟩ (.int .i64 ((a2 : Int) + 1))).setCell ⟨bx, 0, none⟩ (.int .i64 (5 + K))).setCell ⟨bx, 1, none⟩ (.slice none 0 0)).setCell ⟨bx, 2, none⟩ (.slice (some ⟨V.heap.size, 0, none⟩) 1 1)).alloc (.cells #[.int .i64 eb.x.h.k, .slice eb.sa eb.x.h.set.length eb.sc, .slice eb.a eb.x.k.len eb.c] 25)) rb s (a2 + 1) := by
  have hA3 := ((hA.set (a2 + 1) (.int .i64 ((a2 : Int) + 1)) (by simp)).put3 (b := bx) (by omega) (.int .i64 (5 + K)) (.slice none 0 0) (.slice (some ⟨V.heap.size, 0, none⟩) 1 1)).alloc (.cells #[.int .i64 eb.x.h.k, .slice eb.sa eb.x.h.set.length eb.sc, .slice eb.a eb.x.k.len eb.c] 25)
  have hC3 := (blk_put3 (Blk.setOther (b' := rb) (j := 1) hC (by omega) (.int .i64 ((a2 : Int) + 1))) (.int .i64 (5 + K)) (.slice none 0 0) (.slice (some ⟨V.heap.size, 0, none⟩) 1 1)).alloc (.cells #[.int .i64 eb.x.h.k, .slice eb.sa eb.x.h.set.length eb.sc, .slice eb.a eb.x.k.len eb.c] 25)
  have hB3 := ((((Blk.setOther (b' := rb) (j := 1) hB (by omega) (.int .i64 ((a2 : Int) + 1))).setOther (b' := bx) (j := 0) (by omega) (.int .i64 (5 + K))).setOther (b' := bx) (j := 1) (by omega) (.slice none 0 0)).setOther (b' := bx) (j := 2) (by omega) (.slice (some ⟨V.heap.size, 0, none⟩) 1 1)).alloc (.cells #[.int .i64 eb.x.h.k, .slice eb.sa eb.x.h.set.length eb.sc, .slice eb.a eb.x.k.len eb.c] 25)
  have hsz : ((((V.setCell ⟨rb, 1, none⟩ (.int .i64 ((a2 : Int) + 1))).setCell ⟨bx, 0, none⟩ (.int .i64 (5 + K))).setCell ⟨bx, 1, none⟩ (.slice none 0 0)).setCell ⟨bx, 2, none⟩ (.slice (some ⟨V.heap.size, 0, none⟩) 1 1)).heap.size = V.heap.size := by
    simp [World.setCell]
  have hN := Blk.new ((((V.setCell ⟨rb, 1, none⟩ (.int .i64 ((a2 : Int) + 1))).setCell ⟨bx, 0, none⟩ (.int .i64 (5 + K))).setCell ⟨bx, 1, none⟩ (.slice none 0 0)).setCell ⟨bx, 2, none⟩ (.slice (some ⟨V.heap.size, 0, none⟩) 1 1)) 25 #[.int .i64 eb.x.h.k, .slice eb.sa eb.x.h.set.length eb.sc, .slice eb.a eb.x.k.len eb.c]
  have hg3 := grownBy_rb (grow_put3 (grownBy_rb hg (grownBy_set V rb 1 (.int .i64 ((a2 : Int) + 1)))) (Nat.le_of_lt hbx) (.int .i64 (5 + K)) (.slice none 0 0) (.slice (some ⟨V.heap.size, 0, none⟩) 1 1)) (World.grownBy_alloc _ (.cells #[.int .i64 eb.x.h.k, .slice eb.sa eb.x.h.set.length eb.sc, .slice eb.a eb.x.k.len eb.c] 25) (some rb))
  have hkeep : ∀ b, b < V.heap.size → b ≠ rb → b ≠ bx → (((((V.setCell ⟨rb, 1, none⟩ (.int .i64 ((a2 : Int) + 1))).setCell ⟨bx, 0, none⟩ (.int .i64 (5 + K))).setCell ⟨bx, 1, none⟩ (.slice none 0 0)).setCell ⟨bx, 2, none⟩ (.slice (some ⟨V.heap.size, 0, none⟩) 1 1)).alloc (.cells #[.int .i64 eb.x.h.k, .slice eb.sa eb.x.h.set.length eb.sc, .slice eb.a eb.x.k.len eb.c] 25)).heap[b]? = V.heap[b]? := by
    intro b h1 h2 h3
    refine ((World.grownBy_alloc _ _ none).block b (by rw [hsz]; exact h1) (by simp)).trans ?_
    rw [put3_other h3, Below.heap_setCell _ _ _ _ (by simpa using h2)]
  have hsz2 : (((((V.setCell ⟨rb, 1, none⟩ (.int .i64 ((a2 : Int) + 1))).setCell ⟨bx, 0, none⟩ (.int .i64 (5 + K))).setCell ⟨bx, 1, none⟩ (.slice none 0 0)).setCell ⟨bx, 2, none⟩ (.slice (some ⟨V.heap.size, 0, none⟩) 1 1)).alloc (.cells #[.int .i64 eb.x.h.k, .slice eb.sa eb.x.h.set.length eb.sc, .slice eb.a eb.x.k.len eb.c] 25)).heap.size = V.heap.size + 1 := by rw [World.size_alloc, hsz]
  rw [hsz] at hN
  clear hsz
  have hcl := hC.lt
  have hbl := hB.lt
  generalize World.alloc _ _ = Wf at hA3 hC3 hB3 hN hg3 hkeep hsz2 ⊢
  have heb := he.move (q := fun b => w.heap.size + 1 ≤ b ∧ b < Wf.heap.size ∧ b ≠ bx) (w' := Wf) (fun b hp hlt => ⟨⟨hp.1, by omega, hp.2.2⟩, hkeep b hlt (by omega) hp.2.2⟩)
  refine ⟨?_, hA3⟩
  refine ⟨⟨⟨⟨5 + K, []⟩, .cons eb.x.h eb.x.k .nil⟩, none, 0, some ⟨V.heap.size, 0, none⟩, 1⟩, r3, a2 + 1, hS, hA3, hC3, ⟨SpsP.nil _ _, ?_⟩, hg3, hB3, hX⟩
  refine ⟨by simp [Fo.len], by show (1 : Nat) ≤ 9223372036854775807; omega, fun e => (by cases e), fun _ => ⟨V.heap.size, 0, rfl, ⟨by omega, by omega, by omega⟩, hN.cell 0, ⟨eb.sa, eb.sc, hN.cell 1, heb.sps⟩, ⟨eb.a, eb.c, hN.cell 2, heb.items.le, heb.items.max, heb.items.nil_, heb.items.at_⟩, trivial⟩⟩

set_option maxRecDepth 100000 in
set_option maxHeartbeats 1000000 in
theorem piece_any (N : Nat) (ih : AltsC N) (w : World) (rb : Nat) (s : ByteArray) (a : Nat) (r : List UInt8) (F : Nat) (hN : r.length < N + 1) (hF : 8 * r.length + 2 ≤ F) (hA : At w rb s a) (hS : Suf s a r) (hs : s.size ≤ 4096) :
    Calls Try.prog 74 #[.pointer (some ⟨rb, 0, none⟩)] w (Ans (exV w.heap.size) w rb s (pieceP F r)) := by
  have hrb := hA.lt
  cases F with
  | zero => omega
  | succ F =>
  have hE : Hid (pieceP (F + 1) r = (atomP F r).bind fun x r1 => .ok (repsP x r1).1 (repsP x r1).2) := Lib.hid (by simp only [pieceP])
  have hB0 := Blk.new w 25 re0
  have hg0 := World.grownBy_alloc w (.cells re0 25) (some rb)
  have hA0 := hA.alloc (.cells re0 25)
  have hat := atom_any N ih _ rb s a r F hN (by omega) hA0 hS hs
  have hsz0 : (w.alloc (.cells re0 25)).heap.size = w.heap.size + 1 := by simp
  rw [hsz0] at hat
  clear hS hA hsz0
  go_enter Try.func74, Try.ntmps74
  go_wp2_with (fail)
  refine hat.mono ?_
  rintro e w1 hans
  rcases hans.parts with ⟨x, r1, a1, val, hd, hS1, rfl, hval, hA1, hg1⟩ | ⟨r1, a1, hd, hS1, rfl, hg1⟩
  · obtain ⟨ea, rfl, rfl, hea⟩ := hval
    have HD := Lib.hid hd
    have hB1 := hB0.kept hg1 (by simp; omega)
    have hg01 := grownBy_rb hg0 hg1
    dsimp only [Ea.val, itemV]
    have hz1 := hB1.lt
    have hI : PcI w rb w1.heap.size s (repsP ea.x r1) (w1.alloc (.cells #[.int .i64 ea.x.h.k, .slice ea.sa ea.x.h.set.length ea.sc, .slice ea.a ea.x.k.len ea.c] 25)) :=
      ⟨ea, r1, a1, hS1, hA1.alloc _, Blk.new w1 25 #[.int .i64 ea.x.h.k, .slice ea.sa ea.x.h.set.length ea.sc, .slice ea.a ea.x.k.len ea.c], hea.move (fun b hp hlt => ⟨⟨hp.1, by simp; omega, by omega⟩, (World.grownBy_alloc w1 _ none).block b hlt (by simp)⟩), grownBy_rb hg01 (World.grownBy_alloc w1 _ _), hB1.alloc _, rfl⟩
    obtain ⟨X, HX⟩ : ∃ X, Hid (repsP ea.x r1 = X) := ⟨_, Lib.hid rfl⟩
    rw [HX.out] at hI
    clear hd hans hat hB0 hg0 hA0 hea hA1 hg1 hB1 hg01
    go_wp2_with (fail)
    generalize w1.alloc (.cells #[.int .i64 ea.x.h.k, .slice ea.sa ea.x.h.set.length ea.sc, .slice ea.a ea.x.k.len ea.c] 25) = W1 at hI ⊢
    have hbx : Hid (w.heap.size < w1.heap.size) := Lib.hid hz1
    clear hz1
    generalize w1.heap.size = bx at hI hbx ⊢
    go_loopw [4] (fun _ wr => PcI w rb bx s X wr) (fun _ wr => s.size - (match wr.cell? ⟨rb, 1, none⟩ with | some v => (intOf v).toNat | none => 0))
    case atStart => exact hI
    case round =>
      obtain ⟨eb, r2, a2, hS2, hA2, hC2, heb, hg2, hB2, hX2⟩ := hrel
      have HX2 := Lib.hid hX2
      have HMr := Lib.hid hA2.cells.2
      obtain ⟨c0, c1⟩ := hA2.cells
      clear hX2 hI
      have x0 := hC2.cell 0
      have x1 := hC2.cell 1
      have x2 := hC2.cell 2
      have z0 := hB2.cell 0
      have z1 := hB2.cell 1
      have z2 := hB2.cell 2
      have f0 := hB2.frozen 0
      have f1 := hB2.frozen 1
      have f2 := hB2.frozen 2
      simp only [Ea.row, List.getElem?_cons_zero, List.getElem?_cons_succ] at x0 x1 x2 z0 z1 z2
      have hbl := hB2.lt
      have hcl := hC2.lt
      have hrl := hA2.lt
      have hle2 := hS2.le
      by_cases hend : a2 = s.size
      · have hq : ¬ (a2 : Int) < (s.size : Int) := by omega
        have hr2 : r2 = [] := by
          have := hS2.len
          exact List.length_eq_zero_iff.1 (by omega)
        have hXe : Hid (X = (eb.x, r2)) := Lib.hid (by rw [← HX2.out, hr2]; rfl)
        clear hend hr2
        go_wp2_with (fail)
        go_quiet (fail)
        go_wp2_with (fail)
        have hF := blk_put3 (show Blk (wr.drewN nq) w.heap.size 25 _ from hB2) (.int .i64 eb.x.h.k) (.slice eb.sa eb.x.h.set.length eb.sc) (.slice eb.a eb.x.k.len eb.c)
        have g0 := hF.cell 0
        have g1 := hF.cell 1
        have g2 := hF.cell 2
        simp only [List.getElem?_cons_zero, List.getElem?_cons_succ] at g0 g1 g2
        refine bodyPost_ret (v := eb.val) ?_ rfl (ret_cells (r := r2) (n := w.heap.size + 1) (by rw [hE.out, HD.out, Rd.bind_ok, HX.out, hXe.out]) hS2 (hA2.drewN _) (grownBy_rb hg2 (grownBy_drewN _ _ _)) (.inr trivial) (heb.move (fun b hp hlt => ⟨⟨hp.1, hp.2.1⟩, rfl⟩)) (by omega) hrb)
        simp [results, Try.f74, go_sem, g0, g1, g2, itemV]
      · have hq : (a2 : Int) < (s.size : Int) := by omega
        have hlt : a2 < s.size := by omega
        rcases hS2.head with ⟨he, _⟩ | ⟨_, r3, hr2, hS3⟩
        · exact absurd he hend
        obtain ⟨K, hK⟩ : ∃ K, Hid (Lib.indexByte reps s[a2] = K) := ⟨_, Lib.hid rfl⟩
        have hib : ∀ W, Calls Try.prog 81 #[.string (ByteArray.mk #[42, 43, 63]), .int .u8 (s[a2].toNat : Int)] W fun e w' => e = .returned (.int .i64 K) ∧ w' = W := fun W => (Try.strings_IndexByte _ _ _).mono (fun e w' h => ⟨by
          rw [h.1, ← hK.out, Int.toNat_natCast, show s[a2].toNat.toUInt8 = s[a2] from by simp]; rfl, h.2⟩)
        have hK2 : K ≤ 2 := by rw [← hK.out]; exact reps_le _
        have Hib := Lib.hid hib
        clear hib hend
        by_cases hK0 : K < 0
        · have hXe : Hid (X = (eb.x, r2)) := Lib.hid (by rw [← HX2.out, hr2, repsP, if_neg (by rw [hK.out]; omega)])
          clear hr2
          go_wp2_with (fail)
          go_quiet (fail)
          have hA2 : At (wr.drewN nq) rb s a2 := hA2
          have hC2 : Blk (wr.drewN nq) bx 25 eb.row := hC2
          have heb : EaP (fun b => w.heap.size + 1 ≤ b ∧ b < (wr.drewN nq).heap.size ∧ b ≠ bx) (wr.drewN nq) eb := heb.move (fun b hp _ => ⟨hp, rfl⟩)
          have hg2 : w.grownBy (wr.drewN nq) (some rb) := grownBy_rb hg2 (grownBy_drewN _ _ _)
          have hB2 : Blk (wr.drewN nq) w.heap.size 25 [.int .i64 0, .slice none 0 0, .slice none 0 0] := hB2
          clear x0 x1 x2 z0 z1 z2 f0 f1 f2 hbl hcl hrl c0 c1
          generalize wr.drewN nq = V at hA2 hC2 heb hg2 hB2 ⊢
          obtain ⟨c0, c1⟩ := hA2.cells
          have x0 := hC2.cell 0
          have x1 := hC2.cell 1
          have x2 := hC2.cell 2
          have z0 := hB2.cell 0
          have z1 := hB2.cell 1
          have z2 := hB2.cell 2
          have f0 := hB2.frozen 0
          have f1 := hB2.frozen 1
          have f2 := hB2.frozen 2
          simp only [Ea.row, List.getElem?_cons_zero, List.getElem?_cons_succ] at x0 x1 x2 z0 z1 z2
          have hbl := hB2.lt
          have hcl := hC2.lt
          have hrl := hA2.lt
          have rf := hA2.frozen 1
          have cf0 := hC2.frozen 0
          have cf1 := hC2.frozen 1
          have cf2 := hC2.frozen 2
          have ne1 : ¬ bx = rb := by have := hbx.out; omega
          have ne2 : ¬ w.heap.size = rb := by omega
          have ne3 : ¬ rb = bx := by have := hbx.out; omega
          go_wp2_with (fail)
          go_quiet ((go_at_call 81; exact Calls.quiet_of_same (Hib.out _)))
          go_wp2_with (fail)
          have hF := blk_put3 (show Blk (V.drewN nq) w.heap.size 25 _ from hB2) (.int .i64 eb.x.h.k) (.slice eb.sa eb.x.h.set.length eb.sc) (.slice eb.a eb.x.k.len eb.c)
          have g0 := hF.cell 0
          have g1 := hF.cell 1
          have g2 := hF.cell 2
          simp only [List.getElem?_cons_zero, List.getElem?_cons_succ] at g0 g1 g2
          refine bodyPost_ret (v := eb.val) ?_ rfl (ret_cells (r := r2) (n := w.heap.size + 1) (by rw [hE.out, HD.out, Rd.bind_ok, HX.out, hXe.out]) hS2 (hA2.drewN _) (grownBy_rb hg2 (grownBy_drewN _ _ _)) (.inr trivial) (heb.move (fun b hp hlt => ⟨⟨hp.1, hp.2.1⟩, rfl⟩)) (by omega) hrb)
          simp [results, Try.f74, go_sem, g0, g1, g2, itemV]
        · have hXe : Hid (X = repsP ⟨⟨5 + K, []⟩, .cons eb.x.h eb.x.k .nil⟩ r3) := Lib.hid (by rw [← HX2.out, hr2, repsP, if_pos (by rw [hK.out]; omega), hK.out])
          clear hr2
          go_wp2_with (fail)
          go_quiet (fail)
          have hA2 : At (wr.drewN nq) rb s a2 := hA2
          have hC2 : Blk (wr.drewN nq) bx 25 eb.row := hC2
          have heb : EaP (fun b => w.heap.size + 1 ≤ b ∧ b < (wr.drewN nq).heap.size ∧ b ≠ bx) (wr.drewN nq) eb := heb.move (fun b hp _ => ⟨hp, rfl⟩)
          have hg2 : w.grownBy (wr.drewN nq) (some rb) := grownBy_rb hg2 (grownBy_drewN _ _ _)
          have hB2 : Blk (wr.drewN nq) w.heap.size 25 [.int .i64 0, .slice none 0 0, .slice none 0 0] := hB2
          clear x0 x1 x2 z0 z1 z2 f0 f1 f2 hbl hcl hrl c0 c1
          generalize wr.drewN nq = V at hA2 hC2 heb hg2 hB2 ⊢
          obtain ⟨c0, c1⟩ := hA2.cells
          have x0 := hC2.cell 0
          have x1 := hC2.cell 1
          have x2 := hC2.cell 2
          have z0 := hB2.cell 0
          have z1 := hB2.cell 1
          have z2 := hB2.cell 2
          have f0 := hB2.frozen 0
          have f1 := hB2.frozen 1
          have f2 := hB2.frozen 2
          simp only [Ea.row, List.getElem?_cons_zero, List.getElem?_cons_succ] at x0 x1 x2 z0 z1 z2
          have hbl := hB2.lt
          have hcl := hC2.lt
          have hrl := hA2.lt
          have rf := hA2.frozen 1
          have cf0 := hC2.frozen 0
          have cf1 := hC2.frozen 1
          have cf2 := hC2.frozen 2
          have ne1 : ¬ bx = rb := by have := hbx.out; omega
          have ne2 : ¬ w.heap.size = rb := by omega
          have ne3 : ¬ rb = bx := by have := hbx.out; omega
          go_wp2_with (fail)
          go_quiet ((go_at_call 81; exact Calls.quiet_of_same (Hib.out _)))
          go_wp2_with (fail)
          have hP := pc_step (V := V.drewN nq) hS3 hA2 hC2 (heb.move (fun b hp _ => ⟨hp, rfl⟩)) (grownBy_rb hg2 (grownBy_drewN _ _ _)) hB2 hrb hbx.out hXe.out.symm
          obtain ⟨hP, hA9⟩ := hP
          refine ⟨hP, ?_⟩
          rw [HMr.out, show ((V.drewN nq).heap.size) = V.heap.size from rfl] at *
          rw [hA9.cells.2]
          simp [intOf]
          omega
  · have hg01 := grownBy_rb hg0 hg1
    go_wp2_with (fail)
    exact ⟨rfl, Ans.bad' (by rw [hE.out, hd, Rd.bind_bad]) hS1 hg01⟩
end Go.Proofs.Ytkdfobnkebkpfaa

/- A list of expressions that grows while a text is read: what both alternative and alternatives do. -/
namespace Go.Proofs.Ytkdfobnkebkpfaa
open Go.RowKit Go.Shelf

/-- What joined makes, and where its parts lie. -/
def joinE (kind : Int) (es : List Ea) (A : Option Addr) (C : Nat) : Ea :=
  match es with
  | [] => ⟨⟨⟨1, []⟩, .nil⟩, none, 0, none, 0⟩
  | [e] => e
  | es => ⟨⟨⟨kind, []⟩, foE es⟩, none, 0, A, C⟩
theorem joinE_val (kind : Int) (es : List Ea) (A : Option Addr) (C : Nat) : (joinE kind es A C).val = joinV kind es A C := by
  match es with
  | [] => rfl
  | [e] => rfl
  | e :: f :: r =>
    show itemV ⟨kind, []⟩ none 0 A (foE (e :: f :: r)).len C = _
    rw [foE_len]
    rfl
theorem joinE_x (kind : Int) (es : List Ea) (A : Option Addr) (C : Nat) : (joinE kind es A C).x = joinX kind (es.map (·.x)) := by
  match es with
  | [] => rfl
  | [e] => rfl
  | e :: f :: r => rfl

/-- The list so far: an own row, whose expressions lie beside it. -/
structure Lst (n0 : Nat) (W : World) (es : List Ea) (A : Option Addr) (C : Nat) : Prop where
  own : W.ownsRow n0 25 3 (.slice A es.length C) es.length (rowE es)
  eas : ∀ e ∈ es, EaP (fun b => n0 ≤ b ∧ b < W.heap.size ∧ (Value.slice A es.length C).ownBlock ≠ some b) W e
theorem Lst.lt {n0 : Nat} {W : World} {es : List Ea} {A : Option Addr} {C : Nat} (h : Lst n0 W es A C) : ∀ i, (Value.slice A es.length C).ownBlock = some i → n0 ≤ i ∧ i < W.heap.size := by
  intro i e
  rcases h.own.2 with ⟨e1, _⟩ | ⟨g, c, cur, e1, hb, hg, _⟩
  · rw [e1] at e; cases e
  · rw [e1] at e
    cases e
    exact ⟨hb, (Array.getElem?_eq_some_iff.1 hg).1⟩
theorem Lst.nil (n0 : Nat) (W : World) : Lst n0 W [] none 0 := ⟨World.ownsRow_nil W n0 _ 3, fun e he => by cases he⟩
/-- A world that has left alone what lies from n0 on. -/
theorem Lst.kept {n0 : Nat} {W W' : World} {es : List Ea} {A : Option Addr} {C : Nat} (h : Lst n0 W es A C) {r : Option Nat} (hg : W.grownBy W' r) (hr : ∀ i, r = some i → i < n0) : Lst n0 W' es A C :=
  ⟨by
    by_cases hA : (Value.slice A es.length C).ownBlock = none
    · exact h.own.kept hg (.inl hA)
    · refine h.own.kept hg (.inr fun e => ?_)
      cases hr2 : r with
      | none => exact hA (e.trans hr2)
      | some i => have := h.lt i (e.trans hr2); have := hr i hr2; omega,
   fun e he => (h.eas e he).move fun b hp hlt => ⟨⟨hp.1, Nat.lt_of_lt_of_le hp.2.1 hg.size, hp.2.2⟩, hg.block b hlt (fun e => by have := hr b e.symm; omega)⟩⟩

theorem joinE_ea {n0 : Nat} {W : World} {kind : Int} {es : List Ea} {A : Option Addr} {C : Nat} (h : Lst n0 W es A C) : EaP (fun b => n0 ≤ b ∧ b < W.heap.size) W (joinE kind es A C) := by
  have hes : ∀ e ∈ es, EaP (fun b => n0 ≤ b ∧ b < W.heap.size) W e := fun e he => (h.eas e he).move (fun b hp _ => ⟨⟨hp.1, hp.2.1⟩, rfl⟩)
  match es, h, hes with
  | [], h, hes => exact ⟨SpsP.nil _ _, ItemsP.nil _ _⟩
  | [e], h, hes => exact hes e (by simp)
  | e :: f :: r, h, hes =>
    refine ⟨SpsP.nil _ _, ?_⟩
    exact items_row h.own (fun g hg => h.lt g hg) hes

/-- One expression more, which was read since. -/
theorem Lst.push {n0 : Nat} {W : World} {es : List Ea} {A : Option Addr} {C : Nat} (h : Lst n0 W es A C) (ea : Ea) (he : EaP (fun b => n0 ≤ b ∧ b < W.heap.size ∧ (Value.slice A es.length C).ownBlock ≠ some b) W ea) (hn : es.length + 1 ≤ 2147483648) (hbase : n0 ≤ W.heap.size) (ty : TypeId) :
    ∃ a' c' w', (Builtin.append_ #[23, 23] ty #[.slice A es.length C, .slice (some ⟨W.heap.size, 0, none⟩) 1 1]).run Try.prog (W.alloc (.cells #[.int .i64 ea.x.h.k, .slice ea.sa ea.x.h.set.length ea.sc, .slice ea.a ea.x.k.len ea.c] 25)) = .ok (.slice a' (es.length + 1) c') w' ∧
      Lst n0 w' (es ++ [ea]) a' c' ∧ W.grownBy w' (Value.slice A es.length C).ownBlock := by
  obtain ⟨a', c', w', hrun, ho, hg, hnw⟩ := run_item W ty ea h.own hn hbase
  refine ⟨a', c', w', hrun, ⟨?_, fun e hm => ?_⟩, hg⟩
  · rw [List.length_append, rowE_snoc]; exact ho
  · have hq : EaP (fun b => n0 ≤ b ∧ b < W.heap.size ∧ (Value.slice A es.length C).ownBlock ≠ some b) W e := by
      rcases List.mem_append.1 hm with hm | hm
      · exact h.eas e hm
      · rw [List.mem_singleton.1 hm]; exact he
    refine hq.move fun b hp hlt => ⟨⟨hp.1, Nat.lt_of_lt_of_le hp.2.1 hg.size, fun e => ?_⟩, hg.block b hlt (fun e => hp.2.2 e.symm)⟩
    rcases hnw.block (l := es.length) (c := C) b e with h1 | h1
    · exact hp.2.2 h1
    · omega
end Go.Proofs.Ytkdfobnkebkpfaa

/- regex.reader.alternative, where alternatives is as it should be. -/
namespace Go.Proofs.Ytkdfobnkebkpfaa
open Go.RowKit Go.Shelf

attribute [local go_sem] Oper.semAt_some

theorem repsP_le : ∀ (r : List UInt8) (x : Ex), (repsP x r).2.length ≤ r.length := by
  intro r
  induction r with
  | nil => intro x; simp [repsP]
  | cons c r ih =>
    intro x
    rw [repsP]
    split
    · have := ih ⟨⟨5 + Lib.indexByte reps c, []⟩, .cons x.h x.k .nil⟩
      simp; omega
    · simp

/-- What is left is less. -/
def Less (F : Nat) : Prop := (∀ r x r', altsP F r = .ok x r' → r'.length ≤ r.length) ∧ (∀ r l x r', moreP F r l = .ok x r' → r'.length ≤ r.length) ∧ (∀ r x r', altP F r = .ok x r' → r'.length ≤ r.length) ∧
  (∀ r l x r', piecesP F r l = .ok x r' → r'.length ≤ r.length) ∧ (∀ r x r', pieceP F r = .ok x r' → r'.length < r.length) ∧ (∀ r x r', atomP F r = .ok x r' → r'.length < r.length)
theorem bind_inv {α β : Type} {x : Rd α} {f : α → List UInt8 → Rd β} {v : β} {r : List UInt8} (h : x.bind f = .ok v r) : ∃ y r1, x = .ok y r1 ∧ f y r1 = .ok v r := by
  cases x with
  | ok y r1 => exact ⟨y, r1, rfl, h⟩
  | bad r1 => cases h
theorem itemsP_le : ∀ (F : Nat) (r : List UInt8) (l l' : List Sp) (r' : List UInt8), itemsP F r l = .ok l' r' → r'.length ≤ r.length := by
  intro F
  induction F with
  | zero => intro r l l' r' h; cases h
  | succ F ih =>
    intro r l l' r' h
    rw [itemsP] at h
    split at h
    · rename_i hh; have := tail_lt hh; cases h; omega
    · obtain ⟨s, r1, h1, h2⟩ := bind_inv h
      have := itemP_lt h1
      have := ih _ _ _ _ h2
      omega
theorem classP_le {r r' : List UInt8} {x : List Sp × Bool} (h : classP r = .ok x r') : r'.length ≤ r.length := by
  unfold classP at h
  obtain ⟨s, r1, h1, h2⟩ := bind_inv h
  obtain ⟨l, r2, h3, h4⟩ := bind_inv h2
  have a1 := itemP_lt h1
  have a2 := itemsP_le _ _ _ _ _ h3
  unfold classE at h4
  have ht : (if headIs 94 r = true then r.tail else r).length ≤ r.length := by split <;> simp
  split at h4
  · cases h4
  · cases h4; omega
theorem less : ∀ F, Less F := by
  intro F
  induction F with
  | zero => exact ⟨fun r x r' h => (by cases h), fun r l x r' h => (by cases h), fun r x r' h => (by cases h), fun r l x r' h => (by cases h), fun r x r' h => (by cases h), fun r x r' h => (by cases h)⟩
  | succ F ih =>
    obtain ⟨i1, i2, i3, i4, i5, i6⟩ := ih
    refine ⟨fun r x r' h => ?_, fun r l x r' h => ?_, fun r x r' h => ?_, fun r l x r' h => ?_, fun r x r' h => ?_, fun r x r' h => ?_⟩
    · rw [altsP] at h
      obtain ⟨y, r1, h1, h2⟩ := bind_inv h
      have := i3 _ _ _ h1
      have := i2 _ _ _ _ h2
      omega
    · rw [moreP] at h
      split at h
      · rename_i hh
        have := tail_lt hh
        obtain ⟨y, r1, h1, h2⟩ := bind_inv h
        have := i3 _ _ _ h1
        have := i2 _ _ _ _ h2
        omega
      · cases h; exact Nat.le_refl _
    · rw [altP] at h; exact i4 _ _ _ _ h
    · rw [piecesP] at h
      split at h
      · cases h; exact Nat.le_refl _
      · obtain ⟨y, r1, h1, h2⟩ := bind_inv h
        have := i5 _ _ _ h1
        have := i4 _ _ _ _ h2
        omega
    · rw [pieceP] at h
      obtain ⟨y, r1, h1, h2⟩ := bind_inv h
      have := i6 _ _ _ h1
      have := repsP_le r1 y
      cases h2
      omega
    · rw [atomP] at h
      split at h
      · rename_i hh
        have := tail_lt hh
        obtain ⟨y, r1, h1, h2⟩ := bind_inv h
        have := i1 _ _ _ h1
        unfold closeP at h2
        split at h2
        · cases h2; simp; omega
        · cases h2
      · split at h
        · rename_i hh; have := tail_lt hh; cases h; omega
        · split at h
          · rename_i hh
            have := tail_lt hh
            obtain ⟨y, r1, h1, h2⟩ := bind_inv h
            have := classP_le h1
            cases h2; omega
          · obtain ⟨y, r1, h1, h2⟩ := bind_inv h
            have := letP_lt h1
            cases h2; omega

/-- What is known between two pieces. -/
def AltI (w : World) (rb : Nat) (s : ByteArray) (f : Nat → List UInt8 → List Ex → Rd Ex) (k m : Nat) (X : Rd Ex) (lv : Value) (W : World) : Prop :=
  ∃ (es : List Ea) (r : List UInt8) (a : Nat) (A : Option Addr) (C F : Nat), Suf s a r ∧ At W rb s a ∧ lv = .slice A es.length C ∧ Lst (w.heap.size + 1) W es A C ∧ w.grownBy W (some rb) ∧ Blk W w.heap.size 25 [.int .i64 0, .slice none 0 0, .slice none 0 0] ∧ f F r (es.map (·.x)) = X ∧ 8 * r.length + k ≤ F ∧ es.length + r.length ≤ 4097 ∧ r.length ≤ m

set_option maxRecDepth 100000 in
set_option maxHeartbeats 1000000 in
theorem alternative_any (N : Nat) (ih : AltsC N) (w : World) (rb : Nat) (s : ByteArray) (a : Nat) (r : List UInt8) (F : Nat) (hN : r.length < N + 1) (hF : 8 * r.length + 4 ≤ F) (hA : At w rb s a) (hS : Suf s a r) (hs : s.size ≤ 4096) :
    Calls Try.prog 56 #[.pointer (some ⟨rb, 0, none⟩)] w (Ans (exV w.heap.size) w rb s (altP F r)) := by
  have hrb := hA.lt
  cases F with
  | zero => omega
  | succ F =>
  have hlr := hS.len
  have hI : AltI w rb s piecesP 3 N (piecesP F r []) (.slice none 0 0) (w.alloc (.cells re0 25)) :=
    ⟨[], r, a, none, 0, F, hS, hA.alloc _, rfl, Lst.nil _ _, World.grownBy_alloc w _ _, Blk.new w 25 re0, rfl, by omega, by simp; omega, by omega⟩
  have hE : Hid (altP (F + 1) r = piecesP F r []) := Lib.hid (by simp only [altP])
  obtain ⟨X, HX⟩ : ∃ X, Hid (piecesP F r [] = X) := ⟨_, Lib.hid rfl⟩
  rw [HX.out] at hI hE
  have HN := Lib.hid hlr
  clear hS hA hlr
  go_enter Try.func56, Try.ntmps56
  go_wp2_with (fail)
  generalize w.alloc (.cells re0 25) = W1 at hI ⊢
  go_loopw [3] (fun lv wr => AltI w rb s piecesP 3 N X lv wr) (fun _ wr => s.size - (match wr.cell? ⟨rb, 1, none⟩ with | some v => (intOf v).toNat | none => 0))
  case atStart => exact hI
  case round =>
    obtain ⟨es, r2, a2, A, C, F2, hS2, hA2, rfl, hL, hg2, hB2, hX2, hF2, hn2, hm2⟩ := hrel
    have HX2 := Lib.hid hX2
    have HMr := Lib.hid hA2.cells.2
    obtain ⟨c0, c1⟩ := hA2.cells
    have hlen2 := hS2.len
    clear hX2 hI
    cases F2 with
    | zero => omega
    | succ F2 =>
    by_cases hst : (r2.isEmpty || headIs 124 r2 || headIs 41 r2) = true
    · have hXe : Hid (X = .ok (joinX 3 (es.map (·.x))) r2) := Lib.hid (by rw [← HX2.out, piecesP, if_pos hst])
      have hway : (decide (a2 < s.size) = false) ∨ ((a2 : Int) < (s.size : Int) ∧ ∃ h : a2 < s.size, ((s[a2].toNat : Int) != 124) = false) ∨ ((a2 : Int) < (s.size : Int) ∧ ∃ h : a2 < s.size, ((s[a2].toNat : Int) != 124) = true ∧ ((s[a2].toNat : Int) != 41) = false) := by
        rcases hS2.head with ⟨he, rfl⟩ | ⟨hlt, r3, rfl, _⟩
        · left; simp; omega
        · right
          simp only [List.isEmpty_cons, headIs, Bool.false_or, Bool.or_eq_true, beq_iff_eq] at hst
          by_cases h1 : s[a2] = 124
          · left; exact ⟨by omega, hlt, by rw [h1]; rfl⟩
          · right
            refine ⟨by omega, hlt, ?_, ?_⟩
            · have : s[a2].toNat ≠ 124 := fun e => h1 (UInt8.toNat_inj.1 e)
              simp; omega
            · rcases hst with h | h
              · exact absurd h h1
              · rw [h]; rfl
      clear hst
      rcases hway with hq | ⟨hq, hlt, hn1⟩ | ⟨hq, hlt, hn1, hn3⟩
      all_goals
        go_wp2_with (fail)
        go_quiet (fail)
        have hA2 : At (wr.drewN nq) rb s a2 := hA2
        have hL := hL.kept (grownBy_drewN wr nq none) (fun i e => by cases e)
        have hg2 : w.grownBy (wr.drewN nq) (some rb) := grownBy_rb hg2 (grownBy_drewN _ _ _)
        have hB2 : Blk (wr.drewN nq) w.heap.size 25 [.int .i64 0, .slice none 0 0, .slice none 0 0] := hB2
        clear c0 c1
        generalize wr.drewN nq = V at hA2 hL hg2 hB2 ⊢
        go_wp2_with (fail)
        refine (joined_any 3 es A es.length C (w.heap.size + 1) V hL.own rfl (by omega)).mono ?_
        rintro e w5 ⟨rfl, hb5⟩
        rw [← joinE_val]
        have hej := (joinE_ea (kind := 3) hL).grow (below_grownBy hb5 none) (fun i e => by cases e)
        have hxj := Lib.hid (joinE_x 3 es A C)
        generalize joinE 3 es A C = ej at hej hxj ⊢
        have hB5 := hB2.below hb5 hB2.lt
        have hA5 := Blk.below hA2 hb5 hA2.lt
        have hg5 := grownBy_rb hg2 (below_grownBy hb5 (some rb))
        have z0 := hB5.cell 0
        have z1 := hB5.cell 1
        have z2 := hB5.cell 2
        have f0 := hB5.frozen 0
        have f1 := hB5.frozen 1
        have f2 := hB5.frozen 2
        simp only [List.getElem?_cons_zero, List.getElem?_cons_succ] at z0 z1 z2
        have hbl := hB5.lt
        dsimp only [Ea.val, itemV]
        clear hL hB2 hb5
        go_wp2_with (fail)
        have hF := blk_put3 hB5 (.int .i64 ej.x.h.k) (.slice ej.sa ej.x.h.set.length ej.sc) (.slice ej.a ej.x.k.len ej.c)
        have g0 := hF.cell 0
        have g1 := hF.cell 1
        have g2 := hF.cell 2
        simp only [List.getElem?_cons_zero, List.getElem?_cons_succ] at g0 g1 g2
        refine bodyPost_ret (v := ej.val) ?_ rfl (ret_cells (r := r2) (n := w.heap.size + 1) (by rw [hE.out, hXe.out, ← hxj.out]) hS2 hA5 hg5 (.inr trivial) hej (by omega) hrb)
        simp [results, Try.f56, go_sem, g0, g1, g2, itemV]
    · have hXe : Hid (X = (pieceP F2 r2).bind fun x r1 => piecesP F2 r1 (es.map (·.x) ++ [x])) := Lib.hid (by rw [← HX2.out, piecesP, if_neg hst])
      simp only [Bool.or_eq_true, not_or, Bool.not_eq_true] at hst
      obtain ⟨⟨hs1, hs2⟩, hs3⟩ := hst
      have hway : (a2 : Int) < (s.size : Int) ∧ ∃ h : a2 < s.size, ((s[a2].toNat : Int) != 124) = true ∧ ((s[a2].toNat : Int) != 41) = true := by
        rcases hS2.head with ⟨he, rfl⟩ | ⟨hlt, r3, rfl, _⟩
        · cases hs1
        · simp only [headIs, beq_eq_false_iff_ne, ne_eq] at hs2 hs3
          refine ⟨by omega, hlt, ?_, ?_⟩
          · have : s[a2].toNat ≠ 124 := fun e => hs2 (UInt8.toNat_inj.1 e)
            simp; omega
          · have : s[a2].toNat ≠ 41 := fun e => hs3 (UInt8.toNat_inj.1 e)
            simp; omega
      clear hs1 hs2 hs3
      obtain ⟨hq, hlt, hn1, hn3⟩ := hway
      go_wp2_with (fail)
      go_quiet (fail)
      have hA2 : At (wr.drewN nq) rb s a2 := hA2
      have hL := hL.kept (grownBy_drewN wr nq none) (fun i e => by cases e)
      have hg2 : w.grownBy (wr.drewN nq) (some rb) := grownBy_rb hg2 (grownBy_drewN _ _ _)
      have hB2 : Blk (wr.drewN nq) w.heap.size 25 [.int .i64 0, .slice none 0 0, .slice none 0 0] := hB2
      clear c0 c1
      generalize wr.drewN nq = V at hA2 hL hg2 hB2 ⊢
      go_wp2_with (fail)
      refine (piece_any N ih V rb s a2 r2 F2 (by omega) (by omega) hA2 hS2 hs).mono ?_
      rintro e w5 hans
      rcases hans.parts with ⟨x, r5, a5, val, hd, hS5, rfl, hval, hA5, hg5⟩ | ⟨r5, a5, hd, hS5, rfl, hg5⟩
      · obtain ⟨ea, rfl, rfl, hea⟩ := hval
        have hlt5 := (less F2).2.2.2.2.1 _ _ _ hd
        have hlen5 := hS5.len
        have HD := Lib.hid hd
        have hL5 := hL.kept hg5 (fun i e => by cases e; omega)
        have hB5 := hB2.kept hg5 (by simp; omega)
        have hg05 := grownBy_rb hg2 hg5
        have hVl := hB2.lt
        obtain ⟨a6, c6, w6, hrun6, hL6, hg6⟩ := hL5.push ea (hea.move (fun b hp _ => ⟨⟨by omega, hp.2, fun e => by have := (hL.lt b e).2; omega⟩, rfl⟩)) (by omega) hB5.lt 23
        have Hr6 := Lib.hid hrun6
        have hne6 : ∀ k, some k = (Value.slice A es.length C).ownBlock → w.heap.size + 1 ≤ k := fun k e => (hL.lt k e.symm).1
        have hA6 : At w6 rb s a5 := hA5.kept hg6 (fun e => by have := hne6 rb e; omega)
        have hB6 := hB5.kept hg6 (fun e => by have := hne6 _ e; omega)
        have hg06 : w.grownBy w6 (some rb) := grownBy_trans hg05 hg6 (fun i e => .inr (by have := hne6 i e.symm; omega))
        dsimp only [Ea.val, itemV]
        clear hd hans hrun6 hea hL hL5 hB2 hA2
        go_wp2_with (at_builtin; refine wpList_append_run rfl _ _ 23 23 rfl _ _ _ _ rfl rfl Hr6.out ?_)
        refine ⟨⟨es ++ [ea], r5, a5, a6, c6, F2, hS5, hA6, by simp, hL6, hg06, hB6, ?_, by omega, by simp; omega, by omega⟩, ?_⟩
        · rw [hXe.out, HD.out, Rd.bind_ok]; simp
        · rw [hA6.cells.2, HMr.out]
          simp [intOf]
          omega
      · have hg05 := grownBy_rb hg2 hg5
        go_wp2_with (fail)
        exact ⟨rfl, Ans.bad' (by rw [hE.out, hXe.out, hd, Rd.bind_bad]) hS5 hg05⟩
end Go.Proofs.Ytkdfobnkebkpfaa

/- regex.reader.alternatives. -/
namespace Go.Proofs.Ytkdfobnkebkpfaa
open Go.RowKit Go.Shelf

attribute [local go_sem] Oper.semAt_some

set_option maxRecDepth 100000 in
set_option maxHeartbeats 1000000 in
theorem alternatives_step (N : Nat) (ih : AltsC N) : AltsC (N + 1) := by
  intro w rb s a r F hN hF hA hS hs
  have hrb := hA.lt
  cases F with
  | zero => omega
  | succ F =>
  have hlr := hS.len
  have hE : Hid (altsP (F + 1) r = (altP F r).bind fun x r1 => moreP F r1 [x]) := Lib.hid (by simp only [altsP])
  have hB0 := Blk.new w 25 re0
  have hg0 := World.grownBy_alloc w (.cells re0 25) (some rb)
  have hA0 := hA.alloc (.cells re0 25)
  have hal := alternative_any N ih _ rb s a r F hN (by omega) hA0 hS hs
  have hsz0 : (w.alloc (.cells re0 25)).heap.size = w.heap.size + 1 := by simp
  rw [hsz0] at hal
  clear hS hA hsz0
  go_enter Try.func41, Try.ntmps41
  go_wp2_with (fail)
  refine hal.mono ?_
  rintro e w1 hans
  rcases hans.parts with ⟨x, r1, a1, val, hd, hS1, rfl, hval, hA1, hg1⟩ | ⟨r1, a1, hd, hS1, rfl, hg1⟩
  · obtain ⟨ea, rfl, rfl, hea⟩ := hval
    have hle1 := (less F).2.2.1 _ _ _ hd
    have hlen1 := hS1.len
    have HD := Lib.hid hd
    have hB1 := hB0.kept hg1 (by simp; omega)
    have hg01 := grownBy_rb hg0 hg1
    dsimp only [Ea.val, itemV]
    have hz1 := hB1.lt
    have hI : AltI w rb s moreP 5 N (moreP F r1 [ea.x]) (.slice (some ⟨w1.heap.size, 0, none⟩) 1 1) (w1.alloc (.cells #[.int .i64 ea.x.h.k, .slice ea.sa ea.x.h.set.length ea.sc, .slice ea.a ea.x.k.len ea.c] 25)) := by
      refine ⟨[ea], r1, a1, some ⟨w1.heap.size, 0, none⟩, 1, F, hS1, hA1.alloc _, rfl, ⟨?_, fun e he => ?_⟩, grownBy_rb hg01 (World.grownBy_alloc w1 _ _), hB1.alloc _, rfl, by omega, by simp; omega, by omega⟩
      · exact World.ownsRow_lit (base := w.heap.size + 1) (e := 25) (size := 3) w1 #[.int .i64 ea.x.h.k, .slice ea.sa ea.x.h.set.length ea.sc, .slice ea.a ea.x.k.len ea.c] 1 hz1 (by unfold maxLen; omega) rfl
      · rw [List.mem_singleton.1 he]
        exact hea.move (fun b hp hlt => ⟨⟨hp.1, by have h2 := hp.2; simp; omega, fun e => by have h2 := hp.2; cases e; exact Nat.lt_irrefl _ h2⟩, (World.grownBy_alloc w1 _ none).block b hlt (by simp)⟩)
    obtain ⟨X, HX⟩ : ∃ X, Hid (moreP F r1 [ea.x] = X) := ⟨_, Lib.hid rfl⟩
    rw [HX.out] at hI
    have hE2 : Hid (altsP (F + 1) r = X) := Lib.hid (by rw [hE.out, HD.out, Rd.bind_ok, HX.out])
    clear hd hans hal hB0 hg0 hA0 hea hA1 hg1 hB1 hg01 hlr hlen1 hle1 hz1
    go_wp2_with (fail)
    generalize w1.alloc (.cells #[.int .i64 ea.x.h.k, .slice ea.sa ea.x.h.set.length ea.sc, .slice ea.a ea.x.k.len ea.c] 25) = W1 at hI ⊢
    go_loopw [3] (fun lv wr => AltI w rb s moreP 5 N X lv wr) (fun _ wr => s.size - (match wr.cell? ⟨rb, 1, none⟩ with | some v => (intOf v).toNat | none => 0))
    case atStart => exact hI
    case round =>
      obtain ⟨es, r2, a2, A, C, F2, hS2, hA2, rfl, hL, hg2, hB2, hX2, hF2, hn2, hm2⟩ := hrel
      have HX2 := Lib.hid hX2
      have HMr := Lib.hid hA2.cells.2
      have hlen2 := hS2.len
      clear hX2 hI
      cases F2 with
      | zero => omega
      | succ F2 =>
      by_cases hh : headIs 124 r2 = true
      · obtain ⟨hlt2, hc2, hS3⟩ := headIs_lt hS2 hh
        have htl := tail_lt hh
        have hXe : Hid (X = (altP F2 r2.tail).bind fun x r1 => moreP F2 r1 (es.map (·.x) ++ [x])) := Lib.hid (by rw [← HX2.out, moreP, if_pos hh])
        have ht := take_yes wr rb s a2 r2 124 124 rfl hA2 hS2 hs hh
        clear hh hc2
        go_wp2_with (go_at_call 57; (with_reducible refine ht.mono ?_); rintro e V ⟨rfl, hA3, hg3⟩)
        have hL := hL.kept hg3 (fun i e => by cases e; omega)
        have hB2 := hB2.kept hg3 (by simp; omega)
        have hg2 := grownBy_rb hg2 hg3
        clear ht hg3 hA2
        refine (alternative_any N ih V rb s (a2 + 1) r2.tail F2 (by omega) (by omega) hA3 hS3 hs).mono ?_
        rintro e w5 hans
        rcases hans.parts with ⟨x, r5, a5, val, hd, hS5, rfl, hval, hA5, hg5⟩ | ⟨r5, a5, hd, hS5, rfl, hg5⟩
        · obtain ⟨eb, rfl, rfl, heb⟩ := hval
          have hlt5 := (less F2).2.2.1 _ _ _ hd
          have hlen5 := hS5.len
          have HD5 := Lib.hid hd
          have hL5 := hL.kept hg5 (fun i e => by cases e; omega)
          have hB5 := hB2.kept hg5 (by simp; omega)
          have hg05 := grownBy_rb hg2 hg5
          have hVl := hB2.lt
          obtain ⟨a6, c6, w6, hrun6, hL6, hg6⟩ := hL5.push eb (heb.move (fun b hp _ => ⟨⟨by omega, hp.2, fun e => by have := (hL.lt b e).2; omega⟩, rfl⟩)) (by omega) hB5.lt 23
          have Hr6 := Lib.hid hrun6
          have hne6 : ∀ k, some k = (Value.slice A es.length C).ownBlock → w.heap.size + 1 ≤ k := fun k e => (hL.lt k e.symm).1
          have hA6 : At w6 rb s a5 := hA5.kept hg6 (fun e => by have := hne6 rb e; omega)
          have hB6 := hB5.kept hg6 (fun e => by have := hne6 _ e; omega)
          have hg06 : w.grownBy w6 (some rb) := grownBy_trans hg05 hg6 (fun i e => .inr (by have := hne6 i e.symm; omega))
          dsimp only [Ea.val, itemV]
          clear hd hans hrun6 heb hL hL5 hB2 hA3
          go_wp2_with (at_builtin; refine wpList_append_run rfl _ _ 23 23 rfl _ _ _ _ rfl rfl Hr6.out ?_)
          refine ⟨⟨es ++ [eb], r5, a5, a6, c6, F2, hS5, hA6, by simp, hL6, hg06, hB6, ?_, by omega, by simp; omega, by omega⟩, ?_⟩
          · rw [hXe.out, HD5.out, Rd.bind_ok]; simp
          · rw [hA6.cells.2, HMr.out]
            simp [intOf]
            omega
        · have hg05 := grownBy_rb hg2 hg5
          go_wp2_with (fail)
          exact ⟨rfl, Ans.bad' (by rw [hE2.out, hXe.out, hd, Rd.bind_bad]) hS5 hg05⟩
      · rw [Bool.not_eq_true] at hh
        have hXe : Hid (X = .ok (joinX 4 (es.map (·.x))) r2) := Lib.hid (by rw [← HX2.out, moreP, if_neg (by rw [hh]; simp)])
        have ht := take_no wr rb s a2 r2 124 124 rfl hA2 hS2 hs hh
        clear hh
        go_wp2_with (go_at_call 57; (with_reducible refine ht.mono ?_); rintro e V ⟨rfl, hA3, hg3⟩)
        have hL := hL.kept hg3 (fun i e => by cases e; omega)
        have hB2 := hB2.kept hg3 (by simp; omega)
        have hg2 := grownBy_rb hg2 hg3
        clear ht hg3 hA2
        refine (joined_any 4 es A es.length C (w.heap.size + 1) V hL.own rfl (by omega)).mono ?_
        rintro e w5 ⟨rfl, hb5⟩
        rw [← joinE_val]
        have hej := (joinE_ea (kind := 4) hL).grow (below_grownBy hb5 none) (fun i e => by cases e)
        have hxj := Lib.hid (joinE_x 4 es A C)
        generalize joinE 4 es A C = ej at hej hxj ⊢
        have hB5 := hB2.below hb5 hB2.lt
        have hA5 := Blk.below hA3 hb5 hA3.lt
        have hg5 := grownBy_rb hg2 (below_grownBy hb5 (some rb))
        have z0 := hB5.cell 0
        have z1 := hB5.cell 1
        have z2 := hB5.cell 2
        have f0 := hB5.frozen 0
        have f1 := hB5.frozen 1
        have f2 := hB5.frozen 2
        simp only [re0, List.getElem?_cons_zero, List.getElem?_cons_succ] at z0 z1 z2
        have hbl := hB5.lt
        dsimp only [Ea.val, itemV]
        clear hL hB2 hb5
        go_wp2_with (fail)
        have hF := blk_put3 hB5 (.int .i64 ej.x.h.k) (.slice ej.sa ej.x.h.set.length ej.sc) (.slice ej.a ej.x.k.len ej.c)
        have g0 := hF.cell 0
        have g1 := hF.cell 1
        have g2 := hF.cell 2
        simp only [List.getElem?_cons_zero, List.getElem?_cons_succ] at g0 g1 g2
        refine bodyPost_ret (v := ej.val) ?_ rfl (ret_cells (r := r2) (n := w.heap.size + 1) (by rw [hE2.out, hXe.out, ← hxj.out]) hS2 hA5 hg5 (.inr trivial) hej (by omega) hrb)
        simp [results, Try.f41, go_sem, g0, g1, g2, itemV]
  · have hg01 := grownBy_rb hg0 hg1
    go_wp2_with (fail)
    exact ⟨rfl, Ans.bad' (by rw [hE.out, hd, Rd.bind_bad]) hS1 hg01⟩

theorem alternatives_any : ∀ N, AltsC N := by
  intro N
  induction N with
  | zero => intro w rb s a r F hN; omega
  | succ N ih => exact alternatives_step N ih
end Go.Proofs.Ytkdfobnkebkpfaa

/- regex.Parse's deferred function. -/
namespace Go.Proofs.Ytkdfobnkebkpfaa
open Go.RowKit Go.Shelf

attribute [local go_sem] Oper.semAt_some

theorem assert_fault (W : World) (v : Value) : (Instr.typeAssert (.iface 58 v) 20 58 true).run Try.prog W = .ok (.tuple #[v, .bool true]) W := by kernel_rfl

set_option maxRecDepth 100000 in
set_option maxHeartbeats 400000 in
theorem catch_idle (pr pa pe : Nat) (w : World) :
    CallsD Try.prog 40 #[.pointer (some ⟨pr, 0, none⟩), .pointer (some ⟨pa, 0, none⟩), .pointer (some ⟨pe, 0, none⟩)] .returning w fun e u' w' => e = .returned (.tuple #[]) ∧ u' = .returning ∧ w' = w := by
  refine callsD_of_wpS Try.func40 rfl fun c₀ cs hu => ?_
  apply wpS_seq
  apply wpS_region
  simp [wpOpsS, go_sem, recoverD, hu, Try.ntmps40, Exit.thenS]
  refine wpS_of_wp ?_
  go_wp2_with (fail)
  cases c₀
  simp_all [bodyPostS, results, Try.results40]

set_option maxRecDepth 100000 in
set_option maxHeartbeats 400000 in
theorem catch_panic (pr pa pe a : Nat) (v0 v1 v2 v3 v4 : Value) (older : List PanicEntry) (w : World) (hr : Blk w pr 25 [v0, v1, v2]) (ha : Blk w pa 3 [v3]) (he : Blk w pe 28 [v4]) (h1 : pr ≠ pa) (h2 : pr ≠ pe) (h3 : pa ≠ pe) :
    CallsD Try.prog 40 #[.pointer (some ⟨pr, 0, none⟩), .pointer (some ⟨pa, 0, none⟩), .pointer (some ⟨pe, 0, none⟩)] (.panicking ({ v := .iface 58 (.int .i64 (a : Int)), recovered := false } :: older)) w fun e u' w' =>
      e = .returned (.tuple #[]) ∧ u' = .panicking ({ v := .iface 58 (.int .i64 (a : Int)), recovered := true } :: older) ∧ Blk w' pr 25 [.int .i64 0, .slice none 0 0, .slice none 0 0] ∧ Blk w' pa 3 [.int .i64 (a : Int)] ∧ Blk w' pe 28 [.int .i64 20] ∧ (∀ B, B ≤ pr → B ≤ pa → B ≤ pe → Below B w w') := by
  have c0 := hr.cell 0
  have c1 := hr.cell 1
  have c2 := hr.cell 2
  have c3 := ha.cell 0
  have c4 := he.cell 0
  have f0 := hr.frozen 0
  have f1 := hr.frozen 1
  have f2 := hr.frozen 2
  have f3 := ha.frozen 0
  have f4 := he.frozen 0
  have l0 := hr.lt
  have l1 := ha.lt
  have l2 := he.lt
  simp only [List.getElem?_cons_zero, List.getElem?_cons_succ] at c0 c1 c2 c3 c4
  have hta := fun W => assert_fault W (.int .i64 (a : Int))
  refine callsD_of_wpS Try.func40 rfl fun c₀ cs hu => ?_
  apply wpS_seq
  apply wpS_region
  simp [wpOpsS, go_sem, recoverD, hu, Try.ntmps40, Exit.thenS]
  refine wpS_of_wp ?_
  simp only [Array.replicate_succ, Array.replicate_zero, List.push_toArray, List.setIfInBounds_toArray, List.set_cons_succ, List.set_cons_zero, List.append_toArray, List.cons_append, List.nil_append]
  clear hu
  have h1' : ¬ pa = pr := fun e => h1 e.symm
  have h2' : ¬ pe = pr := fun e => h2 e.symm
  have h3' : ¬ pe = pa := fun e => h3 e.symm
  go_wp2_with (fail)
  have hR := ((blk_put3 hr (.int .i64 0) (.slice none 0 0) (.slice none 0 0)).setOther (b' := pa) (j := 0) h1 (.int .i64 (a : Int))).setOther (b' := pe) (j := 0) h2 (.int .i64 20)
  have hP := (((((Blk.setOther (b' := pr) (j := 0) ha h1' (.int .i64 0)).setOther (j := 1) h1' (.slice none 0 0)).setOther (j := 2) h1' (.slice none 0 0)).set 0 (.int .i64 (a : Int)))).setOther (b' := pe) (j := 0) h3 (.int .i64 20)
  have hE := (((((Blk.setOther (b' := pr) (j := 0) he h2' (.int .i64 0)).setOther (j := 1) h2' (.slice none 0 0)).setOther (j := 2) h2' (.slice none 0 0)).setOther (b' := pa) (j := 0) h3' (.int .i64 (a : Int)))).set 0 (.int .i64 20)
  have hZ : ∀ B, B ≤ pr → B ≤ pa → B ≤ pe → Below B w (((((w.setCell ⟨pr, 0, none⟩ (.int .i64 0)).setCell ⟨pr, 1, none⟩ (.slice none 0 0)).setCell ⟨pr, 2, none⟩ (.slice none 0 0)).setCell ⟨pa, 0, none⟩ (.int .i64 (a : Int))).setCell ⟨pe, 0, none⟩ (.int .i64 20)) :=
    fun B b1 b2 b3 => ((below_put3 (Below.refl B w) b1 (.int .i64 0) (.slice none 0 0) (.slice none 0 0)).setCell (p := ⟨pa, 0, none⟩) b2 (.int .i64 (a : Int))).setCell (p := ⟨pe, 0, none⟩) b3 (.int .i64 20)
  generalize World.setCell _ _ _ = WF at hR hP hE hZ ⊢
  simp [bodyPostS, results, Try.results40]
  exact ⟨hR, hP, hE, hZ⟩
end Go.Proofs.Ytkdfobnkebkpfaa

/- regex.Parse. -/
namespace Go.Proofs.Ytkdfobnkebkpfaa
open Go.RowKit Go.Shelf

attribute [local go_sem] Oper.semAt_some

/-- How many expressions a list holds in all. -/
def szL : List Ex → Nat
  | [] => 0
  | x :: r => x.k.size + 1 + szL r
theorem szL_snoc (l : List Ex) (x : Ex) : szL (l ++ [x]) = szL l + (x.k.size + 1) := by
  induction l with
  | nil => simp [szL]
  | cons y r ih => simp [szL, ih]; omega
theorem foX_size (l : List Ex) : (foX l).size = szL l := by
  induction l with
  | nil => rfl
  | cons y r ih => simp [foX, szL, Fo.size, ih]; omega
theorem joinX_size (k : Int) (l : List Ex) : (joinX k l).k.size + 1 ≤ szL l + 1 := by
  match l with
  | [] => simp [joinX, Fo.size, szL]
  | [x] => simp [joinX, szL]
  | x :: y :: r => show (foX (x :: y :: r)).size + 1 ≤ _; rw [foX_size]; omega
theorem repsP_size : ∀ (r : List UInt8) (x : Ex), (repsP x r).1.k.size + (repsP x r).2.length ≤ x.k.size + r.length := by
  intro r
  induction r with
  | nil => intro x; simp [repsP]
  | cons c r ih =>
    intro x
    rw [repsP]
    split
    · have := ih ⟨⟨5 + Lib.indexByte reps c, []⟩, .cons x.h x.k .nil⟩
      simp [Fo.size] at this ⊢
      omega
    · simp
def Sized (F : Nat) : Prop := (∀ r x r', altsP F r = .ok x r' → x.k.size + 1 + 2 * r'.length ≤ 2 * r.length + 1) ∧ (∀ r l x r', moreP F r l = .ok x r' → x.k.size + 1 + 2 * r'.length ≤ 2 * r.length + szL l + (if l.length = 1 then 0 else 1)) ∧ (∀ r x r', altP F r = .ok x r' → x.k.size + 1 + 2 * r'.length ≤ 2 * r.length + 1) ∧
  (∀ r l x r', piecesP F r l = .ok x r' → x.k.size + 1 + 2 * r'.length ≤ 2 * r.length + szL l + 1) ∧ (∀ r x r', pieceP F r = .ok x r' → x.k.size + 1 + 2 * r'.length ≤ 2 * r.length) ∧ (∀ r x r', atomP F r = .ok x r' → x.k.size + 1 + 2 * r'.length ≤ 2 * r.length)
theorem setX_size (l : List Sp) : (setX l).k.size = 0 := rfl
theorem sized : ∀ F, Sized F := by
  intro F
  induction F with
  | zero => exact ⟨fun r x r' h => (by cases h), fun r l x r' h => (by cases h), fun r x r' h => (by cases h), fun r l x r' h => (by cases h), fun r x r' h => (by cases h), fun r x r' h => (by cases h)⟩
  | succ F ih =>
    obtain ⟨i1, i2, i3, i4, i5, i6⟩ := ih
    refine ⟨fun r x r' h => ?_, fun r l x r' h => ?_, fun r x r' h => ?_, fun r l x r' h => ?_, fun r x r' h => ?_, fun r x r' h => ?_⟩
    · rw [altsP] at h
      obtain ⟨y, r1, h1, h2⟩ := bind_inv h
      have a1 := i3 _ _ _ h1
      have a2 := i2 _ _ _ _ h2
      simp only [szL, List.length_singleton, if_true] at a2
      omega
    · rw [moreP] at h
      split at h
      · rename_i hh
        have := tail_lt hh
        obtain ⟨y, r1, h1, h2⟩ := bind_inv h
        have a1 := i3 _ _ _ h1
        have a2 := i2 _ _ _ _ h2
        rw [szL_snoc] at a2
        have : (if (l ++ [y]).length = 1 then 0 else 1) ≤ 1 := by split <;> omega
        omega
      · cases h
        have := joinX_size 4 l
        match l with
        | [] => simp [joinX, szL, Fo.size]; omega
        | [x] => simp [joinX, szL]; omega
        | x :: y :: l => simp at this ⊢; omega
    · rw [altP] at h; have := i4 _ _ _ _ h; simp [szL] at this; omega
    · rw [piecesP] at h
      split at h
      · cases h; have := joinX_size 3 l; omega
      · obtain ⟨y, r1, h1, h2⟩ := bind_inv h
        have a1 := i5 _ _ _ h1
        have a2 := i4 _ _ _ _ h2
        rw [szL_snoc] at a2
        omega
    · rw [pieceP] at h
      obtain ⟨y, r1, h1, h2⟩ := bind_inv h
      have a1 := i6 _ _ _ h1
      have a2 := repsP_size r1 y
      have a3 := repsP_le r1 y
      cases h2
      omega
    · rw [atomP] at h
      split at h
      · rename_i hh
        have := tail_lt hh
        obtain ⟨y, r1, h1, h2⟩ := bind_inv h
        have a1 := i1 _ _ _ h1
        unfold closeP at h2
        split at h2
        · rename_i hh2
          have := tail_lt hh2
          cases h2; omega
        · cases h2
      · split at h
        · rename_i hh; have := tail_lt hh; cases h; rw [setX_size]; omega
        · split at h
          · rename_i hh
            have := tail_lt hh
            obtain ⟨y, r1, h1, h2⟩ := bind_inv h
            have := classP_le h1
            cases h2; rw [setX_size]; omega
          · obtain ⟨y, r1, h1, h2⟩ := bind_inv h
            have := letP_lt h1
            cases h2; rw [setX_size]; omega
end Go.Proofs.Ytkdfobnkebkpfaa

/- regex.Parse. -/
namespace Go.Proofs.Ytkdfobnkebkpfaa
open Go.RowKit Go.Shelf

attribute [local go_sem] Oper.semAt_some

def zeroX : Ex := ⟨⟨0, []⟩, .nil⟩
/-- What Parse answers. -/
def parseP (l : List UInt8) : Ex × Nat × Int :=
  if 4096 < l.length then (zeroX, 0, 2) else
  match altsP (8 * l.length + 8) l with
  | .bad r => (zeroX, l.length - r.length, 20)
  | .ok x r => if r.length ≠ 0 then (zeroX, l.length - r.length, 20) else if ckE x.h x.k ≠ 0 then (zeroX, 0, 3) else (x, 0, 0)
/-- What a call of Parse comes to. -/
def ParA (l : List UInt8) (w : World) (e : Ending) (w' : World) : Prop :=
  ∃ ea : Ea, ea.x = (parseP l).1 ∧ e = .returned (.tuple #[ea.val, .int .i64 ((parseP l).2.1 : Int), .int .i64 (parseP l).2.2]) ∧ EaP (fun b => w.heap.size ≤ b ∧ b < w'.heap.size) w' ea ∧ Below w.heap.size w w'

theorem parA_zero {l : List UInt8} {w w' : World} {a : Nat} {k : Int} (hP : parseP l = (zeroX, a, k)) (hb : Below w.heap.size w w') : ParA l w (.returned (.tuple #[.agg #[.int .i64 0, .slice none 0 0, .slice none 0 0], .int .i64 (a : Int), .int .i64 k])) w' :=
  ⟨⟨zeroX, none, 0, none, 0⟩, by rw [hP], by rw [hP]; rfl, ⟨SpsP.nil _ _, ItemsP.nil _ _⟩, hb⟩

set_option maxRecDepth 100000 in
set_option maxHeartbeats 400000 in
theorem parse_long (s : ByteArray) (w : World) (hs : 4096 < s.size) (hm : s.size ≤ 9223372036854775807) : Calls Try.prog 21 #[.string s] w (ParA s.data.toList w) := by
  have hP : Hid (parseP s.data.toList = (zeroX, 0, 2)) := Lib.hid (by unfold parseP; rw [if_pos (by rw [dlen]; exact hs)])
  have hgt : (4096 : Int) < (s.size : Int) := by omega
  have hbel : Below w.heap.size w (((w.alloc (.cells re0 25)).alloc (.cells #[.int .i64 0] 3)).alloc (.cells #[.int .i64 2] 28)) := (((Below.refl _ w).alloc (Nat.le_refl _) _).alloc (by simp) _).alloc (by simp; omega) _
  go_enter_defers Try.func21, Try.ntmps21
  go_wp2_with (fail)
  simp [bodyPostD, Leaves, settle, results, Try.f21, go_sem]
  exact parA_zero (a := 0) hP.out hbel

theorem make_run (fn : Fn) (first cap : Array Value) (w : World) : (Instr.makeFunc fn first cap).run Try.prog w = .ok (.func fn first cap) w := rfl

set_option maxRecDepth 100000 in
set_option maxHeartbeats 400000 in
theorem parse_short (s : ByteArray) (w : World) (hs : s.size ≤ 4096) : Calls Try.prog 21 #[.string s] w (ParA s.data.toList w) := by
  have hle : ¬ (4096 : Int) < (s.size : Int) := by omega
  have hmf := make_run
  go_enter_defers Try.func21, Try.ntmps21
  have hR0 := ((Blk.new w 25 re0).alloc (.cells #[.int .i64 0] 3)).alloc (.cells #[.int .i64 0] 28)
  have hP0 := (Blk.new (w.alloc (.cells re0 25)) 3 #[.int .i64 0]).alloc (.cells #[.int .i64 0] 28)
  have hE0 := Blk.new ((w.alloc (.cells re0 25)).alloc (.cells #[.int .i64 0] 3)) 28 #[.int .i64 0]
  have hA0 := Blk.new (((w.alloc (.cells re0 25)).alloc (.cells #[.int .i64 0] 3)).alloc (.cells #[.int .i64 0] 28)) 60 #[.string s, .int .i64 0]
  have hR1 := hR0.alloc (.cells #[.string s, .int .i64 0] 60)
  have hP1 := hP0.alloc (.cells #[.string s, .int .i64 0] 60)
  have hE1 := hE0.alloc (.cells #[.string s, .int .i64 0] 60)
  have hb4 : Below w.heap.size w ((((w.alloc (.cells re0 25)).alloc (.cells #[.int .i64 0] 3)).alloc (.cells #[.int .i64 0] 28)).alloc (.cells #[.string s, .int .i64 0] 60)) := ((((Below.refl _ w).alloc (Nat.le_refl _) _).alloc (by simp) _).alloc (by simp; omega) _).alloc (by simp; omega) _
  simp only [World.size_alloc] at hP1 hE1 hA0
  have hz4 : ((((w.alloc (.cells re0 25)).alloc (.cells #[.int .i64 0] 3)).alloc (.cells #[.int .i64 0] 28)).alloc (.cells #[.string s, .int .i64 0] 60)).heap.size = w.heap.size + 4 := by simp
  have hal := alternatives_any (s.size + 1) ((((w.alloc (.cells re0 25)).alloc (.cells #[.int .i64 0] 3)).alloc (.cells #[.int .i64 0] 28)).alloc (.cells #[.string s, .int .i64 0] 60)) (w.heap.size + 1 + 1 + 1) s 0 s.data.toList (8 * s.data.toList.length + 8) (by rw [dlen]; omega) (Nat.le_refl _) hA0 ⟨by omega, rfl⟩ hs
  clear hR0 hP0 hE0
  go_wp2_with (fail)
  generalize World.alloc _ _ = W4 at hR1 hP1 hE1 hA0 hb4 hz4 hal ⊢
  refine hal.mono ?_
  rintro e w5 hans
  rcases hans.parts with ⟨x, r5, a5, val, hd, hS5, rfl, hval, hA5, hg5⟩ | ⟨r5, a5, hd, hS5, rfl, hg5⟩
  · obtain ⟨ea, rfl, rfl, hea⟩ := hval
    rw [hz4] at hea
    have hlen5 := hS5.len
    have hsz := (sized _).1 _ _ _ hd
    rw [dlen] at hsz
    have hR5 := hR1.kept hg5 (by simp; omega)
    have hP5 := hP1.kept hg5 (by simp)
    have hE5 := hE1.kept hg5 (by simp)
    have hb5 := hb4.grown hg5 hb4.size (fun i e => by cases e; omega)
    have r0 := hR5.cell 0
    have r1 := hR5.cell 1
    have r2 := hR5.cell 2
    simp only [re0, List.getElem?_cons_zero, List.getElem?_cons_succ] at r0 r1 r2
    have HD := Lib.hid hd
    obtain ⟨d0, d1⟩ := hA5.cells
    have f0 := hR5.frozen 0
    have f1 := hR5.frozen 1
    have f2 := hR5.frozen 2
    have hl0 := hR5.lt
    have hl1 := hP5.lt
    have hl2 := hE5.lt
    have hl3 := hA5.lt
    have hR6 := blk_put3 hR5 (.int .i64 ea.x.h.k) (.slice ea.sa ea.x.h.set.length ea.sc) (.slice ea.a ea.x.k.len ea.c)
    have hP6 := ((hP5.setOther (b' := w.heap.size) (j := 0) (by omega) (.int .i64 ea.x.h.k)).setOther (b' := w.heap.size) (j := 1) (by omega) (.slice ea.sa ea.x.h.set.length ea.sc)).setOther (b' := w.heap.size) (j := 2) (by omega) (.slice ea.a ea.x.k.len ea.c)
    have hE6 := ((hE5.setOther (b' := w.heap.size) (j := 0) (by omega) (.int .i64 ea.x.h.k)).setOther (b' := w.heap.size) (j := 1) (by omega) (.slice ea.sa ea.x.h.set.length ea.sc)).setOther (b' := w.heap.size) (j := 2) (by omega) (.slice ea.a ea.x.k.len ea.c)
    have hA6 := hA5.put3 (b := w.heap.size) (by omega) (.int .i64 ea.x.h.k) (.slice ea.sa ea.x.h.set.length ea.sc) (.slice ea.a ea.x.k.len ea.c)
    have hea6 := hea.grow (put3_grow w5 w.heap.size (.int .i64 ea.x.h.k) (.slice ea.sa ea.x.h.set.length ea.sc) (.slice ea.a ea.x.k.len ea.c)) (fun i e => by cases e; omega)
    have hb6 := below_put3 hb5 (Nat.le_refl w.heap.size) (.int .i64 ea.x.h.k) (.slice ea.sa ea.x.h.set.length ea.sc) (.slice ea.a ea.x.k.len ea.c)
    have hz6 := put3_size w5 w.heap.size (.int .i64 ea.x.h.k) (.slice ea.sa ea.x.h.set.length ea.sc) (.slice ea.a ea.x.k.len ea.c)
    dsimp only [Ea.val, itemV]
    clear hd hans hal hR1 hP1 hE1 hA0 hg5 hea hz4
    by_cases hend : a5 < s.size
    · have hP : Hid (parseP s.data.toList = (zeroX, a5, 20)) := Lib.hid (by
        unfold parseP; rw [if_neg (by rw [dlen]; omega), HD.out]; simp only []; rw [if_pos (by omega), dlen]; congr 2; omega)
      have hI : (a5 : Int) < (s.size : Int) := by omega
      go_wp2_with (fail)
      refine leaves_cons (f := 40) (args := #[.pointer (some ⟨w.heap.size, 0, none⟩), .pointer (some ⟨w.heap.size + 1, 0, none⟩), .pointer (some ⟨w.heap.size + 1 + 1, 0, none⟩)]) (by simp) (by simp [go_sem]) ?_
      refine (catch_panic w.heap.size (w.heap.size + 1) (w.heap.size + 1 + 1) a5 _ _ _ _ _ [] _ hR6 hP6 hE6 (by omega) (by omega) (by omega)).mono ?_
      rintro e u' w7 ⟨rfl, rfl, hR7, hP7, hE7, hZ⟩
      have g0 := hR7.cell 0
      have g1 := hR7.cell 1
      have g2 := hR7.cell 2
      have g3 := hP7.cell 0
      have g4 := hE7.cell 0
      simp only [List.getElem?_cons_zero, List.getElem?_cons_succ] at g0 g1 g2 g3 g4
      simp [Leaves, settle, results, Try.results21, go_sem, g0, g1, g2, g3, g4]
      exact parA_zero hP.out (hb6.trans (hZ w.heap.size (Nat.le_refl _) (by omega) (by omega)))
    · have hI : ¬ (a5 : Int) < (s.size : Int) := by omega
      have hIn : decide (a5 < s.size) = false := by simp; omega
      have hck := rcheck_any ea.x.h ea.x.k ea.sa ea.sc ea.a ea.c _ hea6.sps.sps hea6.items.items (by omega)
      change Calls _ _ _ _ (fun e w' => e = .returned (.int .i64 (ckE ea.x.h ea.x.k)) ∧ _) at hck
      have hPP : Hid (parseP s.data.toList = if ckE ea.x.h ea.x.k ≠ 0 then (zeroX, 0, 3) else (ea.x, 0, 0)) := Lib.hid (by
        unfold parseP; rw [if_neg (by rw [dlen]; omega), HD.out]; simp only []; rw [if_neg (by omega)])
      dsimp only [itemV] at hck
      generalize ckE ea.x.h ea.x.k = E at hck hPP
      have x0 := hR6.cell 0
      have x1 := hR6.cell 1
      have x2 := hR6.cell 2
      simp only [List.getElem?_cons_zero, List.getElem?_cons_succ] at x0 x1 x2
      clear hend hS5 hlen5 hR5 hP5 hE5 hb5 hA5 hA6 HD
      by_cases hE0 : E = 0
      · have hE1 : (E != 0) = false := by simp [hE0]
        have HE := Lib.hid hE0
        clear hE0
        go_wp2_with (go_at_call 14; (with_reducible refine hck.mono ?_); rintro e w8 ⟨rfl, hb8⟩; have hR8 := hR6.below hb8 hR6.lt; have hP8 := hP6.below hb8 hP6.lt; have hE8 := hE6.below hb8 hE6.lt; have y0 := hR8.cell 0; have y1 := hR8.cell 1; have y2 := hR8.cell 2; have q0 := hR8.frozen 0; have q1 := hR8.frozen 1; have q2 := hR8.frozen 2; have q3 := hP8.frozen 0; have q4 := hE8.frozen 0; have y3 := hP8.cell 0; have y4 := hE8.cell 0; simp only [List.getElem?_cons_zero, List.getElem?_cons_succ] at y0 y1 y2 y3 y4; have l80 := hR8.lt; have l81 := hP8.lt; have l82 := hE8.lt)
        have hea8 := hea6.grow (below_grownBy hb8 none) (fun i e => by cases e)
        have hea9 : EaP (fun b => w.heap.size + 4 ≤ b ∧ b < ((((((w8.setCell ⟨w.heap.size, 0, none⟩ (.int .i64 ea.x.h.k)).setCell ⟨w.heap.size, 1, none⟩ (.slice ea.sa ea.x.h.set.length ea.sc)).setCell ⟨w.heap.size, 2, none⟩ (.slice ea.a ea.x.k.len ea.c)).setCell ⟨w.heap.size + 1, 0, none⟩ (.int .i64 0)).setCell ⟨w.heap.size + 1 + 1, 0, none⟩ (.int .i64 0))).heap.size) _ ea := ((hea8.grow (put3_grow w8 w.heap.size (.int .i64 ea.x.h.k) (.slice ea.sa ea.x.h.set.length ea.sc) (.slice ea.a ea.x.k.len ea.c)) (fun i e => by cases e; omega)).grow (grownBy_set _ (w.heap.size + 1) 0 (.int .i64 0)) (fun i e => by cases e; omega)).grow (grownBy_set _ (w.heap.size + 1 + 1) 0 (.int .i64 0)) (fun i e => by cases e; omega)
        have hR9 := ((blk_put3 hR8 (.int .i64 ea.x.h.k) (.slice ea.sa ea.x.h.set.length ea.sc) (.slice ea.a ea.x.k.len ea.c)).setOther (b' := w.heap.size + 1) (j := 0) (by omega) (.int .i64 0)).setOther (b' := w.heap.size + 1 + 1) (j := 0) (by omega) (.int .i64 0)
        have hP9 := ((((hP8.setOther (b' := w.heap.size) (j := 0) (by omega) (.int .i64 ea.x.h.k)).setOther (b' := w.heap.size) (j := 1) (by omega) (.slice ea.sa ea.x.h.set.length ea.sc)).setOther (b' := w.heap.size) (j := 2) (by omega) (.slice ea.a ea.x.k.len ea.c)).set 0 (.int .i64 0)).setOther (b' := w.heap.size + 1 + 1) (j := 0) (by omega) (.int .i64 0)
        have hE9 := ((((hE8.setOther (b' := w.heap.size) (j := 0) (by omega) (.int .i64 ea.x.h.k)).setOther (b' := w.heap.size) (j := 1) (by omega) (.slice ea.sa ea.x.h.set.length ea.sc)).setOther (b' := w.heap.size) (j := 2) (by omega) (.slice ea.a ea.x.k.len ea.c)).setOther (b' := w.heap.size + 1) (j := 0) (by omega) (.int .i64 0)).set 0 (.int .i64 0)
        have hb9 := ((below_put3 (hb6.trans (hb8.mono hb6.size)) (Nat.le_refl w.heap.size) (.int .i64 ea.x.h.k) (.slice ea.sa ea.x.h.set.length ea.sc) (.slice ea.a ea.x.k.len ea.c)).setCell (p := ⟨w.heap.size + 1, 0, none⟩) (by show w.heap.size ≤ w.heap.size + 1; omega) (.int .i64 0)).setCell (p := ⟨w.heap.size + 1 + 1, 0, none⟩) (by show w.heap.size ≤ w.heap.size + 1 + 1; omega) (.int .i64 0)
        refine leaves_cons (f := 40) (args := #[.pointer (some ⟨w.heap.size, 0, none⟩), .pointer (some ⟨w.heap.size + 1, 0, none⟩), .pointer (some ⟨w.heap.size + 1 + 1, 0, none⟩)]) (by simp) (by simp [go_sem]) ?_
        refine (catch_idle w.heap.size (w.heap.size + 1) (w.heap.size + 1 + 1) _).mono ?_
        rintro e u' w9 ⟨rfl, rfl, rfl⟩
        generalize World.setCell _ _ _ = WF at hR9 hP9 hE9 hb9 hea9 ⊢
        have g0 := hR9.cell 0
        have g1 := hR9.cell 1
        have g2 := hR9.cell 2
        have g3 := hP9.cell 0
        have g4 := hE9.cell 0
        simp only [List.set_cons_zero, List.getElem?_cons_zero, List.getElem?_cons_succ] at g0 g1 g2 g3 g4
        simp [Leaves, settle, results, Try.results21, go_sem, g0, g1, g2, g3, g4]
        exact ⟨ea, by rw [hPP.out, if_neg (by rw [HE.out]; simp)], by rw [hPP.out, if_neg (by rw [HE.out]; simp)]; rfl, hea9.weak (by omega), hb9⟩
      · have hE1 : (E != 0) = true := by simp [hE0]
        have HE := Lib.hid hE0
        clear hE0
        go_wp2_with (go_at_call 14; (with_reducible refine hck.mono ?_); rintro e w8 ⟨rfl, hb8⟩; have hR8 := hR6.below hb8 hR6.lt; have hP8 := hP6.below hb8 hP6.lt; have hE8 := hE6.below hb8 hE6.lt; have y0 := hR8.cell 0; have y1 := hR8.cell 1; have y2 := hR8.cell 2; have q0 := hR8.frozen 0; have q1 := hR8.frozen 1; have q2 := hR8.frozen 2; have q3 := hP8.frozen 0; have q4 := hE8.frozen 0; have y3 := hP8.cell 0; have y4 := hE8.cell 0; simp only [List.getElem?_cons_zero, List.getElem?_cons_succ] at y0 y1 y2 y3 y4; have l80 := hR8.lt; have l81 := hP8.lt; have l82 := hE8.lt)
        have hR9 := ((blk_put3 hR8 (.int .i64 0) (.slice none 0 0) (.slice none 0 0)).setOther (b' := w.heap.size + 1) (j := 0) (by omega) (.int .i64 0)).setOther (b' := w.heap.size + 1 + 1) (j := 0) (by omega) (.int .i64 3)
        have hP9 := ((((hP8.setOther (b' := w.heap.size) (j := 0) (by omega) (.int .i64 0)).setOther (b' := w.heap.size) (j := 1) (by omega) (.slice none 0 0)).setOther (b' := w.heap.size) (j := 2) (by omega) (.slice none 0 0)).set 0 (.int .i64 0)).setOther (b' := w.heap.size + 1 + 1) (j := 0) (by omega) (.int .i64 3)
        have hE9 := ((((hE8.setOther (b' := w.heap.size) (j := 0) (by omega) (.int .i64 0)).setOther (b' := w.heap.size) (j := 1) (by omega) (.slice none 0 0)).setOther (b' := w.heap.size) (j := 2) (by omega) (.slice none 0 0)).setOther (b' := w.heap.size + 1) (j := 0) (by omega) (.int .i64 0)).set 0 (.int .i64 3)
        have hb9 := ((below_put3 (hb6.trans (hb8.mono hb6.size)) (Nat.le_refl w.heap.size) (.int .i64 0) (.slice none 0 0) (.slice none 0 0)).setCell (p := ⟨w.heap.size + 1, 0, none⟩) (by show w.heap.size ≤ w.heap.size + 1; omega) (.int .i64 0)).setCell (p := ⟨w.heap.size + 1 + 1, 0, none⟩) (by show w.heap.size ≤ w.heap.size + 1 + 1; omega) (.int .i64 3)
        refine leaves_cons (f := 40) (args := #[.pointer (some ⟨w.heap.size, 0, none⟩), .pointer (some ⟨w.heap.size + 1, 0, none⟩), .pointer (some ⟨w.heap.size + 1 + 1, 0, none⟩)]) (by simp) (by simp [go_sem]) ?_
        refine (catch_idle w.heap.size (w.heap.size + 1) (w.heap.size + 1 + 1) _).mono ?_
        rintro e u' w9 ⟨rfl, rfl, rfl⟩
        generalize World.setCell _ _ _ = WF at hR9 hP9 hE9 hb9  ⊢
        have g0 := hR9.cell 0
        have g1 := hR9.cell 1
        have g2 := hR9.cell 2
        have g3 := hP9.cell 0
        have g4 := hE9.cell 0
        simp only [List.set_cons_zero, List.getElem?_cons_zero, List.getElem?_cons_succ] at g0 g1 g2 g3 g4
        simp [Leaves, settle, results, Try.results21, go_sem, g0, g1, g2, g3, g4]
        exact parA_zero (a := 0) (by rw [hPP.out, if_pos HE.out]) hb9
  · have hP : Hid (parseP s.data.toList = (zeroX, a5, 20)) := Lib.hid (by
      have := hS5.len
      unfold parseP; rw [if_neg (by rw [dlen]; omega), hd]; simp only [dlen, Prod.mk.injEq, true_and, and_true]; omega)
    have hR5 := hR1.kept hg5 (by simp; omega)
    have hP5 := hP1.kept hg5 (by simp)
    have hE5 := hE1.kept hg5 (by simp)
    have hb5 := hb4.grown hg5 hb4.size (fun i e => by cases e; omega)
    clear hd hans hal hR1 hP1 hE1 hA0
    go_wp2_with (fail)
    refine leaves_cons (f := 40) (args := #[.pointer (some ⟨w.heap.size, 0, none⟩), .pointer (some ⟨w.heap.size + 1, 0, none⟩), .pointer (some ⟨w.heap.size + 1 + 1, 0, none⟩)]) (by simp) (by simp [go_sem]) ?_
    refine (catch_panic w.heap.size (w.heap.size + 1) (w.heap.size + 1 + 1) a5 _ _ _ _ _ [] w5 hR5 hP5 hE5 (by omega) (by omega) (by omega)).mono ?_
    rintro e u' w6 ⟨rfl, rfl, hR6, hP6, hE6, hZ⟩
    have g0 := hR6.cell 0
    have g1 := hR6.cell 1
    have g2 := hR6.cell 2
    have g3 := hP6.cell 0
    have g4 := hE6.cell 0
    simp only [List.getElem?_cons_zero, List.getElem?_cons_succ] at g0 g1 g2 g3 g4
    simp [Leaves, settle, results, Try.results21, go_sem, g0, g1, g2, g3, g4]
    exact parA_zero hP.out (hb5.trans (hZ w.heap.size (Nat.le_refl _) (by omega) (by omega)))

theorem parse_any (s : ByteArray) (w : World) (hm : s.size ≤ 9223372036854775807) : Calls Try.prog 21 #[.string s] w (ParA s.data.toList w) := by
  by_cases h : 4096 < s.size
  · exact parse_long s w h hm
  · exact parse_short s w (by omega)
end Go.Proofs.Ytkdfobnkebkpfaa
