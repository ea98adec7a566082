/- Texts joined: Ga Gb Gc. -/
import Derived.Test.YtngbfjimmdkfeaaPXN1
import Derived.Test.YtngbfjimmdkfeaaPXC
import Derived.Deep.RegionHeld3
import Derived.Deep.RegionLaw
import Derived.Lib.SliceRun
import Derived.Test.YtngbfjimmdkfeaaPXD
set_option linter.unusedVariables false
set_option linter.unusedSimpArgs false
namespace Go.Proofs.Ytngbfjimmdkfeaa
open Go.RowKit

/-- An edge, and where its spans lie. -/
structure Exd where
  e : Eg
  sa : Option Addr
  sc : Nat
def cellsX (x : Exd) : List Value := [.int .i64 x.e.f, .int .i64 x.e.t, .slice x.sa x.e.q.length x.sc]
def rowX (l : List Exd) : List Value := l.flatMap cellsX
theorem rowX_length (l : List Exd) : (rowX l).length = l.length * 3 := by
  induction l with
  | nil => rfl
  | cons x l ih => simp only [rowX, List.flatMap_cons, List.length_append, List.length_cons] at ih ⊢; rw [ih]; simp [cellsX]; omega
theorem rowX_snoc (l : List Exd) (x : Exd) : rowX (l ++ [x]) = rowX l ++ cellsX x := by simp [rowX]
theorem rowX_at : ∀ (l : List Exd) (i : Nat) (x : Exd), l[i]? = some x → ∀ j, j < 3 → (rowX l)[i * 3 + j]? = (cellsX x)[j]? := by
  intro l
  induction l with
  | nil => intro i x h; simp at h
  | cons y l ih =>
    intro i x h j hj
    simp only [rowX, List.flatMap_cons]
    cases i with
    | zero =>
      simp at h; subst h
      rw [List.getElem?_append_left (by simp [cellsX]; omega)]; simp
    | succ i =>
      rw [List.getElem?_append_right (by simp [cellsX]; omega), show (cellsX y).length = 3 from rfl, show (i + 1) * 3 + j - 3 = i * 3 + j by omega]
      exact ih i x (by simpa using h) j hj

/-- The spans of an edge lie below base, or in a block of spans. -/
structure SpK (w : World) (base : Nat) (x : Exd) : Prop where
  sps : Sps w x.sa x.sc x.e.q
  at_ : ∀ b off, x.e.q ≠ [] → x.sa = some ⟨b, off, none⟩ → b < base ∨ ∃ cs fr, w.heap[b]? = some (.cells cs 55 fr)
/-- Blocks of other types than an edge's or the maker's. -/
def mkT (tm : TypeId) (t : TypeId) : Bool := t != 61 && t != tm
theorem mkT_span {tm : TypeId} (h : tm ≠ 55) : mkT tm 55 = true := by
  unfold mkT
  rw [Bool.and_eq_true]
  exact ⟨by decide, by rw [bne_iff_ne]; exact fun e => h e.symm⟩
theorem mkT_edge (tm : TypeId) : mkT tm 61 = false := by simp [mkT]
theorem mkT_self (tm : TypeId) : mkT tm tm = false := by simp [mkT]
theorem SpK.kept {w w' : World} {base : Nat} {T : TypeId → Bool} {x : Exd} (h : SpK w base x) (hs : Spares base T w w') (hT : T 55 = true) : SpK w' base x := by
  have hb : ∀ b off, x.e.q ≠ [] → x.sa = some ⟨b, off, none⟩ → w'.heap[b]? = w.heap[b]? := by
    intro b off hq e
    rcases h.at_ b off hq e with h1 | ⟨cs, fr, h1⟩
    · exact hs.below.block b h1
    · rw [h1]; exact hs.same b cs _ fr h1 hT
  refine ⟨⟨h.sps.le, h.sps.max, h.sps.nil_, h.sps.at_, fun b off e i hi => ?_⟩, fun b off hq e => ?_⟩
  · have hq : x.e.q ≠ [] := by intro e0; rw [e0] at hi; exact absurd hi (Nat.not_lt_zero _)
    have hh := hb b off hq e
    obtain ⟨c1, c2⟩ := h.sps.cell b off e i hi
    exact ⟨(World.cell?_of_block (a := ⟨b, off + i * 2, none⟩) hh).trans c1, (World.cell?_of_block (a := ⟨b, off + i * 2 + 1, none⟩) hh).trans c2⟩
  · rw [hb b off hq e]; exact h.at_ b off hq e
theorem Below.spares {B : Nat} {T : TypeId → Bool} {w w' : World} (h : Below w.heap.size w w') (hB : B ≤ w.heap.size) : Spares B T w w' :=
  ⟨h.mono hB, fun k cs t fr hk _ => (h.block k (Array.getElem?_eq_some_iff.1 hk).1).trans hk⟩

/-- An own row of edges. -/
def OwnG (w : World) (base : Nat) (a : Option Addr) (n cap : Nat) (es : List Eg) : Prop := ∃ xs : List Exd, xs.map Exd.e = es ∧ w.ownsRow base 61 3 (.slice a n cap) n (rowX xs) ∧ ∀ x ∈ xs, SpK w base x
theorem OwnG.len {w : World} {base n cap : Nat} {a : Option Addr} {es : List Eg} (h : OwnG w base a n cap es) : n = es.length := by
  obtain ⟨xs, rfl, h, _⟩ := h
  have := h.1
  rw [rowX_length] at this
  rw [List.length_map]; omega
theorem OwnG.nil (w : World) (base : Nat) : OwnG w base none 0 0 [] := ⟨[], rfl, World.ownsRow_nil w base _ 3, fun x h => by cases h⟩
theorem OwnG.egs {w : World} {base n cap : Nat} {a : Option Addr} {es : List Eg} (h : OwnG w base a n cap es) : Egs w a cap es := by
  have hn := h.len
  obtain ⟨xs, rfl, h, hs⟩ := h
  rw [List.length_map] at hn
  have hcell : ∀ g, a = some ⟨g, 0, none⟩ → ∀ j, j < n * 3 → w.cell? ⟨g, j, none⟩ = (rowX xs)[j]? := fun g e j hj => by subst e; exact h.cellAt j hj
  rcases h.2 with ⟨e, hx⟩ | ⟨g, cap', cur, e, hb, hg, hnc, hcm, hcs, htake⟩
  · injection e with e1 e2 e3
    subst e1 e3
    exact ⟨by rw [List.length_map]; omega, by omega, fun _ => rfl, fun i hi => by rw [List.length_map] at hi; omega, fun b off e => by cases e⟩
  · injection e with e1 e2 e3
    subst e1 e3
    refine ⟨by rw [List.length_map]; omega, by unfold maxLen at hcm; omega, fun e => (by cases e), fun i hi => ⟨g, 0, rfl⟩, fun b off e i hi => ?_⟩
    cases e
    rw [List.length_map] at hi
    have hx : xs[i]? = some xs[i] := List.getElem?_eq_getElem hi
    have hk := hs _ (List.getElem_mem hi)
    have hc : ∀ j, j < 3 → w.cell? ⟨g, 0 + i * 3 + j, none⟩ = (cellsX xs[i])[j]? := by
      intro j hj
      rw [← rowX_at xs i _ hx j hj, Nat.zero_add]
      exact hcell g rfl _ (by omega)
    simp only [List.getElem_map]
    exact ⟨hc 0 (by omega), hc 1 (by omega), xs[i].sa, xs[i].sc, hc 2 (by omega), hk.sps⟩
theorem OwnG.row {w : World} {base n cap : Nat} {a : Option Addr} {es : List Eg} (h : OwnG w base a n cap es) : ∀ g, (Value.slice a n cap).ownBlock = some g → base ≤ g ∧ ∃ cur, w.heap[g]? = some (.cells cur 61 (0, 0)) := by
  intro g hg
  obtain ⟨xs, _, h, _⟩ := h
  rcases h.2 with ⟨e, _⟩ | ⟨g', cap', cur, e, hb, hk, _⟩
  · rw [e] at hg; cases hg
  · rw [e] at hg
    simp only [Value.ownBlock, Option.some.injEq] at hg
    subst hg
    exact ⟨hb, cur, hk⟩
/-- The row stays where what is written is another block. -/
theorem OwnG.kept {w w' : World} {base n cap : Nat} {a : Option Addr} {es : List Eg} {T : TypeId → Bool} {row : Option Nat} (h : OwnG w base a n cap es) (hg : w.grownBy w' row) (hne : (Value.slice a n cap).ownBlock = none ∨ (Value.slice a n cap).ownBlock ≠ row) (hs : Spares base T w w') (hT : T 55 = true) : OwnG w' base a n cap es := by
  obtain ⟨xs, h1, h2, h3⟩ := h
  exact ⟨xs, h1, h2.kept hg hne, fun x hx => (h3 x hx).kept hs hT⟩
theorem OwnG.grown {w w' : World} {base n cap : Nat} {a : Option Addr} {es : List Eg} (h : OwnG w base a n cap es) (hb : Below w.heap.size w w') (hB : base ≤ w.heap.size) : OwnG w' base a n cap es := by
  refine h.kept (T := fun _ => true) (below_grownBy hb none) ?_ (Below.spares hb hB) rfl
  rcases h0 : (Value.slice a n cap).ownBlock with _ | k <;> simp
theorem info_edge : (Try.prog.info? 61).map (fun i => (i.zero, i.size, i.bytes)) = some (some (.agg #[.int .i64 0, .int .i64 0, .slice none 0 0]), 3, 40) := by kernel_rfl
theorem cellsX_new (W : World) (l : List Value) (t : TypeId) : ∀ j u, l[j]? = some u → (W.alloc (.cells l.toArray t)).cell? ((⟨W.heap.size, 0, none⟩ : Addr).add j) = some u := by
  intro j u hj
  have := World.alloc_heap_new W (.cells l.toArray t)
  have e : ((⟨W.heap.size, 0, none⟩ : Addr).add j) = ⟨W.heap.size, j, none⟩ := by simp [Addr.add]; exact Eq.symm
  rw [e]
  unfold World.cell?
  rw [show ((⟨W.heap.size, j, none⟩ : Addr).block) = W.heap.size from rfl, this]
  simp only [Option.bind_some]
  simpa using hj
/-- An edge is put onto an own row of edges. -/
theorem run_pushG (w : World) (ty : TypeId) {tm : TypeId} {base n cap : Nat} {a : Option Addr} {es : List Eg} (x : Exd) (htm : tm ≠ 55) (hown : OwnG w base a n cap es) (hx : SpK w base x) (hn : n + 1 ≤ 1099511627780) (hbase : base ≤ w.heap.size) :
    ∃ a' cap' w', (Builtin.append_ #[30, 30] ty #[.slice a n cap, .slice (some ⟨w.heap.size, 0, none⟩) 1 1]).run Try.prog (w.alloc (.cells (cellsX x).toArray 61)) = .ok (.slice a' (n + 1) cap') w' ∧
      OwnG w' base a' (n + 1) cap' (es ++ [x.e]) ∧ w.grownBy w' (Value.slice a n cap).ownBlock ∧ Spares base (mkT tm) w w' := by
  obtain ⟨i0, hi, hz0, hz1, hz2⟩ := info_parts info_edge
  have hrow := hown.row
  obtain ⟨xs, he, hown, hs⟩ := hown
  obtain ⟨y, w', hrun, ho, hg, _⟩ := run_append_own (P := Try.prog) (w.alloc (.cells (cellsX x).toArray 61)) base 30 ty 61 i0 _ 3 40 Try.underlying30 hi hz0 hz1 hz2 rfl (by decide) _ n _ (World.ownsRow.alloc hown _) ⟨w.heap.size, 0, none⟩ 1 1 (cellsX x) rfl (cellsX_new w _ _) (by simp [cellsX, Value.oneCell']) (by unfold maxLen; omega) (by omega) (by simp; omega)
  obtain ⟨a', cap', rfl⟩ := slice_of_own ho
  have hg' := grownBy_trans (World.grownBy_alloc w (.cells (cellsX x).toArray 61) _) hg (fun i e => .inl e)
  have hsp : Spares base (mkT tm) w w' := Spares.grown hg' hbase (fun r e => ⟨(hrow r e).1, fun cs t fr hk => by
    obtain ⟨_, cur, h2⟩ := hrow r e
    rw [hk] at h2; cases h2
    exact mkT_edge tm⟩)
  refine ⟨a', cap', w', hrun, ⟨xs ++ [x], by rw [List.map_append, he]; rfl, by rw [rowX_snoc]; exact ho, fun z hz => ?_⟩, hg', hsp⟩
  rcases List.mem_append.1 hz with h1 | h1
  · exact (hs z h1).kept hsp (mkT_span htm)
  · rw [List.mem_singleton.1 h1]; exact hx.kept hsp (mkT_span htm)

/-- An automaton that grows: the box of its maker, its edges. -/
structure MkAt (tm : TypeId) (w : World) (base bm : Nat) (n s : Int) (ev : Value) (ga : Option Addr) (gc : Nat) (es : List Eg) : Prop where
  box : Blk w bm tm [.int .i64 n, .int .i64 s, ev, .slice ga es.length gc]
  row : OwnG w base ga es.length gc es
  ge : base ≤ bm
  ne : tm ≠ 55 ∧ tm ≠ 61
section
variable {tm : TypeId} {w w' : World} {base bm : Nat} {n s : Int} {ev : Value} {ga : Option Addr} {gc : Nat} {es : List Eg}
theorem MkAt.base_le (h : MkAt tm w base bm n s ev ga gc es) : base ≤ w.heap.size := by have := h.ge; have := h.box.lt; omega
theorem MkAt.grown (h : MkAt tm w base bm n s ev ga gc es) (hb : Below w.heap.size w w') : MkAt tm w' base bm n s ev ga gc es :=
  ⟨h.box.below hb h.box.lt, h.row.grown hb h.base_le, h.ge, h.ne⟩
theorem MkAt.alloc (h : MkAt tm w base bm n s ev ga gc es) (o : Obj) : MkAt tm (w.alloc o) base bm n s ev ga gc es := h.grown ((Below.refl _ w).alloc (Nat.le_refl _) o)
theorem MkAt.row_ne (h : MkAt tm w base bm n s ev ga gc es) : (Value.slice ga es.length gc).ownBlock ≠ some bm := by
  intro e
  obtain ⟨_, cur, h2⟩ := h.row.row bm e
  have := h.box
  unfold Blk at this
  rw [h2] at this
  cases this
  exact h.ne.2 rfl
theorem MkAt.spares_set (h : MkAt tm w base bm n s ev ga gc es) (j : Nat) (v : Value) : Spares base (mkT tm) w (w.setCell ⟨bm, j, none⟩ v) :=
  Spares.grown (grownBy_set w bm j v) h.base_le (fun r e => by
    cases e
    exact ⟨h.ge, fun cs t fr hk => by
      have := h.box
      unfold Blk at this
      rw [hk] at this; cases this
      exact mkT_self tm⟩)
/-- Another number of states, other ends. -/
theorem MkAt.set0 (h : MkAt tm w base bm n s ev ga gc es) (n' : Int) : MkAt tm (w.setCell ⟨bm, 0, none⟩ (.int .i64 n')) base bm n' s ev ga gc es :=
  ⟨h.box.set 0 _, h.row.kept (grownBy_set w bm 0 _) (.inr h.row_ne) (h.spares_set 0 _) (mkT_span h.ne.1), h.ge, h.ne⟩
theorem MkAt.set2 (h : MkAt tm w base bm n s ev ga gc es) (v : Value) : MkAt tm (w.setCell ⟨bm, 2, none⟩ v) base bm n s v ga gc es :=
  ⟨h.box.set 2 _, h.row.kept (grownBy_set w bm 2 _) (.inr h.row_ne) (h.spares_set 2 _) (mkT_span h.ne.1), h.ge, h.ne⟩
/-- An edge is laid down: append, and the store of the slice. -/
theorem MkAt.push (h : MkAt tm w base bm n s ev ga gc es) (ty : TypeId) (x : Exd) (hx : SpK w base x) (hl : es.length + 1 ≤ 1099511627780) :
    ∃ a' cap' w', (Builtin.append_ #[30, 30] ty #[.slice ga es.length gc, .slice (some ⟨w.heap.size, 0, none⟩) 1 1]).run Try.prog (w.alloc (.cells (cellsX x).toArray 61)) = .ok (.slice a' (es.length + 1) cap') w' ∧
      Blk w' bm tm [.int .i64 n, .int .i64 s, ev, .slice ga es.length gc] ∧ MkAt tm (w'.setCell ⟨bm, 3, none⟩ (.slice a' (es.length + 1) cap')) base bm n s ev a' cap' (es ++ [x.e]) ∧ Spares base (mkT tm) w (w'.setCell ⟨bm, 3, none⟩ (.slice a' (es.length + 1) cap')) ∧ w.heap.size ≤ w'.heap.size := by
  obtain ⟨a', cap', w1, hrun, ho, hg, hs⟩ := run_pushG w ty x h.ne.1 h.row hx hl h.base_le
  have hbx : Blk w1 bm tm [.int .i64 n, .int .i64 s, ev, .slice ga es.length gc] := h.box.kept hg (fun e => h.row_ne e.symm)
  have hlen : (es ++ [x.e]).length = es.length + 1 := by simp
  have hne : (Value.slice a' (es.length + 1) cap').ownBlock ≠ some bm := by
    intro e
    obtain ⟨_, cur, h2⟩ := ho.row bm e
    unfold Blk at hbx
    rw [h2] at hbx
    cases hbx
    exact h.ne.2 rfl
  have hs2 : Spares base (mkT tm) w1 (w1.setCell ⟨bm, 3, none⟩ (.slice a' (es.length + 1) cap')) := Spares.grown (grownBy_set w1 bm 3 _) (Nat.le_trans h.base_le hg.size) (fun r e => by
    cases e
    exact ⟨h.ge, fun cs t fr hk => by
      have := hbx
      unfold Blk at this
      rw [hk] at this; cases this
      exact mkT_self tm⟩)
  refine ⟨a', cap', w1, hrun, hbx, ⟨by rw [hlen]; exact hbx.set 3 _, ?_, h.ge, h.ne⟩, hs.trans hs2, hg.size⟩
  rw [hlen]
  exact ho.kept (grownBy_set w1 bm 3 _) (.inr hne) hs2 (mkT_span h.ne.1)
/-- Another block is written, of none of the types. -/
theorem MkAt.other {row : Option Nat} (h : MkAt tm w base bm n s ev ga gc es) (hg : w.grownBy w' row) (hr : ∀ r, row = some r → base ≤ r ∧ ∀ cs t fr, w.heap[r]? = some (.cells cs t fr) → t ≠ 61 ∧ t ≠ tm ∧ t ≠ 55) : MkAt tm w' base bm n s ev ga gc es := by
  refine ⟨h.box.kept hg (fun e => ?_), h.row.kept (T := fun t => t == 55) hg ?_ (Spares.grown hg h.base_le (fun r e => ⟨(hr r e).1, fun cs t fr hk => by simpa using ((hr r e).2 cs t fr hk).2.2⟩)) (by simp), h.ge, h.ne⟩
  · have := h.box
    unfold Blk at this
    exact ((hr bm e.symm).2 _ _ _ this).2.1 rfl
  · rcases hv : (Value.slice ga es.length gc).ownBlock with _ | g
    · exact .inl rfl
    · refine .inr (fun e => ?_)
      obtain ⟨_, cur, h2⟩ := h.row.row g hv
      exact ((hr g e.symm).2 _ _ _ h2).1 rfl
end
/-- What was laid behind the beginning may be written on. -/
theorem Spares.behind {B : Nat} {T : TypeId → Bool} {w wr w' : World} {row : Option Nat} (h : Spares B T w wr) (hg : wr.grownBy w' row) (hB : B ≤ w.heap.size) (hr : ∀ r, row = some r → w.heap.size ≤ r) : Spares B T w w' := by
  have hsz := h.below.size
  refine ⟨h.below.grown hg (by omega) (fun k e => Nat.le_trans hB (hr k e)), fun k cs t fr hk ht => ?_⟩
  have h1 := h.same k cs t fr hk ht
  have hlt := (Array.getElem?_eq_some_iff.1 hk).1
  rw [hg.block k (by omega) (fun e => by have := hr k e.symm; omega)]
  exact h1
theorem Spares.size {B : Nat} {T : TypeId → Bool} {w w' : World} (h : Spares B T w w') : w.heap.size ≤ w'.heap.size := h.below.size
/-- A block of another type stays. -/
theorem Spares.blk {B : Nat} {T : TypeId → Bool} {w w' : World} (h : Spares B T w w') {b : Nat} {e : TypeId} {cs : List Value} (hb : Blk w b e cs) (ht : T e = true) : Blk w' b e cs := h.same b _ _ _ hb ht
theorem Spares.own {B base size n : Nat} {T : TypeId → Bool} {w w' : World} {e : TypeId} {v : Value} {xs : List Value} (h : Spares B T w w') (ho : w.ownsRow base e size v n xs) (ht : T e = true) : w'.ownsRow base e size v n xs := by
  refine ⟨ho.1, ?_⟩
  rcases ho.2 with h1 | ⟨g, cap, cur, h1, h2, h3, h4⟩
  · exact .inl h1
  · exact .inr ⟨g, cap, cur, h1, h2, h.same g _ _ _ h3 ht, h4⟩
theorem SpK.of0 {w0 w : World} {sa : Option Addr} {sc : Nat} {q : List Sp} {f t : Int} (h : Sps w0 sa sc q) (hb : Below w0.heap.size w0 w) : SpK w w0.heap.size ⟨⟨f, t, q⟩, sa, sc⟩ :=
  ⟨h.grown hb, fun b off hq e => .inl (by
    cases q with
    | nil => exact absurd rfl hq
    | cons s l => exact World.block_lt_of_cell? w0 _ (h.cell b off e 0 (by simp)).1)⟩
theorem SpK.nil (w : World) (base : Nat) (f t : Int) : SpK w base ⟨⟨f, t, []⟩, none, 0⟩ := ⟨Sps.nil w, fun b off hq => absurd rfl hq⟩
end Go.Proofs.Ytngbfjimmdkfeaa

namespace Go.Proofs.Ytngbfjimmdkfeaa
open Go.RowKit Go.Shelf

attribute [local go_sem] Oper.semAt_some

theorem gatL {α : Type} {l : List α} {i : Nat} {x : α} (h : l[i]? = some x) : l.toArray[i]? = some x := by simpa using h
theorem gatZ {α : Type} {a : α} {l : List α} : (a :: l)[0]? = some a := rfl
theorem gatS {α : Type} {a : α} {l : List α} {i : Nat} {x : α} (h : l[i]? = some x) : (a :: l)[i + 1]? = some x := by simpa using h

theorem MkAt.drew {tm : TypeId} {w : World} {base bm : Nat} {n s : Int} {ev : Value} {ga : Option Addr} {gc : Nat} {es : List Eg} (h : MkAt tm w base bm n s ev ga gc es) : MkAt tm w.drew base bm n s ev ga gc es := h.grown (Below.refl _ w).drew
end Go.Proofs.Ytngbfjimmdkfeaa

namespace Go.Proofs.Ytngbfjimmdkfeaa
open Go.RowKit Go.Shelf

attribute [local go_sem] Oper.semAt_some

end Go.Proofs.Ytngbfjimmdkfeaa

