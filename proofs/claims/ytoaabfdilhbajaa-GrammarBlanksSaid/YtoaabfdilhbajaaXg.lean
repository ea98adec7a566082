/- Layer 7: reader.begin, reader.add. -/
import Derived.Test.YtoaabfdilhbajaaXf
import Derived.Test.YtoaabfdilhbajaaRange
namespace Go.Proofs.Ytoaabfdilhbajaa
open Go.RowKit Go.Shelf

attribute [local go_sem] Oper.semAt_some

theorem below_dN {B : Nat} {a w : World} (h : Below B a w) (n : Nat) : Below B a (w.drewN n) := ⟨h.os, h.tape, h.output, h.size, h.block⟩
theorem grown_dN (w : World) (n : Nat) : w.grownBy (w.drewN n) none := ⟨rfl, rfl, rfl, Nat.le_refl _, fun _ _ _ => rfl⟩
theorem RdAt.grown {w w' : World} {B rb place rc : Nat} {rs : List RlD} {ra : Option Addr} (h : RdAt w B rb rs place ra rc) (hb : Below w.heap.size w w') : RdAt w' B rb rs place ra rc := by
  have hg := below_grownBy hb none
  have ho : Oth w none := fun g e => by cases e
  refine ⟨h.box.below hb h.box.lt, Nat.le_trans h.bl hb.size, own_kept_ty h.row hg (fun g e => by cases e), h.last.imp id ?_⟩
  rintro ⟨m1, m2, qs, r, h1, h2, h3, h4, h5, h6⟩
  exact ⟨m1, m2, qs, r, h1, h2, Nat.le_trans h3 hg.size, h4, fun q hq => (h5 q hq).oth hg ho, h6.oth hg ho⟩
theorem fz_of {w : World} {g : Nat} {cur : Array Value} {t : TypeId} (h : w.heap[g]? = some (.cells cur t (0, 0))) (j : Nat) : w.frozen? ⟨g, j, none⟩ = false := by
  unfold World.frozen?
  rw [show ((⟨g, j, none⟩ : Addr).block) = g from rfl, h]
  simp

set_option maxRecDepth 100000 in
set_option maxHeartbeats 1000000 in
theorem begin_any (B rb place rc : Nat) (qs : List RlD) (r : RlD) (ra : Option Addr) (w : World) (h : RdAt w B rb (qs ++ [r]) place ra rc) (hn : r.ds.length + 1 ≤ 1099511627780) :
    Calls Try.prog 42 #[.pointer (some ⟨rb, 0, none⟩)] w fun e w' => e = .returned (.tuple #[]) ∧ ∃ a' c', RdAt w' B rb (qs ++ [⟨r.n, r.ds ++ [⟨[], none, 0⟩], a', c'⟩]) place ra rc ∧ Kb B rb w w' := by
  obtain ⟨g0, hra, _, _, _, hc1, hc2⟩ := h.where_
  subst hra
  have x0 := h.box.cell 0
  have xl := h.box.lt
  simp only [List.getElem?_cons_zero, List.length_append, List.length_cons, List.length_nil, Nat.zero_add] at x0
  have H := Lib.hid h
  obtain ⟨K, hK⟩ : ∃ K, Hid (qs.length = K) := ⟨_, Lib.hid rfl⟩
  rw [hK.out] at x0 hc1
  have hK1 : (0 : Int) ≤ (K : Int) := by omega
  have hK2 : (K : Int) < ((K + 1 : Nat) : Int) := by omega
  clear h
  go_enter Try.func42, Try.ntmps42
  go_wp2_with (fail)
  go_quiet (fail)
  have H2 := Lib.hid (H.out.grown (below_dN (Below.refl _ w) nq))
  have hb0 : Kb B rb w (w.drewN nq) := Kb.of_below (below_dN (Below.refl _ w) nq) H.out.bl
  generalize w.drewN nq = V at H2 hb0 ⊢
  obtain ⟨g, e, _, ⟨cur, hk⟩, y1, _⟩ := H2.out.where_
  injection e with e
  injection e with e
  subst e
  obtain ⟨g', a', c', w', e, hrun, ⟨z1, cz, hz⟩, hR, hb1⟩ := H2.out.alt 38 hn
  injection e with e
  injection e with e
  subst e
  have Hrun := Lib.hid hrun
  have HR := Lib.hid hR
  have HB := Lib.hid (hb0.trans hb1)
  have gl := World.block_lt_of_cell? V _ y1
  have gl2 := World.block_lt_of_cell? w' _ z1
  have fz := fz_of hz (qs.length * 2 + 1)
  rw [hK.out] at y1 z1 fz HR HB
  obtain ⟨L, hL⟩ : ∃ L, Hid (r.ds.length = L) := ⟨_, Lib.hid rfl⟩
  rw [hL.out] at Hrun y1 z1 HR HB
  clear hrun hR hb1 hb0 hz hk x0 xl H
  go_wp2_with (at_builtin; refine wpList_append_run rfl _ _ 38 38 rfl _ _ _ _ rfl rfl Hrun.out ?_)
  exact bodyPost_end (v := .tuple #[]) (by simp [results, Try.results42, go_sem]; try rfl) rfl (by first | exact ⟨rfl, a', c', HR.out, HB.out⟩ | exact ⟨rfl, ⟨a', c', HR.out⟩, HB.out⟩)

set_option maxRecDepth 100000 in
set_option maxHeartbeats 1000000 in
theorem add_any (B rb place rc : Nat) (qs : List RlD) (r : RlD) (ds : List AltD) (d : AltD) (hr : r.ds = ds ++ [d]) (nm : ByteArray) (ra : Option Addr) (w : World) (h : RdAt w B rb (qs ++ [r]) place ra rc) (hn : d.l.length + 1 ≤ 1099511627780) :
    Calls Try.prog 43 #[.pointer (some ⟨rb, 0, none⟩), .string nm] w fun e w' => e = .returned (.tuple #[]) ∧ ∃ a' c', RdAt w' B rb (qs ++ [⟨r.n, ds ++ [⟨d.l ++ [nm], a', c'⟩], r.a, r.c⟩]) place ra rc ∧ Kb B rb w w' := by
  obtain ⟨g0, hra, _, _, y0, hc1, hc2⟩ := h.where_
  subst hra
  obtain ⟨ag0, hag, _, z0, hd1, hd2⟩ := h.whereA hr
  have x0 := h.box.cell 0
  have xl := h.box.lt
  simp only [List.getElem?_cons_zero, List.length_append, List.length_cons, List.length_nil, Nat.zero_add] at x0
  have H := Lib.hid h
  obtain ⟨K, hK⟩ : ∃ K, Hid (qs.length = K) := ⟨_, Lib.hid rfl⟩
  obtain ⟨M, hM⟩ : ∃ K, Hid (ds.length = K) := ⟨_, Lib.hid rfl⟩
  rw [hK.out] at x0 hc1 y0
  rw [hM.out] at z0 hd1
  rw [hag, hr] at y0
  simp only [List.length_append, List.length_cons, List.length_nil, Nat.zero_add] at y0
  rw [hM.out] at y0
  have yl := World.block_lt_of_cell? w _ y0
  have hK1 : (0 : Int) ≤ (K : Int) := by omega
  have hK2 : (K : Int) < ((K + 1 : Nat) : Int) := by omega
  have hM1 : (0 : Int) ≤ (M : Int) := by omega
  have hM2 : (M : Int) < ((M + 1 : Nat) : Int) := by omega
  have Hag := Lib.hid hag
  clear h hag
  go_enter Try.func43, Try.ntmps43
  go_wp2_with (fail)
  go_quiet (fail)
  have H2 := Lib.hid (H.out.grown (below_dN (Below.refl _ w) nq))
  have hb0 : Kb B rb w (w.drewN nq) := Kb.of_below (below_dN (Below.refl _ w) nq) H.out.bl
  generalize w.drewN nq = V at H2 hb0 ⊢
  obtain ⟨ag, a', c', w', e, hrun, ⟨z1, cz, hz⟩, hR, hb1⟩ := H2.out.name hr nm 37 hn
  rw [Hag.out] at e
  injection e with e
  injection e with e
  subst e
  obtain ⟨ag1, e1, _, zz, _⟩ := H2.out.whereA hr
  rw [Hag.out] at e1
  injection e1 with e1
  injection e1 with e1
  subst e1
  have Hrun := Lib.hid hrun
  have HR := Lib.hid hR
  have HB := Lib.hid (hb0.trans hb1)
  have gl := World.block_lt_of_cell? V _ zz
  have gl2 := World.block_lt_of_cell? w' _ z1
  have fz := fz_of hz ds.length
  rw [hM.out] at zz z1 fz HR HB
  obtain ⟨L, hL⟩ : ∃ L, Hid (d.l.length = L) := ⟨_, Lib.hid rfl⟩
  rw [hL.out] at Hrun zz z1 HR HB
  clear hrun hR hb1 hb0 hz x0 xl H y0 yl z0
  go_wp2_with (at_builtin; refine wpList_append_run rfl _ _ 37 37 rfl _ _ _ _ rfl rfl Hrun.out ?_)
  exact bodyPost_end (v := .tuple #[]) (by simp [results, Try.results43, go_sem]; try rfl) rfl (by first | exact ⟨rfl, a', c', HR.out, HB.out⟩ | exact ⟨rfl, ⟨a', c', HR.out⟩, HB.out⟩)
end Go.Proofs.Ytoaabfdilhbajaa
