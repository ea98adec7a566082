/- Texts of layer 2 joined: Mm Mb Me Mg Ms. -/
import Derived.Test.YtkdfobnkebkpfaaJC
import Derived.Test.YtkdfobnkebkpfaaJA
import Derived.Deep.RegionLaw
import Derived.BigRegion
import Derived.Outline
set_option linter.unusedVariables false
set_option linter.unusedSimpArgs false
/- The matcher in memory; meet. -/
namespace Go.Proofs.Ytkdfobnkebkpfaa
open Go.RowKit

attribute [local go_sem] Oper.semAt_some

/-- A node. -/
structure Nod where
  k : Int
  f : Nat → BitVec 64
  up : Int
  next : Int
/-- What the matcher holds beside its nodes. -/
structure MS where
  now : Nat
  met : List Nat
  opn : List Nat
  sets : List Nat
abbrev iv (n : Nat) : Value := .int .i64 (n : Int)
/-- A state is met. -/
def meetP (st : Nat) (m : MS) : MS := if m.met.getD st 0 < m.now then { m with met := m.met.set st m.now, opn := m.opn ++ [st] } else m

theorem info_int : (Try.prog.info? 3).map (fun i => (i.zero, i.size, i.bytes)) = some (some (.int .i64 0), 1, 8) := by kernel_rfl
/-- An own row of numbers. -/
def OwnI (w : World) (base : Nat) (a : Option Addr) (n cap : Nat) (l : List Nat) : Prop := w.ownsRow base 3 1 (.slice a n cap) n (l.map iv)
theorem OwnI.len {w : World} {base n cap : Nat} {a : Option Addr} {l : List Nat} (h : OwnI w base a n cap l) : n = l.length := by have := h.1; simpa using this.symm

/-- A number is put onto an own row of numbers. -/
theorem run_pushI (w : World) (ty : TypeId) {base n cap : Nat} {a : Option Addr} {l : List Nat} (x : Nat) (v : Value) (hv : v = iv x) (hown : OwnI w base a n cap l) (hn : n + 1 ≤ 1099511627780) (hbase : base ≤ w.heap.size) :
    ∃ a' cap' w', (Builtin.append_ #[71, 71] ty #[.slice a n cap, .slice (some ⟨w.heap.size, 0, none⟩) 1 1]).run Try.prog (w.alloc (.cells #[v] 3)) = .ok (.slice a' (n + 1) cap') w' ∧
      OwnI w' base a' (n + 1) cap' (l ++ [x]) ∧ w.grownBy w' (Value.slice a n cap).ownBlock ∧ New w.heap.size a a' := by
  subst hv
  obtain ⟨i0, hi, hz0, hz1, hz2⟩ := info_parts info_int
  have hnew : ∀ j u, [iv x][j]? = some u → (w.alloc (.cells #[iv x] 3)).cell? ((⟨w.heap.size, 0, none⟩ : Addr).add j) = some u := new_cell w (iv x) 3
  have hown2 : (w.alloc (.cells #[iv x] 3)).ownsRow base 3 1 (.slice a n cap) n (l.map iv) := hown.alloc _
  obtain ⟨y, w', hrun, ho, hg, _⟩ := run_append_own (P := Try.prog) (w.alloc (.cells #[iv x] 3)) base 71 ty 3 i0 (.int .i64 0) 1 8 Try.underlying71 hi hz0 hz1 hz2 rfl (by decide) _ n _ hown2 ⟨w.heap.size, 0, none⟩ 1 1 [iv x] rfl hnew (by simp [Value.oneCell']) (by unfold maxLen; omega) (by omega) (by simp; omega)
  obtain ⟨a', cap', rfl⟩ := slice_of_own ho
  refine ⟨a', cap', w', hrun, by simpa [OwnI] using ho, grownBy_trans (World.grownBy_alloc w _ _) hg (fun i e => .inl e), ?_⟩
  rcases hown2.2 with ⟨e1, e0⟩ | ⟨g, cap2, cur, e1, hbg, hg2, hnc, hcm, hcs, htake⟩
  · cases e1
    have hr := run_append_nil (P := Try.prog) (w.alloc (.cells #[iv x] 3)) 71 ty 3 i0 _ Try.underlying71 hi hz0 ⟨w.heap.size, 0, none⟩ 1 1 [iv x] (by rw [hz1]; rfl) hnew (by omega) (by omega) (by rw [hz2]; omega)
    rw [hr] at hrun
    simp only [Result.ok.injEq, Value.slice.injEq] at hrun
    exact .inr ⟨_, hrun.1.1.symm, by simp⟩
  · simp only [Value.slice.injEq, true_and] at e1
    obtain ⟨rfl, rfl⟩ := e1
    by_cases hroom : n + 1 ≤ cap
    · obtain ⟨w2, hr, _, _⟩ := run_append_fits (P := Try.prog) (w.alloc (.cells #[iv x] 3)) base 71 ty 3 i0 1 Try.underlying71 hi hz1 g n cap _ hown2 ⟨w.heap.size, 0, none⟩ 1 1 [iv x] rfl hnew (by simp [Value.oneCell']) hroom
      rw [hr] at hrun
      simp only [Result.ok.injEq, Value.slice.injEq] at hrun
      exact .inl hrun.1.1.symm
    · have holds : ∀ j u, (l.map iv)[j]? = some u → (w.alloc (.cells #[iv x] 3)).cell? ((⟨g, 0, none⟩ : Addr).add j) = some u := hown2.cells (g := g) rfl
      have hr := run_append_grow (P := Try.prog) (w.alloc (.cells #[iv x] 3)) 71 ty 3 i0 _ Try.underlying71 hi hz0 ⟨g, 0, none⟩ n cap (l.map iv) (by rw [hown2.1, hz1]) holds ⟨w.heap.size, 0, none⟩ 1 1 [iv x] (by rw [hz1]; rfl) hnew (by omega) (by omega) (growslice_fits (by omega) (by rw [hz2]; omega))
      rw [hr] at hrun
      simp only [Result.ok.injEq, Value.slice.injEq] at hrun
      exact .inr ⟨_, hrun.1.1.symm, by simp⟩

/-- How many states were not met in this round. -/
def unmet (m : MS) : Nat := m.met.countP (fun v => decide (v < m.now))
theorem unmet_meet {m : MS} {st : Nat} (hst : st < m.met.length) (h : m.met.getD st 0 < m.now) : unmet (meetP st m) + 1 = unmet m := by
  unfold meetP
  rw [if_pos h]
  unfold unmet
  have hg : m.met.getD st 0 = m.met[st] := by rw [List.getD_eq_getElem?_getD, List.getElem?_eq_getElem hst]; rfl
  rw [hg] at h
  have := List.countP_set (p := fun v => decide (v < m.now)) (l := m.met) (i := st) (a := m.now) hst
  have hpos : 0 < m.met.countP (fun v => decide (v < m.now)) := List.countP_pos_iff.2 ⟨m.met[st], List.getElem_mem _, by simpa using h⟩
  simp only [decide_eq_true h, if_true, Nat.lt_irrefl, decide_false, Bool.false_eq_true, if_false] at this
  simp only
  omega
theorem meetP_sets (st : Nat) (m : MS) : (meetP st m).sets = m.sets := by unfold meetP; split <;> rfl
theorem meetP_now (st : Nat) (m : MS) : (meetP st m).now = m.now := by unfold meetP; split <;> rfl
theorem meetP_len (st : Nat) (m : MS) : (meetP st m).met.length = m.met.length := by unfold meetP; split <;> simp
theorem meetP_sum (st : Nat) (m : MS) (hst : st < m.met.length) : (meetP st m).opn.length + unmet (meetP st m) = m.opn.length + unmet m := by
  by_cases h : m.met.getD st 0 < m.now
  · have := unmet_meet hst h
    have e : (meetP st m).opn = m.opn ++ [st] := by unfold meetP; rw [if_pos h]
    rw [e]; simp; omega
  · unfold meetP; rw [if_neg h]

/-- Node i stands in these cells. -/
def NodAt (w : World) (b off : Nat) (x : Nod) : Prop :=
  w.cell? ⟨b, off, none⟩ = some (.int .i64 x.k) ∧ Wds w b (off + 1) x.f ∧ w.cell? ⟨b, off + 5, none⟩ = some (.int .i64 x.up) ∧ w.cell? ⟨b, off + 6, none⟩ = some (.int .i64 x.next)
/-- Where the matcher's parts lie. -/
structure Loc where
  nb : Nat
  no : Nat
  nc : Nat
  m2 : Nat
  oa : Option Addr
  oc : Nat
  sa : Option Addr
  sc : Nat
def obk : Option Addr → Option Nat
  | some a => some a.block
  | none => none
theorem ownBlock_obk (a : Option Addr) (n c : Nat) : (Value.slice a n c).ownBlock = obk a := by cases a <;> rfl
/-- The matcher stands in block mb, all that it writes at or beyond B. -/
structure Mch (B : Nat) (W : World) (mb : Nat) (ns : List Nod) (L : Loc) (m : MS) : Prop where
  box : Blk W mb 73 [.slice (some ⟨L.nb, L.no, none⟩) ns.length L.nc, iv m.now, .slice (some ⟨L.m2, 0, none⟩) (2 * ns.length) (2 * ns.length), .slice L.oa m.opn.length L.oc, .slice L.sa m.sets.length L.sc]
  met : Blk W L.m2 3 (m.met.map iv)
  opn : OwnI W B L.oa m.opn.length L.oc m.opn
  sets : OwnI W B L.sa m.sets.length L.sc m.sets
  nodes : ∀ i x, ns[i]? = some x → NodAt W L.nb (L.no + i * 7) x
  ncap : ns.length ≤ L.nc ∧ L.nc ≤ 9223372036854775807
  len : m.met.length = 2 * ns.length
  hb : B ≤ mb ∧ B ≤ L.m2
  nbne : L.nb ≠ mb ∧ L.nb ≠ L.m2 ∧ mb ≠ L.m2
  one : obk L.oa ≠ some mb ∧ obk L.oa ≠ some L.m2 ∧ obk L.oa ≠ some L.nb
  sne : obk L.sa ≠ some mb ∧ obk L.sa ≠ some L.m2 ∧ obk L.sa ≠ some L.nb
  apart : obk L.oa = none ∨ obk L.oa ≠ obk L.sa
  small : ns.length ≤ 274877906944
  obd : m.opn.length + unmet m ≤ 2 * ns.length
  sbd : m.sets.length ≤ 2 * ns.length
  nowb : m.now ≤ 4611686018427387904
theorem NodAt.kept {w w' : World} {b off : Nat} {x : Nod} (h : NodAt w b off x) (hb : w'.heap[b]? = w.heap[b]?) : NodAt w' b off x := by
  have hc : ∀ o, w'.cell? ⟨b, o, none⟩ = w.cell? ⟨b, o, none⟩ := fun o => by simp only [World.cell?]; rw [hb]
  exact ⟨(hc _).trans h.1, fun i hi => (hc _).trans (h.2.1 i hi), (hc _).trans h.2.2.1, (hc _).trans h.2.2.2⟩

theorem Mch.drewN {B : Nat} {W : World} {mb : Nat} {ns : List Nod} {L : Loc} {m : MS} (h : Mch B W mb ns L m) (k : Nat) : Mch B (W.drewN k) mb ns L m :=
  ⟨h.box, h.met, h.opn, h.sets, fun i x e => (h.nodes i x e).kept rfl, h.ncap, h.len, h.hb, h.nbne, h.one, h.sne, h.apart, h.small, h.obd, h.sbd, h.nowb⟩

theorem Mch.drew {B : Nat} {W : World} {mb : Nat} {ns : List Nod} {L : Loc} {m : MS} (h : Mch B W mb ns L m) : Mch B W.drew mb ns L m :=
  ⟨h.box, h.met, h.opn, h.sets, fun i x e => (h.nodes i x e).kept rfl, h.ncap, h.len, h.hb, h.nbne, h.one, h.sne, h.apart, h.small, h.obd, h.sbd, h.nowb⟩
theorem OwnI.kept {w w' : World} {base n cap : Nat} {a : Option Addr} {l : List Nat} {row : Option Nat} (h : OwnI w base a n cap l) (hg : w.grownBy w' row) (hne : obk a = none ∨ obk a ≠ row) : OwnI w' base a n cap l :=
  World.ownsRow.kept h hg (by rw [ownBlock_obk]; exact hne)
theorem OwnI.row {w : World} {base n cap : Nat} {a : Option Addr} {l : List Nat} (h : OwnI w base a n cap l) : ∀ g, obk a = some g → base ≤ g ∧ g < w.heap.size := by
  intro g e
  rcases h.2 with ⟨e1, _⟩ | ⟨k, c, cur, e1, hb, hg, _⟩
  · injection e1 with e1 _ _; rw [e1] at e; cases e
  · injection e1 with e1 _ _; rw [e1] at e; cases e; exact ⟨hb, (Array.getElem?_eq_some_iff.1 hg).1⟩
theorem ne_obk {a : Option Addr} {b : Nat} (h : obk a ≠ some b) : obk a = none ∨ obk a ≠ some b := .inr h

/-- A state is written down as met. -/
theorem Mch.setMet {B : Nat} {W : World} {mb : Nat} {ns : List Nod} {L : Loc} {m : MS} {st : Nat} (h : Mch B W mb ns L m) (hst : st < m.met.length) (hlt : m.met.getD st 0 < m.now) :
    Mch B (W.setCell ⟨L.m2, st, none⟩ (iv m.now)) mb ns L { m with met := m.met.set st m.now } := by
  have hg := grownBy_set W L.m2 st (iv m.now)
  have hu := unmet_meet hst hlt
  have e : meetP st m = { m with met := m.met.set st m.now, opn := m.opn ++ [st] } := by unfold meetP; rw [if_pos hlt]
  rw [e] at hu
  refine ⟨Blk.setOther h.box h.nbne.2.2 _, ?_, h.opn.kept hg (ne_obk h.one.2.1), h.sets.kept hg (ne_obk h.sne.2.1), fun i x hx => (h.nodes i x hx).kept (Below.heap_setCell _ _ _ _ (by simpa using h.nbne.2.1)), h.ncap, by simpa using h.len, h.hb, h.nbne, h.one, h.sne, h.apart, h.small, ?_, h.sbd, h.nowb⟩
  · have := Blk.set h.met st (iv m.now)
    rw [← List.map_set] at this
    exact this
  · have := h.obd
    show m.opn.length + unmet { m with met := m.met.set st m.now } ≤ _
    have hu2 : unmet { m with met := m.met.set st m.now } + 1 = unmet m := hu
    omega

/-- A state is put onto those that are open. -/
theorem Mch.push {B : Nat} {W : World} {mb : Nat} {ns : List Nod} {L : Loc} {m : MS} (st : Nat) (h : Mch B W mb ns L m) (hB : B ≤ W.heap.size) (ho : m.opn.length + 1 + unmet m ≤ 2 * ns.length) (ty : TypeId) :
    ∃ a' c' w', (Builtin.append_ #[71, 71] ty #[.slice L.oa m.opn.length L.oc, .slice (some ⟨W.heap.size, 0, none⟩) 1 1]).run Try.prog (W.alloc (.cells #[iv st] 3)) = .ok (.slice a' (m.opn.length + 1) c') w' ∧
      (w'.cell? ⟨mb, 3, none⟩ = some (.slice L.oa m.opn.length L.oc) ∧ w'.frozen? ⟨mb, 3, none⟩ = false ∧ mb < w'.heap.size) ∧
      Mch B (w'.setCell ⟨mb, 3, none⟩ (.slice a' (m.opn.length + 1) c')) mb ns { L with oa := a', oc := c' } { m with opn := m.opn ++ [st] } ∧ Below B W (w'.setCell ⟨mb, 3, none⟩ (.slice a' (m.opn.length + 1) c')) := by
  have hsm := h.small
  obtain ⟨a', c', w', hrun, hown, hg, hnew⟩ := run_pushI W ty st (iv st) rfl h.opn (by omega) hB
  rw [ownBlock_obk] at hg
  have hne : ∀ b, b < W.heap.size → obk L.oa ≠ some b → obk a' ≠ some b := by
    intro b hb hne e
    rcases hnew with rfl | ⟨g, rfl, hge⟩
    · exact hne e
    · simp only [obk, Option.some.injEq] at e; omega
  have hbx := Blk.kept h.box hg (fun e => h.one.1 e.symm)
  have hmt := Blk.kept h.met hg (fun e => h.one.2.1 e.symm)
  have hse := h.sets.kept hg (by
    cases hs : obk L.sa with
    | none => exact .inl rfl
    | some b =>
      refine .inr fun e => ?_
      rcases h.apart with e1 | e1
      · rw [e1] at e; cases e
      · exact e1 (by rw [hs]; exact e.symm))
  have hlb := h.box.lt
  have hlm := h.met.lt
  have hnb : ∀ i x, ns[i]? = some x → NodAt w' L.nb (L.no + i * 7) x := fun i x hx => (h.nodes i x hx).kept (hg.block L.nb (World.block_lt_of_cell? W _ (h.nodes i x hx).1) (fun e => h.one.2.2 e.symm))
  have hg2 := grownBy_set w' mb 3 (.slice a' (m.opn.length + 1) c')
  have hbB : Below B W w' := (Below.refl B W).grown hg hB (fun k e => (h.opn.row k e).1)
  refine ⟨a', c', w', hrun, ⟨hbx.cell 3, hbx.frozen 3, hbx.lt⟩, ⟨?_, Blk.setOther hmt (fun e => h.nbne.2.2 e.symm) _, ?_, hse.kept hg2 (ne_obk h.sne.1), fun i x hx => (hnb i x hx).kept (Below.heap_setCell _ _ _ _ (by simpa using h.nbne.1)), h.ncap, h.len, h.hb, h.nbne, ?_, h.sne, ?_, h.small, by simp only [List.length_append, List.length_singleton]; exact ho, h.sbd, h.nowb⟩, hbB.setCell (p := ⟨mb, 3, none⟩) h.hb.1 _⟩
  · have := Blk.set hbx 3 (.slice a' (m.opn.length + 1) c')
    simpa using this
  · have := OwnI.kept hown hg2 (ne_obk (hne mb hlb h.one.1))
    simpa using this
  · refine ⟨hne mb hlb h.one.1, hne L.m2 hlm h.one.2.1, ?_⟩
    intro e
    rcases hnew with rfl | ⟨g, rfl, hge⟩
    · exact h.one.2.2 e
    · cases hns : ns with
      | nil => rw [hns] at ho; simp at ho
      | cons y r =>
        have : L.nb < W.heap.size := World.block_lt_of_cell? W _ (h.nodes 0 y (by rw [hns]; rfl)).1
        simp only [obk, Option.some.injEq] at e
        omega
  · rcases hnew with rfl | ⟨g, rfl, hge⟩
    · exact h.apart
    · right
      intro e
      cases hs : obk L.sa with
      | none => rw [hs] at e; cases e
      | some b =>
        have := (h.sets.row b hs).2
        rw [hs] at e
        simp only [obk, Option.some.injEq] at e
        omega

/-- What meeting states comes to. -/
def MetR (B : Nat) (W : World) (mb : Nat) (ns : List Nod) (L : Loc) (m' : MS) (w' : World) : Prop := ∃ a' c', Mch B w' mb ns { L with oa := a', oc := c' } m' ∧ Below B W w'

set_option maxRecDepth 100000 in
set_option maxHeartbeats 1000000 in
theorem meet_any (B : Nat) (W : World) (mb : Nat) (ns : List Nod) (L : Loc) (m : MS) (st : Nat) (hM : Mch B W mb ns L m) (hst : st < 2 * ns.length) (hB : B ≤ W.heap.size) :
    Calls Try.prog 66 #[.pointer (some ⟨mb, 0, none⟩), .int .i64 (st : Int)] W fun e w' => e = .returned (.tuple #[]) ∧ MetR B W mb ns L (meetP st m) w' := by
  have hsm := hM.small
  have hx0 := hM.box.cell 1
  have hx1 := hM.box.cell 2
  have hx2 := hM.box.cell 3
  simp only [List.getElem?_cons_zero, List.getElem?_cons_succ] at hx0 hx1 hx2
  have hbl := hM.box.lt
  have hml := hM.met.lt
  have hstm : st < m.met.length := by rw [hM.len]; exact hst
  obtain ⟨v, hv⟩ : ∃ v, Hid (m.met[st] = v) := ⟨_, Lib.hid rfl⟩
  have hgd : Hid (m.met.getD st 0 = v) := Lib.hid (by rw [List.getD_eq_getElem?_getD, List.getElem?_eq_getElem hstm, ← hv.out]; rfl)
  have hy := hM.met.cell st
  rw [List.getElem?_map, List.getElem?_eq_getElem hstm, hv.out] at hy
  simp only [Option.map_some] at hy
  obtain ⟨N, hN⟩ : ∃ N, Hid (ns.length = N) := ⟨_, Lib.hid rfl⟩
  have hi : (st : Int) < 2 * (N : Int) := by rw [← hN.out]; omega
  rw [hN.out] at hx1
  have HM := Lib.hid hM
  by_cases hlt : v < m.now
  · have hIlt : (v : Int) < (m.now : Int) := by omega
    have hP : Hid (meetP st m = { m with met := m.met.set st m.now, opn := m.opn ++ [st] }) := Lib.hid (by unfold meetP; rw [if_pos (by rw [hgd.out]; exact hlt)])
    have hfz := hM.met.frozen st
    clear hM hlt
    go_enter Try.func66, Try.ntmps66
    go_wp2_with (fail)
    go_quiet (fail)
    go_wp2_with (fail)
    have hM1 := HM.out.drewN nq
    have hb1 : Below B W (W.drewN nq) := below_drewN (Below.refl B W) nq
    have HM1 := Lib.hid hM1
    clear hM1 HM hx0 hx1 hx2 hbl hml hy hfz
    generalize W.drewN nq = V at HM1 hb1 ⊢
    have hx0 := HM1.out.box.cell 1
    have hx1 := HM1.out.box.cell 2
    have hx2 := HM1.out.box.cell 3
    simp only [List.getElem?_cons_zero, List.getElem?_cons_succ] at hx0 hx1 hx2
    rw [hN.out] at hx1
    have hy := HM1.out.met.cell st
    rw [List.getElem?_map, List.getElem?_eq_getElem hstm, hv.out] at hy
    simp only [Option.map_some] at hy
    have hfz := HM1.out.met.frozen st
    have hbl := HM1.out.box.lt
    have hml := HM1.out.met.lt
    go_region
    have hM2 := (HM1.out.setMet hstm (by rw [hgd.out]; omega)).drew
    have hb2 : Below B W (V.setCell ⟨L.m2, st, none⟩ (iv m.now)).drew := ⟨(hb1.setCell (p := ⟨L.m2, st, none⟩) HM1.out.hb.2 (iv m.now)).os, (hb1.setCell (p := ⟨L.m2, st, none⟩) HM1.out.hb.2 (iv m.now)).tape, (hb1.setCell (p := ⟨L.m2, st, none⟩) HM1.out.hb.2 (iv m.now)).output, (hb1.setCell (p := ⟨L.m2, st, none⟩) HM1.out.hb.2 (iv m.now)).size, (hb1.setCell (p := ⟨L.m2, st, none⟩) HM1.out.hb.2 (iv m.now)).block⟩
    have hobd : m.opn.length + 1 + unmet { m with met := m.met.set st m.now } ≤ 2 * ns.length := by
      have := HM1.out.obd
      have hu := unmet_meet hstm (show m.met.getD st 0 < m.now by rw [hgd.out]; omega)
      rw [hP.out] at hu
      have hu2 : unmet { m with met := m.met.set st m.now } + 1 = unmet m := hu
      omega
    clear hx0 hx1 hx2 hbl hml hy hfz HM1
    generalize (V.setCell ⟨L.m2, st, none⟩ (iv m.now)).drew = U at hM2 hb2 ⊢
    obtain ⟨a6, c6, w6, hrun, ⟨hc6, hf6, hl6⟩, hM6, hb6⟩ := hM2.push st (Nat.le_trans (by omega) hb2.size) hobd 71
    have hx2 := hM2.box.cell 3
    simp only [List.getElem?_cons_zero, List.getElem?_cons_succ] at hx2
    have hbl := hM2.box.lt
    have Hr := Lib.hid hrun
    clear hrun
    go_wp2_with (at_builtin; refine wpList_append_run rfl _ _ 71 71 rfl _ _ _ _ rfl rfl Hr.out ?_)
    go_end0
    exact ⟨rfl, a6, c6, by rw [hP.out]; exact hM6, hb2.trans hb6⟩
  · have hIlt : decide (v < m.now) = false := by simp; omega
    have hP : Hid (meetP st m = m) := Lib.hid (by unfold meetP; rw [if_neg (by rw [hgd.out]; exact hlt)])
    clear hM hlt
    go_enter Try.func66, Try.ntmps66
    go_wp2_with (fail)
    go_quiet (fail)
    go_wp2_with (fail)
    go_end0
    exact ⟨rfl, L.oa, L.oc, by rw [hP.out]; exact HM.out.drewN nq, below_drewN (Below.refl B W) nq⟩
end Go.Proofs.Ytkdfobnkebkpfaa

/- The matcher: begin, end. -/
namespace Go.Proofs.Ytkdfobnkebkpfaa
open Go.RowKit

attribute [local go_sem] Oper.semAt_some

theorem ret_i64 {a b : Int} (h : a = b) : Ending.returned (.int .i64 a) = .returned (.int .i64 b) := by rw [h]
set_option maxRecDepth 100000 in
theorem beginOf_any (w : World) (i : Nat) (hi : i ≤ 274877906944) : Calls Try.prog 67 #[.int .i64 (i : Int)] w fun e w' => e = .returned (.int .i64 ((2 * i : Nat) : Int)) ∧ w' = w := by
  have h0 : (0 : Int) ≤ (i : Int) := by omega
  have h1 : (i : Int) ≤ 274877906944 := by omega
  go_enter Try.func67, Try.ntmps67
  go_wp2
  go_ret
  exact ⟨ret_i64 (by push_cast; rfl), rfl⟩
set_option maxRecDepth 100000 in
theorem endOf_any (w : World) (i : Nat) (hi : i ≤ 274877906944) : Calls Try.prog 48 #[.int .i64 (i : Int)] w fun e w' => e = .returned (.int .i64 ((2 * i + 1 : Nat) : Int)) ∧ w' = w := by
  have h0 : (0 : Int) ≤ (i : Int) := by omega
  have h1 : (i : Int) ≤ 274877906944 := by omega
  go_enter Try.func48, Try.ntmps48
  go_wp2
  go_ret
  exact ⟨ret_i64 (by push_cast; rfl), rfl⟩

theorem beginOf_I (w : World) (i : Nat) (v : Int) (hv : v = (i : Int)) (hi : i ≤ 274877906944) : Calls Try.prog 67 #[.int .i64 v] w fun e w' => e = .returned (.int .i64 ((2 * i : Nat) : Int)) ∧ w' = w := by
  subst hv; exact beginOf_any w i hi
theorem endOf_I (w : World) (i : Nat) (v : Int) (hv : v = (i : Int)) (hi : i ≤ 274877906944) : Calls Try.prog 48 #[.int .i64 v] w fun e w' => e = .returned (.int .i64 ((2 * i + 1 : Nat) : Int)) ∧ w' = w := by
  subst hv; exact endOf_any w i hi

/-- What nodes of an expression that may be are like. -/
def NodWf (ns : List Nod) : Prop := ∀ i x, ns[i]? = some x → ((x.k = 1 ∨ x.k = 2) ∨ i + 1 < ns.length) ∧ (x.next = -1 ∨ ∃ j : Nat, x.next = (j : Int) ∧ i < j ∧ j < ns.length) ∧ (x.up = -1 ∨ ∃ j : Nat, x.up = (j : Int) ∧ j < ns.length)
def nod0 : Nod := ⟨0, fun _ => 0, -1, -1⟩
/-- The beginnings of the parts from k on are met. -/
def altM (ns : List Nod) : Nat → Int → MS → MS
  | 0, _, m => m
  | F + 1, k, m => if k = -1 then m else altM ns F (ns.getD k.toNat nod0).next (meetP (2 * k.toNat) m)
def beginM (ns : List Nod) (i : Nat) (m : MS) : MS :=
  let k := (ns.getD i nod0).k
  if k = 1 then meetP (2 * i + 1) m
  else if k = 2 then { m with sets := m.sets ++ [i] }
  else if k = 4 then altM ns ns.length ((i : Int) + 1) m
  else if k = 5 ∨ k = 7 then meetP (2 * i + 1) (meetP (2 * (i + 1)) m)
  else meetP (2 * (i + 1)) m
def endM (ns : List Nod) (i : Nat) (m : MS) : MS :=
  let x := ns.getD i nod0
  if x.up = -1 then m else
  let k := (ns.getD x.up.toNat nod0).k
  if k = 5 ∨ k = 6 then meetP (2 * x.up.toNat + 1) (meetP (2 * i) m)
  else if k = 3 then (if x.next = -1 then meetP (2 * x.up.toNat + 1) m else meetP (2 * x.next.toNat) m)
  else meetP (2 * x.up.toNat + 1) m

/-- What a call of begin, end, goOn comes to. -/
def GoR (B : Nat) (W : World) (mb : Nat) (ns : List Nod) (m' : MS) (w' : World) : Prop := ∃ L', Mch B w' mb ns L' m' ∧ Below B W w'
theorem MetR.go {B : Nat} {W w' : World} {mb : Nat} {ns : List Nod} {L : Loc} {m' : MS} (h : MetR B W mb ns L m' w') : GoR B W mb ns m' w' := by
  obtain ⟨a, c, h1, h2⟩ := h
  exact ⟨_, h1, h2⟩
theorem GoR.trans {B : Nat} {W w' w'' : World} {mb : Nat} {ns : List Nod} {m' m'' : MS} (h : GoR B W mb ns m' w') (k : GoR B w' mb ns m'' w'') : GoR B W mb ns m'' w'' := by
  obtain ⟨_, _, h2⟩ := h
  obtain ⟨L, h3, h4⟩ := k
  exact ⟨L, h3, h2.trans h4⟩

/-- A node is put onto those whose byte is waited for. -/
theorem Mch.pushSet {B : Nat} {W : World} {mb : Nat} {ns : List Nod} {L : Loc} {m : MS} (i : Nat) (h : Mch B W mb ns L m) (hB : B ≤ W.heap.size) (hs1 : m.sets.length + 1 ≤ 2 * ns.length) (ty : TypeId) :
    ∃ a' c' w', (Builtin.append_ #[71, 71] ty #[.slice L.sa m.sets.length L.sc, .slice (some ⟨W.heap.size, 0, none⟩) 1 1]).run Try.prog (W.alloc (.cells #[iv i] 3)) = .ok (.slice a' (m.sets.length + 1) c') w' ∧
      (w'.cell? ⟨mb, 4, none⟩ = some (.slice L.sa m.sets.length L.sc) ∧ w'.frozen? ⟨mb, 4, none⟩ = false ∧ mb < w'.heap.size) ∧
      GoR B W mb ns { m with sets := m.sets ++ [i] } (w'.setCell ⟨mb, 4, none⟩ (.slice a' (m.sets.length + 1) c')) := by
  have hsm := h.small
  obtain ⟨a', c', w', hrun, hown, hg, hnew⟩ := run_pushI W ty i (iv i) rfl h.sets (by omega) hB
  rw [ownBlock_obk] at hg
  have hne : ∀ b, b < W.heap.size → obk L.sa ≠ some b → obk a' ≠ some b := by
    intro b hb hne e
    rcases hnew with rfl | ⟨g, rfl, hge⟩
    · exact hne e
    · simp only [obk, Option.some.injEq] at e; omega
  have hbx := Blk.kept h.box hg (fun e => h.sne.1 e.symm)
  have hmt := Blk.kept h.met hg (fun e => h.sne.2.1 e.symm)
  have hse := h.opn.kept hg h.apart
  have hlb := h.box.lt
  have hlm := h.met.lt
  have hnb : ∀ i x, ns[i]? = some x → NodAt w' L.nb (L.no + i * 7) x := fun i x hx => (h.nodes i x hx).kept (hg.block L.nb (World.block_lt_of_cell? W _ (h.nodes i x hx).1) (fun e => h.sne.2.2 e.symm))
  have hg2 := grownBy_set w' mb 4 (.slice a' (m.sets.length + 1) c')
  have hbB : Below B W w' := (Below.refl B W).grown hg hB (fun k e => (h.sets.row k e).1)
  refine ⟨a', c', w', hrun, ⟨hbx.cell 4, hbx.frozen 4, hbx.lt⟩, { L with sa := a', sc := c' }, ⟨?_, Blk.setOther hmt (fun e => h.nbne.2.2 e.symm) _, hse.kept hg2 (ne_obk h.one.1), ?_, fun i x hx => (hnb i x hx).kept (Below.heap_setCell _ _ _ _ (by simpa using h.nbne.1)), h.ncap, h.len, h.hb, h.nbne, h.one, ?_, ?_, h.small, h.obd, by simp only [List.length_append, List.length_singleton]; exact hs1, h.nowb⟩, hbB.setCell (p := ⟨mb, 4, none⟩) h.hb.1 _⟩
  · have := Blk.set hbx 4 (.slice a' (m.sets.length + 1) c')
    simpa using this
  · have := OwnI.kept hown hg2 (ne_obk (hne mb hlb h.sne.1))
    simpa using this
  · refine ⟨hne mb hlb h.sne.1, hne L.m2 hlm h.sne.2.1, ?_⟩
    intro e
    rcases hnew with rfl | ⟨g, rfl, hge⟩
    · exact h.sne.2.2 e
    · cases hns : ns with
      | nil => rw [hns] at hs1; simp at hs1
      | cons y r =>
        have : L.nb < W.heap.size := World.block_lt_of_cell? W _ (h.nodes 0 y (by rw [hns]; rfl)).1
        simp only [obk, Option.some.injEq] at e
        omega
  · by_cases ho : obk L.oa = none
    · exact .inl ho
    · refine .inr fun e => ?_
      obtain ⟨b, hob⟩ := Option.ne_none_iff_exists'.1 ho
      have hb := (h.opn.row b hob).2
      refine hne b hb (fun e2 => ?_) (e.symm.trans hob)
      rcases h.apart with e3 | e3
      · exact ho e3
      · exact e3 (hob.trans e2.symm)

theorem meet_I (B : Nat) (W : World) (mb : Nat) (ns : List Nod) (L : Loc) (m : MS) (st : Nat) (sv : Int) (hsv : sv = (st : Int)) (hM : Mch B W mb ns L m) (hst : st < 2 * ns.length) (hB : B ≤ W.heap.size) :
    Calls Try.prog 66 #[.pointer (some ⟨mb, 0, none⟩), .int .i64 sv] W fun e w' => e = .returned (.tuple #[]) ∧ MetR B W mb ns L (meetP st m) w' := by
  subst hsv; exact meet_any B W mb ns L m st hM hst hB

/-- Between two rounds of an Alt's loop. -/
def AltL (B : Nat) (W : World) (mb : Nat) (ns : List Nod) (i : Nat) (X : MS) (kv : Value) (wr : World) : Prop :=
  ∃ (F : Nat) (k : Int) (m' : MS) (L' : Loc), kv = .int .i64 k ∧ (k = -1 ∨ ∃ j : Nat, k = (j : Int) ∧ i < j ∧ j < ns.length) ∧ Mch B wr mb ns L' m' ∧ Below B W wr ∧ altM ns F k m' = X ∧ ((ns.length : Int) ≤ (F : Int) + k ∨ k = -1)

theorem getD_of {ns : List Nod} {i : Nat} (hi : i < ns.length) : ns[i]? = some (ns.getD i nod0) := by
  rw [List.getD_eq_getElem?_getD, List.getElem?_eq_getElem hi]; rfl

set_option maxRecDepth 100000 in
set_option maxHeartbeats 1000000 in
theorem begin_any (B : Nat) (W : World) (mb : Nat) (ns : List Nod) (L : Loc) (m : MS) (i : Nat) (hM : Mch B W mb ns L m) (hi : i < ns.length) (hwf : NodWf ns) (hB : B ≤ W.heap.size) (hs1 : m.sets.length + 1 ≤ 2 * ns.length) :
    Calls Try.prog 78 #[.pointer (some ⟨mb, 0, none⟩), .int .i64 (i : Int)] W fun e w' => e = .returned (.tuple #[]) ∧ GoR B W mb ns (beginM ns i m) w' := by
  have hsm := hM.small
  obtain ⟨hn1, hn2⟩ := hM.ncap
  have hx := getD_of hi
  obtain ⟨x, hxd⟩ : ∃ x, Hid (ns.getD i nod0 = x) := ⟨_, Lib.hid rfl⟩
  rw [hxd.out] at hx
  obtain ⟨k0, -, -, -⟩ := hM.nodes i x hx
  obtain ⟨w1, w2, w3⟩ := hwf i x hx
  have hc0 := hM.box.cell 0
  simp only [List.getElem?_cons_zero, List.getElem?_cons_succ] at hc0
  have hbl := hM.box.lt
  obtain ⟨N, hN⟩ : ∃ N, Hid (ns.length = N) := ⟨_, Lib.hid rfl⟩
  have hE : Hid (beginM ns i m = if x.k = 1 then meetP (2 * i + 1) m else if x.k = 2 then { m with sets := m.sets ++ [i] } else if x.k = 4 then altM ns ns.length ((i : Int) + 1) m else if x.k = 5 ∨ x.k = 7 then meetP (2 * i + 1) (meetP (2 * (i + 1)) m) else meetP (2 * (i + 1)) m) := Lib.hid (by unfold beginM; rw [hxd.out])
  have Hi := Lib.hid hi
  have Hsm := Lib.hid hsm
  have hiN : (i : Int) < (N : Int) := by rw [← hN.out]; omega
  have hNs : (N : Int) ≤ 274877906944 := by rw [← hN.out]; omega
  rw [hN.out] at hc0
  have HM := Lib.hid hM
  have W1 := Lib.hid w1
  clear hM hn1 hn2 w1 w2 w3 hi hsm
  by_cases h1 : x.k = 1
  · have hP : Hid (beginM ns i m = meetP (2 * i + 1) m) := Lib.hid (by rw [hE.out, if_pos h1])
    rw [h1] at k0
    clear h1
    go_enter Try.func78, Try.ntmps78
    go_wp2_with (first
      | (go_at_call 48; (with_reducible refine (endOf_any _ i (by have := Hi.out; have := Hsm.out; omega)).mono ?_); rintro e v ⟨rfl, rfl⟩)
      | (go_at_call 66; (with_reducible refine (meet_I B _ mb ns L m (2 * i + 1) _ (by push_cast; rfl) HM.out (by have := Hi.out; omega) hB).mono ?_); rintro e v ⟨rfl, hm⟩))
    first | go_end0 | refine bodyPost_ret (results_none rfl _ _ _) rfl ?_
    exact ⟨rfl, by rw [hP.out]; exact hm.go⟩
  have q1 : (x.k == 1) = false := by simp [h1]
  by_cases h2 : x.k = 2
  · have hP : Hid (beginM ns i m = { m with sets := m.sets ++ [i] }) := Lib.hid (by rw [hE.out, if_neg h1, if_pos h2])
    rw [h2] at k0
    clear h1 h2 q1
    obtain ⟨a6, c6, w6, hrun, ⟨hc6, hf6, hl6⟩, hG6⟩ := HM.out.pushSet i hB hs1 71
    have hx4 := HM.out.box.cell 4
    simp only [List.getElem?_cons_zero, List.getElem?_cons_succ] at hx4
    have Hr := Lib.hid hrun
    clear hrun
    go_enter Try.func78, Try.ntmps78
    go_wp2_with (at_builtin; refine wpList_append_run rfl _ _ 71 71 rfl _ _ _ _ rfl rfl Hr.out ?_)
    first | go_end0 | refine bodyPost_ret (results_none rfl _ _ _) rfl ?_
    exact ⟨rfl, by rw [hP.out]; exact hG6⟩
  have q2 : (x.k == 2) = false := by simp [h2]
  have hi1 : Hid (i + 1 < ns.length) := Lib.hid (by
    rcases W1.out with (h | h) | h
    · exact absurd h h1
    · exact absurd h h2
    · exact h)
  by_cases h4 : x.k = 4
  · have hP : Hid (beginM ns i m = altM ns ns.length ((i : Int) + 1) m) := Lib.hid (by rw [hE.out, if_neg h1, if_neg h2, if_pos h4])
    rw [h4] at k0
    clear h1 h2 h4 q1 q2
    obtain ⟨X, HX⟩ : ∃ X, Hid (altM ns ns.length ((i : Int) + 1) m = X) := ⟨_, Lib.hid rfl⟩
    have hI : AltL B W mb ns i X (.int .i64 ((i : Int) + 1)) W := ⟨ns.length, (i : Int) + 1, m, L, rfl, .inr ⟨i + 1, by simp, by omega, hi1.out⟩, HM.out, Below.refl B W, HX.out, .inl (by omega)⟩
    have HNd := Lib.hid hwf
    clear hwf
    go_enter Try.func78, Try.ntmps78
    go_wp2_with (fail)
    go_loopw [5] (fun kv wr => AltL B W mb ns i X kv wr) (fun kv _ => if intOf kv = -1 then 0 else N + 1 - (intOf kv).toNat)
    case atStart => exact hI
    case round =>
      obtain ⟨F, k, m2, L2, rfl, hk, hM2, hb2, hX2, hF2⟩ := hrel
      have HX2 := Lib.hid hX2
      have HM2 := Lib.hid hM2
      clear hI hX2 hM2 hbl hc0 k0
      rcases hk with rfl | ⟨j, rfl, hij, hjN⟩
      · have hXe : Hid (X = m2) := Lib.hid (by rw [← HX2.out]; cases F <;> simp [altM])
        go_wp2_with (fail)
        first | go_end0 | refine bodyPost_ret (results_none rfl _ _ _) rfl ?_
        exact ⟨rfl, by rw [hP.out, HX.out, hXe.out]; exact ⟨L2, HM2.out, hb2⟩⟩
      · have hkn : ((j : Int) != -1) = true := by simp
        cases F with
        | zero => omega
        | succ F =>
        have hy := getD_of hjN
        obtain ⟨y, hyd⟩ : ∃ y, Hid (ns.getD j nod0 = y) := ⟨_, Lib.hid rfl⟩
        rw [hyd.out] at hy
        obtain ⟨-, hnx, -⟩ := HNd.out j y hy
        have hXe : Hid (X = altM ns F y.next (meetP (2 * j) m2)) := Lib.hid (by
          rw [← HX2.out, altM, if_neg (by omega), Int.toNat_natCast, hyd.out])
        have hjI : (j : Int) < (N : Int) := by rw [← hN.out]; omega
        have hHy := Lib.hid hy
        have hJ := Lib.hid hjN
        clear hy hjN
        go_wp2_with (fail)
        refine (beginOf_I _ j _ rfl (by have := hJ.out; have := Hsm.out; omega)).mono ?_
        rintro e v ⟨rfl, hv⟩
        subst v
        go_wp2_with (fail)
        refine (meet_I B _ mb ns L2 m2 (2 * j) _ (by push_cast; rfl) HM2.out (by have := hJ.out; omega) (Nat.le_trans hB hb2.size)).mono ?_
        rintro e v ⟨rfl, a5, c5, hm5, hb5⟩
        have hc5 := hm5.box.cell 0
        simp only [List.getElem?_cons_zero] at hc5
        rw [hN.out] at hc5
        obtain ⟨-, -, -, k3⟩ := hm5.nodes j y hHy.out
        dsimp only at k3
        go_wp2_with (fail)
        refine ⟨⟨F, y.next, _, _, rfl, ?_, hm5, hb2.trans hb5, hXe.out.symm, ?_⟩, ?_⟩
        · rcases hnx with h | ⟨j2, h, h3, h4⟩
          · exact .inl h
          · exact .inr ⟨j2, h, by omega, h4⟩
        · rcases hnx with h | ⟨j2, h, h3, h4⟩
          · rw [h]; right; rfl
          · omega
        · have := hJ.out
          have hNo := hN.out
          rcases hnx with h | ⟨j2, h, h3, h4⟩
          · rw [h]; simp [intOf]; omega
          · rw [h]; simp [intOf]; omega
  have q4 : (x.k == 4) = false := by simp [h4]
  by_cases h57 : x.k = 5 ∨ x.k = 7
  · have hP : Hid (beginM ns i m = meetP (2 * i + 1) (meetP (2 * (i + 1)) m)) := Lib.hid (by rw [hE.out, if_neg h1, if_neg h2, if_neg h4, if_pos h57])
    clear h1 h2 h4 q1 q2 q4
    rcases h57 with h5 | h5
    all_goals
      rw [h5] at k0
      clear h5
      go_enter Try.func78, Try.ntmps78
      go_wp2_with (fail)
      refine (beginOf_I _ (i + 1) _ (by push_cast; rfl) (by have := Hi.out; have := Hsm.out; omega)).mono ?_
      rintro e v ⟨rfl, hv⟩
      subst v
      go_wp2_with (fail)
      refine (meet_I B _ mb ns L m (2 * (i + 1)) _ (by push_cast; rfl) HM.out (by have := hi1.out; omega) hB).mono ?_
      rintro e v ⟨rfl, a5, c5, hm5, hb5⟩
      go_wp2_with (fail)
      refine (endOf_any _ i (by have := Hi.out; have := Hsm.out; omega)).mono ?_
      rintro e v2 ⟨rfl, hv⟩
      subst v2
      go_wp2_with (fail)
      refine (meet_I B _ mb ns _ _ (2 * i + 1) _ (by push_cast; rfl) hm5 (by have := hi1.out; omega) (Nat.le_trans hB hb5.size)).mono ?_
      rintro e v3 ⟨rfl, hm⟩
      go_wp2_with (fail)
      first | go_end0 | refine bodyPost_ret (results_none rfl _ _ _) rfl ?_
      exact ⟨rfl, by rw [hP.out]; exact GoR.trans ⟨_, hm5, hb5⟩ hm.go⟩
  · have hP : Hid (beginM ns i m = meetP (2 * (i + 1)) m) := Lib.hid (by rw [hE.out, if_neg h1, if_neg h2, if_neg h4, if_neg h57])
    have q5 : (x.k == 5) = false := by simp; omega
    have q7 : (x.k == 7) = false := by simp; omega
    clear h1 h2 h4 h57
    go_enter Try.func78, Try.ntmps78
    go_wp2_with (fail)
    refine (beginOf_I _ (i + 1) _ (by push_cast; rfl) (by have := Hi.out; have := Hsm.out; omega)).mono ?_
    rintro e v ⟨rfl, hv⟩
    subst v
    go_wp2_with (fail)
    refine (meet_I B _ mb ns L m (2 * (i + 1)) _ (by push_cast; rfl) HM.out (by have := hi1.out; omega) hB).mono ?_
    rintro e v ⟨rfl, hm⟩
    go_wp2_with (fail)
    first | go_end0 | refine bodyPost_ret (results_none rfl _ _ _) rfl ?_
    exact ⟨rfl, by rw [hP.out]; exact hm.go⟩
end Go.Proofs.Ytkdfobnkebkpfaa

/- The matcher: end. -/
namespace Go.Proofs.Ytkdfobnkebkpfaa
open Go.RowKit

attribute [local go_sem] Oper.semAt_some

set_option maxRecDepth 100000 in
set_option maxHeartbeats 1000000 in
theorem end_any (B : Nat) (W : World) (mb : Nat) (ns : List Nod) (L : Loc) (m : MS) (i : Nat) (hM : Mch B W mb ns L m) (hi : i < ns.length) (hwf : NodWf ns) (hB : B ≤ W.heap.size) :
    Calls Try.prog 79 #[.pointer (some ⟨mb, 0, none⟩), .int .i64 (i : Int)] W fun e w' => e = .returned (.tuple #[]) ∧ GoR B W mb ns (endM ns i m) w' := by
  have hsm := hM.small
  obtain ⟨hn1, hn2⟩ := hM.ncap
  have hx := getD_of hi
  obtain ⟨x, hxd⟩ : ∃ x, Hid (ns.getD i nod0 = x) := ⟨_, Lib.hid rfl⟩
  rw [hxd.out] at hx
  obtain ⟨-, -, k2, k3⟩ := hM.nodes i x hx
  obtain ⟨-, w2, w3⟩ := hwf i x hx
  have hc0 := hM.box.cell 0
  simp only [List.getElem?_cons_zero, List.getElem?_cons_succ] at hc0
  have hbl := hM.box.lt
  obtain ⟨N, hN⟩ : ∃ N, Hid (ns.length = N) := ⟨_, Lib.hid rfl⟩
  have hE : Hid (endM ns i m = if x.up = -1 then m else if (ns.getD x.up.toNat nod0).k = 5 ∨ (ns.getD x.up.toNat nod0).k = 6 then meetP (2 * x.up.toNat + 1) (meetP (2 * i) m)
    else if (ns.getD x.up.toNat nod0).k = 3 then (if x.next = -1 then meetP (2 * x.up.toNat + 1) m else meetP (2 * x.next.toNat) m) else meetP (2 * x.up.toNat + 1) m) := Lib.hid (by unfold endM; rw [hxd.out])
  have Hi := Lib.hid hi
  have Hsm := Lib.hid hsm
  have hiN : (i : Int) < (N : Int) := by rw [← hN.out]; omega
  have hNs : (N : Int) ≤ 274877906944 := by rw [← hN.out]; omega
  rw [hN.out] at hc0
  have HM := Lib.hid hM
  obtain ⟨up, hup⟩ : ∃ u, Hid (x.up = u) := ⟨_, Lib.hid rfl⟩
  obtain ⟨nx, hnx⟩ : ∃ u, Hid (x.next = u) := ⟨_, Lib.hid rfl⟩
  rw [hup.out] at w3 k2 hE
  rw [hnx.out] at w2 k3 hE
  clear hM hn1 hn2 hi hsm hx hwf
  rcases w3 with hu | ⟨j, hu, hjN⟩
  · subst hu
    have hP : Hid (endM ns i m = m) := Lib.hid (by rw [hE.out, if_pos rfl])
    go_enter Try.func79, Try.ntmps79
    go_wp2_with (fail)
    go_quiet (fail)
    go_wp2_with (fail)
    first | go_end0 | refine bodyPost_ret (results_none rfl _ _ _) rfl ?_
    exact ⟨rfl, by rw [hP.out]; exact ⟨L, HM.out.drewN nq, below_drewN (Below.refl B W) nq⟩⟩
  · subst hu
    have hy := getD_of hjN
    obtain ⟨y, hyd⟩ : ∃ y, Hid (ns.getD j nod0 = y) := ⟨_, Lib.hid rfl⟩
    rw [hyd.out] at hy
    have hE2 : Hid (endM ns i m = if y.k = 5 ∨ y.k = 6 then meetP (2 * j + 1) (meetP (2 * i) m) else if y.k = 3 then (if nx = -1 then meetP (2 * j + 1) m else meetP (2 * nx.toNat) m) else meetP (2 * j + 1) m) := Lib.hid (by
      rw [hE.out, if_neg (by omega), Int.toNat_natCast, hyd.out])
    obtain ⟨k0, -, -, -⟩ := HM.out.nodes j y hy
    have hjI : (j : Int) < (N : Int) := by rw [← hN.out]; omega
    have hj1 : ((j : Int) == -1) = false := by simp
    have hJ := Lib.hid hjN
    clear hE hy hjN
    have hk : (∃ c, (c = 5 ∨ c = 6) ∧ y.k = c) ∨ (y.k = 3) ∨ ((y.k == 5) = false ∧ (y.k == 6) = false ∧ (y.k == 3) = false) := by
      by_cases h5 : y.k = 5
      · exact .inl ⟨5, .inl rfl, h5⟩
      by_cases h6 : y.k = 6
      · exact .inl ⟨6, .inr rfl, h6⟩
      by_cases h3 : y.k = 3
      · exact .inr (.inl h3)
      · exact .inr (.inr ⟨by simp [h5], by simp [h6], by simp [h3]⟩)
    rcases hk with ⟨c, hc, hk⟩ | hk | ⟨q5, q6, q3⟩
    · have hP : Hid (endM ns i m = meetP (2 * j + 1) (meetP (2 * i) m)) := Lib.hid (by rw [hE2.out, if_pos (by rw [hk]; exact hc)])
      rw [hk] at k0
      clear hk hE2
      rcases hc with rfl | rfl
      all_goals
        go_enter Try.func79, Try.ntmps79
        go_wp2_with (fail)
        go_quiet (fail)
        have hM1 := HM.out.drewN nq
        have hb1 : Below B W (W.drewN nq) := below_drewN (Below.refl B W) nq
        have k0 : (W.drewN nq).cell? ⟨L.nb, L.no + j * 7, none⟩ = _ := k0
        have hc0 : (W.drewN nq).cell? ⟨mb, 0, none⟩ = _ := hc0
        generalize W.drewN nq = V at hM1 hb1 k0 hc0 ⊢
        go_wp2_with (fail)
        refine (beginOf_I _ i _ rfl (by have := Hi.out; have := Hsm.out; omega)).mono ?_
        rintro e v ⟨rfl, hv⟩
        subst v
        go_wp2_with (fail)
        refine (meet_I B _ mb ns L m (2 * i) _ (by push_cast; rfl) hM1 (by have := Hi.out; omega) (Nat.le_trans hB hb1.size)).mono ?_
        rintro e v ⟨rfl, a5, c5, hm5, hb5⟩
        go_wp2_with (fail)
        refine (endOf_I _ j _ rfl (by have := hJ.out; have := Hsm.out; omega)).mono ?_
        rintro e v2 ⟨rfl, hv⟩
        subst v2
        go_wp2_with (fail)
        refine (meet_I B _ mb ns _ _ (2 * j + 1) _ (by push_cast; rfl) hm5 (by have := hJ.out; omega) (Nat.le_trans (Nat.le_trans hB hb1.size) hb5.size)).mono ?_
        rintro e v3 ⟨rfl, hm⟩
        go_wp2_with (fail)
        first | go_end0 | refine bodyPost_ret (results_none rfl _ _ _) rfl ?_
        exact ⟨rfl, by rw [hP.out]; exact GoR.trans ⟨_, hm5, hb1.trans hb5⟩ hm.go⟩
    · rw [hk] at k0
      rcases w2 with hn | ⟨j2, hn, hj2, hj3⟩
      · subst hn
        have hP : Hid (endM ns i m = meetP (2 * j + 1) m) := Lib.hid (by rw [hE2.out, if_neg (by rw [hk]; omega), if_pos hk, if_pos rfl])
        clear hk hE2
        go_enter Try.func79, Try.ntmps79
        go_wp2_with (fail)
        go_quiet (fail)
        have hM1 := HM.out.drewN nq
        have hb1 : Below B W (W.drewN nq) := below_drewN (Below.refl B W) nq
        have k0 : (W.drewN nq).cell? ⟨L.nb, L.no + j * 7, none⟩ = _ := k0
        have hc0 : (W.drewN nq).cell? ⟨mb, 0, none⟩ = _ := hc0
        generalize W.drewN nq = V at hM1 hb1 k0 hc0 ⊢
        go_wp2_with (fail)
        refine (endOf_I _ j _ rfl (by have := hJ.out; have := Hsm.out; omega)).mono ?_
        rintro e v2 ⟨rfl, hv⟩
        subst v2
        go_wp2_with (fail)
        refine (meet_I B _ mb ns L m (2 * j + 1) _ (by push_cast; rfl) hM1 (by have := hJ.out; omega) (Nat.le_trans hB hb1.size)).mono ?_
        rintro e v3 ⟨rfl, hm⟩
        go_wp2_with (fail)
        first | go_end0 | refine bodyPost_ret (results_none rfl _ _ _) rfl ?_
        exact ⟨rfl, by rw [hP.out]; exact GoR.trans ⟨_, hM1, hb1⟩ hm.go⟩
      · subst hn
        have hn1 : ((j2 : Int) != -1) = true := by simp
        have hP : Hid (endM ns i m = meetP (2 * j2) m) := Lib.hid (by rw [hE2.out, if_neg (by rw [hk]; omega), if_pos hk, if_neg (by omega), Int.toNat_natCast])
        have hJ2 := Lib.hid hj3
        clear hk hE2 hj3
        go_enter Try.func79, Try.ntmps79
        go_wp2_with (fail)
        go_quiet (fail)
        have hM1 := HM.out.drewN nq
        have hb1 : Below B W (W.drewN nq) := below_drewN (Below.refl B W) nq
        have k0 : (W.drewN nq).cell? ⟨L.nb, L.no + j * 7, none⟩ = _ := k0
        have hc0 : (W.drewN nq).cell? ⟨mb, 0, none⟩ = _ := hc0
        generalize W.drewN nq = V at hM1 hb1 k0 hc0 ⊢
        go_wp2_with (fail)
        refine (beginOf_I _ j2 _ rfl (by have := hJ2.out; have := Hsm.out; omega)).mono ?_
        rintro e v2 ⟨rfl, hv⟩
        subst v2
        go_wp2_with (fail)
        refine (meet_I B _ mb ns L m (2 * j2) _ (by push_cast; rfl) hM1 (by have := hJ2.out; omega) (Nat.le_trans hB hb1.size)).mono ?_
        rintro e v3 ⟨rfl, hm⟩
        go_wp2_with (fail)
        first | go_end0 | refine bodyPost_ret (results_none rfl _ _ _) rfl ?_
        exact ⟨rfl, by rw [hP.out]; exact GoR.trans ⟨_, hM1, hb1⟩ hm.go⟩
    · have hP : Hid (endM ns i m = meetP (2 * j + 1) m) := Lib.hid (by rw [hE2.out, if_neg (by simp at q5 q6; omega), if_neg (by simpa using q3)])
      clear hE2
      go_enter Try.func79, Try.ntmps79
      go_wp2_with (fail)
      go_quiet (fail)
      have hM1 := HM.out.drewN nq
      have hb1 : Below B W (W.drewN nq) := below_drewN (Below.refl B W) nq
      have k0 : (W.drewN nq).cell? ⟨L.nb, L.no + j * 7, none⟩ = _ := k0
      have hc0 : (W.drewN nq).cell? ⟨mb, 0, none⟩ = _ := hc0
      generalize W.drewN nq = V at hM1 hb1 k0 hc0 ⊢
      go_wp2_with (fail)
      refine (endOf_I _ j _ rfl (by have := hJ.out; have := Hsm.out; omega)).mono ?_
      rintro e v2 ⟨rfl, hv⟩
      subst v2
      go_wp2_with (fail)
      refine (meet_I B _ mb ns L m (2 * j + 1) _ (by push_cast; rfl) hM1 (by have := hJ.out; omega) (Nat.le_trans hB hb1.size)).mono ?_
      rintro e v3 ⟨rfl, hm⟩
      go_wp2_with (fail)
      first | go_end0 | refine bodyPost_ret (results_none rfl _ _ _) rfl ?_
      exact ⟨rfl, by rw [hP.out]; exact GoR.trans ⟨_, hM1, hb1⟩ hm.go⟩
end Go.Proofs.Ytkdfobnkebkpfaa

/- The matcher: goOn. -/
namespace Go.Proofs.Ytkdfobnkebkpfaa
open Go.RowKit

attribute [local go_sem] Oper.semAt_some

/-- All that is open, and all that waits, are there. -/
structure OkM (ns : List Nod) (m : MS) : Prop where
  opn : ∀ st ∈ m.opn, st < 2 * ns.length
  sets : ∀ i ∈ m.sets, i < ns.length
  len : m.met.length = 2 * ns.length
/-- How many steps are left at most. -/
def qM (m : MS) : Nat := m.opn.length + unmet m
theorem meetP_ok {ns : List Nod} {m : MS} {st : Nat} (h : OkM ns m) (hst : st < 2 * ns.length) : OkM ns (meetP st m) ∧ qM (meetP st m) = qM m ∧ (meetP st m).sets = m.sets := by
  refine ⟨⟨?_, by rw [meetP_sets]; exact h.sets, by rw [meetP_len]; exact h.len⟩, meetP_sum st m (by rw [h.len]; exact hst), meetP_sets st m⟩
  intro x hx
  unfold meetP at hx
  split at hx
  · simp only [List.mem_append, List.mem_singleton] at hx
    rcases hx with hx | rfl
    · exact h.opn x hx
    · exact hst
  · exact h.opn x hx
theorem altM_ok {ns : List Nod} (hwf : NodWf ns) : ∀ (F : Nat) (k : Int) (m : MS), OkM ns m → (k = -1 ∨ ∃ j : Nat, k = (j : Int) ∧ j < ns.length) → OkM ns (altM ns F k m) ∧ qM (altM ns F k m) = qM m ∧ (altM ns F k m).sets = m.sets := by
  intro F
  induction F with
  | zero => intro k m h _; exact ⟨h, rfl, rfl⟩
  | succ F ih =>
    intro k m h hk
    rw [altM]
    split
    · exact ⟨h, rfl, rfl⟩
    · rename_i hne
      rcases hk with hk | ⟨j, rfl, hj⟩
      · exact absurd hk hne
      · rw [Int.toNat_natCast]
        obtain ⟨h1, h2, h3⟩ := meetP_ok (st := 2 * j) h (by omega)
        obtain ⟨-, hn, -⟩ := hwf j _ (getD_of hj)
        obtain ⟨h4, h5, h6⟩ := ih (ns.getD j nod0).next _ h1 (by
          rcases hn with h | ⟨j2, e, _, hj2⟩
          · exact .inl h
          · exact .inr ⟨j2, e, hj2⟩)
        exact ⟨h4, h5.trans h2, h6.trans h3⟩
theorem beginM_ok {ns : List Nod} (hwf : NodWf ns) {i : Nat} {m : MS} (h : OkM ns m) (hi : i < ns.length) : OkM ns (beginM ns i m) ∧ qM (beginM ns i m) = qM m ∧ (beginM ns i m).sets.length ≤ m.sets.length + 1 := by
  obtain ⟨w1, -, -⟩ := hwf i _ (getD_of hi)
  unfold beginM
  simp only
  split
  · obtain ⟨a, b, c⟩ := meetP_ok (st := 2 * i + 1) h (by omega); exact ⟨a, b, by rw [c]; omega⟩
  · split
    · refine ⟨⟨h.opn, ?_, h.len⟩, rfl, by simp⟩
      intro x hx
      simp only [List.mem_append, List.mem_singleton] at hx
      rcases hx with hx | rfl
      · exact h.sets x hx
      · exact hi
    · rename_i h1 h2
      have hi1 : i + 1 < ns.length := by
        rcases w1 with (e | e) | e
        · exact absurd e h1
        · exact absurd e h2
        · exact e
      split
      · obtain ⟨a, b, c⟩ := altM_ok hwf ns.length ((i : Int) + 1) m h (.inr ⟨i + 1, by simp, hi1⟩); exact ⟨a, b, by rw [c]; omega⟩
      · split
        · obtain ⟨a, b, c⟩ := meetP_ok (st := 2 * (i + 1)) h (by omega)
          obtain ⟨a2, b2, c2⟩ := meetP_ok (st := 2 * i + 1) a (by omega)
          exact ⟨a2, b2.trans b, by rw [c2, c]; omega⟩
        · obtain ⟨a, b, c⟩ := meetP_ok (st := 2 * (i + 1)) h (by omega); exact ⟨a, b, by rw [c]; omega⟩
theorem endM_ok {ns : List Nod} (hwf : NodWf ns) {i : Nat} {m : MS} (h : OkM ns m) (hi : i < ns.length) : OkM ns (endM ns i m) ∧ qM (endM ns i m) = qM m ∧ (endM ns i m).sets = m.sets := by
  obtain ⟨-, w2, w3⟩ := hwf i _ (getD_of hi)
  unfold endM
  simp only
  split
  · exact ⟨h, rfl, rfl⟩
  · rename_i hne
    rcases w3 with e | ⟨j, e, hj⟩
    · exact absurd e hne
    · rw [e, Int.toNat_natCast]
      split
      · obtain ⟨a, b, c⟩ := meetP_ok (st := 2 * i) h (by omega)
        obtain ⟨a2, b2, c2⟩ := meetP_ok (st := 2 * j + 1) a (by omega)
        exact ⟨a2, b2.trans b, c2.trans c⟩
      · split
        · split
          · exact meetP_ok h (by omega)
          · rename_i hne2
            rcases w2 with e2 | ⟨j2, e2, _, hj2⟩
            · exact absurd e2 hne2
            · rw [e2, Int.toNat_natCast]; exact meetP_ok h (by omega)
        · exact meetP_ok h (by omega)

/-- A state is taken off those that are open. -/
def popM (m : MS) : MS := { m with opn := m.opn.dropLast }
def oneM (ns : List Nod) (st : Nat) (m : MS) : MS := if st % 2 = 0 then beginM ns (st / 2) m else endM ns (st / 2) m
def goOnM (ns : List Nod) : Nat → MS → MS
  | 0, m => m
  | F + 1, m => match m.opn.getLast? with
    | none => m
    | some st => goOnM ns F (oneM ns st (popM m))

/-- The count of steps, as the memory tells it. -/
def msr (mb : Nat) (w : World) : Nat :=
  (match w.cell? ⟨mb, 3, none⟩ with | some (.slice _ n _) => n | _ => 0) +
  (match w.cell? ⟨mb, 2, none⟩, w.cell? ⟨mb, 1, none⟩ with
    | some (.slice (some a) _ _), some now => (match w.heap[a.block]? with | some (.cells cs _ _) => cs.toList.countP (fun v => decide (intOf v < intOf now)) | _ => 0)
    | _, _ => 0)
theorem msr_eq {B : Nat} {W : World} {mb : Nat} {ns : List Nod} {L : Loc} {m : MS} (h : Mch B W mb ns L m) : msr mb W = qM m := by
  unfold msr
  have h1 := h.box.cell 1
  have h2 := h.box.cell 2
  have h3 := h.box.cell 3
  simp only [List.getElem?_cons_zero, List.getElem?_cons_succ] at h1 h2 h3
  rw [h1, h2, h3]
  simp only
  rw [show W.heap[L.m2]? = _ from h.met]
  simp only [qM, unmet]
  congr 1
  rw [List.countP_map]
  apply List.countP_congr
  intro x _
  simp [intOf]

theorem OwnI.pop {w : World} {base n cap : Nat} {a : Option Addr} {l : List Nat} (h : OwnI w base a n cap l) (h0 : 0 < n) : ∃ g, a = some ⟨g, 0, none⟩ ∧ OwnI w base a (n - 1) cap l.dropLast ∧ n ≤ cap ∧ cap ≤ 9223372036854775807 ∧ (∀ x, l.getLast? = some x → w.cell? ⟨g, n - 1, none⟩ = some (iv x)) := by
  have hlen := h.len
  rcases h.2 with ⟨_, e⟩ | ⟨g, c, cur, e, hb, hg, h1, h2, h3, h4⟩
  · omega
  · injection e with e1 e2 e3
    subst e1 e3
    refine ⟨g, rfl, ⟨by simp; omega, .inr ⟨g, cap, cur, rfl, hb, hg, by omega, h2, h3, ?_⟩⟩, h1, by unfold maxLen at h2; omega, fun x hx => ?_⟩
    · rw [Nat.mul_one] at h4 ⊢
      have e : l.map iv = List.take n cur.toList := h4.symm
      have e2 : (l.dropLast).map iv = (l.map iv).dropLast := by simp
      rw [e2, e, List.dropLast_eq_take, List.length_take, List.take_take]
      congr 1
      rw [Array.length_toList]
      omega
    · have := World.ownsRow.cellAt h (n - 1) (by omega)
      rw [this]
      rw [List.getElem?_map]
      rw [List.getLast?_eq_getElem?, ← hlen] at hx
      rw [hx]; rfl

theorem Mch.pop {B : Nat} {W : World} {mb : Nat} {ns : List Nod} {L : Loc} {m : MS} (h : Mch B W mb ns L m) (h0 : 0 < m.opn.length) :
    Mch B (W.setCell ⟨mb, 3, none⟩ (.slice L.oa (m.opn.length - 1) L.oc)) mb ns L (popM m) := by
  have hg := grownBy_set W mb 3 (.slice L.oa (m.opn.length - 1) L.oc)
  obtain ⟨g, hg1, hown, -, -, -⟩ := h.opn.pop h0
  have hl : m.opn.dropLast.length = m.opn.length - 1 := by simp
  refine ⟨?_, Blk.setOther h.met (fun e => h.nbne.2.2 e.symm) _, ?_, h.sets.kept hg (ne_obk h.sne.1), fun i x hx => (h.nodes i x hx).kept (Below.heap_setCell _ _ _ _ (by simpa using h.nbne.1)), h.ncap, h.len, h.hb, h.nbne, h.one, h.sne, h.apart, h.small, ?_, h.sbd, h.nowb⟩
  · have := Blk.set h.box 3 (.slice L.oa (m.opn.length - 1) L.oc)
    simpa [popM] using this
  · have := OwnI.kept hown hg (ne_obk h.one.1)
    simpa [popM] using this
  · have := h.obd
    show m.opn.dropLast.length + unmet m ≤ _
    omega

theorem begin_I (B : Nat) (W : World) (mb : Nat) (ns : List Nod) (L : Loc) (m : MS) (i : Nat) (v : Int) (hv : v = (i : Int)) (hM : Mch B W mb ns L m) (hi : i < ns.length) (hwf : NodWf ns) (hB : B ≤ W.heap.size) (hs1 : m.sets.length + 1 ≤ 2 * ns.length) :
    Calls Try.prog 78 #[.pointer (some ⟨mb, 0, none⟩), .int .i64 v] W fun e w' => e = .returned (.tuple #[]) ∧ GoR B W mb ns (beginM ns i m) w' := by
  subst hv; exact begin_any B W mb ns L m i hM hi hwf hB hs1
theorem end_I (B : Nat) (W : World) (mb : Nat) (ns : List Nod) (L : Loc) (m : MS) (i : Nat) (v : Int) (hv : v = (i : Int)) (hM : Mch B W mb ns L m) (hi : i < ns.length) (hwf : NodWf ns) (hB : B ≤ W.heap.size) :
    Calls Try.prog 79 #[.pointer (some ⟨mb, 0, none⟩), .int .i64 v] W fun e w' => e = .returned (.tuple #[]) ∧ GoR B W mb ns (endM ns i m) w' := by
  subst hv; exact end_any B W mb ns L m i hM hi hwf hB

/-- Between two rounds of goOn. -/
def GonI (B : Nat) (W : World) (mb : Nat) (ns : List Nod) (X : MS) (wr : World) : Prop :=
  ∃ (L : Loc) (m : MS) (F : Nat), Mch B wr mb ns L m ∧ Below B W wr ∧ OkM ns m ∧ m.sets.length + qM m ≤ 2 * ns.length ∧ goOnM ns F m = X ∧ qM m ≤ F

set_option maxRecDepth 100000 in
set_option maxHeartbeats 2000000 in
theorem goOn_any (B : Nat) (W : World) (mb : Nat) (ns : List Nod) (L : Loc) (m : MS) (F : Nat) (hM : Mch B W mb ns L m) (hwf : NodWf ns) (hok : OkM ns m) (hB : B ≤ W.heap.size) (hs1 : m.sets.length + qM m ≤ 2 * ns.length) (hF : qM m ≤ F) :
    Calls Try.prog 68 #[.pointer (some ⟨mb, 0, none⟩)] W fun e w' => e = .returned (.tuple #[]) ∧ GoR B W mb ns (goOnM ns F m) w' := by
  obtain ⟨X, HX⟩ : ∃ X, Hid (goOnM ns F m = X) := ⟨_, Lib.hid rfl⟩
  have hI : GonI B W mb ns X W := ⟨L, m, F, hM, Below.refl B W, hok, hs1, HX.out, hF⟩
  rw [HX.out]
  have HW := Lib.hid hwf
  clear hM hok hs1 hF HX hwf
  go_enter Try.func68, Try.ntmps68
  go_wp2_with (fail)
  go_loopw [2] (fun _ wr => GonI B W mb ns X wr) (fun _ wr => msr mb wr)
  case atStart => exact hI
  case round =>
    obtain ⟨L2, m2, F2, hM2, hb2, hok2, hs2, hX2, hF2⟩ := hrel
    have hms := Lib.hid (msr_eq hM2)
    have HX2 := Lib.hid hX2
    have hc3 := hM2.box.cell 3
    simp only [List.getElem?_cons_zero, List.getElem?_cons_succ] at hc3
    have hbl := hM2.box.lt
    have hsm := hM2.small
    have hobd := hM2.obd
    have HM := Lib.hid hM2
    clear hI hX2 hM2
    by_cases h0 : 0 < m2.opn.length
    · obtain ⟨g, hoa, hown, hgc1, hgc2, hlast⟩ := HM.out.opn.pop h0
      obtain ⟨st, hst⟩ : ∃ st, m2.opn.getLast? = some st := by
        cases h : m2.opn.getLast? with
        | none => rw [List.getLast?_eq_none_iff] at h; rw [h] at h0; simp at h0
        | some st => exact ⟨st, rfl⟩
      have hy := hlast st hst
      have hstl : st < 2 * ns.length := hok2.opn st (List.mem_of_getLast? hst)
      cases F2 with
      | zero => unfold qM at hF2; omega
      | succ F2 =>
      have hXe : Hid (X = goOnM ns F2 (oneM ns st (popM m2))) := Lib.hid (by rw [← HX2.out, goOnM, hst])
      have hMp := HM.out.pop h0
      rw [hoa] at hc3 hMp
      obtain ⟨n, hn⟩ : ∃ n, Hid (m2.opn.length = n) := ⟨_, Lib.hid rfl⟩
      rw [hn.out] at hc3 hy h0 hgc1 hMp
      have hn0 : (0 : Int) < (n : Int) := by omega
      have hw1 : IntKind.i64.wrap ((n : Int) - 1) = ((n - 1 : Nat) : Int) := by rw [IntKind.wrap_i64]; omega
      have hw2 : ((n : Int) - 1).toNat = n - 1 := by omega
      have hq1 : Hid (qM (popM m2) + 1 = qM m2) := Lib.hid (by
        unfold qM popM
        simp only [List.length_dropLast]
        have : unmet { m2 with opn := m2.opn.dropLast } = unmet m2 := rfl
        rw [this]
        have := hn.out
        omega)
      have Hst := Lib.hid hst
      have Hl := Lib.hid hlast
      have Hown := Lib.hid hown
      clear hst hlast hown
      go_wp2_with (fail)
      go_quiet (fail)
      have HV := Lib.hid (HM.out.drewN nq)
      have hbV : Below B W (wr.drewN nq) := below_drewN hb2 nq
      clear HM hc3 hbl hy hb2 hMp
      generalize wr.drewN nq = V at HV hbV ⊢
      have hc3 := HV.out.box.cell 3
      simp only [List.getElem?_cons_zero, List.getElem?_cons_succ] at hc3
      rw [hoa, hn.out] at hc3
      have hf3 := HV.out.box.frozen 3
      have hbl := HV.out.box.lt
      go_wp2_with (fail)
      go_region
      have hMU := (HV.out.pop (by rw [hn.out]; exact h0)).drew
      rw [hoa, hn.out] at hMU
      have hbU : Below B W (V.setCell ⟨mb, 3, none⟩ (.slice (some ⟨g, 0, none⟩) (n - 1) L2.oc)).drew := below_drewN (hbV.setCell (p := ⟨mb, 3, none⟩) HV.out.hb.1 (.slice (some ⟨g, 0, none⟩) (n - 1) L2.oc)) 1
      clear hc3 hf3 hbl HV
      generalize World.drew _ = U at hMU hbU ⊢
      have hst0 : (0 : Int) ≤ (st : Int) := by omega
      have hstb : (st : Int) < 549755813888 := by omega
      have hh2 : st / 2 < ns.length := by omega
      have hoks : OkM ns (popM m2) := ⟨fun x hx => hok2.opn x (List.dropLast_subset _ hx), hok2.sets, hok2.len⟩
      go_wp2_with (fail)
      refine (beginOf_I _ (st / 2) _ (by omega) (by omega)).mono ?_
      rintro e v ⟨rfl, hv⟩
      subst v
      by_cases hev : st % 2 = 0
      · have hev1 : ((st : Int) == 2 * ((st : Int) / 2)) = true := by simp; omega
        have hsb : (popM m2).sets.length + 1 ≤ 2 * ns.length := by
          have : (popM m2).sets = m2.sets := rfl
          have h2 := hq1.out
          rw [this]; omega
        go_wp2_with (fail)
        refine (begin_I B U mb ns _ (popM m2) (st / 2) _ (by omega) hMU hh2 HW.out (Nat.le_trans hB hbU.size) hsb).mono ?_
        rintro e w3 ⟨rfl, L3, hM3, hb3⟩
        obtain ⟨ho3, hq3, hs3⟩ := beginM_ok HW.out hoks hh2
        have hone : Hid (oneM ns st (popM m2) = beginM ns (st / 2) (popM m2)) := Lib.hid (by unfold oneM; rw [if_pos hev])
        have hms3 := Lib.hid (msr_eq hM3)
        go_wp2_with (fail)
        refine ⟨⟨L3, _, F2, hM3, hbU.trans hb3, ho3, ?_, ?_, ?_⟩, ?_⟩
        · have := hq1.out; have : (popM m2).sets = m2.sets := rfl; rw [this] at hs3; omega
        · rw [hXe.out, hone.out]
        · have := hq1.out; omega
        · rw [hms3.out, hms.out]; have := hq1.out; omega
      · have hev1 : ((st : Int) == 2 * ((st : Int) / 2)) = false := by simp; omega
        go_wp2_with (fail)
        refine (end_I B U mb ns _ (popM m2) (st / 2) _ (by omega) hMU hh2 HW.out (Nat.le_trans hB hbU.size)).mono ?_
        rintro e w3 ⟨rfl, L3, hM3, hb3⟩
        obtain ⟨ho3, hq3, hs3⟩ := endM_ok HW.out hoks hh2
        have hone : Hid (oneM ns st (popM m2) = endM ns (st / 2) (popM m2)) := Lib.hid (by unfold oneM; rw [if_neg hev])
        have hms3 := Lib.hid (msr_eq hM3)
        go_wp2_with (fail)
        refine ⟨⟨L3, _, F2, hM3, hbU.trans hb3, ho3, ?_, ?_, ?_⟩, ?_⟩
        · have := hq1.out; have : (popM m2).sets = m2.sets := rfl; rw [hs3, this]; omega
        · rw [hXe.out, hone.out]
        · have := hq1.out; omega
        · rw [hms3.out, hms.out]; have := hq1.out; omega
    · have hXe : Hid (X = m2) := Lib.hid (by
        have : m2.opn = [] := List.length_eq_zero_iff.1 (by omega)
        rw [← HX2.out]
        cases F2 with
        | zero => rfl
        | succ F2 => rw [goOnM, this]; rfl)
      have hn0 : ¬ (0 : Int) < (m2.opn.length : Int) := by omega
      go_wp2_with (fail)
      first | go_end0 | refine bodyPost_ret (results_none rfl _ _ _) rfl ?_
      exact ⟨rfl, by rw [hXe.out]; exact ⟨L2, HM.out, hb2⟩⟩
end Go.Proofs.Ytkdfobnkebkpfaa

/- The matcher: step. -/
namespace Go.Proofs.Ytkdfobnkebkpfaa
open Go.RowKit

attribute [local go_sem] Oper.semAt_some

def hitM (ns : List Nod) (c : Nat) : List Nat → MS → MS
  | [], m => m
  | i :: r, m => hitM ns c r (if hasW (ns.getD i nod0).f c then meetP (2 * i + 1) m else m)
/-- One byte further. -/
def stepM (ns : List Nod) (c : Nat) (m : MS) : MS :=
  goOnM ns (2 * ns.length) { hitM ns c m.sets { m with now := m.now + 1 } with sets := [] }

theorem goOnM_opn {ns : List Nod} (hwf : NodWf ns) : ∀ (F : Nat) (m : MS), OkM ns m → qM m ≤ F → (goOnM ns F m).opn = [] ∧ OkM ns (goOnM ns F m) ∧ (goOnM ns F m).sets.length ≤ m.sets.length + qM m := by
  intro F
  induction F with
  | zero =>
    intro m h hq
    unfold qM at hq
    exact ⟨List.length_eq_zero_iff.1 (by show m.opn.length = 0; omega), h, by show m.sets.length ≤ _; omega⟩
  | succ F ih =>
    intro m h hq
    rw [goOnM]
    split
    · rename_i hn
      rw [List.getLast?_eq_none_iff] at hn
      exact ⟨hn, h, by omega⟩
    · rename_i st hst
      have hst2 := h.opn st (List.mem_of_getLast? hst)
      have hok : OkM ns (popM m) := ⟨fun x hx => h.opn x (List.dropLast_subset _ hx), h.sets, h.len⟩
      have hq1 : qM (popM m) + 1 = qM m := by
        unfold qM popM
        simp only [List.length_dropLast]
        have : unmet { m with opn := m.opn.dropLast } = unmet m := rfl
        rw [this]
        have : 0 < m.opn.length := by
          cases ho : m.opn with
          | nil => rw [ho] at hst; cases hst
          | cons => simp
        omega
      have hone : OkM ns (oneM ns st (popM m)) ∧ qM (oneM ns st (popM m)) = qM (popM m) ∧ (oneM ns st (popM m)).sets.length ≤ m.sets.length + 1 := by
        unfold oneM
        split
        · exact beginM_ok hwf hok (by omega)
        · obtain ⟨a, b, c⟩ := endM_ok hwf hok (i := st / 2) (by omega)
          exact ⟨a, b, by rw [c]; show m.sets.length ≤ _; omega⟩
      obtain ⟨a, b, c⟩ := hone
      obtain ⟨d, e, f⟩ := ih _ a (by omega)
      exact ⟨d, e, by omega⟩
theorem hitM_ok {ns : List Nod} {c : Nat} : ∀ (l : List Nat) (m : MS), OkM ns m → (∀ i ∈ l, i < ns.length) → OkM ns (hitM ns c l m) ∧ qM (hitM ns c l m) = qM m ∧ (hitM ns c l m).sets = m.sets ∧ (hitM ns c l m).now = m.now := by
  intro l
  induction l with
  | nil => intro m h _; exact ⟨h, rfl, rfl, rfl⟩
  | cons i r ih =>
    intro m h hl
    have hi := hl i (by simp)
    rw [hitM]
    split
    · obtain ⟨a, b, d⟩ := meetP_ok (st := 2 * i + 1) h (by omega)
      obtain ⟨a2, b2, d2, e2⟩ := ih _ a (fun x hx => hl x (by simp [hx]))
      exact ⟨a2, b2.trans b, d2.trans d, e2.trans (meetP_now _ _)⟩
    · exact ih m h (fun x hx => hl x (by simp [hx]))

theorem Mch.grown {B : Nat} {W W' : World} {mb : Nat} {ns : List Nod} {L : Loc} {m : MS} (h : Mch B W mb ns L m) (hb : Below W.heap.size W W') : Mch B W' mb ns L m :=
  ⟨h.box.below hb h.box.lt, h.met.below hb h.met.lt, h.opn.kept (below_grownBy hb none) (by cases hh : obk L.oa; exact .inl rfl; exact .inr (by simp)), h.sets.kept (below_grownBy hb none) (by cases hh : obk L.sa; exact .inl rfl; exact .inr (by simp)),
   fun i x e => (h.nodes i x e).kept (hb.block _ (World.block_lt_of_cell? W _ (h.nodes i x e).1)), h.ncap, h.len, h.hb, h.nbne, h.one, h.sne, h.apart, h.small, h.obd, h.sbd, h.nowb⟩

/-- A new round begins. -/
theorem Mch.tick {B : Nat} {W : World} {mb : Nat} {ns : List Nod} {L : Loc} {m : MS} (h : Mch B W mb ns L m) (ho : m.opn = []) (hn : m.now + 1 ≤ 4611686018427387904) : Mch B (W.setCell ⟨mb, 1, none⟩ (iv (m.now + 1))) mb ns L { m with now := m.now + 1 } := by
  have hg := grownBy_set W mb 1 (iv (m.now + 1))
  refine ⟨?_, Blk.setOther h.met (fun e => h.nbne.2.2 e.symm) _, h.opn.kept hg (ne_obk h.one.1), h.sets.kept hg (ne_obk h.sne.1), fun i x hx => (h.nodes i x hx).kept (Below.heap_setCell _ _ _ _ (by simpa using h.nbne.1)), h.ncap, h.len, h.hb, h.nbne, h.one, h.sne, h.apart, h.small, ?_, h.sbd, hn⟩
  · exact Blk.set h.box 1 (iv (m.now + 1))
  · have : unmet { m with now := m.now + 1 } ≤ m.met.length := List.countP_le_length
    have hl := h.len
    have hz : m.opn.length = 0 := by rw [ho]; rfl
    show m.opn.length + _ ≤ _
    omega
theorem OwnI.clear {w : World} {base n cap : Nat} {a : Option Addr} {l : List Nat} (h : OwnI w base a n cap l) : OwnI w base a 0 cap [] ∧ (a = none → n = 0 ∧ cap = 0) ∧ (∀ p, a = some p → ∃ g, p = ⟨g, 0, none⟩) ∧ n ≤ cap ∧ cap ≤ 9223372036854775807 := by
  rcases h.2 with ⟨e1, e2⟩ | ⟨g, c, cur, e, hb, hg, h1, h2, h3, h4⟩
  · injection e1 with e1 e2 e3
    subst e1 e2 e3
    exact ⟨⟨rfl, .inl ⟨rfl, rfl⟩⟩, fun _ => ⟨rfl, rfl⟩, fun p e => (by cases e), by omega, by omega⟩
  · injection e with e1 e2 e3
    subst e1 e3
    exact ⟨⟨rfl, .inr ⟨g, cap, cur, rfl, hb, hg, by omega, h2, h3, by simp⟩⟩, fun e => (by cases e), fun p e => (by cases e; exact ⟨g, rfl⟩), h1, by unfold maxLen at h2; omega⟩

theorem Mch.clearSets {B : Nat} {W : World} {mb : Nat} {ns : List Nod} {L : Loc} {m : MS} (h : Mch B W mb ns L m) :
    Mch B (W.setCell ⟨mb, 4, none⟩ (.slice L.sa 0 L.sc)) mb ns L { m with sets := [] } := by
  have hg := grownBy_set W mb 4 (.slice L.sa 0 L.sc)
  refine ⟨?_, Blk.setOther h.met (fun e => h.nbne.2.2 e.symm) _, h.opn.kept hg (ne_obk h.one.1), h.sets.clear.1.kept hg (ne_obk h.sne.1), fun i x hx => (h.nodes i x hx).kept (Below.heap_setCell _ _ _ _ (by simpa using h.nbne.1)), h.ncap, h.len, h.hb, h.nbne, h.one, h.sne, h.apart, h.small, h.obd, by simp, h.nowb⟩
  exact Blk.set h.box 4 (.slice L.sa 0 L.sc)

/-- Between two rounds of step's loop. -/
def StpI (B : Nat) (W : World) (mb : Nat) (ns : List Nod) (c : Nat) (sa : Option Addr) (sc : Nat) (ss : List Nat) (X : MS) (iv' : Value) (wr : World) : Prop :=
  ∃ (L : Loc) (m : MS) (k : Nat), iv' = .int .i64 (k : Int) ∧ k ≤ ss.length ∧ L.sa = sa ∧ L.sc = sc ∧ m.sets = ss ∧ Mch B wr mb ns L m ∧ Below B W wr ∧ OkM ns m ∧ qM m ≤ 2 * ns.length ∧ hitM ns c (ss.drop k) m = X

set_option maxRecDepth 100000 in
set_option maxHeartbeats 2000000 in
theorem step_any (B : Nat) (W : World) (mb : Nat) (ns : List Nod) (L : Loc) (m : MS) (c : UInt8) (hM : Mch B W mb ns L m) (hwf : NodWf ns) (hok : OkM ns m) (hB : B ≤ W.heap.size) (ho : m.opn = []) (hnow : m.now + 1 ≤ 4611686018427387904) :
    Calls Try.prog 47 #[.pointer (some ⟨mb, 0, none⟩), .int .u8 (c.toNat : Int)] W fun e w' => e = .returned (.tuple #[]) ∧ GoR B W mb ns (stepM ns c.toNat m) w' := by
  have hu : c.toNat < 256 := c.toNat_lt
  have hMt := hM.tick ho hnow
  have hok1 : OkM ns { m with now := m.now + 1 } := ⟨hok.opn, hok.sets, hok.len⟩
  have hb1 : Below B W (W.setCell ⟨mb, 1, none⟩ (iv (m.now + 1))) := (Below.refl B W).setCell (p := ⟨mb, 1, none⟩) hM.hb.1 _
  have hc1 := hM.box.cell 1
  simp only [List.getElem?_cons_zero, List.getElem?_cons_succ] at hc1
  have hf1 := hM.box.frozen 1
  have hbl := hM.box.lt
  have hq1 : qM { m with now := m.now + 1 } ≤ 2 * ns.length := hMt.obd
  obtain ⟨X, HX⟩ : ∃ X, Hid (hitM ns c.toNat m.sets { m with now := m.now + 1 } = X) := ⟨_, Lib.hid rfl⟩
  have hE : Hid (stepM ns c.toNat m = goOnM ns (2 * ns.length) { X with sets := [] }) := Lib.hid (by unfold stepM; rw [HX.out])
  have hI : StpI B W mb ns c.toNat L.sa L.sc m.sets X (.int .i64 0) (W.setCell ⟨mb, 1, none⟩ (iv (m.now + 1))) := ⟨L, { m with now := m.now + 1 }, 0, rfl, by omega, rfl, rfl, rfl, hMt, hb1, hok1, hq1, HX.out⟩
  have hc4 := hMt.box.cell 4
  simp only [List.getElem?_cons_zero, List.getElem?_cons_succ] at hc4
  have hnI : (m.now : Int) + 1 ≤ 4611686018427387904 := by omega
  have hnI0 : (0 : Int) ≤ (m.now : Int) := by omega
  have hcv : (iv (m.now + 1)) = .int .i64 ((m.now : Int) + 1) := by simp
  rw [hcv] at hI hc4
  obtain ⟨S, hS⟩ : ∃ S, Hid (m.sets.length = S) := ⟨_, Lib.hid rfl⟩
  have HW := Lib.hid hwf
  obtain ⟨hcl0, hn00, hsm00, -, -⟩ := hMt.sets.clear
  obtain ⟨sa0, hsa0⟩ : ∃ q, Hid (L.sa = q) := ⟨_, Lib.hid rfl⟩
  rw [hsa0.out] at hI hc4
  have hcase : (sa0 = none ∧ S = 0) ∨ ∃ g, sa0 = some ⟨g, 0, none⟩ := by
    cases hh : sa0 with
    | none => left; have := (hn00 (hsa0.out.trans hh)).1; rw [← hS.out]; exact ⟨rfl, this⟩
    | some q => right; obtain ⟨g, e⟩ := hsm00 q (hsa0.out.trans hh); exact ⟨g, by rw [e]⟩
  clear hcl0 hn00 hsm00 hsa0
  clear hM hMt hok hok1 hb1 hq1 hwf ho hnow hcv
  rcases hcase with ⟨rfl, hS0⟩ | ⟨g, rfl⟩
  · go_enter Try.func47, Try.ntmps47
    go_wp2_with (fail)
    rw [hS.out]
    generalize W.setCell ⟨mb, 1, none⟩ (.int .i64 ((m.now : Int) + 1)) = W1 at hI hc4 ⊢
    clear hc1 hf1 hbl hc4
    go_loopw [18] (fun kv wr => StpI B W mb ns c.toNat none L.sc m.sets X kv wr) (fun kv _ => S - (intOf kv).toNat)
    case atStart => exact hI
    case round =>
      obtain ⟨L2, m2, k, rfl, hk, hsa, hsc, hss, hM2, hb2, hok2, hq2, hX2⟩ := hrel
      have HX2 := Lib.hid hX2
      have hSl := hS.out
      have hsm := hM2.small
      clear hX2 hI
      obtain ⟨hcl, hn0, hsm0, hle1, hle2⟩ := hM2.sets.clear
      by_cases hlt : k < S
      · omega
      · obtain rfl : k = S := by omega
        have hXe : Hid (X = m2) := Lib.hid (by rw [← HX2.out, List.drop_eq_nil_of_le (by omega)]; rfl)
        have hklI : ¬ (k : Int) < (k : Int) := by omega
        have hc4 := hM2.box.cell 4
        simp only [List.getElem?_cons_zero, List.getElem?_cons_succ] at hc4
        rw [hss, hSl] at hc4
        have hf4 := hM2.box.frozen 4
        have hbl := hM2.box.lt
        have HM := Lib.hid hM2
        have Hcl := Lib.hid hcl
        rw [hsa, hsc] at hc4
        have hMc := HM.out.clearSets
        rw [hsa, hsc] at hMc
        have hokc : OkM ns { m2 with sets := [] } := ⟨hok2.opn, fun i hi => (by cases hi), hok2.len⟩
        have hbc : Below B W (wr.setCell ⟨mb, 4, none⟩ (.slice none 0 L.sc)) := hb2.setCell (p := ⟨mb, 4, none⟩) HM.out.hb.1 (.slice none 0 L.sc)
        have hgo := goOn_any B _ mb ns L2 _ (2 * ns.length) hMc HW.out hokc (Nat.le_trans hB hbc.size) (by have : qM { m2 with sets := [] } = qM m2 := rfl; rw [this]; simpa using hq2) (by have : qM { m2 with sets := [] } = qM m2 := rfl; rw [this]; exact hq2)
        have Hgo := Lib.hid hgo
        clear hgo hMc hokc
        go_wp2_with (go_at_call 68; (with_reducible refine Hgo.out.mono ?_); rintro e w9 ⟨rfl, L9, hM9, hb9⟩)
        first | go_end0 | refine bodyPost_ret (results_none rfl _ _ _) rfl ?_
        exact ⟨rfl, by rw [hE.out, hXe.out]; exact ⟨L9, hM9, hbc.trans hb9⟩⟩
  · go_enter Try.func47, Try.ntmps47
    go_wp2_with (fail)
    rw [hS.out]
    generalize W.setCell ⟨mb, 1, none⟩ (.int .i64 ((m.now : Int) + 1)) = W1 at hI hc4 ⊢
    clear hc1 hf1 hbl hc4
    go_loopw [18] (fun kv wr => StpI B W mb ns c.toNat (some ⟨g, 0, none⟩) L.sc m.sets X kv wr) (fun kv _ => S - (intOf kv).toNat)
    case atStart => exact hI
    case round =>
      obtain ⟨L2, m2, k, rfl, hk, hsa, hsc, hss, hM2, hb2, hok2, hq2, hX2⟩ := hrel
      have HX2 := Lib.hid hX2
      have hSl := hS.out
      have hsm := hM2.small
      clear hX2 hI
      obtain ⟨hcl, hn0, hsm0, hle1, hle2⟩ := hM2.sets.clear
      by_cases hlt : k < S
      · have hkl : k < m.sets.length := by omega
        have hklI : (k : Int) < (S : Int) := by omega
        have hkb : (k : Int) ≤ 549755813888 := by have := hM2.sbd; rw [hss] at this; omega
        obtain ⟨i, hi⟩ : ∃ i, Hid (m.sets[k] = i) := ⟨_, Lib.hid rfl⟩
        have hget : m.sets[k]? = some i := by rw [List.getElem?_eq_getElem hkl, hi.out]
        have hil : i < ns.length := hok2.sets i (by rw [hss]; exact List.mem_of_getElem? hget)
        have hcell : wr.cell? ⟨g, k, none⟩ = some (iv i) := by
          have hown := hM2.sets
          rw [hsa, hss] at hown
          have := World.ownsRow.cellAt hown k (by omega)
          rw [this, List.getElem?_map, hget]; rfl
        have hd : m.sets.drop k = i :: m.sets.drop (k + 1) := by
          rw [List.drop_eq_getElem_cons hkl, hi.out]
        obtain ⟨x, hxd⟩ : ∃ x, Hid (ns.getD i nod0 = x) := ⟨_, Lib.hid rfl⟩
        have hx := getD_of hil
        rw [hxd.out] at hx
        obtain ⟨-, hwd, -, -⟩ := hM2.nodes i x hx
        have hXe : Hid (X = hitM ns c.toNat (m.sets.drop (k + 1)) (if hasW x.f c.toNat then meetP (2 * i + 1) m2 else m2)) := Lib.hid (by rw [← HX2.out, hd, hitM, hxd.out])
        have hc0 := hM2.box.cell 0
        simp only [List.getElem?_cons_zero] at hc0
        have hbl := hM2.box.lt
        obtain ⟨hn1, hn2⟩ := hM2.ncap
        obtain ⟨N, hN⟩ : ∃ N, Hid (ns.length = N) := ⟨_, Lib.hid rfl⟩
        rw [hN.out] at hc0 hn1
        have hiN : (i : Int) < (N : Int) := by rw [← hN.out]; omega
        have hh := has_any wr L2.nb (L2.no + i * 7 + 1) x.f c.toNat hu hwd
        have hgl : g < wr.heap.size := World.block_lt_of_cell? wr _ hcell
        have HM := Lib.hid hM2
        have Hil := Lib.hid hil
        clear hM2 hcl hn0 hsm0 hget hd hx hwd hil
        by_cases hhit : hasW x.f c.toNat = true
        · rw [hhit] at hh
          go_wp2_with (go_at_call 55; (with_reducible refine hh.mono ?_); rintro e w3 ⟨rfl, hb3⟩)
          have hM3 := HM.out.grown hb3
          refine (endOf_I w3 i _ rfl (by have := Hil.out; omega)).mono ?_
          rintro e v ⟨rfl, hv⟩
          subst v
          go_wp2_with (fail)
          refine (meet_I B w3 mb ns L2 m2 (2 * i + 1) _ (by push_cast; rfl) hM3 (by have := Hil.out; omega) (Nat.le_trans (Nat.le_trans hB hb2.size) hb3.size)).mono ?_
          rintro e v ⟨rfl, a5, c5, hm5, hb5⟩
          obtain ⟨ok5, q5, s5⟩ := meetP_ok (st := 2 * i + 1) hok2 (by have := Hil.out; omega)
          go_wp2_with (fail)
          refine ⟨⟨{ L2 with oa := a5, oc := c5 }, meetP (2 * i + 1) m2, k + 1, by simp, by omega, hsa, hsc, s5.trans hss, hm5, (hb2.trans (hb3.mono (Nat.le_trans hB hb2.size))).trans hb5, ok5, by omega, by rw [hXe.out, hhit]; rfl⟩, by simp [intOf]; omega⟩
        · rw [Bool.not_eq_true] at hhit
          rw [hhit] at hh
          go_wp2_with (go_at_call 55; (with_reducible refine hh.mono ?_); rintro e w3 ⟨rfl, hb3⟩)
          have hM3 := HM.out.grown hb3
          refine ⟨⟨L2, m2, k + 1, by simp, by omega, hsa, hsc, hss, hM3, hb2.trans (hb3.mono (Nat.le_trans hB hb2.size)), hok2, hq2, by rw [hXe.out, hhit]; rfl⟩, by simp [intOf]; omega⟩
      · obtain rfl : k = S := by omega
        have hXe : Hid (X = m2) := Lib.hid (by rw [← HX2.out, List.drop_eq_nil_of_le (by omega)]; rfl)
        have hklI : ¬ (k : Int) < (k : Int) := by omega
        have hc4 := hM2.box.cell 4
        simp only [List.getElem?_cons_zero, List.getElem?_cons_succ] at hc4
        rw [hss, hSl] at hc4
        have hf4 := hM2.box.frozen 4
        have hbl := hM2.box.lt
        have HM := Lib.hid hM2
        have Hcl := Lib.hid hcl
        rw [hsa, hsc] at hc4
        have hMc := HM.out.clearSets
        rw [hsa, hsc] at hMc
        have hokc : OkM ns { m2 with sets := [] } := ⟨hok2.opn, fun i hi => (by cases hi), hok2.len⟩
        have hbc : Below B W (wr.setCell ⟨mb, 4, none⟩ (.slice (some ⟨g, 0, none⟩) 0 L.sc)) := hb2.setCell (p := ⟨mb, 4, none⟩) HM.out.hb.1 (.slice (some ⟨g, 0, none⟩) 0 L.sc)
        have hgo := goOn_any B _ mb ns L2 _ (2 * ns.length) hMc HW.out hokc (Nat.le_trans hB hbc.size) (by have : qM { m2 with sets := [] } = qM m2 := rfl; rw [this]; simpa using hq2) (by have : qM { m2 with sets := [] } = qM m2 := rfl; rw [this]; exact hq2)
        have Hgo := Lib.hid hgo
        clear hgo hMc hokc
        go_wp2_with (go_at_call 68; (with_reducible refine Hgo.out.mono ?_); rintro e w9 ⟨rfl, L9, hM9, hb9⟩)
        first | go_end0 | refine bodyPost_ret (results_none rfl _ _ _) rfl ?_
        exact ⟨rfl, by rw [hE.out, hXe.out]; exact ⟨L9, hM9, hbc.trans hb9⟩⟩
end Go.Proofs.Ytkdfobnkebkpfaa
