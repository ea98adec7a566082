/- Texts joined: Ek. -/
import Derived.Test.YtngbfjimmdkfeaaJAn
import Derived.Test.YtngbfjimmdkfeaaJD1
set_option linter.unusedVariables false
set_option linter.unusedSimpArgs false
namespace Go.Proofs.Ytngbfjimmdkfeaa
open Go.ChangeShapes Go.WideShapes Go.ChangeAt Go.RowKit

theorem move_cells : Try.prog.cellsOf 57 = 3 := by kernel_rfl
theorem moves_cells : Try.prog.cellsOf 58 = 1 := by kernel_rfl
theorem movess_cells : Try.prog.cellsOf 22 = 1 := by kernel_rfl
theorem dfa_cells : Try.prog.cellsOf 25 = 2 := by kernel_rfl

set_option maxRecDepth 100000 in
theorem open_move {H : Type} {enc : TypeId × Value → H} {W : World} {base : Nat} {sp : Nat → Bool} {hd : Bool} (fuel : Nat) (cs : List Value) (x : DataW H × List MemPlace) (h : DataW.trod enc Try.prog W base sp hd fuel 57 cs = some x) :
    ∃ m : Mv, cs = m.cells ∧ m.lo < 256 ∧ m.hi < 256 := by
  obtain ⟨xs, n, rfl, rfl, hl, hlen, hf⟩ := DataW.trod_struct Try.underlying57 h
  rw [move_cells] at hl
  obtain ⟨v0, v1, v2, rfl⟩ : ∃ v0 v1 v2, cs = [v0, v1, v2] := by
    match cs, hl with
    | [v0, v1, v2], _ => exact ⟨v0, v1, v2, rfl⟩
  obtain ⟨y0, y1, y2, rfl⟩ : ∃ y0 y1 y2, xs = [y0, y1, y2] := by
    match xs, hlen with
    | [y0, y1, y2], _ => exact ⟨y0, y1, y2, rfl⟩
  have h0 := hf 0 _ rfl
  have h1 := hf 1 _ rfl
  have h2 := hf 2 _ rfl
  simp only [u8_cells, int_cells, List.drop_zero, List.drop_succ_cons, List.take_succ_cons, List.take_zero, List.getElem?_cons_zero, List.getElem?_cons_succ] at h0 h1 h2
  obtain ⟨k, e0, _, w0⟩ := DataW.trod_int Try.underlying5 h0
  obtain ⟨m, e1, _, w1⟩ := DataW.trod_int Try.underlying5 h1
  obtain ⟨t, e2, _, _⟩ := DataW.trod_int Try.underlying3 h2
  injection e0 with e0 _
  injection e1 with e1 _
  injection e2 with e2 _
  subst e0 e1 e2
  simp [Lit.wf, IntKind.min, IntKind.max, IntKind.signed, IntKind.bits] at w0 w1
  refine ⟨⟨k.toNat, m.toNat, t⟩, ?_, (by show k.toNat < 256; omega), (by show m.toNat < 256; omega)⟩
  have e0 : ((k.toNat : Nat) : Int) = k := by omega
  have e1 : ((m.toNat : Nat) : Int) = m := by omega
  show _ = [Value.int .u8 ((k.toNat : Nat) : Int), Value.int .u8 ((m.toNat : Nat) : Int), Value.int .i64 t]
  rw [e0, e1]

set_option maxRecDepth 100000 in
theorem open_movel {H : Type} {enc : TypeId × Value → H} {W : World} {base : Nat} {sp : Nat → Bool} {hd : Bool} (fuel : Nat) (cs : List Value) (x : DataW H × List MemPlace) (h : DataW.trod enc Try.prog W base sp hd fuel 58 cs = some x) :
    ∃ d : MvD, cs = [d.v] ∧ Mvs W d.a d.c d.l := by
  rcases DataW.trod_slice Try.underlying58 h with ⟨e3, _⟩ | ⟨a, len, cap, elems, rest, n', hn, e3, _, hb, hle, hm, hel, hcell, _, _⟩
  · exact ⟨⟨[], none, 0⟩, by rw [e3]; rfl, Mvs.nil W⟩
  · have hmax : maxLen ≤ 9223372036854775807 := by decide
    have each : ∀ i, i < len → ∃ m : Mv, (∀ j, j < 3 → W.cell? ((a.add (i * 3)).add j) = m.cells[j]?) ∧ m.lo < 256 ∧ m.hi < 256 := by
      intro i hi
      have hc := hcell i hi
      rw [List.getElem?_eq_getElem (by omega), move_cells, Option.bind_eq_some_iff] at hc
      obtain ⟨cs', hcs, ht⟩ := hc
      obtain ⟨m, rfl, hA⟩ := open_move n' cs' _ ht
      exact ⟨m, fun j hj => (World.cells?_some hcs).2.2 j hj, hA⟩
    by_cases h0 : len = 0
    · subst h0
      exact ⟨⟨[], some a, cap⟩, by rw [e3]; rfl, ⟨by simp, (show cap ≤ 9223372036854775807 by omega), fun e => (by cases e), fun i h => by simp at h, fun b off e i h => by simp at h⟩⟩
    · obtain ⟨b, off, spot⟩ := a
      have hspot : spot = none := by
        obtain ⟨r, hc, _⟩ := each 0 (by omega)
        have := hc 0 (by omega)
        simpa [Addr.add] using World.cell?_spot this
      subst hspot
      have each2 : ∀ i, i < len → ∃ m : Mv, (W.cell? ⟨b, off + i * 3, none⟩ = some (.int .u8 (m.lo : Int)) ∧ W.cell? ⟨b, off + i * 3 + 1, none⟩ = some (.int .u8 (m.hi : Int)) ∧ W.cell? ⟨b, off + i * 3 + 2, none⟩ = some (.int .i64 m.to)) ∧ m.lo < 256 ∧ m.hi < 256 := by
        intro i hi
        obtain ⟨m, hc, hA⟩ := each i hi
        have hc' : ∀ q, q < 3 → W.cell? ⟨b, off + i * 3 + q, none⟩ = m.cells[q]? := fun q hq => by
          have := hc q hq
          rwa [add_plain, add_plain] at this
        exact ⟨m, ⟨hc' 0 (by omega), hc' 1 (by omega), hc' 2 (by omega)⟩, hA⟩
      obtain ⟨l, hl1, hl2⟩ := glist_of len each2
      refine ⟨⟨l, some ⟨b, off, none⟩, cap⟩, by rw [e3]; simp only [MvD.v, hl1], ⟨(show l.length ≤ cap by omega), (show cap ≤ 9223372036854775807 by omega), fun e => (by cases e), fun i _ => ⟨b, off, rfl⟩, fun b' off' e i hi => ?_⟩⟩
      cases e
      exact hl2 i hi

set_option maxRecDepth 100000 in
theorem open_movell {H : Type} {enc : TypeId × Value → H} {W : World} {base : Nat} {sp : Nat → Bool} {hd : Bool} (fuel : Nat) (cs : List Value) (x : DataW H × List MemPlace) (h : DataW.trod enc Try.prog W base sp hd fuel 22 cs = some x) :
    ∃ (ds : List MvD) (a : Option Addr) (c : Nat), cs = [.slice a ds.length c] ∧ Mrs W a c ds := by
  rcases DataW.trod_slice Try.underlying22 h with ⟨e3, _⟩ | ⟨a, len, cap, elems, rest, n', hn, e3, _, hb, hle, hm, hel, hcell, _, _⟩
  · exact ⟨[], none, 0, by rw [e3]; rfl, Mrs.nil W⟩
  · have hmax : maxLen ≤ 9223372036854775807 := by decide
    have each : ∀ i, i < len → ∃ d : MvD, W.cell? ((a.add (i * 1)).add 0) = some d.v ∧ Mvs W d.a d.c d.l := by
      intro i hi
      have hc := hcell i hi
      rw [List.getElem?_eq_getElem (by omega), moves_cells, Option.bind_eq_some_iff] at hc
      obtain ⟨cs', hcs, ht⟩ := hc
      obtain ⟨d, rfl, hN⟩ := open_movel n' cs' _ ht
      exact ⟨d, (World.cells?_some hcs).2.2 0 (by omega), hN⟩
    by_cases h0 : len = 0
    · subst h0
      exact ⟨[], some a, cap, by rw [e3]; rfl, ⟨by simp, by omega, fun e => (by cases e), fun i h => by simp at h, fun b off e i h => by simp at h, fun r hr => (by cases hr)⟩⟩
    · obtain ⟨b, off, spot⟩ := a
      have hspot : spot = none := by
        obtain ⟨s, hc, _⟩ := each 0 (by omega)
        simpa [Addr.add] using World.cell?_spot hc
      subst hspot
      have each2 : ∀ i, i < len → ∃ d : MvD, W.cell? ⟨b, off + i, none⟩ = some d.v ∧ Mvs W d.a d.c d.l := by
        intro i hi
        obtain ⟨s, hc, hN⟩ := each i hi
        rw [add_plain, add_plain, Nat.mul_one, Nat.add_zero] at hc
        exact ⟨s, hc, hN⟩
      obtain ⟨l, hl1, hl2⟩ := glist_of len each2
      refine ⟨l, some ⟨b, off, none⟩, cap, by rw [e3, hl1], ⟨by omega, by omega, fun e => (by cases e), fun i _ => ⟨b, off, rfl⟩, fun b' off' e i hi => ?_, fun d hd => ?_⟩⟩
      · cases e
        exact (hl2 i hi).1
      · obtain ⟨i, hi, rfl⟩ := List.getElem_of_mem hd
        exact (hl2 i hi).2

set_option maxRecDepth 100000 in
/-- An automaton with one way, opened. -/
theorem open_dfa {H : Type} {enc : TypeId × Value → H} {W : World} {v : Value} {d : DataW H} {ps : List MemPlace} (hok : Value.okWide Try.prog W .any 0 25 v) (h : DataW.Trod enc Try.prog W 0 (fun _ => true) true 25 v d ps) :
    ∃ (x : Df) (p : DfL), v = .agg #[.slice p.ma x.ms.length p.mc, .slice p.aa x.ac.length p.ac] ∧ DfAt W x p := by
  obtain ⟨cs, rfl, _⟩ := okWide_struct Try.underlying25 hok
  obtain ⟨fuel, hf⟩ := h
  obtain ⟨xs, n, rfl, _, hl, hlen, hf⟩ := DataW.trod_struct Try.underlying25 hf
  rw [dfa_cells] at hl
  obtain ⟨v0, v1, hv⟩ : ∃ v0 v1, cs.toList = [v0, v1] := by
    match hc : cs.toList, (show cs.toList.length = 2 from hl) with
    | [v0, v1], _ => exact ⟨v0, v1, rfl⟩
  obtain ⟨y0, y1, rfl⟩ : ∃ y0 y1, xs = [y0, y1] := by
    match xs, hlen with
    | [y0, y1], _ => exact ⟨y0, y1, rfl⟩
  have h0 := hf 0 _ rfl
  have h1 := hf 1 _ rfl
  rw [show (Value.agg cs).cells.toList = [v0, v1] from hv] at h0 h1
  simp only [movess_cells, ints_cells, List.drop_zero, List.drop_succ_cons, List.take_succ_cons, List.take_zero, List.getElem?_cons_zero, List.getElem?_cons_succ] at h0 h1
  obtain ⟨ds, a, c, e0, hM⟩ := open_movell _ _ _ h0
  injection e0 with e0 _
  subst e0
  obtain ⟨ea, ec, l, e1, hE⟩ := open_intl _ _ _ h1
  injection e1 with e1 _
  subst e1
  refine ⟨⟨ds.map MvD.l, l⟩, ⟨ds, a, c, ea, ec⟩, ?_, ⟨hM, rfl, hE⟩⟩
  cases cs
  simp only at hv
  rw [hv]
  simp only [List.length_map]
end Go.Proofs.Ytngbfjimmdkfeaa

