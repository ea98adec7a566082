/- Texts joined: An. -/
import Derived.Test.YtngbfjimmdkfeaaPBAr
import Derived.Test.YtngbfjimmdkfeaaPBN4
set_option linter.unusedVariables false
set_option linter.unusedSimpArgs false
namespace Go.Proofs.Ytngbfjimmdkfeaa
open Go.ChangeShapes Go.WideShapes Go.ChangeAt Go.RowKit

theorem edge_cells : Try.prog.cellsOf 61 = 3 := by kernel_rfl
theorem nfa_cells : Try.prog.cellsOf 32 = 4 := by kernel_rfl
theorem ints_cells : Try.prog.cellsOf 23 = 1 := by kernel_rfl
theorem edges_cells : Try.prog.cellsOf 30 = 1 := by kernel_rfl
theorem glist_of {α : Type} {P : Nat → α → Prop} : ∀ n, (∀ i, i < n → ∃ s, P i s) → ∃ l : List α, l.length = n ∧ ∀ i (h : i < l.length), P i l[i] := by
  intro n
  induction n with
  | zero => intro _; exact ⟨[], rfl, fun i h => by simp at h⟩
  | succ n ih =>
    intro h
    obtain ⟨l, h1, h2⟩ := ih (fun i hi => h i (by omega))
    obtain ⟨s, hs⟩ := h n (by omega)
    refine ⟨l ++ [s], by simp [h1], fun i hi => ?_⟩
    by_cases hi2 : i < l.length
    · rw [List.getElem_append_left hi2]; exact h2 i hi2
    · have : i = l.length := by simp at hi; omega
      subst this
      rw [List.getElem_append_right (Nat.le_refl _)]
      simp only [Nat.sub_self, List.getElem_cons_zero]
      rw [h1]; exact hs

set_option maxRecDepth 100000 in
/-- A list of numbers, read. -/
theorem open_intl {H : Type} {enc : TypeId × Value → H} {W : World} {base : Nat} {sp : Nat → Bool} {hd : Bool} (fuel : Nat) (cs : List Value) (x : DataW H × List MemPlace) (h : DataW.trod enc Try.prog W base sp hd fuel 23 cs = some x) :
    ∃ (a : Option Addr) (cap : Nat) (l : List Int), cs = [.slice a l.length cap] ∧ Ints W a cap l := by
  rcases DataW.trod_slice Try.underlying23 h with ⟨e3, _⟩ | ⟨a, len, cap, elems, rest, n', hn, e3, _, hb, hle, hm, hel, hcell, _, _⟩
  · exact ⟨none, 0, [], by rw [e3]; rfl, Ints.nil W⟩
  · have hmax : maxLen ≤ 9223372036854775807 := by decide
    have each : ∀ i, i < len → ∃ s : Int, W.cell? ((a.add (i * 1)).add 0) = some (.int .i64 s) := by
      intro i hi
      have hc := hcell i hi
      rw [List.getElem?_eq_getElem (by omega), int_cells, Option.bind_eq_some_iff] at hc
      obtain ⟨cs', hcs, ht⟩ := hc
      obtain ⟨k, e0, _, _⟩ := DataW.trod_int Try.underlying3 ht
      subst e0
      exact ⟨k, (World.cells?_some hcs).2.2 0 (by omega)⟩
    by_cases h0 : len = 0
    · subst h0
      exact ⟨some a, cap, [], by rw [e3]; rfl, ⟨by simp, by omega, fun e => (by cases e), fun i h => by simp at h, fun b off e i h => by simp at h⟩⟩
    · obtain ⟨b, off, spot⟩ := a
      have hspot : spot = none := by
        obtain ⟨s, hc⟩ := each 0 (by omega)
        simpa [Addr.add] using World.cell?_spot hc
      subst hspot
      have each2 : ∀ i, i < len → ∃ s : Int, W.cell? ⟨b, off + i, none⟩ = some (.int .i64 s) := by
        intro i hi
        obtain ⟨s, hc⟩ := each i hi
        rw [add_plain, add_plain, Nat.mul_one, Nat.add_zero] at hc
        exact ⟨s, hc⟩
      obtain ⟨l, hl1, hl2⟩ := glist_of len each2
      refine ⟨some ⟨b, off, none⟩, cap, l, by rw [e3, hl1], ⟨by omega, by omega, fun e => (by cases e), fun i _ => ⟨b, off, rfl⟩, fun b' off' e i hi => ?_⟩⟩
      cases e
      exact hl2 i hi

set_option maxRecDepth 100000 in
theorem open_edge {H : Type} {enc : TypeId × Value → H} {W : World} {base : Nat} {sp : Nat → Bool} {hd : Bool} (fuel : Nat) (cs : List Value) (x : DataW H × List MemPlace) (h : DataW.trod enc Try.prog W base sp hd fuel 61 cs = some x) :
    ∃ (e : Eg) (sa : Option Addr) (sc : Nat), cs = [.int .i64 e.f, .int .i64 e.t, .slice sa e.q.length sc] ∧ Sps W sa sc e.q := by
  obtain ⟨xs, n, rfl, rfl, hl, hlen, hf⟩ := DataW.trod_struct Try.underlying61 h
  rw [edge_cells] at hl
  obtain ⟨v0, v1, v2, rfl⟩ : ∃ v0 v1 v2, cs = [v0, v1, v2] := by
    match cs, hl with
    | [v0, v1, v2], _ => exact ⟨v0, v1, v2, rfl⟩
  obtain ⟨y0, y1, y2, rfl⟩ : ∃ y0 y1 y2, xs = [y0, y1, y2] := by
    match xs, hlen with
    | [y0, y1, y2], _ => exact ⟨y0, y1, y2, rfl⟩
  have h0 := hf 0 _ rfl
  have h1 := hf 1 _ rfl
  have h2 := hf 2 _ rfl
  simp only [int_cells, spans_cells, List.drop_zero, List.drop_succ_cons, List.take_succ_cons, List.take_zero, List.getElem?_cons_zero, List.getElem?_cons_succ] at h0 h1 h2
  obtain ⟨k, e0, _, _⟩ := DataW.trod_int Try.underlying3 h0
  injection e0 with e0 _
  subst e0
  obtain ⟨m, e1, _, _⟩ := DataW.trod_int Try.underlying3 h1
  injection e1 with e1 _
  subst e1
  obtain ⟨sa, sc, l, e2, hS⟩ := open_spans _ _ _ h2
  injection e2 with e2 _
  subst e2
  exact ⟨⟨k, m, l⟩, sa, sc, rfl, hS⟩

set_option maxRecDepth 100000 in
/-- A list of edges, read. -/
theorem open_edgel {H : Type} {enc : TypeId × Value → H} {W : World} {base : Nat} {sp : Nat → Bool} {hd : Bool} (fuel : Nat) (cs : List Value) (x : DataW H × List MemPlace) (h : DataW.trod enc Try.prog W base sp hd fuel 30 cs = some x) :
    ∃ (a : Option Addr) (cap : Nat) (l : List Eg), cs = [.slice a l.length cap] ∧ Egs W a cap l := by
  rcases DataW.trod_slice Try.underlying30 h with ⟨e3, _⟩ | ⟨a, len, cap, elems, rest, n', hn, e3, _, hb, hle, hm, hel, hcell, _, _⟩
  · exact ⟨none, 0, [], by rw [e3]; rfl, Egs.nil W⟩
  · have hmax : maxLen ≤ 9223372036854775807 := by decide
    have each : ∀ i, i < len → ∃ (e : Eg) (sa : Option Addr) (sc : Nat), (∀ j, j < 3 → W.cell? ((a.add (i * 3)).add j) = [.int .i64 e.f, .int .i64 e.t, .slice sa e.q.length sc][j]?) ∧ Sps W sa sc e.q := by
      intro i hi
      have hc := hcell i hi
      rw [List.getElem?_eq_getElem (by omega), edge_cells, Option.bind_eq_some_iff] at hc
      obtain ⟨cs', hcs, ht⟩ := hc
      obtain ⟨e, sa, sc, rfl, hS⟩ := open_edge n' cs' _ ht
      exact ⟨e, sa, sc, fun j hj => (World.cells?_some hcs).2.2 j hj, hS⟩
    by_cases h0 : len = 0
    · subst h0
      exact ⟨some a, cap, [], by rw [e3]; rfl, ⟨by simp, by omega, fun e => (by cases e), fun i h => by simp at h, fun b off e i h => by simp at h⟩⟩
    · obtain ⟨b, off, spot⟩ := a
      have hspot : spot = none := by
        obtain ⟨e, sa, sc, hc, _⟩ := each 0 (by omega)
        have := hc 0 (by omega)
        simpa [Addr.add] using World.cell?_spot this
      subst hspot
      have each2 : ∀ i, i < len → ∃ e : Eg, W.cell? ⟨b, off + i * 3, none⟩ = some (.int .i64 e.f) ∧ W.cell? ⟨b, off + i * 3 + 1, none⟩ = some (.int .i64 e.t) ∧ ∃ sa sc, W.cell? ⟨b, off + i * 3 + 2, none⟩ = some (.slice sa e.q.length sc) ∧ Sps W sa sc e.q := by
        intro i hi
        obtain ⟨e, sa, sc, hc, hS⟩ := each i hi
        have hc' : ∀ q, q < 3 → W.cell? ⟨b, off + i * 3 + q, none⟩ = [.int .i64 e.f, .int .i64 e.t, .slice sa e.q.length sc][q]? := fun q hq => by
          have := hc q hq
          rwa [add_plain, add_plain] at this
        exact ⟨e, hc' 0 (by omega), hc' 1 (by omega), sa, sc, hc' 2 (by omega), hS⟩
      obtain ⟨l, hl1, hl2⟩ := glist_of len each2
      refine ⟨some ⟨b, off, none⟩, cap, l, by rw [e3, hl1], ⟨by omega, by omega, fun e => (by cases e), fun i _ => ⟨b, off, rfl⟩, fun b' off' e i hi => ?_⟩⟩
      cases e
      exact hl2 i hi

set_option maxRecDepth 100000 in
/-- An automaton, opened. -/
theorem open_nfa {H : Type} {enc : TypeId × Value → H} {W : World} {v : Value} {d : DataW H} {ps : List MemPlace} (hok : Value.okWide Try.prog W .any 0 32 v) (h : DataW.Trod enc Try.prog W 0 (fun _ => true) true 32 v d ps) :
    ∃ (x : Nf) (p : NfL), v = .agg #[.int .i64 x.n, .int .i64 x.s, .slice p.ea x.ends.length p.ec, .slice p.ga x.es.length p.gc] ∧ NfAt W x p := by
  obtain ⟨cs, rfl, _⟩ := okWide_struct Try.underlying32 hok
  obtain ⟨fuel, hf⟩ := h
  obtain ⟨xs, n, rfl, _, hl, hlen, hf⟩ := DataW.trod_struct Try.underlying32 hf
  rw [nfa_cells] at hl
  obtain ⟨v0, v1, v2, v3, hv⟩ : ∃ v0 v1 v2 v3, cs.toList = [v0, v1, v2, v3] := by
    match hc : cs.toList, (show cs.toList.length = 4 from hl) with
    | [v0, v1, v2, v3], _ => exact ⟨v0, v1, v2, v3, rfl⟩
  obtain ⟨y0, y1, y2, y3, rfl⟩ : ∃ y0 y1 y2 y3, xs = [y0, y1, y2, y3] := by
    match xs, hlen with
    | [y0, y1, y2, y3], _ => exact ⟨y0, y1, y2, y3, rfl⟩
  have h0 := hf 0 _ rfl
  have h1 := hf 1 _ rfl
  have h2 := hf 2 _ rfl
  have h3 := hf 3 _ rfl
  have hv' : (Value.agg cs).cells.toList = [v0, v1, v2, v3] := hv
  rw [show (Value.agg cs).cells.toList = [v0, v1, v2, v3] from hv] at h0 h1 h2 h3
  simp only [int_cells, ints_cells, edges_cells, List.drop_zero, List.drop_succ_cons, List.take_succ_cons, List.take_zero, List.getElem?_cons_zero, List.getElem?_cons_succ] at h0 h1 h2 h3
  obtain ⟨k, e0, _, _⟩ := DataW.trod_int Try.underlying3 h0
  injection e0 with e0 _
  subst e0
  obtain ⟨m, e1, _, _⟩ := DataW.trod_int Try.underlying3 h1
  injection e1 with e1 _
  subst e1
  obtain ⟨ea, ec, l, e2, hE⟩ := open_intl _ _ _ h2
  injection e2 with e2 _
  subst e2
  obtain ⟨ga, gc, es, e3, hG⟩ := open_edgel _ _ _ h3
  injection e3 with e3 _
  subst e3
  refine ⟨⟨k, m, l, es⟩, ⟨ea, ec, ga, gc⟩, ?_, ⟨hE, hG⟩⟩
  cases cs
  simp only at hv
  rw [hv]
end Go.Proofs.Ytngbfjimmdkfeaa

