/- Layer 7: grammars among a law's arguments, opened. -/
import Derived.Test.YtoaabfdilhbajaaLaw
import Derived.Test.YtoaabfdilhbajaaXa
namespace Go.Proofs.Ytoaabfdilhbajaa
open Go.ChangeShapes Go.WideShapes Go.ChangeAt Go.RowKit

theorem str_cells : Try.prog.cellsOf 9 = 1 := by kernel_rfl
theorem strs_cells : Try.prog.cellsOf 37 = 1 := by kernel_rfl
theorem strss_cells : Try.prog.cellsOf 38 = 1 := by kernel_rfl
theorem rule_cells : Try.prog.cellsOf 40 = 2 := by kernel_rfl
theorem rules_cells : Try.prog.cellsOf 22 = 1 := by kernel_rfl
theorem gram_cells : Try.prog.cellsOf 24 = 1 := by kernel_rfl
theorem row_of {α : Type} {P : Nat → α → Prop} : ∀ n, (∀ i, i < n → ∃ s, P i s) → ∃ l : List α, l.length = n ∧ ∀ i (h : i < l.length), P i l[i] := by
  intro n
  induction n with
  | zero => intro _; exact ⟨[], rfl, fun i h => by simp at h⟩
  | succ n ih =>
    intro h
    obtain ⟨l, h1, h2⟩ := ih (fun i hi => h i (by omega))
    obtain ⟨s, hs⟩ := h n (by omega)
    refine ⟨l ++ [s], by simp [h1], fun i hi => ?_⟩
    by_cases hi2 : i < l.length
    · rw [List.getElem_append_left hi2]; exact h2 i hi2
    · have : i = l.length := by simp at hi; omega
      subst this
      rw [List.getElem_append_right (Nat.le_refl _)]
      simp only [Nat.sub_self, List.getElem_cons_zero]
      rw [h1]; exact hs

set_option maxRecDepth 100000 in
theorem open_strl {H : Type} {enc : TypeId × Value → H} {W : World} {base : Nat} {sp : Nat → Bool} {hd : Bool} (fuel : Nat) (cs : List Value) (x : DataW H × List MemPlace) (h : DataW.trod enc Try.prog W base sp hd fuel 37 cs = some x) :
    ∃ d : AltD, cs = [.slice d.a d.l.length d.c] ∧ Nms W d.a d.c d.l := by
  rcases DataW.trod_slice Try.underlying37 h with ⟨e3, _⟩ | ⟨a, len, cap, elems, rest, n', hn, e3, _, hb, hle, hm, hel, hcell, _, _⟩
  · exact ⟨⟨[], none, 0⟩, by rw [e3]; rfl, Vs.nil W⟩
  · have hmax : maxLen ≤ 9223372036854775807 := by decide
    have each : ∀ i, i < len → ∃ s : ByteArray, W.cell? ((a.add (i * 1)).add 0) = some (.string s) := by
      intro i hi
      have hc := hcell i hi
      rw [List.getElem?_eq_getElem (by omega), str_cells, Option.bind_eq_some_iff] at hc
      obtain ⟨cs', hcs, ht⟩ := hc
      obtain ⟨s, e0, _, _⟩ := DataW.trod_string Try.underlying9 ht
      subst e0
      exact ⟨s, (World.cells?_some hcs).2.2 0 (by omega)⟩
    by_cases h0 : len = 0
    · subst h0
      exact ⟨⟨[], some a, cap⟩, by rw [e3]; rfl, ⟨by simp, (show cap ≤ 9223372036854775807 by omega), fun e => (by cases e), fun i h => by simp at h, fun b off e i h => by simp at h⟩⟩
    · obtain ⟨b, off, spot⟩ := a
      have hspot : spot = none := by
        obtain ⟨s, hc⟩ := each 0 (by omega)
        simpa [Addr.add] using World.cell?_spot hc
      subst hspot
      have each2 : ∀ i, i < len → ∃ s : ByteArray, W.cell? ⟨b, off + i, none⟩ = some (.string s) := by
        intro i hi
        obtain ⟨s, hc⟩ := each i hi
        rw [add_plain, add_plain, Nat.mul_one, Nat.add_zero] at hc
        exact ⟨s, hc⟩
      obtain ⟨l, hl1, hl2⟩ := row_of len each2
      refine ⟨⟨l, some ⟨b, off, none⟩, cap⟩, by rw [e3, hl1], ⟨by rw [List.length_map]; exact (show l.length ≤ cap by omega), (show cap ≤ 9223372036854775807 by omega), fun e => (by cases e), fun i _ => ⟨b, off, rfl⟩, fun b' off' e i hi => ?_⟩⟩
      cases e
      rw [List.getElem_map]
      exact hl2 i (by rwa [List.length_map] at hi)

set_option maxRecDepth 100000 in
theorem open_strll {H : Type} {enc : TypeId × Value → H} {W : World} {base : Nat} {sp : Nat → Bool} {hd : Bool} (fuel : Nat) (cs : List Value) (x : DataW H × List MemPlace) (h : DataW.trod enc Try.prog W base sp hd fuel 38 cs = some x) :
    ∃ (ds : List AltD) (a : Option Addr) (c : Nat), cs = [.slice a ds.length c] ∧ Alts W a c ds := by
  rcases DataW.trod_slice Try.underlying38 h with ⟨e3, _⟩ | ⟨a, len, cap, elems, rest, n', hn, e3, _, hb, hle, hm, hel, hcell, _, _⟩
  · exact ⟨[], none, 0, by rw [e3]; rfl, Alts.nil W⟩
  · have hmax : maxLen ≤ 9223372036854775807 := by decide
    have each : ∀ i, i < len → ∃ d : AltD, W.cell? ((a.add (i * 1)).add 0) = some d.v ∧ Nms W d.a d.c d.l := by
      intro i hi
      have hc := hcell i hi
      rw [List.getElem?_eq_getElem (by omega), strs_cells, Option.bind_eq_some_iff] at hc
      obtain ⟨cs', hcs, ht⟩ := hc
      obtain ⟨d, rfl, hN⟩ := open_strl n' cs' _ ht
      exact ⟨d, (World.cells?_some hcs).2.2 0 (by omega), hN⟩
    by_cases h0 : len = 0
    · subst h0
      exact ⟨[], some a, cap, by rw [e3]; rfl, ⟨⟨by simp, by omega, fun e => (by cases e), fun i h => by simp at h, fun b off e i h => by simp at h⟩, fun d hd => by cases hd⟩⟩
    · obtain ⟨b, off, spot⟩ := a
      have hspot : spot = none := by
        obtain ⟨s, hc, _⟩ := each 0 (by omega)
        simpa [Addr.add] using World.cell?_spot hc
      subst hspot
      have each2 : ∀ i, i < len → ∃ d : AltD, W.cell? ⟨b, off + i, none⟩ = some d.v ∧ Nms W d.a d.c d.l := by
        intro i hi
        obtain ⟨s, hc, hN⟩ := each i hi
        rw [add_plain, add_plain, Nat.mul_one, Nat.add_zero] at hc
        exact ⟨s, hc, hN⟩
      obtain ⟨l, hl1, hl2⟩ := row_of len each2
      refine ⟨l, some ⟨b, off, none⟩, cap, by rw [e3, hl1], ⟨⟨by rw [List.length_map]; omega, by omega, fun e => (by cases e), fun i _ => ⟨b, off, rfl⟩, fun b' off' e i hi => ?_⟩, fun d hd => ?_⟩⟩
      · cases e
        rw [List.getElem_map]
        exact (hl2 i (by rwa [List.length_map] at hi)).1
      · obtain ⟨i, hi, rfl⟩ := List.getElem_of_mem hd
        exact (hl2 i hi).2

set_option maxRecDepth 100000 in
theorem open_rule {H : Type} {enc : TypeId × Value → H} {W : World} {base : Nat} {sp : Nat → Bool} {hd : Bool} (fuel : Nat) (cs : List Value) (x : DataW H × List MemPlace) (h : DataW.trod enc Try.prog W base sp hd fuel 40 cs = some x) :
    ∃ r : RlD, cs = r.cells ∧ Alts W r.a r.c r.ds := by
  obtain ⟨xs, n, rfl, rfl, hl, hlen, hf⟩ := DataW.trod_struct Try.underlying40 h
  rw [rule_cells] at hl
  obtain ⟨v0, v1, rfl⟩ : ∃ v0 v1, cs = [v0, v1] := by
    match cs, hl with
    | [v0, v1], _ => exact ⟨v0, v1, rfl⟩
  obtain ⟨y0, y1, rfl⟩ : ∃ y0 y1, xs = [y0, y1] := by
    match xs, hlen with
    | [y0, y1], _ => exact ⟨y0, y1, rfl⟩
  have h0 := hf 0 _ rfl
  have h1 := hf 1 _ rfl
  simp only [str_cells, strss_cells, List.drop_zero, List.drop_succ_cons, List.take_succ_cons, List.take_zero, List.getElem?_cons_zero, List.getElem?_cons_succ] at h0 h1
  obtain ⟨s, e0, _, _⟩ := DataW.trod_string Try.underlying9 h0
  injection e0 with e0 _
  subst e0
  obtain ⟨ds, a, c, e1, hA⟩ := open_strll _ _ _ h1
  injection e1 with e1 _
  subst e1
  exact ⟨⟨s, ds, a, c⟩, rfl, hA⟩

set_option maxRecDepth 100000 in
theorem open_rulel {H : Type} {enc : TypeId × Value → H} {W : World} {base : Nat} {sp : Nat → Bool} {hd : Bool} (fuel : Nat) (cs : List Value) (x : DataW H × List MemPlace) (h : DataW.trod enc Try.prog W base sp hd fuel 22 cs = some x) :
    ∃ (a : Option Addr) (cap : Nat) (l : List RlD), cs = [.slice a l.length cap] ∧ Rls W a cap l := by
  rcases DataW.trod_slice Try.underlying22 h with ⟨e3, _⟩ | ⟨a, len, cap, elems, rest, n', hn, e3, _, hb, hle, hm, hel, hcell, _, _⟩
  · exact ⟨none, 0, [], by rw [e3]; rfl, Rls.nil W⟩
  · have hmax : maxLen ≤ 9223372036854775807 := by decide
    have each : ∀ i, i < len → ∃ r : RlD, (∀ j, j < 2 → W.cell? ((a.add (i * 2)).add j) = r.cells[j]?) ∧ Alts W r.a r.c r.ds := by
      intro i hi
      have hc := hcell i hi
      rw [List.getElem?_eq_getElem (by omega), rule_cells, Option.bind_eq_some_iff] at hc
      obtain ⟨cs', hcs, ht⟩ := hc
      obtain ⟨r, rfl, hA⟩ := open_rule n' cs' _ ht
      exact ⟨r, fun j hj => (World.cells?_some hcs).2.2 j hj, hA⟩
    by_cases h0 : len = 0
    · subst h0
      exact ⟨some a, cap, [], by rw [e3]; rfl, ⟨by simp, by omega, fun e => (by cases e), fun i h => by simp at h, fun b off e i h => by simp at h, fun r hr => by cases hr⟩⟩
    · obtain ⟨b, off, spot⟩ := a
      have hspot : spot = none := by
        obtain ⟨r, hc, _⟩ := each 0 (by omega)
        have := hc 0 (by omega)
        simpa [Addr.add] using World.cell?_spot this
      subst hspot
      have each2 : ∀ i, i < len → ∃ r : RlD, (W.cell? ⟨b, off + i * 2, none⟩ = some (.string r.n) ∧ W.cell? ⟨b, off + i * 2 + 1, none⟩ = some (.slice r.a r.ds.length r.c)) ∧ Alts W r.a r.c r.ds := by
        intro i hi
        obtain ⟨r, hc, hA⟩ := each i hi
        have hc' : ∀ q, q < 2 → W.cell? ⟨b, off + i * 2 + q, none⟩ = r.cells[q]? := fun q hq => by
          have := hc q hq
          rwa [add_plain, add_plain] at this
        exact ⟨r, ⟨hc' 0 (by omega), hc' 1 (by omega)⟩, hA⟩
      obtain ⟨l, hl1, hl2⟩ := row_of len each2
      refine ⟨some ⟨b, off, none⟩, cap, l, by rw [e3, hl1], ⟨by omega, by omega, fun e => (by cases e), fun i _ => ⟨b, off, rfl⟩, fun b' off' e i hi => ?_, fun r hr => ?_⟩⟩
      · cases e
        exact (hl2 i hi).1
      · obtain ⟨i, hi, rfl⟩ := List.getElem_of_mem hr
        exact (hl2 i hi).2

set_option maxRecDepth 100000 in
/-- A grammar, opened. -/
theorem open_gram {H : Type} {enc : TypeId × Value → H} {W : World} {v : Value} {d : DataW H} {ps : List MemPlace} (hok : Value.okWide Try.prog W .any 0 24 v) (h : DataW.Trod enc Try.prog W 0 (fun _ => true) true 24 v d ps) :
    ∃ (a : Option Addr) (cap : Nat) (l : List RlD), v = .agg #[.slice a l.length cap] ∧ Rls W a cap l := by
  obtain ⟨cs, rfl, _⟩ := okWide_struct Try.underlying24 hok
  obtain ⟨fuel, hf⟩ := h
  obtain ⟨xs, n, rfl, _, hl, hlen, hf⟩ := DataW.trod_struct Try.underlying24 hf
  rw [gram_cells] at hl
  obtain ⟨v0, hv⟩ : ∃ v0, cs.toList = [v0] := by
    match hc : cs.toList, (show cs.toList.length = 1 from hl) with
    | [v0], _ => exact ⟨v0, rfl⟩
  obtain ⟨y0, rfl⟩ : ∃ y0, xs = [y0] := by
    match xs, hlen with
    | [y0], _ => exact ⟨y0, rfl⟩
  have h0 := hf 0 _ rfl
  rw [show (Value.agg cs).cells.toList = [v0] from hv] at h0
  simp only [rules_cells, List.drop_zero, List.take_succ_cons, List.take_zero, List.getElem?_cons_zero] at h0
  obtain ⟨a, cap, l, e0, hR⟩ := open_rulel _ _ _ h0
  injection e0 with e0 _
  subst e0
  refine ⟨a, cap, l, ?_, hR⟩
  cases cs
  simp only at hv
  rw [hv]
end Go.Proofs.Ytoaabfdilhbajaa
