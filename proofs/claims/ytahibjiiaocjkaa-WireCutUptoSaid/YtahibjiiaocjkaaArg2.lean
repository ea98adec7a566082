/- An item among a law's arguments, opened, with what the reading says of its numbers, its texts and its bulk: for the statements of the second form. -/
import Derived.Test.YtahibjiiaocjkaaArg
import Derived.Test.YtahibjiiaocjkaaUniq
namespace Go.Proofs.Ytahibjiiaocjkaa
open Go.ChangeShapes Go.WideShapes Go.ChangeAt Go.RowKit

/-- What the reading of an item says beside its cells: its number fits, its texts and places are no more than the reading's bulk. -/
def Fits (h : Hd) (kids : Fo) (n : Nat) : Prop := fits h ∧ h.s.size ≤ 9223372036854775807 ∧ kids.fit ∧ h.s.size + 1 + kids.wtS ≤ n

/-- The elements of a slice, each of which reads as an item, read as a list of items, with what the readings say. -/
theorem elems_of2 {H : Type} {W : World} {b off : Nat} : ∀ (ds : List (DataW H)) (i : Nat), (∀ j d, ds[j]? = some d → ∃ (hd : Hd) (xa : Option Addr) (n xcap : Nat) (ks : Fo), W.cell? ⟨b, off + (i + j) * 4, none⟩ = some (.int .i64 hd.k) ∧ W.cell? ⟨b, off + (i + j) * 4 + 1, none⟩ = some (.int .i64 hd.n) ∧ W.cell? ⟨b, off + (i + j) * 4 + 2, none⟩ = some (.string hd.s) ∧ W.cell? ⟨b, off + (i + j) * 4 + 3, none⟩ = some (.slice xa n xcap) ∧ n = ks.len ∧ Items W xa xcap ks ∧ Fits hd ks (Rows.uptoBulk d)) →
    ∃ f : Fo, f.len = ds.length ∧ Elems W f b (off + i * 4) ∧ f.fit ∧ f.wtS ≤ Rows.uptoBulkAll ds := by
  intro ds
  induction ds with
  | nil => intro i _; exact ⟨.nil, rfl, trivial, trivial, by simp [Fo.wtS, Rows.uptoBulkAll]⟩
  | cons d ds ih =>
    intro i h
    obtain ⟨rest, hl, he, hfit, hw⟩ := ih (i + 1) (fun j d' hd' => by
      have := h (j + 1) d' (by simpa using hd')
      rw [show i + (j + 1) = i + 1 + j from by omega] at this
      exact this)
    obtain ⟨hd, xa, n, xcap, ks, c0, c1, c2, c3, rfl, hI, hF⟩ := h 0 d rfl
    rw [Nat.add_zero] at c0 c1 c2 c3
    obtain ⟨f1, f2, f3, f4⟩ := hF
    refine ⟨.cons hd ks rest, by simp [Fo.len, hl], ⟨c0, c1, c2, ⟨xa, xcap, c3, hI.le, hI.max, hI.nil_, hI.at_⟩, ?_⟩, ⟨f1, by omega, f3, hfit⟩, ?_⟩
    · rw [show off + i * 4 + 4 = off + (i + 1) * 4 from by omega]
      exact he
    · simp only [Fo.wtS, Rows.uptoBulkAll]
      omega

theorem open_cells2 {H : Type} {enc : TypeId × Value → H} {W : World} {base : Nat} {sp : Nat → Bool} {hd : Bool} : ∀ (fuel : Nat) (cs : List Value) (x : DataW H × List MemPlace), DataW.trod enc Try.prog W base sp hd fuel 24 cs = some x →
    ∃ (h : Hd) (a : Option Addr) (n cap : Nat) (kids : Fo), cs = [.int .i64 h.k, .int .i64 h.n, .string h.s, .slice a n cap] ∧ n = kids.len ∧ Items W a cap kids ∧ Fits h kids (Rows.uptoBulk x.1) := by
  intro fuel
  induction fuel using Nat.strongRecOn with
  | _ fuel ih =>
    intro cs x h
    obtain ⟨xs, n, rfl, rfl, hl, hlen, hf⟩ := DataW.trod_struct Try.underlying24 h
    rw [item_cells] at hl
    obtain ⟨v0, v1, v2, v3, rfl⟩ : ∃ v0 v1 v2 v3, cs = [v0, v1, v2, v3] := by
      match cs, hl with
      | [v0, v1, v2, v3], _ => exact ⟨v0, v1, v2, v3, rfl⟩
    obtain ⟨y0, y1, y2, y3, rfl⟩ : ∃ y0 y1 y2 y3, xs = [y0, y1, y2, y3] := by
      match xs, hlen with
      | [y0, y1, y2, y3], _ => exact ⟨y0, y1, y2, y3, rfl⟩
    have h0 := hf 0 _ rfl
    have h1 := hf 1 _ rfl
    have h2 := hf 2 _ rfl
    have h3 := hf 3 _ rfl
    simp only [int_cells, int64_cells, string_cells, items_cells, List.drop_zero, List.drop_succ_cons, List.take_succ_cons, List.take_zero, List.getElem?_cons_zero, List.getElem?_cons_succ] at h0 h1 h2 h3
    obtain ⟨k, e0, x0, _⟩ := DataW.trod_int Try.underlying3 h0
    obtain ⟨m, e1, x1, wm⟩ := DataW.trod_int Try.underlying2 h1
    obtain ⟨s, e2, x2, ws⟩ := DataW.trod_string Try.underlying9 h2
    injection e0 with e0 _
    injection e1 with e1 _
    injection e2 with e2 _
    subst e0 e1 e2
    have hmax : maxLen ≤ 9223372036854775807 := by decide
    have hfits : fits ⟨k, m, s⟩ := by
      unfold fits
      simp [Lit.wf, IntKind.min, IntKind.max, IntKind.signed, IntKind.bits] at wm
      exact wm
    have hsl : s.data.toList.length = s.size := by rw [Array.length_toList]; rfl
    have hbulk : Rows.uptoBulk (DataW.agg (H := H) ([y0, y1, y2, y3].map (·.1))) = s.size + 4 + Rows.uptoBulk y3.1 := by
      rw [x0, x1, x2]
      simp only [List.map_cons, List.map_nil, Rows.uptoBulk, Rows.uptoBulkAll, hsl]
      omega
    rw [hbulk]
    rcases DataW.trod_slice Try.underlying22 h3 with ⟨e3, x3⟩ | ⟨a, len, cap, elems, rest, n', hn, e3, x3, hb, hle, hm, hel, hcell, _, _⟩
    · injection e3 with e3 _
      subst e3
      exact ⟨⟨k, m, s⟩, none, 0, 0, .nil, rfl, rfl, Items.nil W, hfits, by simp only; omega, trivial, by simp only [Fo.wtS]; omega⟩
    · injection e3 with e3 _
      subst e3
      have hb3 : Rows.uptoBulkAll (elems.map (·.1)) ≤ Rows.uptoBulk y3.1 := by
        rw [x3]
        simp only [Rows.uptoBulk]
        omega
      have each : ∀ i (hi : i < len), ∃ (hd : Hd) (xa : Option Addr) (n xcap : Nat) (ks : Fo), (∀ j, j < 4 → W.cell? ((a.add (i * 4)).add j) = [.int .i64 hd.k, .int .i64 hd.n, .string hd.s, .slice xa n xcap][j]?) ∧ n = ks.len ∧ Items W xa xcap ks ∧ Fits hd ks (Rows.uptoBulk (elems[i]'(by omega)).1) := by
        intro i hi
        have hc := hcell i hi
        rw [List.getElem?_eq_getElem (by omega), item_cells, Option.bind_eq_some_iff] at hc
        obtain ⟨cs', hcs, ht⟩ := hc
        obtain ⟨hd, xa, n2, xcap, ks, rfl, e, hI, hF⟩ := ih n' (by omega) cs' _ ht
        exact ⟨hd, xa, n2, xcap, ks, fun j hj => (World.cells?_some hcs).2.2 j hj, e, hI, hF⟩
      by_cases h0 : len = 0
      · subst h0
        exact ⟨⟨k, m, s⟩, some a, 0, cap, .nil, rfl, rfl, ⟨Nat.zero_le _, by omega, fun e => (by cases e), fun h => by simp [Fo.len] at h⟩, hfits, by simp only; omega, trivial, by simp only [Fo.wtS]; omega⟩
      · obtain ⟨b, off, spot⟩ := a
        have hspot : spot = none := by
          obtain ⟨hd, xa, n2, xcap, ks, hc, _⟩ := each 0 (by omega)
          have := hc 0 (by omega)
          simpa [Addr.add] using World.cell?_spot this
        subst hspot
        obtain ⟨f, hfl, hfe, hffit, hfw⟩ := elems_of2 (W := W) (b := b) (off := off) (elems.map (·.1)) 0 (fun j d hj => by
          rw [List.getElem?_map] at hj
          obtain ⟨y, hy, rfl⟩ := Option.map_eq_some_iff.1 hj
          obtain ⟨hlt, rfl⟩ := List.getElem?_eq_some_iff.1 hy
          obtain ⟨hd, xa, n2, xcap, ks, hc, e, hI, hF⟩ := each j (by omega)
          have hc' : ∀ q, q < 4 → W.cell? ⟨b, off + j * 4 + q, none⟩ = [.int .i64 hd.k, .int .i64 hd.n, .string hd.s, .slice xa n2 xcap][q]? := fun q hq => by
            have := hc q hq
            rwa [add_plain, add_plain] at this
          rw [Nat.zero_add]
          exact ⟨hd, xa, n2, xcap, ks, hc' 0 (by omega), hc' 1 (by omega), hc' 2 (by omega), hc' 3 (by omega), e, hI, hF⟩)
        rw [Nat.zero_mul, Nat.add_zero] at hfe
        rw [List.length_map] at hfl
        exact ⟨⟨k, m, s⟩, some ⟨b, off, none⟩, len, cap, f, rfl, by omega, ⟨by omega, by omega, fun e => (by cases e), fun _ => ⟨b, off, rfl, hfe⟩⟩, hfits, by simp only; omega, hffit, by simp only; omega⟩

/-- An item among the arguments, with what its reading says. -/
theorem open_item2 {H : Type} {enc : TypeId × Value → H} {W : World} {v : Value} {d : DataW H} {ps : List MemPlace} (hok : Value.okWide Try.prog W .any 0 24 v) (h : DataW.Trod enc Try.prog W 0 (fun _ => true) true 24 v d ps) :
    ∃ (hd : Hd) (a : Option Addr) (cap : Nat) (kids : Fo), v = itemV hd a kids.len cap ∧ Items W a cap kids ∧ Fits hd kids (Rows.uptoBulk d) := by
  obtain ⟨cs, rfl, _⟩ := okWide_struct Try.underlying24 hok
  obtain ⟨fuel, hf⟩ := h
  obtain ⟨hd, a, n, cap, kids, e, rfl, hI, hF⟩ := open_cells2 fuel _ _ hf
  refine ⟨hd, a, cap, kids, ?_, hI, hF⟩
  have : cs.toList = [.int .i64 hd.k, .int .i64 hd.n, .string hd.s, .slice a kids.len cap] := e
  cases cs
  simp only at this
  rw [this]
end Go.Proofs.Ytahibjiiaocjkaa
