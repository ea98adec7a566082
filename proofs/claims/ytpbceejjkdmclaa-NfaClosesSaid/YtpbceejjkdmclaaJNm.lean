/- Texts of layer 2 joined: Arg Ar Nm PNm. -/
import Derived.Test.YtpbceejjkdmclaaJO
import Derived.Test.YtpbceejjkdmclaaJL
import Derived.Test.YtpbceejjkdmclaaJN1
import Derived.Test.YtpbceejjkdmclaaJK4
import Derived.Test.YtpbceejjkdmclaaJV5
set_option linter.unusedVariables false
set_option linter.unusedSimpArgs false
/- Spans and expressions among a law's arguments, opened. -/
namespace Go.Proofs.Ytpbceejjkdmclaa
open Go.ChangeShapes Go.WideShapes Go.ChangeAt Go.RowKit

theorem re_cells : Try.prog.cellsOf 35 = 3 := by kernel_rfl
theorem span_cells : Try.prog.cellsOf 79 = 2 := by kernel_rfl
theorem int_cells : Try.prog.cellsOf 3 = 1 := by kernel_rfl
theorem u8_cells : Try.prog.cellsOf 5 = 1 := by kernel_rfl
theorem res_cells : Try.prog.cellsOf 33 = 1 := by kernel_rfl
theorem spans_cells : Try.prog.cellsOf 27 = 1 := by kernel_rfl

set_option maxRecDepth 100000 in
theorem open_span {H : Type} {enc : TypeId × Value → H} {W : World} {base : Nat} {sp : Nat → Bool} {hd : Bool} (fuel : Nat) (cs : List Value) (x : DataW H × List MemPlace) (h : DataW.trod enc Try.prog W base sp hd fuel 79 cs = some x) :
    ∃ s : Sp, cs = [.int .u8 (s.lo.toNat : Int), .int .u8 (s.hi.toNat : Int)] := by
  obtain ⟨xs, n, rfl, rfl, hl, hlen, hf⟩ := DataW.trod_struct Try.underlying79 h
  rw [span_cells] at hl
  obtain ⟨v0, v1, rfl⟩ : ∃ v0 v1, cs = [v0, v1] := by
    match cs, hl with
    | [v0, v1], _ => exact ⟨v0, v1, rfl⟩
  obtain ⟨y0, y1, rfl⟩ : ∃ y0 y1, xs = [y0, y1] := by
    match xs, hlen with
    | [y0, y1], _ => exact ⟨y0, y1, rfl⟩
  have h0 := hf 0 _ rfl
  have h1 := hf 1 _ rfl
  simp only [u8_cells, List.drop_zero, List.drop_succ_cons, List.take_succ_cons, List.take_zero, List.getElem?_cons_zero, List.getElem?_cons_succ] at h0 h1
  obtain ⟨k, e0, _, w0⟩ := DataW.trod_int Try.underlying5 h0
  obtain ⟨m, e1, _, w1⟩ := DataW.trod_int Try.underlying5 h1
  injection e0 with e0 _
  injection e1 with e1 _
  subst e0 e1
  simp [Lit.wf, IntKind.min, IntKind.max, IntKind.signed, IntKind.bits] at w0 w1
  refine ⟨⟨UInt8.ofNat k.toNat, UInt8.ofNat m.toNat⟩, ?_⟩
  have e0 : (((UInt8.ofNat k.toNat).toNat : Nat) : Int) = k := by rw [UInt8.toNat_ofNat']; omega
  have e1 : (((UInt8.ofNat m.toNat).toNat : Nat) : Int) = m := by rw [UInt8.toNat_ofNat']; omega
  rw [e0, e1]

theorem list_of {P : Nat → Sp → Prop} : ∀ n, (∀ i, i < n → ∃ s, P i s) → ∃ l : List Sp, l.length = n ∧ ∀ i (h : i < l.length), P i l[i] := by
  intro n
  induction n with
  | zero => intro _; exact ⟨[], rfl, fun i h => by simp at h⟩
  | succ n ih =>
    intro h
    obtain ⟨l, h1, h2⟩ := ih (fun i hi => h i (by omega))
    obtain ⟨s, hs⟩ := h n (by omega)
    refine ⟨l ++ [s], by simp [h1], fun i hi => ?_⟩
    by_cases hi2 : i < l.length
    · rw [List.getElem_append_left hi2]; exact h2 i hi2
    · have : i = l.length := by simp at hi; omega
      subst this
      rw [List.getElem_append_right (Nat.le_refl _)]
      simp only [Nat.sub_self, List.getElem_cons_zero]
      rw [h1]; exact hs
/-- A slice of spans, read. -/
theorem open_spans {H : Type} {enc : TypeId × Value → H} {W : World} {base : Nat} {sp : Nat → Bool} {hd : Bool} (fuel : Nat) (cs : List Value) (x : DataW H × List MemPlace) (h : DataW.trod enc Try.prog W base sp hd fuel 27 cs = some x) :
    ∃ (a : Option Addr) (cap : Nat) (l : List Sp), cs = [.slice a l.length cap] ∧ Sps W a cap l := by
  rcases DataW.trod_slice Try.underlying27 h with ⟨e3, _⟩ | ⟨a, len, cap, elems, rest, n', hn, e3, _, hb, hle, hm, hel, hcell, _, _⟩
  · exact ⟨none, 0, [], by rw [e3]; rfl, Sps.nil W⟩
  · have hmax : maxLen ≤ 9223372036854775807 := by decide
    have each : ∀ i, i < len → ∃ s : Sp, ∀ j, j < 2 → W.cell? ((a.add (i * 2)).add j) = [.int .u8 (s.lo.toNat : Int), .int .u8 (s.hi.toNat : Int)][j]? := by
      intro i hi
      have hc := hcell i hi
      rw [List.getElem?_eq_getElem (by omega), span_cells, Option.bind_eq_some_iff] at hc
      obtain ⟨cs', hcs, ht⟩ := hc
      obtain ⟨s, rfl⟩ := open_span n' cs' _ ht
      exact ⟨s, fun j hj => (World.cells?_some hcs).2.2 j hj⟩
    by_cases h0 : len = 0
    · subst h0
      exact ⟨some a, cap, [], by rw [e3]; rfl, ⟨by simp, by omega, fun e => (by cases e), fun i h => by simp at h, fun b off e i h => by simp at h⟩⟩
    · obtain ⟨b, off, spot⟩ := a
      have hspot : spot = none := by
        obtain ⟨s, hc⟩ := each 0 (by omega)
        have := hc 0 (by omega)
        simpa [Addr.add] using World.cell?_spot this
      subst hspot
      have each2 : ∀ i, i < len → ∃ s : Sp, W.cell? ⟨b, off + i * 2, none⟩ = some (.int .u8 (s.lo.toNat : Int)) ∧ W.cell? ⟨b, off + i * 2 + 1, none⟩ = some (.int .u8 (s.hi.toNat : Int)) := by
        intro i hi
        obtain ⟨s, hc⟩ := each i hi
        have hc' : ∀ q, q < 2 → W.cell? ⟨b, off + i * 2 + q, none⟩ = [.int .u8 (s.lo.toNat : Int), .int .u8 (s.hi.toNat : Int)][q]? := fun q hq => by
          have := hc q hq
          rwa [add_plain, add_plain] at this
        exact ⟨s, hc' 0 (by omega), hc' 1 (by omega)⟩
      obtain ⟨l, hl1, hl2⟩ := list_of len each2
      refine ⟨some ⟨b, off, none⟩, cap, l, by rw [e3, hl1], ⟨by omega, by omega, fun e => (by cases e), fun i _ => ⟨b, off, rfl⟩, fun b' off' e i hi => ?_⟩⟩
      cases e
      exact hl2 i hi

/-- The elements of a slice, each of which reads as an expression, read as a list of expressions. -/
theorem elems_of {W : World} {b off : Nat} : ∀ (m : Nat) (i : Nat), (∀ j, i ≤ j → j < i + m → ∃ (hd : Hd) (sa : Option Addr) (sc : Nat) (xa : Option Addr) (n xcap : Nat) (ks : Fo), W.cell? ⟨b, off + j * 3, none⟩ = some (.int .i64 hd.k) ∧ W.cell? ⟨b, off + j * 3 + 1, none⟩ = some (.slice sa hd.set.length sc) ∧ W.cell? ⟨b, off + j * 3 + 2, none⟩ = some (.slice xa n xcap) ∧ n = ks.len ∧ Sps W sa sc hd.set ∧ Items W xa xcap ks) →
    ∃ f : Fo, f.len = m ∧ Elems W f b (off + i * 3) := by
  intro m
  induction m with
  | zero => intro i _; exact ⟨.nil, rfl, trivial⟩
  | succ m ih =>
    intro i h
    obtain ⟨rest, hl, he⟩ := ih (i + 1) (fun j h1 h2 => h j (by omega) (by omega))
    obtain ⟨hd, sa, sc, xa, n, xcap, ks, c0, c1, c2, rfl, hS, hI⟩ := h i (Nat.le_refl _) (by omega)
    refine ⟨.cons hd ks rest, by simp [Fo.len, hl], c0, ⟨sa, sc, c1, hS⟩, ⟨xa, xcap, c2, hI.le, hI.max, hI.nil_, hI.at_⟩, ?_⟩
    rw [show off + i * 3 + 3 = off + (i + 1) * 3 from by omega]
    exact he

set_option maxRecDepth 100000 in
theorem open_cells {H : Type} {enc : TypeId × Value → H} {W : World} {base : Nat} {sp : Nat → Bool} {hd : Bool} : ∀ (fuel : Nat) (cs : List Value) (x : DataW H × List MemPlace), DataW.trod enc Try.prog W base sp hd fuel 35 cs = some x →
    ∃ (h : Hd) (sa : Option Addr) (sc : Nat) (a : Option Addr) (n cap : Nat) (kids : Fo), cs = [.int .i64 h.k, .slice sa h.set.length sc, .slice a n cap] ∧ n = kids.len ∧ Sps W sa sc h.set ∧ Items W a cap kids := by
  intro fuel
  induction fuel using Nat.strongRecOn with
  | _ fuel ih =>
    intro cs x h
    obtain ⟨xs, n, rfl, rfl, hl, hlen, hf⟩ := DataW.trod_struct Try.underlying35 h
    rw [re_cells] at hl
    obtain ⟨v0, v1, v2, rfl⟩ : ∃ v0 v1 v2, cs = [v0, v1, v2] := by
      match cs, hl with
      | [v0, v1, v2], _ => exact ⟨v0, v1, v2, rfl⟩
    obtain ⟨y0, y1, y2, rfl⟩ : ∃ y0 y1 y2, xs = [y0, y1, y2] := by
      match xs, hlen with
      | [y0, y1, y2], _ => exact ⟨y0, y1, y2, rfl⟩
    have h0 := hf 0 _ rfl
    have h1 := hf 1 _ rfl
    have h2 := hf 2 _ rfl
    simp only [int_cells, spans_cells, res_cells, List.drop_zero, List.drop_succ_cons, List.take_succ_cons, List.take_zero, List.getElem?_cons_zero, List.getElem?_cons_succ] at h0 h1 h2
    obtain ⟨k, e0, _, _⟩ := DataW.trod_int Try.underlying3 h0
    injection e0 with e0 _
    subst e0
    obtain ⟨sa, sc, l, e1, hS⟩ := open_spans _ _ _ h1
    injection e1 with e1 _
    subst e1
    rcases DataW.trod_slice Try.underlying33 h2 with ⟨e3, _⟩ | ⟨a, len, cap, elems, rest, n', hn, e3, _, hb, hle, hm, hel, hcell, _, _⟩
    · injection e3 with e3 _
      subst e3
      exact ⟨⟨k, l⟩, sa, sc, none, 0, 0, .nil, rfl, rfl, hS, Items.nil W⟩
    · injection e3 with e3 _
      subst e3
      have hmax : maxLen ≤ 9223372036854775807 := by decide
      have each : ∀ i, i < len → ∃ (hd : Hd) (sa : Option Addr) (sc : Nat) (xa : Option Addr) (n xcap : Nat) (ks : Fo), (∀ j, j < 3 → W.cell? ((a.add (i * 3)).add j) = [.int .i64 hd.k, .slice sa hd.set.length sc, .slice xa n xcap][j]?) ∧ n = ks.len ∧ Sps W sa sc hd.set ∧ Items W xa xcap ks := by
        intro i hi
        have hc := hcell i hi
        rw [List.getElem?_eq_getElem (by omega), re_cells, Option.bind_eq_some_iff] at hc
        obtain ⟨cs', hcs, ht⟩ := hc
        obtain ⟨hd, sa, sc, xa, n2, xcap, ks, rfl, e, hS, hI⟩ := ih n' (by omega) cs' _ ht
        exact ⟨hd, sa, sc, xa, n2, xcap, ks, fun j hj => (World.cells?_some hcs).2.2 j hj, e, hS, hI⟩
      by_cases h0 : len = 0
      · subst h0
        exact ⟨⟨k, l⟩, sa, sc, some a, 0, cap, .nil, rfl, rfl, hS, ⟨Nat.zero_le _, by omega, fun e => (by cases e), fun h => by simp [Fo.len] at h⟩⟩
      · obtain ⟨b, off, spot⟩ := a
        have hspot : spot = none := by
          obtain ⟨hd, sa, sc, xa, n2, xcap, ks, hc, _⟩ := each 0 (by omega)
          have := hc 0 (by omega)
          simpa [Addr.add] using World.cell?_spot this
        subst hspot
        obtain ⟨f, hfl, hfe⟩ := elems_of (W := W) (b := b) (off := off) len 0 (fun j _ h2 => by
          obtain ⟨hd, sa, sc, xa, n2, xcap, ks, hc, e, hS, hI⟩ := each j (by omega)
          have hc' : ∀ q, q < 3 → W.cell? ⟨b, off + j * 3 + q, none⟩ = [.int .i64 hd.k, .slice sa hd.set.length sc, .slice xa n2 xcap][q]? := fun q hq => by
            have := hc q hq
            rwa [add_plain, add_plain] at this
          exact ⟨hd, sa, sc, xa, n2, xcap, ks, hc' 0 (by omega), hc' 1 (by omega), hc' 2 (by omega), e, hS, hI⟩)
        rw [Nat.zero_mul, Nat.add_zero] at hfe
        exact ⟨⟨k, l⟩, sa, sc, some ⟨b, off, none⟩, len, cap, f, rfl, hfl.symm, hS, ⟨by omega, by omega, fun e => (by cases e), fun _ => ⟨b, off, rfl, hfe⟩⟩⟩


set_option maxRecDepth 100000 in
theorem open_re {H : Type} {enc : TypeId × Value → H} {W : World} {v : Value} {d : DataW H} {ps : List MemPlace} (hok : Value.okWide Try.prog W .any 0 35 v) (h : DataW.Trod enc Try.prog W 0 (fun _ => true) true 35 v d ps) :
    ∃ (hd : Hd) (sa : Option Addr) (sc : Nat) (a : Option Addr) (cap : Nat) (kids : Fo), v = itemV hd sa sc a kids.len cap ∧ Sps W sa sc hd.set ∧ Items W a cap kids := by
  obtain ⟨cs, rfl, _⟩ := okWide_struct Try.underlying35 hok
  obtain ⟨fuel, hf⟩ := h
  obtain ⟨hd, sa, sc, a, n, cap, kids, e, rfl, hS, hI⟩ := open_cells fuel _ _ hf
  refine ⟨hd, sa, sc, a, cap, kids, ?_, hS, hI⟩
  have : cs.toList = [.int .i64 hd.k, .slice sa hd.set.length sc, .slice a kids.len cap] := e
  cases cs
  simp only at this
  rw [this]

set_option maxRecDepth 100000 in
theorem open_sps {H : Type} {enc : TypeId × Value → H} {W : World} {v : Value} {d : DataW H} {ps : List MemPlace} (hok : Value.okWide Try.prog W .any 0 27 v) (h : DataW.Trod enc Try.prog W 0 (fun _ => true) true 27 v d ps) :
    ∃ (a : Option Addr) (cap : Nat) (l : List Sp), v = .slice a l.length cap ∧ Sps W a cap l := by
  obtain ⟨a0, len0, cap0, rfl⟩ := okWide_slice Try.underlying27 hok
  obtain ⟨fuel, hf⟩ := h
  obtain ⟨a, cap, l, e, hS⟩ := open_spans fuel _ _ hf
  simp only [Value.cells, List.cons.injEq, and_true] at e
  exact ⟨a, cap, l, e, hS⟩
end Go.Proofs.Ytpbceejjkdmclaa

/- Layer 3: lists of expressions, texts, automata among a law's arguments, opened. -/
namespace Go.Proofs.Ytpbceejjkdmclaa
open Go.ChangeShapes Go.WideShapes Go.ChangeAt Go.RowKit

set_option maxRecDepth 100000 in
/-- A list of expressions, read. -/
theorem open_relist {H : Type} {enc : TypeId × Value → H} {W : World} {base : Nat} {sp : Nat → Bool} {hd : Bool} (fuel : Nat) (cs : List Value) (x : DataW H × List MemPlace) (h2 : DataW.trod enc Try.prog W base sp hd fuel 33 cs = some x) :
    ∃ (a : Option Addr) (n cap : Nat) (f : Fo), cs = [.slice a n cap] ∧ n = f.len ∧ Items W a cap f := by
  rcases DataW.trod_slice Try.underlying33 h2 with ⟨e3, _⟩ | ⟨a, len, cap, elems, rest, n', hn, e3, _, hb, hle, hm, hel, hcell, _, _⟩
  · exact ⟨none, 0, 0, .nil, e3, rfl, Items.nil W⟩
  · have hmax : maxLen ≤ 9223372036854775807 := by decide
    have each : ∀ i, i < len → ∃ (hd : Hd) (sa : Option Addr) (sc : Nat) (xa : Option Addr) (n xcap : Nat) (ks : Fo), (∀ j, j < 3 → W.cell? ((a.add (i * 3)).add j) = [.int .i64 hd.k, .slice sa hd.set.length sc, .slice xa n xcap][j]?) ∧ n = ks.len ∧ Sps W sa sc hd.set ∧ Items W xa xcap ks := by
      intro i hi
      have hc := hcell i hi
      rw [List.getElem?_eq_getElem (by omega), re_cells, Option.bind_eq_some_iff] at hc
      obtain ⟨cs', hcs, ht⟩ := hc
      obtain ⟨hd, sa, sc, xa, n2, xcap, ks, rfl, e, hS, hI⟩ := open_cells n' cs' _ ht
      exact ⟨hd, sa, sc, xa, n2, xcap, ks, fun j hj => (World.cells?_some hcs).2.2 j hj, e, hS, hI⟩
    by_cases h0 : len = 0
    · subst h0
      exact ⟨some a, 0, cap, .nil, e3, rfl, ⟨Nat.zero_le _, by omega, fun e => (by cases e), fun h => by simp [Fo.len] at h⟩⟩
    · obtain ⟨b, off, spot⟩ := a
      have hspot : spot = none := by
        obtain ⟨hd, sa, sc, xa, n2, xcap, ks, hc, _⟩ := each 0 (by omega)
        have := hc 0 (by omega)
        simpa [Addr.add] using World.cell?_spot this
      subst hspot
      obtain ⟨f, hfl, hfe⟩ := elems_of (W := W) (b := b) (off := off) len 0 (fun j _ h2 => by
        obtain ⟨hd, sa, sc, xa, n2, xcap, ks, hc, e, hS, hI⟩ := each j (by omega)
        have hc' : ∀ q, q < 3 → W.cell? ⟨b, off + j * 3 + q, none⟩ = [.int .i64 hd.k, .slice sa hd.set.length sc, .slice xa n2 xcap][q]? := fun q hq => by
          have := hc q hq
          rwa [add_plain, add_plain] at this
        exact ⟨hd, sa, sc, xa, n2, xcap, ks, hc' 0 (by omega), hc' 1 (by omega), hc' 2 (by omega), e, hS, hI⟩)
      rw [Nat.zero_mul, Nat.add_zero] at hfe
      exact ⟨some ⟨b, off, none⟩, len, cap, f, e3, hfl.symm, ⟨by omega, by omega, fun e => (by cases e), fun _ => ⟨b, off, rfl, hfe⟩⟩⟩

set_option maxRecDepth 100000 in
theorem open_res {H : Type} {enc : TypeId × Value → H} {W : World} {v : Value} {d : DataW H} {ps : List MemPlace} (hok : Value.okWide Try.prog W .any 0 33 v) (h : DataW.Trod enc Try.prog W 0 (fun _ => true) true 33 v d ps) :
    ∃ (a : Option Addr) (cap : Nat) (f : Fo), v = .slice a f.len cap ∧ Items W a cap f := by
  obtain ⟨a0, len0, cap0, rfl⟩ := okWide_slice Try.underlying33 hok
  obtain ⟨fuel, hf⟩ := h
  obtain ⟨a, n, cap, f, e, rfl, hI⟩ := open_relist fuel _ _ hf
  simp only [Value.cells, List.cons.injEq, and_true] at e
  exact ⟨a, cap, f, e, hI⟩
set_option maxRecDepth 100000 in
theorem open_str3 {H : Type} {enc : TypeId × Value → H} {W : World} {v : Value} {d : DataW H} {ps : List MemPlace} (hok : Value.okWide Try.prog W .any 0 9 v) (h : DataW.Trod enc Try.prog W 0 (fun _ => true) true 9 v d ps) :
    ∃ s : ByteArray, v = .string s ∧ s.size ≤ 9223372036854775807 := by
  obtain ⟨s, rfl⟩ := okWide_string Try.underlying9 hok
  obtain ⟨fuel, hf⟩ := h
  obtain ⟨s', e, _, ws⟩ := DataW.trod_string Try.underlying9 hf
  simp only [Value.cells, List.cons.injEq, and_true] at e
  injection e with e
  subst e
  have hmax : maxLen ≤ 9223372036854775807 := by decide
  exact ⟨s, rfl, Nat.le_trans ws hmax⟩
set_option maxRecDepth 100000 in
theorem open_u83 {H : Type} {enc : TypeId × Value → H} {W : World} {v : Value} {d : DataW H} {ps : List MemPlace} (hok : Value.okWide Try.prog W .any 0 5 v) (h : DataW.Trod enc Try.prog W 0 (fun _ => true) true 5 v d ps) :
    ∃ n : Nat, n < 256 ∧ v = .int .u8 (n : Int) := by
  obtain ⟨k, rfl, _, _, w0⟩ := open_int Try.underlying5 hok h
  simp [Lit.wf, IntKind.min, IntKind.max, IntKind.signed, IntKind.bits] at w0
  exact ⟨k.toNat, by omega, by congr 1; omega⟩
end Go.Proofs.Ytpbceejjkdmclaa

/- The law NfaMatches. -/
namespace Go.Proofs.Ytpbceejjkdmclaa
open Go.RowKit Go.Shelf

attribute [local go_sem] Oper.semAt_some

theorem errF_drop : ∀ (f : Fo) (i : Nat) {h : Hd} {k r : Fo}, errF f = 0 → f.drop i = .cons h k r → checkE (Fo.pre 1 (.cons h k .nil)) = 0
  | .nil, i, h, k, r, _, e => by cases i <;> simp [Fo.drop] at e
  | .cons h' k' r', 0, h, k, r, he, e => by
    simp only [Fo.drop, Fo.cons.injEq] at e
    obtain ⟨rfl, rfl, rfl⟩ := e
    unfold errF at he
    split at he
    · assumption
    · exact he
  | .cons h' k' r', i + 1, h, k, r, he, e => by
    refine errF_drop r' i ?_ (by simpa [Fo.drop] using e)
    unfold errF at he
    split at he
    · exact he
    · rename_i hc; exact absurd he hc
theorem buildP_bad {f : Fo} (h : ¬ (errF f = 0 ∧ 1 + stF f ≤ 2000)) : ∃ E, buildP f = (nf0, E) ∧ E ≠ 0 := by
  unfold buildP
  by_cases h1 : errF f = 0
  · rw [if_pos h1, if_neg (fun h2 => h ⟨h1, h2⟩)]
    exact ⟨40, rfl, by decide⟩
  · rw [if_neg h1]
    exact ⟨_, rfl, h1⟩
open Classical in
theorem run_len (x : Nf) (s : List UInt8) : (runP x s).length ≤ x.ends.length := by
  unfold runP
  have := List.length_filter_le (fun i => decide (∃ a : Nat, Rc x s a ∧ x.ends[i]? = some (a : Int))) (List.range x.ends.length)
  rwa [List.length_range] at this

set_option maxRecDepth 100000 in
set_option maxHeartbeats 4000000 in
theorem nfaMatches_any (f : Fo) (a : Option Addr) (cap : Nat) (s : ByteArray) (w : World) (hI : Items w a cap f) :
    Calls Try.prog 6 #[.slice a f.len cap, .string s] w fun e w' => e = .returned (.bool true) ∧ Below w.heap.size w w' := by
  have hlm : f.len ≤ cap ∧ cap ≤ 9223372036854775807 := ⟨hI.le, hI.max⟩
  have HFw := Lib.hid (fun (V : World) (hV : Below w.heap.size w V) => few3_any f a cap V (hI.grown hV))
  have HBu := Lib.hid (fun (V : World) (hV : Below w.heap.size w V) (h1 : f.size ≤ 1000000) (h2 : stF f ≤ 100000000) => build_any a f.len cap f V rfl (hI.grown hV) h1 h2)
  obtain ⟨L, HL⟩ : ∃ L, Hid (f.len = L) := ⟨_, Lib.hid rfl⟩
  obtain ⟨q, hq⟩ : ∃ q, Hid ((decide (f.len ≤ 20) && !bigF 120 f) = q) := ⟨_, Lib.hid rfl⟩
  rw [hq.out, HL.out] at HFw
  rw [HL.out] at hlm HBu ⊢
  go_enter Try.func6, Try.ntmps6
  go_wp2_with (fail)
  refine (live3_any _).mono ?_
  rintro e w1 ⟨rfl, hb1⟩
  go_wp2_with (fail)
  refine (HFw.out w1 hb1).mono ?_
  rintro e w2 ⟨rfl, hb2⟩
  have hbw2 := hb1.trans (hb2.mono hb1.size)
  clear hb1 hb2 HFw
  cases q
  case false =>
    go_wp2_with (fail)
    exact bodyPost_ret (v := .bool true) (by simp [results, Try.results6, go_sem]; try rfl) rfl ⟨rfl, hbw2⟩
  have hq2 := hq.out
  simp only [Bool.and_eq_true, decide_eq_true_eq, Bool.not_eq_true'] at hq2
  have hsz : f.size ≤ 2400 := by
    have := bigF_size (m := 120) f hq2.2
    have := Nat.mul_le_mul_left 120 hq2.1
    omega
  have hst : stF f ≤ 7200 := by have := st_size3 f; omega
  by_cases hs16 : 16 < s.size
  · have hsI : (16 : Int) < (s.size : Int) := by omega
    go_wp2_with (fail)
    exact bodyPost_ret (v := .bool true) (by simp [results, Try.results6, go_sem]; try rfl) rfl ⟨rfl, hbw2⟩
  have hsI : ¬ (16 : Int) < (s.size : Int) := by omega
  go_wp2_with (fail)
  refine (HBu.out w2 hbw2 (by omega) (by omega)).mono ?_
  rintro e w3 ⟨⟨⟨ea, ec, ga, gc⟩, rfl, hp⟩, hb3⟩
  have hbw3 := hbw2.trans (hb3.mono hbw2.size)
  clear hb3 HBu
  by_cases hok : errF f = 0 ∧ 1 + stF f ≤ 2000
  case neg =>
    obtain ⟨E, hE, hE0⟩ := buildP_bad hok
    rw [hE] at hp ⊢
    have hEb : (E != 0) = true := by simp [hE0]
    have hbw4 := hbw3.alloc hbw3.size (.cells #[.int .i64 0, .int .i64 0, .slice ea 0 ec, .slice ga 0 gc] 25)
    simp only [nf0, List.length_nil]
    clear hE hE0 hp hok
    go_wp2_with (fail)
    exact bodyPost_ret (v := .bool true) (by simp [results, Try.results6, go_sem]; try rfl) rfl ⟨rfl, hbw4⟩
  obtain ⟨hk1, hk2⟩ := hok
  rw [build_ok hk1 hk2] at hp ⊢
  have ho := okF_err f hk1
  obtain ⟨n1, n2, n3⟩ := aut_n ho
  have hlk := aut_link ho hk2
  have hri := run_is ho hk2 s.data.toList
  have hrl := run_len (autF f) s.data.toList
  have hp4 := hp.grown ((Below.refl _ w3).alloc (Nat.le_refl _) (.cells #[.int .i64 (autF f).n, .int .i64 (autF f).s, .slice ea (autF f).ends.length ec, .slice ga (autF f).es.length gc] 25))
  have hbw4 := hbw3.alloc hbw3.size (.cells #[.int .i64 (autF f).n, .int .i64 (autF f).s, .slice ea (autF f).ends.length ec, .slice ga (autF f).es.length gc] 25)
  have hA4 := Blk.new w3 25 #[.int .i64 (autF f).n, .int .i64 (autF f).s, .slice ea (autF f).ends.length ec, .slice ga (autF f).es.length gc]
  have Hrun := Lib.hid (run_any (autF f) ⟨ea, ec, ga, gc⟩ s _ hp4 hlk (by omega) (by rw [n3]; omega) (by omega))
  rw [n3] at hrl
  obtain ⟨R, hR⟩ : ∃ R, Hid (runP (autF f) s.data.toList = R) := ⟨_, Lib.hid rfl⟩
  rw [hR.out] at Hrun hri hrl
  have Hri := Lib.hid hri
  have Hk1 := Lib.hid hk1
  clear hp hp4 n1 n2 n3 hlk hri hk1 hk2 hq2 hbw3
  generalize autF f = x at hA4 hbw4 Hrun ⊢
  dsimp only at *
  have x0 := hA4.cell 0
  have x1 := hA4.cell 1
  have x2 := hA4.cell 2
  have x3 := hA4.cell 3
  have xl := hA4.lt
  simp only [List.getElem?_cons_zero, List.getElem?_cons_succ] at x0 x1 x2 x3
  go_wp2_with (fail)
  refine Hrun.out.mono ?_
  rintro e w5 ⟨oa, oc, rfl, hi5, hb5⟩
  have Hbw5 := Lib.hid (hbw4.trans (hb5.mono hbw4.size))
  have Hi5 := Lib.hid hi5
  have hRl : R.length ≤ L := by rw [← HL.out]; exact hrl
  clear hb5 hi5 x0 x1 x2 x3 xl hA4 hbw4 hrl
  go_wp2_with (fail)
  go_loopw [9, 10, 34] (fun _ _ iv wr => ∃ k : Nat, k ≤ L ∧ iv = .int .i64 (k : Int) ∧ Below w5.heap.size w5 wr) (fun _ _ iv _ => L - (intOf iv).toNat)
  case atStart => exact ⟨0, Nat.zero_le _, rfl, Below.refl _ _⟩
  case round =>
    obtain ⟨k, hk, rfl, hbr⟩ := hrel
    by_cases hlt : k < L
    · have hkI : (k : Int) < (L : Int) := by omega
      have hkI0 : (0 : Int) ≤ (k : Int) := by omega
      have hbwr := Hbw5.out.trans (hbr.mono Hbw5.out.size)
      obtain ⟨b, off, hd, ks, ya, yc, xa, xcap, rfl, hat⟩ := (hI.grown hbwr).at (k := k) (by rw [HL.out]; exact hlt)
      obtain ⟨y0, y1, y2, hsp, hIk, hcut⟩ := hat
      have hblt : b < wr.heap.size := World.block_lt_of_cell? wr _ y0
      have hmx : ks.len ≤ xcap ∧ xcap ≤ 9223372036854775807 := ⟨hIk.le, hIk.max⟩
      have hmx2 : hd.set.length ≤ yc ∧ yc ≤ 9223372036854775807 := ⟨hsp.le, hsp.max⟩
      have hck := errF_drop f k Hk1.out hcut
      have hls := lsF_drop f k hcut
      have hbd : Below wr.heap.size wr ((wr.alloc (.cells #[.int .i64 hd.k, .slice ya hd.set.length yc, .slice xa ks.len xcap] 35)).drew) := ((Below.refl wr.heap.size wr).alloc (Nat.le_refl _) _).drew
      have hEd : Blk ((wr.alloc (.cells #[.int .i64 hd.k, .slice ya hd.set.length yc, .slice xa ks.len xcap] 35)).drew) wr.heap.size 35 [.int .i64 hd.k, .slice ya hd.set.length yc, .slice xa ks.len xcap] := Blk.new wr 35 #[.int .i64 hd.k, .slice ya hd.set.length yc, .slice xa ks.len xcap]
      have Hbwd := Lib.hid (hbr.trans (hbd.mono hbr.size))
      have HSt : Hid (∀ V, Below ((wr.alloc (.cells #[.int .i64 hd.k, .slice ya hd.set.length yc, .slice xa ks.len xcap] 35)).drew).heap.size ((wr.alloc (.cells #[.int .i64 hd.k, .slice ya hd.set.length yc, .slice xa ks.len xcap] 35)).drew) V → (Below ((wr.alloc (.cells #[.int .i64 hd.k, .slice ya hd.set.length yc, .slice xa ks.len xcap] 35)).drew).heap.size ((wr.alloc (.cells #[.int .i64 hd.k, .slice ya hd.set.length yc, .slice xa ks.len xcap] 35)).drew) V ∧ V.cell? ⟨wr.heap.size, 0, none⟩ = some (.int .i64 hd.k) ∧ V.cell? ⟨wr.heap.size, 1, none⟩ = some (.slice ya hd.set.length yc) ∧ V.cell? ⟨wr.heap.size, 2, none⟩ = some (.slice xa ks.len xcap))) := Lib.hid (fun V hV => by
        have h := hEd.below hV hEd.lt
        exact ⟨hV, by simpa using h.cell 0, by simpa using h.cell 1, by simpa using h.cell 2⟩)
      obtain ⟨B, hB⟩ : ∃ B, Hid (decide (k ∈ R) = B) := ⟨_, Lib.hid rfl⟩
      have hBm : mE ⟨hd, ks⟩ s.data.toList = B := by
        rw [← hB.out]
        have hc1 : ckX ⟨hd, ks⟩ ≠ 1 := by show checkE (Fo.pre 1 (.cons hd ks .nil)) ≠ 1; rw [hck]; decide
        have h1 := mE_is hc1 s.data.toList
        have h2 := Hri.out k
        rw [Bool.eq_iff_iff, h1, decide_eq_true_eq, h2]
        constructor
        · exact fun h => ⟨_, hls, h⟩
        · rintro ⟨M, h3, h4⟩
          rw [hls] at h3
          cases h3
          exact h4
      have HIn : Hid (∀ V, Below ((wr.alloc (.cells #[.int .i64 hd.k, .slice ya hd.set.length yc, .slice xa ks.len xcap] 35)).drew).heap.size ((wr.alloc (.cells #[.int .i64 hd.k, .slice ya hd.set.length yc, .slice xa ks.len xcap] 35)).drew) V → Calls Try.prog 26 #[.slice oa R.length oc, .int .i64 (k : Int)] V fun e V' => e = .returned (.bool B) ∧ Below ((wr.alloc (.cells #[.int .i64 hd.k, .slice ya hd.set.length yc, .slice xa ks.len xcap] 35)).drew).heap.size ((wr.alloc (.cells #[.int .i64 hd.k, .slice ya hd.set.length yc, .slice xa ks.len xcap] 35)).drew) V') := Lib.hid (fun V hV => by
        have h := inI_any R oa oc k V ((Hi5.out.grown Hbwd.out).grown hV)
        rw [hB.out] at h
        exact h.mono (fun e V' ⟨h1, h2⟩ => ⟨h1, by rw [h2]; exact hV⟩))
      have HMt : Hid (∀ V, Below ((wr.alloc (.cells #[.int .i64 hd.k, .slice ya hd.set.length yc, .slice xa ks.len xcap] 35)).drew).heap.size ((wr.alloc (.cells #[.int .i64 hd.k, .slice ya hd.set.length yc, .slice xa ks.len xcap] 35)).drew) V → Calls Try.prog 27 #[.agg #[.int .i64 hd.k, .slice ya hd.set.length yc, .slice xa ks.len xcap], .string s] V fun e V' => e = .returned (.bool B) ∧ Below ((wr.alloc (.cells #[.int .i64 hd.k, .slice ya hd.set.length yc, .slice xa ks.len xcap] 35)).drew).heap.size ((wr.alloc (.cells #[.int .i64 hd.k, .slice ya hd.set.length yc, .slice xa ks.len xcap] 35)).drew) V') := Lib.hid (fun V hV => by
        have h := refMatch_any ⟨⟨hd, ks⟩, ya, yc, xa, xcap⟩ s V (by omega) (by show checkE (Fo.pre 1 (.cons hd ks .nil)) ≠ 1; rw [hck]; decide) ((hsp.grown hbd).grown hV) ((hIk.grown hbd).grown hV)
        rw [hBm] at h
        exact h.mono (fun e V' ⟨h1, h2⟩ => ⟨h1, hV.trans (h2.mono hV.size)⟩))
      clear hsp hIk hcut hck hls hBm hbd hEd hbwr hbr
      go_wp2_with (fail)
      refine wp_region_held_drew (S := fun w' => (Below ((wr.alloc (.cells #[.int .i64 hd.k, .slice ya hd.set.length yc, .slice xa ks.len xcap] 35)).drew).heap.size ((wr.alloc (.cells #[.int .i64 hd.k, .slice ya hd.set.length yc, .slice xa ks.len xcap] 35)).drew) w' ∧ w'.cell? ⟨wr.heap.size, 0, none⟩ = some (.int .i64 hd.k) ∧ w'.cell? ⟨wr.heap.size, 1, none⟩ = some (.slice ya hd.set.length yc) ∧ w'.cell? ⟨wr.heap.size, 2, none⟩ = some (.slice xa ks.len xcap))) (by kernel_rfl) ?_ (fun hHeld => ?_)
      · exact HSt.out _ (Below.refl _ _)
      refine wpAnyH_take (i := 0) (v := ?_) (gatL gatZ) (by kernel_rfl) (by kernel_rfl) (by kernel_rfl) (fun _ _ _ h => h) (Or.inl ⟨by rfl, ?_⟩) (by assumption) ?_
      rotate_left
      · intro w hSw
        try dsimp only at hSw
        go_simp
        all_goals with_reducible rfl
      try simp only [Act.put, List.setIfInBounds_toArray, List.set_cons_zero, List.set_cons_succ]
      refine wpAnyH_take (i := 1) (v := ?_) (gatL (gatS gatZ)) (by kernel_rfl) (by kernel_rfl) (by kernel_rfl) (fun _ _ _ h => h) (Or.inl ⟨by rfl, ?_⟩) (by assumption) ?_
      rotate_left
      · intro w hSw
        try dsimp only at hSw
        go_simp
        all_goals with_reducible rfl
      try simp only [Act.put, List.setIfInBounds_toArray, List.set_cons_zero, List.set_cons_succ]
      refine wpAnyH_take (i := 3) (v := ?_) (gatL (gatS (gatS (gatS gatZ)))) (by kernel_rfl) (by kernel_rfl) (by kernel_rfl) (fun _ _ _ h => h) (Or.inl ⟨by rfl, ?_⟩) (by assumption) ?_
      rotate_left
      · intro w hSw
        try dsimp only at hSw
        go_simp
        all_goals with_reducible rfl
      try simp only [Act.put, List.setIfInBounds_toArray, List.set_cons_zero, List.set_cons_succ]
      refine wpAnyH_take (i := 4) (v := ?_) (gatL (gatS (gatS (gatS (gatS gatZ))))) (by kernel_rfl) (by kernel_rfl) (by kernel_rfl) (fun _ _ _ h => h) (Or.inl ⟨by rfl, ?_⟩) (by assumption) ?_
      rotate_left
      · intro w hSw
        try dsimp only at hSw
        go_simp
        all_goals with_reducible rfl
      try simp only [Act.put, List.setIfInBounds_toArray, List.set_cons_zero, List.set_cons_succ]
      refine wpAnyH_ready (rs := [2]) (by kernel_rfl) (by simp) ?_
      refine AllReadyH.cons (gatL (gatS (gatS gatZ))) (fun K hK => ?_) AllReadyH.nil
      go_simp
      go_at_call 26
      (with_reducible refine (HIn.out _ hHeld.1).mono ?_)
      rintro e V1 ⟨rfl, hV1⟩
      have HV1 := Lib.hid hV1
      clear hV1
      dsimp only
      refine hK.out _ _ ?_ (fun hHeld => ?_)
      · exact HSt.out _ HV1.out
      clear hK K
      try simp only [Act.put, List.setIfInBounds_toArray, List.set_cons_zero, List.set_cons_succ]
      refine wpAnyH_ready (rs := [5]) (by kernel_rfl) (by simp) ?_
      refine AllReadyH.cons (gatL (gatS (gatS (gatS (gatS (gatS gatZ)))))) (fun K hK => ?_) AllReadyH.nil
      go_simp
      go_at_call 27
      (with_reducible refine (HMt.out _ hHeld.1).mono ?_)
      rintro e V2 ⟨rfl, hV2⟩
      have HV2 := Lib.hid hV2
      clear hV2
      dsimp only
      refine hK.out _ _ ?_ (fun hHeld => ?_)
      · exact HSt.out _ HV2.out
      clear hK K
      try simp only [Act.put, List.setIfInBounds_toArray, List.set_cons_zero, List.set_cons_succ]
      refine wpAnyH_take (i := 6) (v := ?_) (gatL (gatS (gatS (gatS (gatS (gatS (gatS gatZ))))))) (by kernel_rfl) (by kernel_rfl) (by kernel_rfl) (fun _ _ _ h => h) (Or.inl ⟨by rfl, ?_⟩) (by assumption) ?_
      rotate_left
      · intro w hSw
        try dsimp only at hSw
        go_simp
        all_goals with_reducible rfl
      try simp only [Act.put, List.setIfInBounds_toArray, List.set_cons_zero, List.set_cons_succ]
      refine wpAnyH_done (by kernel_rfl) ?_ _
      go_wp2_with (fail)
      exact ⟨⟨k + 1, by omega, by simp, Hbwd.out.trans (HV2.out.mono Hbwd.out.size)⟩, by simp [intOf]; omega⟩
    · obtain rfl : k = L := by omega
      have hkI : ¬ (k : Int) < (k : Int) := by omega
      have HQ := Lib.hid (Hbw5.out.trans (hbr.mono Hbw5.out.size))
      have hRI : (R.length : Int) ≤ (k : Int) := by omega
      go_wp2_with (fail)
      exact bodyPost_ret (v := .bool true) (by simp [results, Try.results6, go_sem]; try rfl) rfl ⟨rfl, HQ.out⟩
end Go.Proofs.Ytpbceejjkdmclaa

/- The row NfaMatches: for every input: any expressions, any text: Run of Build has a number just if that expression matches: the law answers true and changes nothing that was there; no premise beyond the row's own. -/
namespace Go.Proofs.Ytpbceejjkdmclaa
open Go.ChangeShapes Go.WideShapes Go.ChangeAt Go.RowKit

set_option maxRecDepth 100000 in
theorem nfaMatches_lifted (os : Os) (started : os.Started) (H : Type) (enc : TypeId × Value → H) :
    ReturnsInHanded {} Try.checked os 6 .any (Rows.nfaMatchesSpec.pre6 enc Try.prog Try.f6 Rows.nfaMatchesRow.domain false) (Rows.nfaMatchesSpec.post enc Try.prog Try.f6 false true false false) := by
  refine returnsInHanded_of_change (C := Try.checked) Try.own started (by kernel_rfl) Try.func6
    (ChangeSpec.witness6 (enc := enc) (C := Try.checked) false ⟨#[], #[.slice none 0 0, .string ⟨#[]⟩], []⟩ 8 (by kernel_rfl) (by kernel_rfl) (by kernel_rfl) (by kernel_rfl)) ?_
  intro W base args ds gs before hval0 hW _ _
  have hval : ∀ (j : Nat) t v, Try.f6.params[j]? = some t → args[j]? = some v → Value.okWide Try.prog W .any base t v := hval0
  have hW' := hW
  obtain ⟨p, q, hA0, hV, rfl, hfz, hnd⟩ := hW
  have hA : DataW.TrodAll enc Try.prog W 0 (fun _ => true) true Try.f6.params.toList args.toList ds p := hA0
  rw [Try.params6] at hA hval
  obtain ⟨v0, v1, d0, d1, p0, p1, rfl, rfl, rfl, h0, h1⟩ := trodAll_two hA
  obtain ⟨a, cap, f, rfl, hI⟩ := open_res (hval 0 33 v0 rfl rfl) h0
  obtain ⟨s, rfl, _⟩ := open_str3 (hval 1 9 v1 rfl rfl) h1
  refine (nfaMatches_any f a cap s W hI).mono fun e W' ⟨he, hw⟩ => ?_
  subst he
  exact ⟨_, rfl, law_post hW' rfl rfl (by kernel_rfl) (by rw [Try.params6]; intro t ht; simp at ht; rcases ht with rfl | rfl; exact ⟨by kernel_rfl, of_decide_eq_true (by kernel_rfl)⟩; exact ⟨by kernel_rfl, of_decide_eq_true (by kernel_rfl)⟩) hw⟩

theorem nfaMatches_holds : Rows.NfaMatchesSaid :=
  OpenClaim.holds_of_wide 6 Try.f6 rfl rfl rfl rfl rfl rfl rfl ⟨rfl, rfl, rfl, rfl, rfl⟩ rfl rfl rfl rfl rfl (by kernel_rfl) Try.func6 (by kernel_rfl)
    (of_decide_eq_true (by kernel_rfl)) (by unfold Func.isWrapper; first | (rw [if_pos (by decide +kernel)]; kernel_rfl) | (rw [if_neg (by decide +kernel)]; exact ⟨rfl, rfl⟩))
    (fun os started H enc _ => nfaMatches_lifted os started H enc)
end Go.Proofs.Ytpbceejjkdmclaa
