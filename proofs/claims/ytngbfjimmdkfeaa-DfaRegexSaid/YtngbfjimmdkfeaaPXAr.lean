/- Texts joined: Law Arg Ar. -/
import Derived.Test.YtngbfjimmdkfeaaRows
import Derived.WalkKit
import Derived.ProofKit
import Derived.OpenShut
import Derived.JoinedCond
import Derived.Test.YtngbfjimmdkfeaaPXA
import Derived.Test.YtngbfjimmdkfeaaPXL
import Derived.Test.YtngbfjimmdkfeaaPXN1
set_option linter.unusedVariables false
set_option linter.unusedSimpArgs false
namespace Go.Proofs.Ytngbfjimmdkfeaa
open Go.ChangeShapes Go.WideShapes Go.ChangeAt Go.RowKit

theorem Try.own : ownKnob Try.prog.godebug = none := by kernel_rfl
theorem Try.laidOut : laidOutB Try.prog = true := by kernel_rfl

theorem trodAll_stays {H : Type} {enc : TypeId × Value → H} {P : Program} (hl : laidOutB P = true) {W W' : World} {sp : Nat → Bool} : ∀ (ts : List TypeId) (vs : List Value) (ds : List (DataW H)) (ps : List MemPlace),
    (∀ t ∈ ts, P.readableRec t = true ∧ t < P.types.size) → DataW.TrodAll enc P W 0 (fun _ => true) true ts vs ds ps → (∀ p ∈ ps, W.sameAt W' p) → (∀ p ∈ ps, sp p.block = true) → DataW.TrodAll enc P W' 0 sp true ts vs ds ps
  | [], _, _, _, _, h, _, _ => by
    obtain ⟨rfl, rfl, rfl⟩ := trodAll_nil h
    exact trodAll_mk0
  | t :: ts, _, _, _, hr, h, hs, hp => by
    obtain ⟨v, vs1, d, ds1, a, b, rfl, rfl, rfl, h1, h2⟩ := trodAll_cons h
    have ht := hr t (List.mem_cons_self ..)
    exact trodAll_cons_mk (WideElems.Trod_stays hl ht.1 ht.2 h1 (fun x hx => hs x (List.mem_append_left _ hx)) (fun x hx => hp x (List.mem_append_left _ hx)))
      (trodAll_stays hl ts vs1 ds1 b (fun t h => hr t (List.mem_cons_of_mem _ h)) h2 (fun x hx => hs x (List.mem_append_right _ hx)) (fun x hx => hp x (List.mem_append_right _ hx)))


set_option maxRecDepth 100000 in
theorem law_post {H : Type} {enc : TypeId × Value → H} {f : Func} {s : ChangeSpec} {apart fresh handsOn again : Bool} {W W' : World} {args : Array Value} {ds gs : List (DataW H)} {before : List MemPlace}
    (hW : DataW.Whole enc Try.prog f.params.toList s.vars apart W args.toList ds gs before) (hv : s.vars = []) (hs : s.fn H ds = { results := [.lit (.bool true)], args := ds }) (hres : f.resultTypes = #[4])
    (hp : ∀ t ∈ f.params.toList, Try.prog.readableRec t = true ∧ t < Try.prog.types.size) (hb : Below W.heap.size W W') :
    s.post enc Try.prog f apart fresh handsOn again W args (.bool true) W' := by
  have hlt := hW.lt
  have hW' := hW
  obtain ⟨p, q, hA, hV, rfl, hfz, hnd⟩ := hW
  rw [hv] at hV
  obtain ⟨rfl, rfl⟩ := trodVars_none hV
  have hfn : s.fn H (ds ++ []) = { results := [.lit (.bool true)], args := ds } := by rw [List.append_nil]; exact hs
  have hargs : ∀ sp : Nat → Bool, (∀ x ∈ p, sp x.block = true) → DataW.TrodAll enc Try.prog W' 0 sp true f.params.toList args.toList ds p := fun sp hsp =>
    trodAll_stays Try.laidOut _ _ _ _ hp hA (fun x hx => hb.same (hlt x (List.mem_append_left _ hx))) hsp
  have hrs : ∀ (b : Nat) (sp : Nat → Bool) (hd : Bool), DataW.TrodAll enc Try.prog W' b sp hd f.resultTypes.toList ((Value.bool true).resultList f.resultTypes.size) [.lit (.bool true)] [] := fun b sp hd => by
    rw [hres]; exact trodAll_cons_mk (shut_bool Try.underlying4 true) trodAll_mk0
  refine ⟨ds, [], p ++ [], [], p, [], hW', ?_, ?_, ?_, hb.frame _, fun _ => ?_⟩
  · rw [hfn]; exact hrs _ _ _
  · rw [hfn]; exact hargs _ (fun x hx => by simpa using hlt x (List.mem_append_left _ hx))
  · rw [hv, hfn]; exact rfl
  · refine ⟨ok_one hres rfl (okWide_bool_mk Try.underlying4 true), [.lit (.bool true)] ++ ds, [], ([] ++ p) ++ [], ⟨[] ++ p, [], ?_, ?_, rfl, ?_, ?_⟩, ?_⟩
    · exact trodAll_append (hargs _ (fun _ _ => rfl)) (hrs _ _ _)
    · rw [hv]; exact rfl
    · intro b off hx
      have hx' : MemPlace.cell b off ∈ p ++ [] := by simpa using hx
      rw [hb.frozen (p := ⟨b, off, none⟩) (hlt _ hx')]
      exact hfz b off hx'
    · intro ha
      simpa using hnd ha
    · intro x hx _
      simpa using hx

end Go.Proofs.Ytngbfjimmdkfeaa

namespace Go.Proofs.Ytngbfjimmdkfeaa
open Go.ChangeShapes Go.WideShapes Go.ChangeAt Go.RowKit

theorem re_cells : Try.prog.cellsOf 45 = 3 := by kernel_rfl
theorem span_cells : Try.prog.cellsOf 55 = 2 := by kernel_rfl
theorem int_cells : Try.prog.cellsOf 3 = 1 := by kernel_rfl
theorem u8_cells : Try.prog.cellsOf 5 = 1 := by kernel_rfl
theorem res_cells : Try.prog.cellsOf 42 = 1 := by kernel_rfl
theorem spans_cells : Try.prog.cellsOf 43 = 1 := by kernel_rfl

set_option maxRecDepth 100000 in
theorem open_span {H : Type} {enc : TypeId × Value → H} {W : World} {base : Nat} {sp : Nat → Bool} {hd : Bool} (fuel : Nat) (cs : List Value) (x : DataW H × List MemPlace) (h : DataW.trod enc Try.prog W base sp hd fuel 55 cs = some x) :
    ∃ s : Sp, cs = [.int .u8 (s.lo.toNat : Int), .int .u8 (s.hi.toNat : Int)] := by
  obtain ⟨xs, n, rfl, rfl, hl, hlen, hf⟩ := DataW.trod_struct Try.underlying55 h
  rw [span_cells] at hl
  obtain ⟨v0, v1, rfl⟩ : ∃ v0 v1, cs = [v0, v1] := by
    match cs, hl with
    | [v0, v1], _ => exact ⟨v0, v1, rfl⟩
  obtain ⟨y0, y1, rfl⟩ : ∃ y0 y1, xs = [y0, y1] := by
    match xs, hlen with
    | [y0, y1], _ => exact ⟨y0, y1, rfl⟩
  have h0 := hf 0 _ rfl
  have h1 := hf 1 _ rfl
  simp only [u8_cells, List.drop_zero, List.drop_succ_cons, List.take_succ_cons, List.take_zero, List.getElem?_cons_zero, List.getElem?_cons_succ] at h0 h1
  obtain ⟨k, e0, _, w0⟩ := DataW.trod_int Try.underlying5 h0
  obtain ⟨m, e1, _, w1⟩ := DataW.trod_int Try.underlying5 h1
  injection e0 with e0 _
  injection e1 with e1 _
  subst e0 e1
  simp [Lit.wf, IntKind.min, IntKind.max, IntKind.signed, IntKind.bits] at w0 w1
  refine ⟨⟨UInt8.ofNat k.toNat, UInt8.ofNat m.toNat⟩, ?_⟩
  have e0 : (((UInt8.ofNat k.toNat).toNat : Nat) : Int) = k := by rw [UInt8.toNat_ofNat']; omega
  have e1 : (((UInt8.ofNat m.toNat).toNat : Nat) : Int) = m := by rw [UInt8.toNat_ofNat']; omega
  rw [e0, e1]

theorem list_of {P : Nat → Sp → Prop} : ∀ n, (∀ i, i < n → ∃ s, P i s) → ∃ l : List Sp, l.length = n ∧ ∀ i (h : i < l.length), P i l[i] := by
  intro n
  induction n with
  | zero => intro _; exact ⟨[], rfl, fun i h => by simp at h⟩
  | succ n ih =>
    intro h
    obtain ⟨l, h1, h2⟩ := ih (fun i hi => h i (by omega))
    obtain ⟨s, hs⟩ := h n (by omega)
    refine ⟨l ++ [s], by simp [h1], fun i hi => ?_⟩
    by_cases hi2 : i < l.length
    · rw [List.getElem_append_left hi2]; exact h2 i hi2
    · have : i = l.length := by simp at hi; omega
      subst this
      rw [List.getElem_append_right (Nat.le_refl _)]
      simp only [Nat.sub_self, List.getElem_cons_zero]
      rw [h1]; exact hs
/-- A slice of spans, read. -/
theorem open_spans {H : Type} {enc : TypeId × Value → H} {W : World} {base : Nat} {sp : Nat → Bool} {hd : Bool} (fuel : Nat) (cs : List Value) (x : DataW H × List MemPlace) (h : DataW.trod enc Try.prog W base sp hd fuel 43 cs = some x) :
    ∃ (a : Option Addr) (cap : Nat) (l : List Sp), cs = [.slice a l.length cap] ∧ Sps W a cap l := by
  rcases DataW.trod_slice Try.underlying43 h with ⟨e3, _⟩ | ⟨a, len, cap, elems, rest, n', hn, e3, _, hb, hle, hm, hel, hcell, _, _⟩
  · exact ⟨none, 0, [], by rw [e3]; rfl, Sps.nil W⟩
  · have hmax : maxLen ≤ 9223372036854775807 := by decide
    have each : ∀ i, i < len → ∃ s : Sp, ∀ j, j < 2 → W.cell? ((a.add (i * 2)).add j) = [.int .u8 (s.lo.toNat : Int), .int .u8 (s.hi.toNat : Int)][j]? := by
      intro i hi
      have hc := hcell i hi
      rw [List.getElem?_eq_getElem (by omega), span_cells, Option.bind_eq_some_iff] at hc
      obtain ⟨cs', hcs, ht⟩ := hc
      obtain ⟨s, rfl⟩ := open_span n' cs' _ ht
      exact ⟨s, fun j hj => (World.cells?_some hcs).2.2 j hj⟩
    by_cases h0 : len = 0
    · subst h0
      exact ⟨some a, cap, [], by rw [e3]; rfl, ⟨by simp, by omega, fun e => (by cases e), fun i h => by simp at h, fun b off e i h => by simp at h⟩⟩
    · obtain ⟨b, off, spot⟩ := a
      have hspot : spot = none := by
        obtain ⟨s, hc⟩ := each 0 (by omega)
        have := hc 0 (by omega)
        simpa [Addr.add] using World.cell?_spot this
      subst hspot
      have each2 : ∀ i, i < len → ∃ s : Sp, W.cell? ⟨b, off + i * 2, none⟩ = some (.int .u8 (s.lo.toNat : Int)) ∧ W.cell? ⟨b, off + i * 2 + 1, none⟩ = some (.int .u8 (s.hi.toNat : Int)) := by
        intro i hi
        obtain ⟨s, hc⟩ := each i hi
        have hc' : ∀ q, q < 2 → W.cell? ⟨b, off + i * 2 + q, none⟩ = [.int .u8 (s.lo.toNat : Int), .int .u8 (s.hi.toNat : Int)][q]? := fun q hq => by
          have := hc q hq
          rwa [add_plain, add_plain] at this
        exact ⟨s, hc' 0 (by omega), hc' 1 (by omega)⟩
      obtain ⟨l, hl1, hl2⟩ := list_of len each2
      refine ⟨some ⟨b, off, none⟩, cap, l, by rw [e3, hl1], ⟨by omega, by omega, fun e => (by cases e), fun i _ => ⟨b, off, rfl⟩, fun b' off' e i hi => ?_⟩⟩
      cases e
      exact hl2 i hi

/-- The elements of a slice, each of which reads as an expression, read as a list of expressions. -/
theorem elems_of {W : World} {b off : Nat} : ∀ (m : Nat) (i : Nat), (∀ j, i ≤ j → j < i + m → ∃ (hd : Hd) (sa : Option Addr) (sc : Nat) (xa : Option Addr) (n xcap : Nat) (ks : Fo), W.cell? ⟨b, off + j * 3, none⟩ = some (.int .i64 hd.k) ∧ W.cell? ⟨b, off + j * 3 + 1, none⟩ = some (.slice sa hd.set.length sc) ∧ W.cell? ⟨b, off + j * 3 + 2, none⟩ = some (.slice xa n xcap) ∧ n = ks.len ∧ Sps W sa sc hd.set ∧ Items W xa xcap ks) →
    ∃ f : Fo, f.len = m ∧ Elems W f b (off + i * 3) := by
  intro m
  induction m with
  | zero => intro i _; exact ⟨.nil, rfl, trivial⟩
  | succ m ih =>
    intro i h
    obtain ⟨rest, hl, he⟩ := ih (i + 1) (fun j h1 h2 => h j (by omega) (by omega))
    obtain ⟨hd, sa, sc, xa, n, xcap, ks, c0, c1, c2, rfl, hS, hI⟩ := h i (Nat.le_refl _) (by omega)
    refine ⟨.cons hd ks rest, by simp [Fo.len, hl], c0, ⟨sa, sc, c1, hS⟩, ⟨xa, xcap, c2, hI.le, hI.max, hI.nil_, hI.at_⟩, ?_⟩
    rw [show off + i * 3 + 3 = off + (i + 1) * 3 from by omega]
    exact he

set_option maxRecDepth 100000 in
theorem open_cells {H : Type} {enc : TypeId × Value → H} {W : World} {base : Nat} {sp : Nat → Bool} {hd : Bool} : ∀ (fuel : Nat) (cs : List Value) (x : DataW H × List MemPlace), DataW.trod enc Try.prog W base sp hd fuel 45 cs = some x →
    ∃ (h : Hd) (sa : Option Addr) (sc : Nat) (a : Option Addr) (n cap : Nat) (kids : Fo), cs = [.int .i64 h.k, .slice sa h.set.length sc, .slice a n cap] ∧ n = kids.len ∧ Sps W sa sc h.set ∧ Items W a cap kids := by
  intro fuel
  induction fuel using Nat.strongRecOn with
  | _ fuel ih =>
    intro cs x h
    obtain ⟨xs, n, rfl, rfl, hl, hlen, hf⟩ := DataW.trod_struct Try.underlying45 h
    rw [re_cells] at hl
    obtain ⟨v0, v1, v2, rfl⟩ : ∃ v0 v1 v2, cs = [v0, v1, v2] := by
      match cs, hl with
      | [v0, v1, v2], _ => exact ⟨v0, v1, v2, rfl⟩
    obtain ⟨y0, y1, y2, rfl⟩ : ∃ y0 y1 y2, xs = [y0, y1, y2] := by
      match xs, hlen with
      | [y0, y1, y2], _ => exact ⟨y0, y1, y2, rfl⟩
    have h0 := hf 0 _ rfl
    have h1 := hf 1 _ rfl
    have h2 := hf 2 _ rfl
    simp only [int_cells, spans_cells, res_cells, List.drop_zero, List.drop_succ_cons, List.take_succ_cons, List.take_zero, List.getElem?_cons_zero, List.getElem?_cons_succ] at h0 h1 h2
    obtain ⟨k, e0, _, _⟩ := DataW.trod_int Try.underlying3 h0
    injection e0 with e0 _
    subst e0
    obtain ⟨sa, sc, l, e1, hS⟩ := open_spans _ _ _ h1
    injection e1 with e1 _
    subst e1
    rcases DataW.trod_slice Try.underlying42 h2 with ⟨e3, _⟩ | ⟨a, len, cap, elems, rest, n', hn, e3, _, hb, hle, hm, hel, hcell, _, _⟩
    · injection e3 with e3 _
      subst e3
      exact ⟨⟨k, l⟩, sa, sc, none, 0, 0, .nil, rfl, rfl, hS, Items.nil W⟩
    · injection e3 with e3 _
      subst e3
      have hmax : maxLen ≤ 9223372036854775807 := by decide
      have each : ∀ i, i < len → ∃ (hd : Hd) (sa : Option Addr) (sc : Nat) (xa : Option Addr) (n xcap : Nat) (ks : Fo), (∀ j, j < 3 → W.cell? ((a.add (i * 3)).add j) = [.int .i64 hd.k, .slice sa hd.set.length sc, .slice xa n xcap][j]?) ∧ n = ks.len ∧ Sps W sa sc hd.set ∧ Items W xa xcap ks := by
        intro i hi
        have hc := hcell i hi
        rw [List.getElem?_eq_getElem (by omega), re_cells, Option.bind_eq_some_iff] at hc
        obtain ⟨cs', hcs, ht⟩ := hc
        obtain ⟨hd, sa, sc, xa, n2, xcap, ks, rfl, e, hS, hI⟩ := ih n' (by omega) cs' _ ht
        exact ⟨hd, sa, sc, xa, n2, xcap, ks, fun j hj => (World.cells?_some hcs).2.2 j hj, e, hS, hI⟩
      by_cases h0 : len = 0
      · subst h0
        exact ⟨⟨k, l⟩, sa, sc, some a, 0, cap, .nil, rfl, rfl, hS, ⟨Nat.zero_le _, by omega, fun e => (by cases e), fun h => by simp [Fo.len] at h⟩⟩
      · obtain ⟨b, off, spot⟩ := a
        have hspot : spot = none := by
          obtain ⟨hd, sa, sc, xa, n2, xcap, ks, hc, _⟩ := each 0 (by omega)
          have := hc 0 (by omega)
          simpa [Addr.add] using World.cell?_spot this
        subst hspot
        obtain ⟨f, hfl, hfe⟩ := elems_of (W := W) (b := b) (off := off) len 0 (fun j _ h2 => by
          obtain ⟨hd, sa, sc, xa, n2, xcap, ks, hc, e, hS, hI⟩ := each j (by omega)
          have hc' : ∀ q, q < 3 → W.cell? ⟨b, off + j * 3 + q, none⟩ = [.int .i64 hd.k, .slice sa hd.set.length sc, .slice xa n2 xcap][q]? := fun q hq => by
            have := hc q hq
            rwa [add_plain, add_plain] at this
          exact ⟨hd, sa, sc, xa, n2, xcap, ks, hc' 0 (by omega), hc' 1 (by omega), hc' 2 (by omega), e, hS, hI⟩)
        rw [Nat.zero_mul, Nat.add_zero] at hfe
        exact ⟨⟨k, l⟩, sa, sc, some ⟨b, off, none⟩, len, cap, f, rfl, hfl.symm, hS, ⟨by omega, by omega, fun e => (by cases e), fun _ => ⟨b, off, rfl, hfe⟩⟩⟩


end Go.Proofs.Ytngbfjimmdkfeaa

namespace Go.Proofs.Ytngbfjimmdkfeaa
open Go.ChangeShapes Go.WideShapes Go.ChangeAt Go.RowKit

set_option maxRecDepth 100000 in
/-- A list of expressions, read. -/
theorem open_relist {H : Type} {enc : TypeId × Value → H} {W : World} {base : Nat} {sp : Nat → Bool} {hd : Bool} (fuel : Nat) (cs : List Value) (x : DataW H × List MemPlace) (h2 : DataW.trod enc Try.prog W base sp hd fuel 42 cs = some x) :
    ∃ (a : Option Addr) (n cap : Nat) (f : Fo), cs = [.slice a n cap] ∧ n = f.len ∧ Items W a cap f := by
  rcases DataW.trod_slice Try.underlying42 h2 with ⟨e3, _⟩ | ⟨a, len, cap, elems, rest, n', hn, e3, _, hb, hle, hm, hel, hcell, _, _⟩
  · exact ⟨none, 0, 0, .nil, e3, rfl, Items.nil W⟩
  · have hmax : maxLen ≤ 9223372036854775807 := by decide
    have each : ∀ i, i < len → ∃ (hd : Hd) (sa : Option Addr) (sc : Nat) (xa : Option Addr) (n xcap : Nat) (ks : Fo), (∀ j, j < 3 → W.cell? ((a.add (i * 3)).add j) = [.int .i64 hd.k, .slice sa hd.set.length sc, .slice xa n xcap][j]?) ∧ n = ks.len ∧ Sps W sa sc hd.set ∧ Items W xa xcap ks := by
      intro i hi
      have hc := hcell i hi
      rw [List.getElem?_eq_getElem (by omega), re_cells, Option.bind_eq_some_iff] at hc
      obtain ⟨cs', hcs, ht⟩ := hc
      obtain ⟨hd, sa, sc, xa, n2, xcap, ks, rfl, e, hS, hI⟩ := open_cells n' cs' _ ht
      exact ⟨hd, sa, sc, xa, n2, xcap, ks, fun j hj => (World.cells?_some hcs).2.2 j hj, e, hS, hI⟩
    by_cases h0 : len = 0
    · subst h0
      exact ⟨some a, 0, cap, .nil, e3, rfl, ⟨Nat.zero_le _, by omega, fun e => (by cases e), fun h => by simp [Fo.len] at h⟩⟩
    · obtain ⟨b, off, spot⟩ := a
      have hspot : spot = none := by
        obtain ⟨hd, sa, sc, xa, n2, xcap, ks, hc, _⟩ := each 0 (by omega)
        have := hc 0 (by omega)
        simpa [Addr.add] using World.cell?_spot this
      subst hspot
      obtain ⟨f, hfl, hfe⟩ := elems_of (W := W) (b := b) (off := off) len 0 (fun j _ h2 => by
        obtain ⟨hd, sa, sc, xa, n2, xcap, ks, hc, e, hS, hI⟩ := each j (by omega)
        have hc' : ∀ q, q < 3 → W.cell? ⟨b, off + j * 3 + q, none⟩ = [.int .i64 hd.k, .slice sa hd.set.length sc, .slice xa n2 xcap][q]? := fun q hq => by
          have := hc q hq
          rwa [add_plain, add_plain] at this
        exact ⟨hd, sa, sc, xa, n2, xcap, ks, hc' 0 (by omega), hc' 1 (by omega), hc' 2 (by omega), e, hS, hI⟩)
      rw [Nat.zero_mul, Nat.add_zero] at hfe
      exact ⟨some ⟨b, off, none⟩, len, cap, f, e3, hfl.symm, ⟨by omega, by omega, fun e => (by cases e), fun _ => ⟨b, off, rfl, hfe⟩⟩⟩

set_option maxRecDepth 100000 in
theorem open_res {H : Type} {enc : TypeId × Value → H} {W : World} {v : Value} {d : DataW H} {ps : List MemPlace} (hok : Value.okWide Try.prog W .any 0 42 v) (h : DataW.Trod enc Try.prog W 0 (fun _ => true) true 42 v d ps) :
    ∃ (a : Option Addr) (cap : Nat) (f : Fo), v = .slice a f.len cap ∧ Items W a cap f := by
  obtain ⟨a0, len0, cap0, rfl⟩ := okWide_slice Try.underlying42 hok
  obtain ⟨fuel, hf⟩ := h
  obtain ⟨a, n, cap, f, e, rfl, hI⟩ := open_relist fuel _ _ hf
  simp only [Value.cells, List.cons.injEq, and_true] at e
  exact ⟨a, cap, f, e, hI⟩
set_option maxRecDepth 100000 in
theorem open_str3 {H : Type} {enc : TypeId × Value → H} {W : World} {v : Value} {d : DataW H} {ps : List MemPlace} (hok : Value.okWide Try.prog W .any 0 9 v) (h : DataW.Trod enc Try.prog W 0 (fun _ => true) true 9 v d ps) :
    ∃ s : ByteArray, v = .string s ∧ s.size ≤ 9223372036854775807 := by
  obtain ⟨s, rfl⟩ := okWide_string Try.underlying9 hok
  obtain ⟨fuel, hf⟩ := h
  obtain ⟨s', e, _, ws⟩ := DataW.trod_string Try.underlying9 hf
  simp only [Value.cells, List.cons.injEq, and_true] at e
  injection e with e
  subst e
  have hmax : maxLen ≤ 9223372036854775807 := by decide
  exact ⟨s, rfl, Nat.le_trans ws hmax⟩
end Go.Proofs.Ytngbfjimmdkfeaa

