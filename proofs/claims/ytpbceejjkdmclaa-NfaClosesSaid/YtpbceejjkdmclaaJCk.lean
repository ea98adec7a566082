/- Texts of layer 2 joined: An Ck PCk. -/
import Derived.Test.YtpbceejjkdmclaaJNm
import Derived.Test.YtpbceejjkdmclaaJN6
import Derived.Test.YtpbceejjkdmclaaJRc
import Derived.Test.YtpbceejjkdmclaaJK4
set_option linter.unusedVariables false
set_option linter.unusedSimpArgs false
/- Layer 3: automata among a law's arguments, opened. -/
namespace Go.Proofs.Ytpbceejjkdmclaa
open Go.ChangeShapes Go.WideShapes Go.ChangeAt Go.RowKit

theorem edge_cells : Try.prog.cellsOf 29 = 3 := by kernel_rfl
theorem nfa_cells : Try.prog.cellsOf 25 = 4 := by kernel_rfl
theorem ints_cells : Try.prog.cellsOf 22 = 1 := by kernel_rfl
theorem edges_cells : Try.prog.cellsOf 23 = 1 := by kernel_rfl
theorem glist_of {α : Type} {P : Nat → α → Prop} : ∀ n, (∀ i, i < n → ∃ s, P i s) → ∃ l : List α, l.length = n ∧ ∀ i (h : i < l.length), P i l[i] := by
  intro n
  induction n with
  | zero => intro _; exact ⟨[], rfl, fun i h => by simp at h⟩
  | succ n ih =>
    intro h
    obtain ⟨l, h1, h2⟩ := ih (fun i hi => h i (by omega))
    obtain ⟨s, hs⟩ := h n (by omega)
    refine ⟨l ++ [s], by simp [h1], fun i hi => ?_⟩
    by_cases hi2 : i < l.length
    · rw [List.getElem_append_left hi2]; exact h2 i hi2
    · have : i = l.length := by simp at hi; omega
      subst this
      rw [List.getElem_append_right (Nat.le_refl _)]
      simp only [Nat.sub_self, List.getElem_cons_zero]
      rw [h1]; exact hs

set_option maxRecDepth 100000 in
/-- A list of numbers, read. -/
theorem open_intl {H : Type} {enc : TypeId × Value → H} {W : World} {base : Nat} {sp : Nat → Bool} {hd : Bool} (fuel : Nat) (cs : List Value) (x : DataW H × List MemPlace) (h : DataW.trod enc Try.prog W base sp hd fuel 22 cs = some x) :
    ∃ (a : Option Addr) (cap : Nat) (l : List Int), cs = [.slice a l.length cap] ∧ Ints W a cap l := by
  rcases DataW.trod_slice Try.underlying22 h with ⟨e3, _⟩ | ⟨a, len, cap, elems, rest, n', hn, e3, _, hb, hle, hm, hel, hcell, _, _⟩
  · exact ⟨none, 0, [], by rw [e3]; rfl, Ints.nil W⟩
  · have hmax : maxLen ≤ 9223372036854775807 := by decide
    have each : ∀ i, i < len → ∃ s : Int, W.cell? ((a.add (i * 1)).add 0) = some (.int .i64 s) := by
      intro i hi
      have hc := hcell i hi
      rw [List.getElem?_eq_getElem (by omega), int_cells, Option.bind_eq_some_iff] at hc
      obtain ⟨cs', hcs, ht⟩ := hc
      obtain ⟨k, e0, _, _⟩ := DataW.trod_int Try.underlying3 ht
      subst e0
      exact ⟨k, (World.cells?_some hcs).2.2 0 (by omega)⟩
    by_cases h0 : len = 0
    · subst h0
      exact ⟨some a, cap, [], by rw [e3]; rfl, ⟨by simp, by omega, fun e => (by cases e), fun i h => by simp at h, fun b off e i h => by simp at h⟩⟩
    · obtain ⟨b, off, spot⟩ := a
      have hspot : spot = none := by
        obtain ⟨s, hc⟩ := each 0 (by omega)
        simpa [Addr.add] using World.cell?_spot hc
      subst hspot
      have each2 : ∀ i, i < len → ∃ s : Int, W.cell? ⟨b, off + i, none⟩ = some (.int .i64 s) := by
        intro i hi
        obtain ⟨s, hc⟩ := each i hi
        rw [add_plain, add_plain, Nat.mul_one, Nat.add_zero] at hc
        exact ⟨s, hc⟩
      obtain ⟨l, hl1, hl2⟩ := glist_of len each2
      refine ⟨some ⟨b, off, none⟩, cap, l, by rw [e3, hl1], ⟨by omega, by omega, fun e => (by cases e), fun i _ => ⟨b, off, rfl⟩, fun b' off' e i hi => ?_⟩⟩
      cases e
      exact hl2 i hi

set_option maxRecDepth 100000 in
theorem open_edge {H : Type} {enc : TypeId × Value → H} {W : World} {base : Nat} {sp : Nat → Bool} {hd : Bool} (fuel : Nat) (cs : List Value) (x : DataW H × List MemPlace) (h : DataW.trod enc Try.prog W base sp hd fuel 29 cs = some x) :
    ∃ (e : Eg) (sa : Option Addr) (sc : Nat), cs = [.int .i64 e.f, .int .i64 e.t, .slice sa e.q.length sc] ∧ Sps W sa sc e.q := by
  obtain ⟨xs, n, rfl, rfl, hl, hlen, hf⟩ := DataW.trod_struct Try.underlying29 h
  rw [edge_cells] at hl
  obtain ⟨v0, v1, v2, rfl⟩ : ∃ v0 v1 v2, cs = [v0, v1, v2] := by
    match cs, hl with
    | [v0, v1, v2], _ => exact ⟨v0, v1, v2, rfl⟩
  obtain ⟨y0, y1, y2, rfl⟩ : ∃ y0 y1 y2, xs = [y0, y1, y2] := by
    match xs, hlen with
    | [y0, y1, y2], _ => exact ⟨y0, y1, y2, rfl⟩
  have h0 := hf 0 _ rfl
  have h1 := hf 1 _ rfl
  have h2 := hf 2 _ rfl
  simp only [int_cells, spans_cells, List.drop_zero, List.drop_succ_cons, List.take_succ_cons, List.take_zero, List.getElem?_cons_zero, List.getElem?_cons_succ] at h0 h1 h2
  obtain ⟨k, e0, _, _⟩ := DataW.trod_int Try.underlying3 h0
  injection e0 with e0 _
  subst e0
  obtain ⟨m, e1, _, _⟩ := DataW.trod_int Try.underlying3 h1
  injection e1 with e1 _
  subst e1
  obtain ⟨sa, sc, l, e2, hS⟩ := open_spans _ _ _ h2
  injection e2 with e2 _
  subst e2
  exact ⟨⟨k, m, l⟩, sa, sc, rfl, hS⟩

set_option maxRecDepth 100000 in
/-- A list of edges, read. -/
theorem open_edgel {H : Type} {enc : TypeId × Value → H} {W : World} {base : Nat} {sp : Nat → Bool} {hd : Bool} (fuel : Nat) (cs : List Value) (x : DataW H × List MemPlace) (h : DataW.trod enc Try.prog W base sp hd fuel 23 cs = some x) :
    ∃ (a : Option Addr) (cap : Nat) (l : List Eg), cs = [.slice a l.length cap] ∧ Egs W a cap l := by
  rcases DataW.trod_slice Try.underlying23 h with ⟨e3, _⟩ | ⟨a, len, cap, elems, rest, n', hn, e3, _, hb, hle, hm, hel, hcell, _, _⟩
  · exact ⟨none, 0, [], by rw [e3]; rfl, Egs.nil W⟩
  · have hmax : maxLen ≤ 9223372036854775807 := by decide
    have each : ∀ i, i < len → ∃ (e : Eg) (sa : Option Addr) (sc : Nat), (∀ j, j < 3 → W.cell? ((a.add (i * 3)).add j) = [.int .i64 e.f, .int .i64 e.t, .slice sa e.q.length sc][j]?) ∧ Sps W sa sc e.q := by
      intro i hi
      have hc := hcell i hi
      rw [List.getElem?_eq_getElem (by omega), edge_cells, Option.bind_eq_some_iff] at hc
      obtain ⟨cs', hcs, ht⟩ := hc
      obtain ⟨e, sa, sc, rfl, hS⟩ := open_edge n' cs' _ ht
      exact ⟨e, sa, sc, fun j hj => (World.cells?_some hcs).2.2 j hj, hS⟩
    by_cases h0 : len = 0
    · subst h0
      exact ⟨some a, cap, [], by rw [e3]; rfl, ⟨by simp, by omega, fun e => (by cases e), fun i h => by simp at h, fun b off e i h => by simp at h⟩⟩
    · obtain ⟨b, off, spot⟩ := a
      have hspot : spot = none := by
        obtain ⟨e, sa, sc, hc, _⟩ := each 0 (by omega)
        have := hc 0 (by omega)
        simpa [Addr.add] using World.cell?_spot this
      subst hspot
      have each2 : ∀ i, i < len → ∃ e : Eg, W.cell? ⟨b, off + i * 3, none⟩ = some (.int .i64 e.f) ∧ W.cell? ⟨b, off + i * 3 + 1, none⟩ = some (.int .i64 e.t) ∧ ∃ sa sc, W.cell? ⟨b, off + i * 3 + 2, none⟩ = some (.slice sa e.q.length sc) ∧ Sps W sa sc e.q := by
        intro i hi
        obtain ⟨e, sa, sc, hc, hS⟩ := each i hi
        have hc' : ∀ q, q < 3 → W.cell? ⟨b, off + i * 3 + q, none⟩ = [.int .i64 e.f, .int .i64 e.t, .slice sa e.q.length sc][q]? := fun q hq => by
          have := hc q hq
          rwa [add_plain, add_plain] at this
        exact ⟨e, hc' 0 (by omega), hc' 1 (by omega), sa, sc, hc' 2 (by omega), hS⟩
      obtain ⟨l, hl1, hl2⟩ := glist_of len each2
      refine ⟨some ⟨b, off, none⟩, cap, l, by rw [e3, hl1], ⟨by omega, by omega, fun e => (by cases e), fun i _ => ⟨b, off, rfl⟩, fun b' off' e i hi => ?_⟩⟩
      cases e
      exact hl2 i hi

set_option maxRecDepth 100000 in
/-- An automaton, opened. -/
theorem open_nfa {H : Type} {enc : TypeId × Value → H} {W : World} {v : Value} {d : DataW H} {ps : List MemPlace} (hok : Value.okWide Try.prog W .any 0 25 v) (h : DataW.Trod enc Try.prog W 0 (fun _ => true) true 25 v d ps) :
    ∃ (x : Nf) (p : NfL), v = .agg #[.int .i64 x.n, .int .i64 x.s, .slice p.ea x.ends.length p.ec, .slice p.ga x.es.length p.gc] ∧ NfAt W x p := by
  obtain ⟨cs, rfl, _⟩ := okWide_struct Try.underlying25 hok
  obtain ⟨fuel, hf⟩ := h
  obtain ⟨xs, n, rfl, _, hl, hlen, hf⟩ := DataW.trod_struct Try.underlying25 hf
  rw [nfa_cells] at hl
  obtain ⟨v0, v1, v2, v3, hv⟩ : ∃ v0 v1 v2 v3, cs.toList = [v0, v1, v2, v3] := by
    match hc : cs.toList, (show cs.toList.length = 4 from hl) with
    | [v0, v1, v2, v3], _ => exact ⟨v0, v1, v2, v3, rfl⟩
  obtain ⟨y0, y1, y2, y3, rfl⟩ : ∃ y0 y1 y2 y3, xs = [y0, y1, y2, y3] := by
    match xs, hlen with
    | [y0, y1, y2, y3], _ => exact ⟨y0, y1, y2, y3, rfl⟩
  have h0 := hf 0 _ rfl
  have h1 := hf 1 _ rfl
  have h2 := hf 2 _ rfl
  have h3 := hf 3 _ rfl
  have hv' : (Value.agg cs).cells.toList = [v0, v1, v2, v3] := hv
  rw [show (Value.agg cs).cells.toList = [v0, v1, v2, v3] from hv] at h0 h1 h2 h3
  simp only [int_cells, ints_cells, edges_cells, List.drop_zero, List.drop_succ_cons, List.take_succ_cons, List.take_zero, List.getElem?_cons_zero, List.getElem?_cons_succ] at h0 h1 h2 h3
  obtain ⟨k, e0, _, _⟩ := DataW.trod_int Try.underlying3 h0
  injection e0 with e0 _
  subst e0
  obtain ⟨m, e1, _, _⟩ := DataW.trod_int Try.underlying3 h1
  injection e1 with e1 _
  subst e1
  obtain ⟨ea, ec, l, e2, hE⟩ := open_intl _ _ _ h2
  injection e2 with e2 _
  subst e2
  obtain ⟨ga, gc, es, e3, hG⟩ := open_edgel _ _ _ h3
  injection e3 with e3 _
  subst e3
  refine ⟨⟨k, m, l, es⟩, ⟨ea, ec, ga, gc⟩, ?_, ⟨hE, hG⟩⟩
  cases cs
  simp only at hv
  rw [hv]
end Go.Proofs.Ytpbceejjkdmclaa

/- The law NfaChecks. -/
namespace Go.Proofs.Ytpbceejjkdmclaa
open Go.RowKit Go.Shelf

attribute [local go_sem] Oper.semAt_some

set_option maxRecDepth 100000 in
set_option maxHeartbeats 4000000 in
theorem nfaChecks_any (x : Nf) (p : NfL) (w : World) (hx : NfAt w x p) :
    Calls Try.prog 3 #[.agg #[.int .i64 x.n, .int .i64 x.s, .slice p.ea x.ends.length p.ec, .slice p.ga x.es.length p.gc]] w fun e w' => e = .returned (.bool true) ∧ Below w.heap.size w w' := by
  have hE1 := hx.ends.le
  have hE2 := hx.ends.max
  have hG1 := hx.es.le
  have hG2 := hx.es.max
  have Hx := Lib.hid hx
  have HK1 := Lib.hid (fun (V : World) (h : NfAt V x p) => ncheck_any x p V h)
  have HK2 := Lib.hid (fun (V : World) (h : NfAt V x p) => refNCheck_any x p V h)
  obtain ⟨ea, ec, ga, gc⟩ := p
  dsimp only at *
  obtain ⟨E, hE⟩ : ∃ E, Hid (x.ends.length = E) := ⟨_, Lib.hid rfl⟩
  obtain ⟨G, hG⟩ : ∃ G, Hid (x.es.length = G) := ⟨_, Lib.hid rfl⟩
  obtain ⟨xn, hn⟩ : ∃ n, Hid (x.n = n) := ⟨_, Lib.hid rfl⟩
  obtain ⟨xs, hs⟩ : ∃ n, Hid (x.s = n) := ⟨_, Lib.hid rfl⟩
  obtain ⟨Cv, hCv⟩ : ∃ n, Hid ((if nfB x then (0 : Int) else 30) = n) := ⟨_, Lib.hid rfl⟩
  rw [hE.out, hG.out, hn.out, hs.out, hCv.out] at HK1 HK2
  rw [hE.out] at hE1
  rw [hG.out] at hG1
  rw [hE.out, hG.out, hn.out, hs.out]
  have hA0 := Blk.new w 25 #[.int .i64 xn, .int .i64 xs, .slice ea E ec, .slice ga G gc]
  have hb0 : Below w.heap.size w (w.alloc (.cells #[.int .i64 xn, .int .i64 xs, .slice ea E ec, .slice ga G gc] 25)) := (Below.refl _ w).alloc (Nat.le_refl _) _
  go_enter Try.func3, Try.ntmps3
  go_wp2_with (fail)
  refine (live3_any _).mono ?_
  rintro e w1 ⟨rfl, hb1⟩
  have hA1 := hA0.below hb1 hA0.lt
  have hbw1 := hb0.trans (hb1.mono hb0.size)
  clear hA0 hb0 hb1 hx
  obtain ⟨BN, hBN⟩ : ∃ n, Hid (w.heap.size = n) := ⟨_, Lib.hid rfl⟩
  have Hbw1 := Lib.hid hbw1
  rw [hBN.out] at hA1
  simp only [hBN.out]
  clear hbw1
  have x0 := hA1.cell 0
  have x1 := hA1.cell 1
  have x2 := hA1.cell 2
  have x3 := hA1.cell 3
  have xl := hA1.lt
  simp only [List.getElem?_cons_zero, List.getElem?_cons_succ] at x0 x1 x2 x3
  by_cases hg : 3000 < G
  · have hgI : (3000 : Int) < (G : Int) := by omega
    go_wp2_with (fail)
    exact bodyPost_ret (v := .bool true) (by simp [results, Try.results3, go_sem]; try rfl) rfl ⟨rfl, Hbw1.out⟩
  have hgI : ¬ (3000 : Int) < (G : Int) := by omega
  by_cases he : 3000 < E
  · have heI : (3000 : Int) < (E : Int) := by omega
    go_wp2_with (fail)
    exact bodyPost_ret (v := .bool true) (by simp [results, Try.results3, go_sem]; try rfl) rfl ⟨rfl, Hbw1.out⟩
  have heI : ¬ (3000 : Int) < (E : Int) := by omega
  go_wp2_with (fail)
  go_loopw [5, 21] (fun _ iv wr => ∃ k : Nat, k ≤ G ∧ iv = .int .i64 (k : Int) ∧ Below w1.heap.size w1 wr) (fun _ iv _ => G - (intOf iv).toNat)
  case atStart => exact ⟨0, Nat.zero_le _, rfl, Below.refl _ _⟩
  case round =>
    obtain ⟨k, hk, rfl, hbr⟩ := hrel
    have hAr := hA1.below hbr hA1.lt
    clear x0 x1 x2 x3 xl
    have x0 := hAr.cell 0
    have x1 := hAr.cell 1
    have x2 := hAr.cell 2
    have x3 := hAr.cell 3
    have xl := hAr.lt
    simp only [List.getElem?_cons_zero, List.getElem?_cons_succ] at x0 x1 x2 x3
    have Hbwr := Lib.hid (Hbw1.out.trans (hbr.mono Hbw1.out.size))
    by_cases hlt : k < G
    · have hkI : (k : Int) < (G : Int) := by omega
      have hkI0 : (0 : Int) ≤ (k : Int) := by omega
      have hkl : k < x.es.length := by rw [hG.out]; exact hlt
      obtain ⟨b, off, rfl⟩ := Hx.out.es.at_ k hkl
      obtain ⟨c0, c1, sa, sc, c2, hsp⟩ := ((Hx.out.es.grown Hbwr.out).cell b off rfl k hkl)
      obtain ⟨v, hv⟩ : ∃ v, Hid (x.es[k] = v) := ⟨_, Lib.hid rfl⟩
      rw [hv.out] at c0 c1 c2 hsp
      obtain ⟨ef, et, q⟩ := v
      dsimp only at c0 c1 c2 hsp
      have hbl := World.block_lt_of_cell? _ _ c0
      have hql : q.length ≤ sc ∧ sc ≤ 9223372036854775807 := ⟨hsp.le, hsp.max⟩
      obtain ⟨Q, hQ⟩ : ∃ Q, Hid (q.length = Q) := ⟨_, Lib.hid rfl⟩
      rw [hQ.out] at c2 hql
      clear hsp
      have hbd := (Below.refl wr.heap.size wr).alloc (Nat.le_refl _) (.cells #[.int .i64 ef, .int .i64 et, .slice sa Q sc] 29)
      have HN := Lib.hid (hbr.trans (hbd.mono hbr.size))
      have HB := Lib.hid (Hbwr.out.trans (hbd.mono Hbwr.out.size))
      have hA5 := Blk.new wr 29 #[.int .i64 ef, .int .i64 et, .slice sa Q sc]
      have z0 := hA5.cell 0
      have z1 := hA5.cell 1
      have z2 := hA5.cell 2
      have zl := hA5.lt
      simp only [List.getElem?_cons_zero, List.getElem?_cons_succ] at z0 z1 z2
      clear hbd hbr hAr hA1
      by_cases hq : 300 < Q
      · have hqI : (300 : Int) < (Q : Int) := by omega
        go_wp2_with (fail)
        exact bodyPost_ret (v := .bool true) (by simp [results, Try.results3, go_sem]; try rfl) rfl ⟨rfl, HB.out⟩
      · have hqI : ¬ (300 : Int) < (Q : Int) := by omega
        go_wp2_with (fail)
        exact ⟨⟨k + 1, by omega, by simp, HN.out⟩, by simp [intOf]; omega⟩
    · obtain rfl : G = k := by omega
      have hkI : ¬ (G : Int) < (G : Int) := by omega
      have hbd : Below wr.heap.size wr (wr.drew) := (Below.refl wr.heap.size wr).drew
      have Hbwd := Lib.hid (Hbwr.out.trans (hbd.mono Hbwr.out.size))
      have hAd : Blk (wr.drew) BN 25 [.int .i64 xn, .int .i64 xs, .slice ea E ec, .slice ga G gc] := hAr.below hbd hAr.lt
      have HSt : Hid (∀ V, Below (wr.drew).heap.size (wr.drew) V → (Below (wr.drew).heap.size (wr.drew) V ∧ V.cell? ⟨BN, 0, none⟩ = some (.int .i64 xn) ∧ V.cell? ⟨BN, 1, none⟩ = some (.int .i64 xs) ∧ V.cell? ⟨BN, 2, none⟩ = some (.slice ea E ec) ∧ V.cell? ⟨BN, 3, none⟩ = some (.slice ga G gc))) := Lib.hid (fun V hV => by
        have h' := hAd.below hV hAd.lt
        exact ⟨hV, by simpa using h'.cell 0, by simpa using h'.cell 1, by simpa using h'.cell 2, by simpa using h'.cell 3⟩)
      have HC1 : Hid (∀ V, Below (wr.drew).heap.size (wr.drew) V → Calls Try.prog 10 #[.agg #[.int .i64 xn, .int .i64 xs, .slice ea E ec, .slice ga G gc]] V fun e V' => e = .returned (.int .i64 Cv) ∧ Below (wr.drew).heap.size (wr.drew) V') := Lib.hid (fun V hV => (HK1.out V (Hx.out.grown (Hbwd.out.trans (hV.mono Hbwd.out.size)))).mono (fun e V' ⟨h1, h2⟩ => ⟨h1, hV.trans (h2.mono hV.size)⟩))
      have HC2 : Hid (∀ V, Below (wr.drew).heap.size (wr.drew) V → Calls Try.prog 11 #[.agg #[.int .i64 xn, .int .i64 xs, .slice ea E ec, .slice ga G gc]] V fun e V' => e = .returned (.int .i64 Cv) ∧ Below (wr.drew).heap.size (wr.drew) V') := Lib.hid (fun V hV => (HK2.out V (Hx.out.grown (Hbwd.out.trans (hV.mono Hbwd.out.size)))).mono (fun e V' ⟨h1, h2⟩ => ⟨h1, hV.trans (h2.mono hV.size)⟩))
      clear hbd hAd hAr hA1 hbr HK1 HK2
      go_wp2_with (fail)
      refine wp_region_held_drew (S := fun w' => (Below (wr.drew).heap.size (wr.drew) w' ∧ w'.cell? ⟨BN, 0, none⟩ = some (.int .i64 xn) ∧ w'.cell? ⟨BN, 1, none⟩ = some (.int .i64 xs) ∧ w'.cell? ⟨BN, 2, none⟩ = some (.slice ea E ec) ∧ w'.cell? ⟨BN, 3, none⟩ = some (.slice ga G gc))) (by kernel_rfl) ?_ (fun hHeld => ?_)
      · exact HSt.out _ (Below.refl _ _)
      refine wpAnyH_take (i := 0) (v := ?_) (gatL gatZ) (by kernel_rfl) (by kernel_rfl) (by kernel_rfl) (fun _ _ _ h => h) (Or.inl ⟨by rfl, ?_⟩) (by assumption) ?_
      rotate_left
      · intro w hSw
        try dsimp only at hSw
        go_simp
        all_goals with_reducible rfl
      try simp only [Act.put, List.setIfInBounds_toArray, List.set_cons_zero, List.set_cons_succ]
      refine wpAnyH_take (i := 1) (v := ?_) (gatL (gatS gatZ)) (by kernel_rfl) (by kernel_rfl) (by kernel_rfl) (fun _ _ _ h => h) (Or.inl ⟨by rfl, ?_⟩) (by assumption) ?_
      rotate_left
      · intro w hSw
        try dsimp only at hSw
        go_simp
        all_goals with_reducible rfl
      try simp only [Act.put, List.setIfInBounds_toArray, List.set_cons_zero, List.set_cons_succ]
      refine wpAnyH_take (i := 2) (v := ?_) (gatL (gatS (gatS gatZ))) (by kernel_rfl) (by kernel_rfl) (by kernel_rfl) (fun _ _ _ h => h) (Or.inl ⟨by rfl, ?_⟩) (by assumption) ?_
      rotate_left
      · intro w hSw
        try dsimp only at hSw
        go_simp
        all_goals with_reducible rfl
      try simp only [Act.put, List.setIfInBounds_toArray, List.set_cons_zero, List.set_cons_succ]
      refine wpAnyH_take (i := 4) (v := ?_) (gatL (gatS (gatS (gatS (gatS gatZ))))) (by kernel_rfl) (by kernel_rfl) (by kernel_rfl) (fun _ _ _ h => h) (Or.inl ⟨by rfl, ?_⟩) (by assumption) ?_
      rotate_left
      · intro w hSw
        try dsimp only at hSw
        go_simp
        all_goals with_reducible rfl
      try simp only [Act.put, List.setIfInBounds_toArray, List.set_cons_zero, List.set_cons_succ]
      refine wpAnyH_ready (rs := [3]) (by kernel_rfl) (by simp) ?_
      refine AllReadyH.cons (gatL (gatS (gatS (gatS gatZ)))) (fun K hK => ?_) AllReadyH.nil
      go_simp
      go_at_call 10
      (with_reducible refine (HC1.out _ hHeld.1).mono ?_)
      rintro e V1 ⟨rfl, hV1⟩
      have HV1 := Lib.hid hV1
      clear hV1
      dsimp only
      refine hK.out _ _ ?_ (fun hHeld => ?_)
      · exact HSt.out _ HV1.out
      clear hK K
      try simp only [Act.put, List.setIfInBounds_toArray, List.set_cons_zero, List.set_cons_succ]
      refine wpAnyH_ready (rs := [5]) (by kernel_rfl) (by simp) ?_
      refine AllReadyH.cons (gatL (gatS (gatS (gatS (gatS (gatS gatZ)))))) (fun K hK => ?_) AllReadyH.nil
      go_simp
      go_at_call 11
      (with_reducible refine (HC2.out _ hHeld.1).mono ?_)
      rintro e V2 ⟨rfl, hV2⟩
      have HV2 := Lib.hid hV2
      clear hV2
      dsimp only
      refine hK.out _ _ ?_ (fun hHeld => ?_)
      · exact HSt.out _ HV2.out
      clear hK K
      try simp only [Act.put, List.setIfInBounds_toArray, List.set_cons_zero, List.set_cons_succ]
      refine wpAnyH_take (i := 6) (v := ?_) (gatL (gatS (gatS (gatS (gatS (gatS (gatS gatZ))))))) (by kernel_rfl) (by kernel_rfl) (by kernel_rfl) (fun _ _ _ h => h) (Or.inl ⟨by rfl, ?_⟩) (by assumption) ?_
      rotate_left
      · intro w hSw
        try dsimp only at hSw
        go_simp
        all_goals with_reducible rfl
      try simp only [Act.put, List.setIfInBounds_toArray, List.set_cons_zero, List.set_cons_succ]
      refine wpAnyH_take (i := 7) (v := ?_) (gatL (gatS (gatS (gatS (gatS (gatS (gatS (gatS gatZ)))))))) (by kernel_rfl) (by kernel_rfl) (by kernel_rfl) (fun _ _ _ h => h) (Or.inl ⟨by rfl, ?_⟩) (by assumption) ?_
      rotate_left
      · intro w hSw
        try dsimp only at hSw
        go_simp
        all_goals with_reducible rfl
      try simp only [Act.put, List.setIfInBounds_toArray, List.set_cons_zero, List.set_cons_succ]
      refine wpAnyH_take (i := 8) (v := ?_) (gatL (gatS (gatS (gatS (gatS (gatS (gatS (gatS (gatS gatZ))))))))) (by kernel_rfl) (by kernel_rfl) (by kernel_rfl) (fun _ _ _ h => h) (Or.inl ⟨by rfl, ?_⟩) (by assumption) ?_
      rotate_left
      · intro w hSw
        try dsimp only at hSw
        go_simp
        all_goals with_reducible rfl
      try simp only [Act.put, List.setIfInBounds_toArray, List.set_cons_zero, List.set_cons_succ]
      refine wpAnyH_done (by kernel_rfl) ?_ _
      go_wp2_with (fail)
      exact bodyPost_ret (v := .bool true) (by simp [results, Try.results3, go_sem]; try rfl) rfl ⟨rfl, Hbwd.out.trans (HV2.out.mono Hbwd.out.size)⟩
end Go.Proofs.Ytpbceejjkdmclaa

/- The row NfaChecks: for every automaton: Check answers as the document's: the law answers true and changes nothing that was there; no premise beyond the row's own. -/
namespace Go.Proofs.Ytpbceejjkdmclaa
open Go.ChangeShapes Go.WideShapes Go.ChangeAt Go.RowKit

set_option maxRecDepth 100000 in
theorem nfaChecks_lifted (os : Os) (started : os.Started) (H : Type) (enc : TypeId × Value → H) :
    ReturnsInHanded {} Try.checked os 3 .any (Rows.nfaChecksSpec.pre6 enc Try.prog Try.f3 Rows.nfaChecksRow.domain false) (Rows.nfaChecksSpec.post enc Try.prog Try.f3 false true false false) := by
  refine returnsInHanded_of_change (C := Try.checked) Try.own started (by kernel_rfl) Try.func3
    (ChangeSpec.witness6 (enc := enc) (C := Try.checked) false ⟨#[], #[.agg #[.int .i64 0, .int .i64 0, .slice none 0 0, .slice none 0 0]], []⟩ 8 (by kernel_rfl) (by kernel_rfl) (by kernel_rfl) (by kernel_rfl)) ?_
  intro W base args ds gs before hval0 hW _ _
  have hval : ∀ (j : Nat) t v, Try.f3.params[j]? = some t → args[j]? = some v → Value.okWide Try.prog W .any base t v := hval0
  have hW' := hW
  obtain ⟨p, q, hA0, hV, rfl, hfz, hnd⟩ := hW
  have hA : DataW.TrodAll enc Try.prog W 0 (fun _ => true) true Try.f3.params.toList args.toList ds p := hA0
  rw [Try.params3] at hA hval
  obtain ⟨v0, d0, rfl, rfl, h0⟩ := trodAll_one hA
  obtain ⟨x, l, rfl, hX⟩ := open_nfa (hval 0 25 v0 rfl rfl) h0
  refine (nfaChecks_any x l W hX).mono fun e W' ⟨he, hw⟩ => ?_
  subst he
  exact ⟨_, rfl, law_post hW' rfl rfl (by kernel_rfl) (by rw [Try.params3]; intro t ht; simp at ht; subst ht; exact ⟨by kernel_rfl, of_decide_eq_true (by kernel_rfl)⟩) hw⟩

theorem nfaChecks_holds : Rows.NfaChecksSaid :=
  OpenClaim.holds_of_wide 3 Try.f3 rfl rfl rfl rfl rfl rfl rfl ⟨rfl, rfl, rfl, rfl, rfl⟩ rfl rfl rfl rfl rfl (by kernel_rfl) Try.func3 (by kernel_rfl)
    (of_decide_eq_true (by kernel_rfl)) (by unfold Func.isWrapper; first | (rw [if_pos (by decide +kernel)]; kernel_rfl) | (rw [if_neg (by decide +kernel)]; exact ⟨rfl, rfl⟩))
    (fun os started H enc _ => nfaChecks_lifted os started H enc)
end Go.Proofs.Ytpbceejjkdmclaa
