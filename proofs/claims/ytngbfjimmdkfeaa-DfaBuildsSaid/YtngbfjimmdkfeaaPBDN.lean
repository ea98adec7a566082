/- The row DfaBuilds: for every automaton: Build answers as the document's, and what it made may be: the law answers true and changes nothing that was there; no premise beyond the row's own. -/
/- Texts joined: Cb Cc PDb. -/
import Derived.Test.YtngbfjimmdkfeaaPBDA
import Derived.Test.YtngbfjimmdkfeaaPBDB
import Derived.Test.YtngbfjimmdkfeaaPBDF
import Derived.Test.YtngbfjimmdkfeaaPBDG
import Derived.Test.YtngbfjimmdkfeaaPBD1
import Derived.Test.YtngbfjimmdkfeaaPBDM
import Derived.Test.YtngbfjimmdkfeaaPBAn
set_option linter.unusedVariables false
set_option linter.unusedSimpArgs false
namespace Go.Proofs.Ytngbfjimmdkfeaa
open Go.RowKit Go.Shelf Go.Maps

theorem ordM_two (n : Nat) (y m : Mv) : ∀ (l : List Mv) (p : Option Mv), ordM n p (l ++ [y, m]) = (ordM n p (l ++ [y]) && (oneMv n m && mayF y m))
  | [], p => by
    simp only [List.nil_append, ordM, Bool.and_true]
  | z :: l, p => by
    simp only [List.cons_append, ordM]
    rw [ordM_two n y m l (some z)]
    simp only [Bool.and_assoc]
theorem ordM_last (n : Nat) (y z : Mv) (h1 : z.lo = y.lo) (h2 : z.to = y.to) (h3 : y.hi ≤ z.hi) : ∀ (l : List Mv) (p : Option Mv), ordM n p (l ++ [y]) = true → ordM n p (l ++ [z]) = true
  | [], p, h => by
    simp only [List.nil_append, ordM, Bool.and_true, Bool.and_eq_true] at h ⊢
    refine ⟨?_, ?_⟩
    · have := h.1
      unfold oneMv at this ⊢
      simp only [Bool.and_eq_true, decide_eq_true_eq] at this ⊢
      omega
    · have := h.2
      cases p with
      | none => rfl
      | some q =>
        dsimp only at this ⊢
        unfold mayF at this ⊢
        rw [h1, h2]
        exact this
  | q :: l, p, h => by
    simp only [List.cons_append, ordM, Bool.and_eq_true] at h ⊢
    exact ⟨h.1, ordM_last n y z h1 h2 h3 l (some q) h.2⟩
theorem push_ord {n : Nat} {l : List Mv} {c : Nat} {t : Int} (h : ordM n none l = true) (hc : ∀ m ∈ l, m.lo ≤ m.hi ∧ m.hi < c) (ht : t = -1 ∨ (0 ≤ t ∧ t < (n : Int))) : ordM n none (pushM l c t) = true := by
  by_cases h1 : t = -1
  · rw [h1, push_none]
    exact h
  · have ht := ht.resolve_left h1
    have ho : oneMv n ⟨c, c, t⟩ = true := by
      unfold oneMv
      simp only [Bool.and_eq_true, decide_eq_true_eq]
      omega
    rcases List.eq_nil_or_concat l with rfl | ⟨l0, y, rfl⟩
    · rw [push_nil c h1]
      simp only [ordM, ho, Bool.and_true]
    · rw [List.concat_eq_append] at *
      have hy := hc y (by simp)
      by_cases h2 : y.to = t ∧ y.hi + 1 = c
      · rw [push_more l0 y h1 h2]
        exact ordM_last n y ⟨y.lo, c, t⟩ rfl h2.1.symm (by show y.hi ≤ c; omega) l0 none h
      · rw [push_new l0 y h1 h2, List.append_assoc]
        show ordM n none (l0 ++ [y, ⟨c, c, t⟩]) = true
        rw [ordM_two, h, ho, Bool.true_and, Bool.true_and]
        unfold mayF
        simp only [Bool.and_eq_true, Bool.or_eq_true, decide_eq_true_eq]
        refine ⟨hy.2, ?_⟩
        by_cases h3 : t = y.to
        · exact .inl (by
            have : y.hi + 1 ≠ c := fun e => h2 ⟨h3.symm, e⟩
            omega)
        · exact .inr h3
theorem addA_len (A : List (List Nat)) (s : List Nat) : toA A s = -1 ∨ (0 ≤ toA A s ∧ toA A s < ((addA A s).length : Int)) := by
  unfold toA addA
  by_cases h : s = []
  · rw [if_pos h]
    exact .inl rfl
  · rw [if_neg h, if_neg h]
    rcases hx : idxA A s with _ | j
    · refine .inr ⟨by dsimp only; omega, ?_⟩
      dsimp only
      rw [List.length_append]
      simp only [List.length_cons, List.length_nil]
      omega
    · refine .inr ⟨by dsimp only; omega, ?_⟩
      dsimp only
      unfold idxA at hx
      have := (List.findIdx?_eq_some_iff_getElem.1 hx).1
      omega
theorem movA_ord (go : Nat → List Nat) (all : List (List Nat)) (n : Nat) : ∀ k, (movA go all k).1.length ≤ n → ordM n none (movA go all k).2.1 = true ∧ ∀ m ∈ (movA go all k).2.1, m.lo ≤ m.hi ∧ m.hi < k
  | 0, _ => ⟨rfl, fun m hm => by cases hm⟩
  | k + 1, h => by
    have hl := add_len (movA go all k).1 (go k)
    rw [movA] at h ⊢
    dsimp only at h ⊢
    obtain ⟨h1, h2⟩ := movA_ord go all n k (by omega)
    refine ⟨push_ord h1 h2 ?_, (goM_push h2).2.2⟩
    rcases addA_len (movA go all k).1 (go k) with e | ⟨e1, e2⟩
    · exact .inl e
    · exact .inr ⟨e1, by omega⟩
theorem accA_lo (s : List Nat) : ∀ (l : List Int) (i : Nat), -1 ≤ accA s l i
  | [], _ => by unfold accA; omega
  | e :: l, i => by
    unfold accA
    split
    · omega
    · exact accA_lo s l (i + 1)
theorem pb_ord (x : Nf) (n : Nat) : ∀ i, (PB x i).1.length ≤ n → (∀ l ∈ (PB x i).2.1, ordM n none l = true) ∧ ∀ a ∈ (PB x i).2.2, -1 ≤ a
  | 0, _ => ⟨fun l h => (by cases h), fun a h => (by cases h)⟩
  | i + 1, h => by
    have hs := stpA_len x i (PB x i)
    have h0 : (stpA x i (PB x i)).1.length ≤ n := h
    obtain ⟨h1, h2⟩ := pb_ord x n i (by omega)
    show (∀ l ∈ (stpA x i (PB x i)).2.1, ordM n none l = true) ∧ ∀ a ∈ (stpA x i (PB x i)).2.2, -1 ≤ a
    unfold stpA at h0 ⊢
    rcases hg : (PB x i).1[i]? with _ | s
    · rw [hg] at h0
      exact ⟨h1, h2⟩
    · rw [hg] at h0
      dsimp only at h0 ⊢
      refine ⟨fun l hl => ?_, fun a ha => ?_⟩
      · rcases List.mem_append.1 hl with h3 | h3
        · exact h1 l h3
        · rw [List.mem_singleton] at h3
          subst h3
          exact (movA_ord _ _ n 256 h0).1
      · rcases List.mem_append.1 ha with h3 | h3
        · exact h2 a h3
        · rw [List.mem_singleton] at h3
          subst h3
          exact accA_lo _ _ _
theorem sts_ok (n : Nat) : ∀ (ms : List (List Mv)) (ac : List Int), ms.length = ac.length → (∀ l ∈ ms, ordM n none l = true) → (∀ a ∈ ac, -1 ≤ a) → stsB n ms ac = true
  | [], _, _, _, _ => by unfold stsB; rfl
  | l :: ms, [], h, _, _ => by cases h
  | l :: ms, a :: ac, h, h1, h2 => by
    unfold stsB
    rw [h1 l List.mem_cons_self, sts_ok n ms ac (by simpa using h) (fun l hl => h1 l (List.mem_cons_of_mem _ hl)) (fun a ha => h2 a (List.mem_cons_of_mem _ ha)), decide_eq_true (h2 a List.mem_cons_self)]
    rfl
theorem pb_dfB {x : Nf} {i : Nat} (h1 : i = (PB x i).1.length) (h2 : i ≤ 2000) (h3 : (PB x i).2.1.length = i) (h4 : (PB x i).2.2.length = i) : dfB ⟨(PB x i).2.1, (PB x i).2.2⟩ = true := by
  have h0 := pb_len x 0 i
  rw [Nat.zero_add] at h0
  have h5 : (PB x 0).1.length = 1 := rfl
  obtain ⟨h6, h7⟩ := pb_ord x i i (by omega)
  unfold dfB
  dsimp only
  rw [h3, h4, decide_eq_true (by omega), decide_eq_true h2, decide_eq_true rfl, sts_ok i _ _ (by omega) h6 h7]
  rfl
/-- Two that are told plainly answer the same. -/
theorem post_both {w w1 w2 w3 : World} {x : Nf} {e f : Ending} (h : PostB w w1 x e) (k : PostB w2 w3 x f) : ∃ (d : Df) (p q : DfL) (E : Int), DfAt w1 d p ∧ DfAt w3 d q ∧ e = .returned (.tuple #[.agg #[.slice p.ma d.ms.length p.mc, .slice p.aa d.ac.length p.ac], .int .i64 E]) ∧ f = .returned (.tuple #[.agg #[.slice q.ma d.ms.length q.mc, .slice q.aa d.ac.length q.ac], .int .i64 E]) ∧ (E = 0 → dfB d = true) := by
  have hnil : ∀ W : World, DfAt W ⟨[], []⟩ ⟨[], none, 0, none, 0⟩ := fun W => ⟨Mrs.nil W, rfl, Ints.nil W⟩
  obtain ⟨_, ⟨h1, h2⟩ | ⟨h1, ⟨i, hi⟩, h2⟩ | ⟨h1, i, i1, i2, i3, i4, p, h2, h3⟩⟩ := h
  · obtain ⟨_, ⟨k1, k2⟩ | ⟨k1, _⟩ | ⟨k1, _⟩⟩ := k
    · exact ⟨⟨[], []⟩, ⟨[], none, 0, none, 0⟩, ⟨[], none, 0, none, 0⟩, 30, hnil _, hnil _, h2, k2, fun e => by cases e⟩
    · rw [h1] at k1; cases k1
    · rw [h1] at k1; cases k1
  · obtain ⟨_, ⟨k1, k2⟩ | ⟨k1, _, k2⟩ | ⟨k1, j, j1, j2, _⟩⟩ := k
    · rw [h1] at k1; cases k1
    · exact ⟨⟨[], []⟩, ⟨[], none, 0, none, 0⟩, ⟨[], none, 0, none, 0⟩, 40, hnil _, hnil _, h2, k2, fun e => by cases e⟩
    · have := pb_few (x := x) (i := j) (j := i) (by omega) (by omega)
      omega
  · obtain ⟨_, ⟨k1, k2⟩ | ⟨k1, ⟨j, hj⟩, k2⟩ | ⟨k1, j, j1, j2, j3, j4, q, k2, k3⟩⟩ := k
    · rw [h1] at k1; cases k1
    · have := pb_few (x := x) (i := i) (j := j) (by omega) (by omega)
      omega
    · have e := pb_done (x := x) (i := j) (j := i) (by omega) (by omega)
      rw [e] at k2 k3
      exact ⟨⟨(PB x i).2.1, (PB x i).2.2⟩, p, q, 0, h2, k2, h3, k3, fun _ => pb_dfB i1 i2 i3 i4⟩
end Go.Proofs.Ytngbfjimmdkfeaa

namespace Go.Proofs.Ytngbfjimmdkfeaa
open Go.RowKit Go.Shelf

attribute [local go_sem] Oper.semAt_some

set_option maxRecDepth 100000 in
set_option maxHeartbeats 4000000 in
theorem dfaBuilds_any (x : Nf) (p : NfL) (w : World) (hx : NfAt w x p) :
    Calls Try.prog 4 #[.agg #[.int .i64 x.n, .int .i64 x.s, .slice p.ea x.ends.length p.ec, .slice p.ga x.es.length p.gc]] w fun e w' => e = .returned (.bool true) ∧ Below w.heap.size w w' := by
  have hE1 := hx.ends.le
  have hE2 := hx.ends.max
  have hG1 := hx.es.le
  have hG2 := hx.es.max
  have Hx := Lib.hid hx
  have HS := Lib.hid (fun (V : World) (h : NfAt V x p) => small4_any x p V h)
  have HH := Lib.hid (fun (V : World) (h : NfAt V x p) (h2 : x.es.length ≤ 500000) => hard4_any x p V h h2)
  have HB := Lib.hid (fun (V : World) (h : NfAt V x p) (h2 : x.es.length ≤ 500000) (h3 : spN x.es ≤ 1000000) => dBuild_pb V x p h h2 h3)
  have HR := Lib.hid (fun (V : World) (h : NfAt V x p) => refDBuild_any V x p h)
  obtain ⟨ea, ec, ga, gc⟩ := p
  dsimp only at *
  obtain ⟨E, hE⟩ : ∃ E, Hid (x.ends.length = E) := ⟨_, Lib.hid rfl⟩
  obtain ⟨G, hG⟩ : ∃ G, Hid (x.es.length = G) := ⟨_, Lib.hid rfl⟩
  obtain ⟨xn, hn⟩ : ∃ n, Hid (x.n = n) := ⟨_, Lib.hid rfl⟩
  obtain ⟨xs, hs⟩ : ∃ n, Hid (x.s = n) := ⟨_, Lib.hid rfl⟩
  obtain ⟨q, hq⟩ : ∃ n, Hid (smallD x = n) := ⟨_, Lib.hid rfl⟩
  rw [hE.out, hG.out, hn.out, hs.out] at HS HH HB HR
  rw [hq.out] at HS
  rw [hE.out] at hE1
  rw [hG.out] at hG1
  rw [hE.out, hG.out, hn.out, hs.out]
  have hA0 := Blk.new w 32 #[.int .i64 xn, .int .i64 xs, .slice ea E ec, .slice ga G gc]
  have hb0 : Below w.heap.size w (w.alloc (.cells #[.int .i64 xn, .int .i64 xs, .slice ea E ec, .slice ga G gc] 32)) := (Below.refl _ w).alloc (Nat.le_refl _) _
  go_enter Try.func4, Try.ntmps4
  go_wp2_with (fail)
  refine (live4_any _).mono ?_
  rintro e w1 ⟨rfl, hb1⟩
  have hA1 := hA0.below hb1 hA0.lt
  have hbw1 := hb0.trans (hb1.mono hb0.size)
  clear hA0 hb0 hb1 hx
  obtain ⟨BN, hBN⟩ : ∃ n, Hid (w.heap.size = n) := ⟨_, Lib.hid rfl⟩
  have Hbw1 := Lib.hid hbw1
  rw [hBN.out] at hA1
  simp only [hBN.out]
  clear hbw1
  have x0 := hA1.cell 0
  have x1 := hA1.cell 1
  have x2 := hA1.cell 2
  have x3 := hA1.cell 3
  have xl := hA1.lt
  simp only [List.getElem?_cons_zero, List.getElem?_cons_succ] at x0 x1 x2 x3
  go_wp2_with (fail)
  refine (HS.out _ (Hx.out.grown Hbw1.out)).mono ?_
  rintro e w2 ⟨rfl, hb2⟩
  have hA2 := hA1.below hb2 hA1.lt
  have Hbw2 := Lib.hid (Hbw1.out.trans (hb2.mono Hbw1.out.size))
  clear hA1 hb2 x0 x1 x2 x3 xl HS
  have x0 := hA2.cell 0
  have x1 := hA2.cell 1
  have x2 := hA2.cell 2
  have x3 := hA2.cell 3
  have xl := hA2.lt
  simp only [List.getElem?_cons_zero, List.getElem?_cons_succ] at x0 x1 x2 x3
  cases q
  case false =>
    go_wp2_with (fail)
    exact bodyPost_ret (v := .bool true) (by simp [results, Try.results4, go_sem]; try rfl) rfl ⟨rfl, Hbw2.out⟩
  case true =>
  have Hsm := Lib.hid (small_is hq.out)
  rw [hE.out, hG.out] at Hsm
  go_wp2_with (fail)
  refine (HH.out _ (Hx.out.grown Hbw2.out) (by have := Hsm.out.1; omega)).mono ?_
  rintro e w3 ⟨⟨hd, rfl⟩, hb3⟩
  have hA3 := hA2.below hb3 hA2.lt
  have Hbw3 := Lib.hid (Hbw2.out.trans (hb3.mono Hbw2.out.size))
  clear hA2 hb3 x0 x1 x2 x3 xl HH
  have x0 := hA3.cell 0
  have x1 := hA3.cell 1
  have x2 := hA3.cell 2
  have x3 := hA3.cell 3
  have xl := hA3.lt
  simp only [List.getElem?_cons_zero, List.getElem?_cons_succ] at x0 x1 x2 x3
  cases hd
  case true =>
    go_wp2_with (fail)
    exact bodyPost_ret (v := .bool true) (by simp [results, Try.results4, go_sem]; try rfl) rfl ⟨rfl, Hbw3.out⟩
  case false =>
  go_wp2_with (fail)
  refine (HB.out _ (Hx.out.grown Hbw3.out) (by have := Hsm.out.1; omega) Hsm.out.2.2).mono ?_
  intro e w4 hp4
  have hb4 := hp4.1
  have hA4 := hA3.below hb4 hA3.lt
  have Hbw4 := Lib.hid (Hbw3.out.trans (hb4.mono Hbw3.out.size))
  clear hA3 hb4 x0 x1 x2 x3 xl HB
  have HP4 := Lib.hid hp4
  clear hp4
  have hform : ∃ ma M mc aa N ac Er, e = .returned (.tuple #[.agg #[.slice ma M mc, .slice aa N ac], .int .i64 Er]) := by
    obtain ⟨_, ⟨_, h⟩ | ⟨_, _, h⟩ | ⟨_, i, _, _, _, _, q, _, h⟩⟩ := HP4.out
    · exact ⟨_, _, _, _, _, _, _, h⟩
    · exact ⟨_, _, _, _, _, _, _, h⟩
    · exact ⟨_, _, _, _, _, _, _, h⟩
  obtain ⟨ma, M, mc, aa, N, ac, Er, rfl⟩ := hform
  have hup := up_by (w := w4) (.cells #[.slice ma M mc, .slice aa N ac] 25)
  have hB5 := Blk.new w4 25 #[.slice ma M mc, .slice aa N ac]
  have hA5 := hA4.below hup hA4.lt
  have Hbw5 := Lib.hid (Hbw4.out.trans (hup.mono Hbw4.out.size))
  have Hup := Lib.hid hup
  clear hup hA4
  have x0 := hA5.cell 0
  have x1 := hA5.cell 1
  have x2 := hA5.cell 2
  have x3 := hA5.cell 3
  have xl := hA5.lt
  simp only [List.getElem?_cons_zero, List.getElem?_cons_succ] at x0 x1 x2 x3
  go_wp2_with (fail)
  refine (HR.out _ (Hx.out.grown Hbw5.out)).mono ?_
  intro e w6 hp6
  have hb6 := hp6.1
  obtain ⟨d, p, q, Ev, hd1, hd2, e1, e2, hok⟩ := post_both HP4.out hp6
  have hb46 := Hup.out.trans (hb6.mono Hup.out.size)
  have HD1 := Lib.hid (hd1.grown hb46)
  have HD2 := Lib.hid hd2
  have Hok := Lib.hid hok
  have Hbw6 := Lib.hid (Hbw5.out.trans (hb6.mono Hbw5.out.size))
  have hB6 := hB5.below hb6 hB5.lt
  simp only [Ending.returned.injEq, Value.tuple.injEq, Array.mk.injEq, List.cons.injEq, Value.agg.injEq, Value.slice.injEq, Value.int.injEq, and_true, true_and] at e1
  obtain ⟨⟨⟨e11, e12, e13⟩, e14, e15, e16⟩, e17⟩ := e1
  subst e2
  have HL1 := Lib.hid hd1.len
  have HL2 := Lib.hid hd2.len
  have hm1 : d.ms.length ≤ p.mc ∧ p.mc ≤ 9223372036854775807 ∧ d.ac.length ≤ p.ac ∧ p.ac ≤ 9223372036854775807 := ⟨by have := hd1.ms.le; rw [hd1.len] at this; exact this, hd1.ms.max, hd1.acc.le, hd1.acc.max⟩
  have hm2 : d.ms.length ≤ q.mc ∧ q.mc ≤ 9223372036854775807 ∧ d.ac.length ≤ q.ac ∧ q.ac ≤ 9223372036854775807 := ⟨by have := hd2.ms.le; rw [hd2.len] at this; exact this, hd2.ms.max, hd2.acc.le, hd2.acc.max⟩
  clear hd1 hd2 hok hp6 HP4 hb46 hb6
  subst e11 e12 e13 e14 e15 e16 e17
  have HSm := Lib.hid (fun (V : World) (h1 : DfAt V d p) (h2 : DfAt V d q) => refDSame_self d p q V h1 h2)
  have HCk := Lib.hid (fun (V : World) (h1 : DfAt V d p) => dcheck_any d p V h1)
  obtain ⟨rs, ma, mc, aa, ac⟩ := p
  obtain ⟨rs2, ma2, mc2, aa2, ac2⟩ := q
  dsimp only at *
  obtain ⟨M, HM⟩ : ∃ M, Hid (d.ms.length = M) := ⟨_, Lib.hid rfl⟩
  obtain ⟨N, HN⟩ : ∃ N, Hid (d.ac.length = N) := ⟨_, Lib.hid rfl⟩
  rw [HM.out, HN.out] at HSm HCk hm1 hm2 hB6 ⊢
  have hup := up_by (w := w6) (.cells #[.slice ma2 M mc2, .slice aa2 N ac2] 25)
  have hC7 := Blk.new w6 25 #[.slice ma2 M mc2, .slice aa2 N ac2]
  have hB7 := hB6.below hup hB6.lt
  have HD3 := Lib.hid (HD1.out.grown hup)
  have HD4 := Lib.hid (HD2.out.grown hup)
  have Hbw7 := Lib.hid (Hbw6.out.trans (hup.mono Hbw6.out.size))
  have y0 := hB7.cell 0
  have y1 := hB7.cell 1
  have yl := hB7.lt
  have z0 := hC7.cell 0
  have z1 := hC7.cell 1
  have zl := hC7.lt
  simp only [List.getElem?_cons_zero, List.getElem?_cons_succ] at y0 y1 z0 z1
  have HC1 := Lib.hid (HSm.out _ HD3.out HD4.out)
  clear hup x0 x1 x2 x3 xl hA5 hB6 hC7 hB5
  go_wp2_with (fail)
  refine HC1.out.mono ?_
  rintro e w8 ⟨rfl, hb8⟩
  have hB8 := hB7.below hb8 hB7.lt
  have HD8 := Lib.hid (HD3.out.grown hb8)
  have Hbw8 := Lib.hid (Hbw7.out.trans (hb8.mono Hbw7.out.size))
  clear hb8 hB7 y0 y1 yl z0 z1 zl HC1
  have y0 := hB8.cell 0
  have y1 := hB8.cell 1
  have yl := hB8.lt
  simp only [List.getElem?_cons_zero, List.getElem?_cons_succ] at y0 y1
  have HC2 := Lib.hid (HCk.out _ HD8.out)
  by_cases hE0 : Er = 0
  · subst hE0
    have hdf := Hok.out rfl
    rw [hdf, if_pos rfl] at HC2
    clear hB8
    go_wp2_with (fail)
    refine HC2.out.mono ?_
    rintro e w9 ⟨rfl, hb9⟩
    have HB9 := Lib.hid (Hbw8.out.trans (hb9.mono Hbw8.out.size))
    clear hb9
    go_wp2_with (fail)
    exact bodyPost_ret (v := .bool true) (by simp [results, Try.results4, go_sem]; try rfl) rfl ⟨rfl, HB9.out⟩
  · have hE1 : (Er != 0) = true := by rw [bne_iff_ne]; exact hE0
    have hE2 : (Er == Er) = true := by rw [beq_iff_eq]
    go_wp2_with (fail)
    exact bodyPost_ret (v := .bool true) (by simp [results, Try.results4, go_sem]; try rfl) rfl ⟨rfl, Hbw8.out⟩
end Go.Proofs.Ytngbfjimmdkfeaa

namespace Go.Proofs.Ytngbfjimmdkfeaa
open Go.ChangeShapes Go.WideShapes Go.ChangeAt Go.RowKit

set_option maxRecDepth 100000 in
theorem dfaBuilds_lifted (os : Os) (started : os.Started) (H : Type) (enc : TypeId × Value → H) :
    ReturnsInHanded {} Try.checked os 4 .any (Rows.dfaBuildsSpec.pre6 enc Try.prog Try.f4 Rows.dfaBuildsRow.domain false) (Rows.dfaBuildsSpec.post enc Try.prog Try.f4 false true false false) := by
  refine returnsInHanded_of_change (C := Try.checked) Try.own started (by kernel_rfl) Try.func4
    (ChangeSpec.witness6 (enc := enc) (C := Try.checked) false ⟨#[], #[.agg #[.int .i64 0, .int .i64 0, .slice none 0 0, .slice none 0 0]], []⟩ 8 (by kernel_rfl) (by kernel_rfl) (by kernel_rfl) (by kernel_rfl)) ?_
  intro W base args ds gs before hval0 hW _ _
  have hval : ∀ (j : Nat) t v, Try.f4.params[j]? = some t → args[j]? = some v → Value.okWide Try.prog W .any base t v := hval0
  have hW' := hW
  obtain ⟨p, q, hA0, hV, rfl, hfz, hnd⟩ := hW
  have hA : DataW.TrodAll enc Try.prog W 0 (fun _ => true) true Try.f4.params.toList args.toList ds p := hA0
  rw [Try.params4] at hA hval
  obtain ⟨v0, d0, rfl, rfl, h0⟩ := trodAll_one hA
  obtain ⟨x, l, rfl, hX⟩ := open_nfa (hval 0 32 v0 rfl rfl) h0
  refine (dfaBuilds_any x l W hX).mono fun e W' ⟨he, hw⟩ => ?_
  subst he
  exact ⟨_, rfl, law_post hW' rfl rfl (by kernel_rfl) (by rw [Try.params4]; intro t ht; simp at ht; subst ht; exact ⟨by kernel_rfl, of_decide_eq_true (by kernel_rfl)⟩) hw⟩

theorem dfaBuilds_holds : Rows.DfaBuildsSaid :=
  OpenClaim.holds_of_wide 4 Try.f4 rfl rfl rfl rfl rfl rfl rfl ⟨rfl, rfl, rfl, rfl, rfl⟩ rfl rfl rfl rfl rfl (by kernel_rfl) Try.func4 (by kernel_rfl)
    (of_decide_eq_true (by kernel_rfl)) (by unfold Func.isWrapper; first | (rw [if_pos (by decide +kernel)]; kernel_rfl) | (rw [if_neg (by decide +kernel)]; exact ⟨rfl, rfl⟩))
    (fun os started H enc _ => dfaBuilds_lifted os started H enc)
end Go.Proofs.Ytngbfjimmdkfeaa

