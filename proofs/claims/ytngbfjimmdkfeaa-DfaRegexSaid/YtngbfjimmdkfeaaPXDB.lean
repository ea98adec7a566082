/- Texts joined: Em Ej El. -/
import Derived.Test.YtngbfjimmdkfeaaPXDA
import Derived.Test.YtngbfjimmdkfeaaPXK3
import Derived.Test.YtngbfjimmdkfeaaPXD1
import Derived.Test.YtngbfjimmdkfeaaPXY3
set_option linter.unusedVariables false
set_option linter.unusedSimpArgs false
namespace Go.Proofs.Ytngbfjimmdkfeaa
open Go.RowKit Go.Shelf Go.Maps

theorem st_aut : autF fSt = ⟨5, 0, [1, 4], [⟨0, 1, [⟨97, 97⟩]⟩, ⟨0, 2, []⟩, ⟨2, 3, [⟨97, 97⟩]⟩, ⟨3, 2, []⟩, ⟨2, 4, []⟩]⟩ := by rfl
theorem clo_list {x : Nf} {S : Nat → Prop} {L : List Nat} (hl : linkB x = true) (hr : Rising L) (hL : ∀ a ∈ L, a < x.n.toNat) (h0 : ∀ a, S a → a ∈ L) (h1 : ∀ e ∈ x.es, e.q = [] → e.f.toNat ∈ L → e.t.toNat ∈ L) (h2 : ∀ v ∈ L, Rn x S v) : cloP x S = L :=
  rising_eq (cloP_rising x S) hr (fun v => by
    rw [cloP_mem hl (fun a ha => hL a (h0 a ha)) v]
    refine ⟨Rn.closed (C := fun v => v ∈ L) h0 (fun a b ha ⟨e, he, hq, hf, ht⟩ => ?_), h2 v⟩
    have := h1 e he hq
    rw [hf, ht] at this
    simpa using this (by simpa using ha))
theorem movA_none (go : Nat → List Nat) (all : List (List Nat)) : ∀ k, (∀ c, c < k → go c = []) → movA go all k = (all, [], -1)
  | 0, _ => rfl
  | k + 1, h => by
    rw [movA, movA_none go all k (fun c hc => h c (by omega)), h k (by omega)]
    simp [addA, toA, push_none]
theorem movA_rest (go : Nat → List Nat) (all : List (List Nat)) (b : Nat) : ∀ d, (∀ c, b ≤ c → c < b + d → go c = []) → (movA go all (b + d)).1 = (movA go all b).1 ∧ (movA go all (b + d)).2.1 = (movA go all b).2.1
  | 0, _ => ⟨rfl, rfl⟩
  | d + 1, h => by
    obtain ⟨h1, h2⟩ := movA_rest go all b d (fun c h1 h2 => h c h1 (by omega))
    rw [← Nat.add_assoc, movA, h (b + d) (by omega) (by omega)]
    simp only [addA, toA, if_true, push_none]
    exact ⟨h1, h2⟩
/-- One byte alone leads on. -/
theorem movA_one {go : Nat → List Nat} {all : List (List Nat)} {L : List Nat} {b : Nat} (hb : b < 256) (hL : L ≠ []) (h1 : go b = L) (h2 : ∀ c, c ≠ b → go c = []) : (movA go all 256).1 = addA all L ∧ (movA go all 256).2.1 = [⟨b, b, toA all L⟩] := by
  have h3 := movA_rest go all (b + 1) (256 - (b + 1)) (fun c hc _ => h2 c (by omega))
  rw [show b + 1 + (256 - (b + 1)) = 256 by omega] at h3
  rw [h3.1, h3.2, movA, movA_none go all b (fun c hc => h2 c (by omega)), h1]
  refine ⟨rfl, push_nil b ?_⟩
  unfold toA
  rw [if_neg hL]
  split <;> omega
noncomputable abbrev exN : Nf := autF fSt
abbrev exD : Df := ⟨[[⟨97, 97, 1⟩], [⟨97, 97, 2⟩], [⟨97, 97, 2⟩]], [1, 0, 1]⟩
theorem ex_link : linkB exN = true := (link_of st_nfB).1
theorem ex_es {P : Eg → Prop} (h0 : P ⟨0, 1, [⟨97, 97⟩]⟩) (h1 : P ⟨0, 2, []⟩) (h2 : P ⟨2, 3, [⟨97, 97⟩]⟩) (h3 : P ⟨3, 2, []⟩) (h4 : P ⟨2, 4, []⟩) : ∀ e ∈ exN.es, P e := fun e he => by
  have : exN.es = [⟨0, 1, [⟨97, 97⟩]⟩, ⟨0, 2, []⟩, ⟨2, 3, [⟨97, 97⟩]⟩, ⟨3, 2, []⟩, ⟨2, 4, []⟩] := rfl
  rw [this] at he
  simp only [List.mem_cons, List.not_mem_nil, or_false] at he
  rcases he with rfl | rfl | rfl | rfl | rfl <;> assumption
theorem ex_none {L : List Nat} (h1 : 0 ∈ L → 2 ∈ L) (h3 : 3 ∈ L → 2 ∈ L) (h4 : 2 ∈ L → 4 ∈ L) : ∀ e ∈ exN.es, e.q = [] → e.f.toNat ∈ L → e.t.toNat ∈ L :=
  ex_es (fun h => by cases h) (fun _ => h1) (fun h => by cases h) (fun _ => h3) (fun _ => h4)
theorem ex_n02 : nstep exN 0 2 := ⟨⟨0, 2, []⟩, by simp [exN, st_aut], rfl, rfl, rfl⟩
theorem ex_n32 : nstep exN 3 2 := ⟨⟨3, 2, []⟩, by simp [exN, st_aut], rfl, rfl, rfl⟩
theorem ex_n24 : nstep exN 2 4 := ⟨⟨2, 4, []⟩, by simp [exN, st_aut], rfl, rfl, rfl⟩
theorem ex_b01 : bstep exN 97 0 1 := ⟨⟨0, 1, [⟨97, 97⟩]⟩, by simp [exN, st_aut], rfl, rfl, rfl⟩
theorem ex_b23 : bstep exN 97 2 3 := ⟨⟨2, 3, [⟨97, 97⟩]⟩, by simp [exN, st_aut], rfl, rfl, rfl⟩
theorem in_a {c : Nat} : inSp [⟨97, 97⟩] c = true ↔ c = 97 := by
  rw [inSp_iff]
  constructor
  · rintro ⟨p, hp, h1, h2⟩
    rw [List.mem_singleton] at hp
    subst hp
    have e : (97 : UInt8).toNat = 97 := rfl
    dsimp only at h1 h2
    omega
  · rintro rfl
    exact ⟨_, List.mem_singleton.2 rfl, Nat.le_refl _, Nat.le_refl _⟩
theorem ex_b {c a b : Nat} (h : bstep exN c a b) : c = 97 ∧ ((a = 0 ∧ b = 1) ∨ (a = 2 ∧ b = 3)) := by
  obtain ⟨e, he, h1, h2, h3⟩ := h
  revert h1 h2 h3
  refine ex_es (P := fun e => inSp e.q c = true → e.f = (a : Int) → e.t = (b : Int) → c = 97 ∧ ((a = 0 ∧ b = 1) ∨ (a = 2 ∧ b = 3))) ?_ ?_ ?_ ?_ ?_ e he
  · exact fun h1 h2 h3 => ⟨in_a.1 h1, .inl ⟨by dsimp only at h2; omega, by dsimp only at h3; omega⟩⟩
  · exact fun h => by cases h
  · exact fun h1 h2 h3 => ⟨in_a.1 h1, .inr ⟨by dsimp only at h2; omega, by dsimp only at h3; omega⟩⟩
  · exact fun h => by cases h
  · exact fun h => by cases h
theorem ex_start : cloP exN (fun a => (a : Int) = exN.s) = [0, 2, 4] := by
  refine clo_list ex_link (by unfold Rising; decide) (by decide) (fun a ha => ?_) (ex_none (by decide) (by decide) (by decide)) ?_
  · have : (a : Int) = 0 := ha
    obtain rfl : a = 0 := by omega
    decide
  · have r0 : Rn exN (fun a => (a : Int) = exN.s) 0 := .base rfl
    have r2 := r0.step ex_n02
    have r4 := r2.step ex_n24
    intro v hv
    simp only [List.mem_cons, List.not_mem_nil, or_false] at hv
    rcases hv with rfl | rfl | rfl <;> assumption
theorem ex_no {s : List Nat} {c : Nat} (hc : c ≠ 97) : goA exN s c = [] := by
  unfold goA
  refine clo_list ex_link (by unfold Rising; decide) (by decide) (fun b ⟨a, _, h⟩ => absurd (ex_b h).1 hc) (ex_none (by decide) (by decide) (by decide)) (fun v hv => by cases hv)
theorem ex_go0 : goA exN [0, 2, 4] 97 = [1, 2, 3, 4] := by
  unfold goA
  refine clo_list ex_link (by unfold Rising; decide) (by decide) (fun b ⟨a, _, h⟩ => ?_) (ex_none (by decide) (by decide) (by decide)) ?_
  · rcases (ex_b h).2 with ⟨_, rfl⟩ | ⟨_, rfl⟩ <;> decide
  · have r1 : Rn exN (fun b => ∃ a, a ∈ [0, 2, 4] ∧ bstep exN 97 a b) 1 := .base ⟨0, by decide, ex_b01⟩
    have r3 : Rn exN (fun b => ∃ a, a ∈ [0, 2, 4] ∧ bstep exN 97 a b) 3 := .base ⟨2, by decide, ex_b23⟩
    have r2 := r3.step ex_n32
    have r4 := r2.step ex_n24
    intro v hv
    simp only [List.mem_cons, List.not_mem_nil, or_false] at hv
    rcases hv with rfl | rfl | rfl | rfl <;> assumption
theorem ex_go1 {s : List Nat} (h0 : 0 ∉ s) (h2 : 2 ∈ s) : goA exN s 97 = [2, 3, 4] := by
  unfold goA
  refine clo_list ex_link (by unfold Rising; decide) (by decide) (fun b ⟨a, ha, h⟩ => ?_) (ex_none (by decide) (by decide) (by decide)) ?_
  · rcases (ex_b h).2 with ⟨rfl, rfl⟩ | ⟨_, rfl⟩
    · exact absurd ha h0
    · decide
  · have r3 : Rn exN (fun b => ∃ a, a ∈ s ∧ bstep exN 97 a b) 3 := .base ⟨2, h2, ex_b23⟩
    have r2 := r3.step ex_n32
    have r4 := r2.step ex_n24
    intro v hv
    simp only [List.mem_cons, List.not_mem_nil, or_false] at hv
    rcases hv with rfl | rfl | rfl <;> assumption
theorem stpA_some {x : Nf} {i : Nat} {all : List (List Nat)} {ms : List (List Mv)} {ac : List Int} {s : List Nat} (h : all[i]? = some s) {a : List (List Nat)} {m : List Mv} (h1 : (movA (goA x s) all 256).1 = a) (h2 : (movA (goA x s) all 256).2.1 = m) : stpA x i (all, ms, ac) = (a, ms ++ [m], ac ++ [accA s x.ends 0]) := by
  unfold stpA
  dsimp only
  rw [h]
  dsimp only
  rw [h1, h2]
theorem ex_pb3 : PB exN 3 = ([[0, 2, 4], [1, 2, 3, 4], [2, 3, 4]], exD.ms, exD.ac) := by
  have p0 : PB exN 0 = ([[0, 2, 4]], [], []) := by rw [PB, ex_start]
  have p1 : PB exN 1 = ([[0, 2, 4], [1, 2, 3, 4]], [[⟨97, 97, 1⟩]], [1]) := by
    obtain ⟨h1, h2⟩ := movA_one (all := [[0, 2, 4]]) (b := 97) (by omega) (by simp) ex_go0 (fun c hc => ex_no hc)
    have e := stpA_some (x := exN) (i := 0) (ms := []) (ac := []) (s := [0, 2, 4]) rfl h1 h2
    rw [PB, p0, e]
    rfl
  have p2 : PB exN 2 = ([[0, 2, 4], [1, 2, 3, 4], [2, 3, 4]], [[⟨97, 97, 1⟩], [⟨97, 97, 2⟩]], [1, 0]) := by
    obtain ⟨h1, h2⟩ := movA_one (go := goA exN [1, 2, 3, 4]) (all := [[0, 2, 4], [1, 2, 3, 4]]) (b := 97) (by omega) (by simp) (ex_go1 (by decide) (by decide)) (fun c hc => ex_no hc)
    have e := stpA_some (x := exN) (i := 1) (ms := [[⟨97, 97, 1⟩]]) (ac := [1]) (s := [1, 2, 3, 4]) rfl h1 h2
    rw [PB, p1, e]
    rfl
  obtain ⟨h1, h2⟩ := movA_one (go := goA exN [2, 3, 4]) (all := [[0, 2, 4], [1, 2, 3, 4], [2, 3, 4]]) (b := 97) (by omega) (by simp) (ex_go1 (by decide) (by decide)) (fun c hc => ex_no hc)
  have e := stpA_some (x := exN) (i := 2) (ms := [[⟨97, 97, 1⟩], [⟨97, 97, 2⟩]]) (ac := [1, 0]) (s := [2, 3, 4]) rfl h1 h2
  rw [PB, p2, e]
  rfl
/-- What Build answers for the example. -/
theorem ex_built {w w' : World} {e : Ending} (h : PostB w w' exN e) : (∃ p2 : DfL, DfAt w' exD p2 ∧ e = .returned (.tuple #[.agg #[.slice p2.ma 3 p2.mc, .slice p2.aa 3 p2.ac], .int .i64 0])) ∧ Below w.heap.size w w' := by
  have h3 : (PB exN 3).1.length ≤ 3 := by rw [ex_pb3]; decide
  obtain ⟨hb, ⟨h1, _⟩ | ⟨_, ⟨i, hi⟩, _⟩ | ⟨_, i, hi, _, _, _, p2, hp, he⟩⟩ := h
  · rw [st_nfB] at h1
    cases h1
  · have := pb_few (j := i) h3 (by omega)
    omega
  · have := pb_done (i := i) (j := 3) (by omega) h3
    rw [this, ex_pb3] at hp he
    exact ⟨⟨p2, hp, he⟩, hb⟩
end Go.Proofs.Ytngbfjimmdkfeaa

namespace Go.Proofs.Ytngbfjimmdkfeaa
open Go.RowKit Go.Shelf

attribute [local go_sem] Oper.semAt_some

set_option maxRecDepth 100000 in
set_option maxHeartbeats 4000000 in
theorem refDSame_self (x : Df) (p q : DfL) (w : World) (hp : DfAt w x p) (hq : DfAt w x q) :
    Calls Try.prog 17 #[.agg #[.slice p.ma x.ms.length p.mc, .slice p.aa x.ac.length p.ac], .agg #[.slice q.ma x.ms.length q.mc, .slice q.aa x.ac.length q.ac]] w fun e w' => e = .returned (.bool true) ∧ Below w.heap.size w w' := by
  have h1 := hp.ms.le
  have h2 := hp.ms.max
  have h3 := hp.acc.le
  have h4 := hp.acc.max
  have k1 := hq.ms.le
  have k2 := hq.ms.max
  have k3 := hq.acc.le
  have k4 := hq.acc.max
  have HLp := Lib.hid hp.len
  have HLq := Lib.hid hq.len
  rw [HLp.out] at h1
  rw [HLq.out] at k1
  have Hp := Lib.hid hp
  have Hq := Lib.hid hq
  have HI := Lib.hid (fun (V : World) (hV : Below w.heap.size w V) => sameInts_any p.aa q.aa p.ac q.ac x.ac x.ac V (hp.acc.grown hV) (hq.acc.grown hV))
  clear hp hq
  have hself : Hid (decide (x.ac = x.ac) = true) := Lib.hid (decide_eq_true rfl)
  rw [hself.out] at HI
  obtain ⟨M, HM⟩ : ∃ M, Hid (x.ms.length = M) := ⟨_, Lib.hid rfl⟩
  obtain ⟨N, HN⟩ : ∃ N, Hid (x.ac.length = N) := ⟨_, Lib.hid rfl⟩
  rw [HN.out] at HI h3 k3
  rw [HM.out] at h1 k1
  rw [HM.out, HN.out]
  have hA0 := (Blk.new w 25 #[.slice p.ma M p.mc, .slice p.aa N p.ac]).alloc (.cells #[.slice q.ma M q.mc, .slice q.aa N q.ac] 25)
  have hB0 := Blk.new (w.alloc (.cells #[.slice p.ma M p.mc, .slice p.aa N p.ac] 25)) 25 #[.slice q.ma M q.mc, .slice q.aa N q.ac]
  rw [World.size_alloc] at hB0
  have hb0 : Below w.heap.size w ((w.alloc (.cells #[.slice p.ma M p.mc, .slice p.aa N p.ac] 25)).alloc (.cells #[.slice q.ma M q.mc, .slice q.aa N q.ac] 25)) := ((Below.refl w.heap.size w).alloc (Nat.le_refl _) _).alloc (by simp) _
  have HI0 := Lib.hid (HI.out _ hb0)
  have x0 := hA0.cell 0
  have x1 := hA0.cell 1
  have xl := hA0.lt
  have y0 := hB0.cell 0
  have y1 := hB0.cell 1
  have yl := hB0.lt
  simp only [List.getElem?_cons_zero, List.getElem?_cons_succ] at x0 x1 y0 y1
  clear HI
  go_enter Try.func17, Try.ntmps17
  go_wp2_with (fail)
  refine HI0.out.mono ?_
  rintro e w1 ⟨rfl, hb1⟩
  have hA1 := hA0.below hb1 hA0.lt
  have hB1 := hB0.below hb1 hB0.lt
  have Hbw1 := Lib.hid (hb0.trans (hb1.mono hb0.size))
  clear x0 x1 xl y0 y1 yl hA0 hB0 hb0 hb1 HI0
  obtain ⟨B1, hBN1⟩ : ∃ n, Hid (w.heap.size = n) := ⟨_, Lib.hid rfl⟩
  rw [hBN1.out] at hA1 hB1
  simp only [World.size_alloc, hBN1.out]
  have hMM : ((M : Int) != (M : Int)) = false := by rw [bne_eq_false_iff_eq]
  have x0 := hA1.cell 0
  have xl := hA1.lt
  have y0 := hB1.cell 0
  have yl := hB1.lt
  simp only [List.getElem?_cons_zero, List.getElem?_cons_succ] at x0 y0
  go_wp2_with (fail)
  go_loopw [5, 25] (fun _ iv wr => ∃ k : Nat, k ≤ M ∧ iv = .int .i64 (k : Int) ∧ Below w1.heap.size w1 wr) (fun _ iv _ => M - (intOf iv).toNat)
  case atStart => exact ⟨0, Nat.zero_le _, rfl, Below.refl _ _⟩
  case round =>
    obtain ⟨k, hk, rfl, hbr⟩ := hrel
    clear x0 xl y0 yl
    by_cases hlt : k < M
    · have hkI : (k : Int) < (M : Int) := by omega
      have hkI0 : (0 : Int) ≤ (k : Int) := by omega
      have hkm : k < x.ms.length := by rw [HM.out]; exact hlt
      have hkp : k < p.rs.length := by rw [HLp.out]; exact hkm
      have hkq : k < q.rs.length := by rw [HLq.out]; exact hkm
      obtain ⟨b, off, hma⟩ := Hp.out.ms.at_ k hkp
      obtain ⟨b2, off2, hma2⟩ := Hq.out.ms.at_ k hkq
      have hwd := Hbw1.out.trans (hbr.mono Hbw1.out.size)
      have c0 := (Hp.out.ms.grown hwd).cell b off hma k hkp
      have d0 := (Hq.out.ms.grown hwd).cell b2 off2 hma2 k hkq
      have HE : Hid (p.rs[k].l = q.rs[k].l) := Lib.hid (by
        have e1 : x.ms[k] = p.rs[k].l := by simp only [← Hp.out.eq, List.getElem_map]
        have e2 : x.ms[k] = q.rs[k].l := by simp only [← Hq.out.eq, List.getElem_map]
        rw [← e1, ← e2])
      have hm1 := (Hp.out.ms.mvs _ (List.getElem_mem hkp)).grown Hbw1.out
      have hm2 := (Hq.out.ms.mvs _ (List.getElem_mem hkq)).grown Hbw1.out
      obtain ⟨d, hd⟩ : ∃ v, Hid (p.rs[k] = v) := ⟨_, Lib.hid rfl⟩
      obtain ⟨e, he⟩ : ∃ v, Hid (q.rs[k] = v) := ⟨_, Lib.hid rfl⟩
      rw [hd.out] at c0 hm1 HE
      rw [he.out] at d0 hm2 HE
      obtain ⟨dl, da, dc⟩ := d
      obtain ⟨el, ea, ec⟩ := e
      obtain rfl : dl = el := HE.out
      have hql : dl.length ≤ dc ∧ dc ≤ 9223372036854775807 ∧ dl.length ≤ ec ∧ ec ≤ 9223372036854775807 := ⟨hm1.le, hm1.max, hm2.le, hm2.max⟩
      obtain ⟨Q, hQ⟩ : ∃ Q, Hid (dl.length = Q) := ⟨_, Lib.hid rfl⟩
      simp only [MvD.v, hQ.out] at c0 d0
      rw [hQ.out] at hql
      have hQQ : ((Q : Int) != (Q : Int)) = false := by rw [bne_eq_false_iff_eq]
      obtain ⟨pa, hpa⟩ : ∃ v, Hid (p.ma = v) := ⟨_, Lib.hid rfl⟩
      obtain ⟨qa, hqa⟩ : ∃ v, Hid (q.ma = v) := ⟨_, Lib.hid rfl⟩
      rw [hpa.out] at hma hA1
      rw [hqa.out] at hma2 hB1
      subst hma
      subst hma2
      have HC0 := Lib.hid (And.intro c0 d0)
      have HA := Lib.hid hA1
      have HB := Lib.hid hB1
      have Hbr := Lib.hid hbr
      have HM1 := Lib.hid hm1
      have HM2 := Lib.hid hm2
      have x0 := (hA1.below hbr hA1.lt).cell 0
      have xl := (hA1.below hbr hA1.lt).lt
      have y0 := (hB1.below hbr hB1.lt).cell 0
      have yl := (hB1.below hbr hB1.lt).lt
      simp only [List.getElem?_cons_zero, List.getElem?_cons_succ] at x0 y0
      have cl := World.block_lt_of_cell? _ _ c0
      have dl_ := World.block_lt_of_cell? _ _ d0
      clear hbr hm1 hm2 hwd HE
      go_wp2_with (fail)
      go_region
      all_goals go_wp2_with (fail)
      go_loopw [6, 47] (fun _ iv w3 => ∃ i : Nat, i ≤ Q ∧ iv = .int .i64 (i : Int) ∧ Below w1.heap.size w1 w3) (fun _ iv _ => Q - (intOf iv).toNat)
      case atStart => exact ⟨0, Nat.zero_le _, rfl, Hbr.out.drew⟩
      case round =>
        obtain ⟨i, hi, rfl, hbr3⟩ := hrel
        clear x0 xl y0 yl c0 d0 cl dl_
        by_cases hlt3 : i < Q
        · have hiI : (i : Int) < (Q : Int) := by omega
          have hiI0 : (0 : Int) ≤ (i : Int) := by omega
          have hil : i < dl.length := by rw [hQ.out]; exact hlt3
          obtain ⟨b3, off3, rfl⟩ := HM1.out.at_ i hil
          obtain ⟨b4, off4, rfl⟩ := HM2.out.at_ i hil
          obtain ⟨⟨m0, m1, m2⟩, _, _⟩ := (HM1.out.grown hbr3).cell b3 off3 rfl i hil
          obtain ⟨⟨n0, n1, n2⟩, _, _⟩ := (HM2.out.grown hbr3).cell b4 off4 rfl i hil
          obtain ⟨v, hv⟩ : ∃ v, Hid (dl[i] = v) := ⟨_, Lib.hid rfl⟩
          rw [hv.out] at m0 m1 m2 n0 n1 n2
          have hwd := Hbw1.out.trans (hbr3.mono Hbw1.out.size)
          have c0 := (Hp.out.ms.grown hwd).cell b off hpa.out k hkp
          have d0 := (Hq.out.ms.grown hwd).cell b2 off2 hqa.out k hkq
          rw [hd.out] at c0
          rw [he.out] at d0
          simp only [MvD.v, hQ.out] at c0 d0
          have x0 := (HA.out.below hbr3 HA.out.lt).cell 0
          have xl := (HA.out.below hbr3 HA.out.lt).lt
          have y0 := (HB.out.below hbr3 HB.out.lt).cell 0
          have yl := (HB.out.below hbr3 HB.out.lt).lt
          simp only [List.getElem?_cons_zero, List.getElem?_cons_succ] at x0 y0
          have cl := World.block_lt_of_cell? _ _ c0
          have dl_ := World.block_lt_of_cell? _ _ d0
          have ml := World.block_lt_of_cell? _ _ m0
          have nl := World.block_lt_of_cell? _ _ n0
          have Hbr3 := Lib.hid hbr3
          clear hbr3 hwd hA1 hB1
          go_wp2_with (fail)
          go_region
          all_goals go_wp2_with (fail)
          exact ⟨⟨i + 1, by omega, by simp, Hbr3.out.drew⟩, by simp [intOf]; omega⟩
        · obtain rfl : i = Q := by omega
          have hiI : ¬ (i : Int) < (i : Int) := by omega
          have Hbr3 := Lib.hid hbr3
          clear hbr3
          go_wp2_with (fail)
          exact ⟨⟨k + 1, by omega, by simp, Hbr3.out⟩, by simp [intOf]; omega⟩
    · obtain rfl : k = M := by omega
      have hkI : ¬ (k : Int) < (k : Int) := by omega
      have HB := Lib.hid (Hbw1.out.trans (hbr.mono Hbw1.out.size))
      clear hbr
      go_wp2_with (fail)
      exact bodyPost_ret (v := .bool true) (by simp [results, Try.results17, go_sem]; try rfl) rfl ⟨rfl, HB.out⟩
end Go.Proofs.Ytngbfjimmdkfeaa

namespace Go.Proofs.Ytngbfjimmdkfeaa
open Go.RowKit Go.Shelf

attribute [local go_sem] Oper.semAt_some

theorem lit_mvs (w : World) (t : Int) : Mvs (w.alloc (.cells #[.int .u8 97, .int .u8 97, .int .i64 t] 57)) (some ⟨w.heap.size, 0, none⟩) 1 [⟨97, 97, t⟩] := by
  have h := Blk.new w 57 #[.int .u8 97, .int .u8 97, .int .i64 t]
  refine ⟨Nat.le_refl _, by omega, fun e => (by cases e), fun i _ => ⟨_, _, rfl⟩, fun b off e i hi => ?_⟩
  cases e
  obtain rfl : i = 0 := by simp at hi; omega
  exact ⟨⟨h.cell 0, h.cell 1, h.cell 2⟩, (by show (97 : Nat) < 256; omega), (by show (97 : Nat) < 256; omega)⟩
theorem up_by {w : World} (o : Obj) : Below w.heap.size w (w.alloc o) := (Below.refl _ w).alloc (Nat.le_refl _) o
theorem lit3_ints (w : World) : Ints (w.alloc (.cells #[.int .i64 1, .int .i64 0, .int .i64 1] 3)) (some ⟨w.heap.size, 0, none⟩) 3 [1, 0, 1] := by
  refine ⟨Nat.le_refl _, by omega, fun e => (by cases e), fun i _ => ⟨_, _, rfl⟩, fun b off e i hi => ?_⟩
  cases e
  have h := (Blk.new w 3 #[.int .i64 1, .int .i64 0, .int .i64 1]).cell i
  rw [Nat.zero_add, h]
  match i, hi with
  | 0, _ => rfl
  | 1, _ => rfl
  | 2, _ => rfl
/-- The automaton that is wanted, laid. -/
theorem lit_dfa (w : World) : ∀ W, W = (((((w.alloc (.cells #[.int .u8 97, .int .u8 97, .int .i64 1] 57)).alloc (.cells #[.int .u8 97, .int .u8 97, .int .i64 2] 57)).alloc (.cells #[.int .u8 97, .int .u8 97, .int .i64 2] 57)).alloc (.cells #[.slice (some ⟨w.heap.size, 0, none⟩) 1 1, .slice (some ⟨w.heap.size + 1, 0, none⟩) 1 1, .slice (some ⟨w.heap.size + 1 + 1, 0, none⟩) 1 1] 58)).alloc (.cells #[.int .i64 1, .int .i64 0, .int .i64 1] 3)) →
    Below w.heap.size w W ∧ W.heap.size = w.heap.size + 1 + 1 + 1 + 1 + 1 ∧ DfAt W exD ⟨[⟨[⟨97, 97, 1⟩], some ⟨w.heap.size, 0, none⟩, 1⟩, ⟨[⟨97, 97, 2⟩], some ⟨w.heap.size + 1, 0, none⟩, 1⟩, ⟨[⟨97, 97, 2⟩], some ⟨w.heap.size + 1 + 1, 0, none⟩, 1⟩], some ⟨w.heap.size + 1 + 1 + 1, 0, none⟩, 3, some ⟨w.heap.size + 1 + 1 + 1 + 1, 0, none⟩, 3⟩ := by
  rintro W rfl
  have m0 := lit_mvs w 1
  have b1 := up_by (w := w) (.cells #[.int .u8 97, .int .u8 97, .int .i64 1] 57)
  have s1 : (w.alloc (.cells #[.int .u8 97, .int .u8 97, .int .i64 1] 57)).heap.size = w.heap.size + 1 := World.size_alloc _ _
  generalize w.alloc (.cells #[.int .u8 97, .int .u8 97, .int .i64 1] 57) = w1 at *
  have m1 := lit_mvs w1 2
  have b2 := up_by (w := w1) (.cells #[.int .u8 97, .int .u8 97, .int .i64 2] 57)
  have s2 : (w1.alloc (.cells #[.int .u8 97, .int .u8 97, .int .i64 2] 57)).heap.size = w1.heap.size + 1 := World.size_alloc _ _
  generalize w1.alloc (.cells #[.int .u8 97, .int .u8 97, .int .i64 2] 57) = w2 at *
  have m2 := lit_mvs w2 2
  have b3 := up_by (w := w2) (.cells #[.int .u8 97, .int .u8 97, .int .i64 2] 57)
  have s3 : (w2.alloc (.cells #[.int .u8 97, .int .u8 97, .int .i64 2] 57)).heap.size = w2.heap.size + 1 := World.size_alloc _ _
  generalize w2.alloc (.cells #[.int .u8 97, .int .u8 97, .int .i64 2] 57) = w3 at *
  rw [s1] at m1 s2
  rw [s2] at m2 s3
  have g := Blk.new w3 58 #[.slice (some ⟨w.heap.size, 0, none⟩) 1 1, .slice (some ⟨w.heap.size + 1, 0, none⟩) 1 1, .slice (some ⟨w.heap.size + 1 + 1, 0, none⟩) 1 1]
  have b4 := up_by (w := w3) (.cells #[.slice (some ⟨w.heap.size, 0, none⟩) 1 1, .slice (some ⟨w.heap.size + 1, 0, none⟩) 1 1, .slice (some ⟨w.heap.size + 1 + 1, 0, none⟩) 1 1] 58)
  have s4 : (w3.alloc (.cells #[.slice (some ⟨w.heap.size, 0, none⟩) 1 1, .slice (some ⟨w.heap.size + 1, 0, none⟩) 1 1, .slice (some ⟨w.heap.size + 1 + 1, 0, none⟩) 1 1] 58)).heap.size = w3.heap.size + 1 := World.size_alloc _ _
  generalize w3.alloc (.cells #[.slice (some ⟨w.heap.size, 0, none⟩) 1 1, .slice (some ⟨w.heap.size + 1, 0, none⟩) 1 1, .slice (some ⟨w.heap.size + 1 + 1, 0, none⟩) 1 1] 58) = w4 at *
  rw [s3] at g s4
  have a0 := lit3_ints w4
  have b5 := up_by (w := w4) (.cells #[.int .i64 1, .int .i64 0, .int .i64 1] 3)
  have s5 : (w4.alloc (.cells #[.int .i64 1, .int .i64 0, .int .i64 1] 3)).heap.size = w4.heap.size + 1 := World.size_alloc _ _
  generalize w4.alloc (.cells #[.int .i64 1, .int .i64 0, .int .i64 1] 3) = w5 at *
  rw [s4] at a0 s5
  have c35 := b4.trans (b5.mono b4.size)
  have c25 := b3.trans (c35.mono b3.size)
  have c15 := b2.trans (c25.mono b2.size)
  have c05 := b1.trans (c15.mono b1.size)
  refine ⟨c05, s5, ⟨⟨(by show 3 ≤ 3; omega), (by show 3 ≤ 9223372036854775807; omega), fun e => (by cases e), fun i _ => ⟨_, _, rfl⟩, fun b off e i hi => ?_, fun r hr => ?_⟩, rfl, a0⟩⟩
  · cases e
    have g5 := g.below b5 g.lt
    simp only [List.length_cons, List.length_nil, Nat.zero_add, Nat.reduceAdd] at hi
    match i, hi with
    | 0, _ => exact g5.cell 0
    | 1, _ => exact g5.cell 1
    | 2, _ => exact g5.cell 2
  · simp only [List.mem_cons, List.not_mem_nil, or_false] at hr
    rcases hr with rfl | rfl | rfl
    · exact m0.grown c15
    · exact m1.grown c25
    · exact m2.grown c35

set_option maxRecDepth 100000 in
set_option maxHeartbeats 4000000 in
theorem live4_any (w : World) : Calls Try.prog 9 #[] w fun e w' => e = .returned (.bool true) ∧ Below w.heap.size w w' := by
  obtain ⟨q1, _, q3, _⟩ := st_err
  obtain ⟨z1, _⟩ := st_size
  have hB2 := build_ok q1 (by rw [q3]; omega)
  have Hb : Hid (∀ (a : Option Addr) (cap : Nat) (w : World), Items w a cap fSt → Calls Try.prog 25 #[.slice a 2 cap] w fun e w' => ∃ p : NfL, e = .returned (.tuple #[.agg #[.int .i64 5, .int .i64 0, .slice p.ea 2 p.ec, .slice p.ga 5 p.gc], .int .i64 0]) ∧ NfAt w' (autF fSt) p ∧ Below w.heap.size w w') := Lib.hid (fun a cap w h => (refBuild_any a 2 cap fSt w rfl h (by rw [z1]; omega) (by rw [q3]; omega)).mono (by
    rintro e w' ⟨⟨p, rfl, hp⟩, hb⟩
    rw [hB2] at hp ⊢
    exact ⟨p, rfl, hp, hb⟩))
  obtain ⟨m1, m2, m3⟩ := st_n
  have Hd : Hid (∀ (p : NfL) (w : World), NfAt w (autF fSt) p → Calls Try.prog 15 #[.agg #[.int .i64 5, .int .i64 0, .slice p.ea 2 p.ec, .slice p.ga 5 p.gc]] w fun e w' => (∃ p2 : DfL, DfAt w' exD p2 ∧ e = .returned (.tuple #[.agg #[.slice p2.ma 3 p2.mc, .slice p2.aa 3 p2.ac], .int .i64 0])) ∧ Below w.heap.size w w') := Lib.hid (fun p w h => (dBuild_pb w (autF fSt) p h (by rw [m2]; omega) (by rw [show spN (autF fSt).es = 2 from by kernel_rfl]; omega)).mono (fun e w' h => ex_built h))
  have Hr : Hid (∀ (p : DfL) (s : ByteArray) (w : World), s.size ≤ 1 → DfAt w exD p → Calls Try.prog 20 #[.agg #[.slice p.ma 3 p.mc, .slice p.aa 3 p.ac], .string s] w fun e w' => e = .returned (.int .i64 (drunP exD s.data.toList)) ∧ Below w.heap.size w w') := Lib.hid (fun p s w hs h => drun_any exD p s w h (by omega))
  have Hn : Hid (∀ (p : DfL) (w : World), DfAt w exD p → Calls Try.prog 18 #[.agg #[.slice p.ma 3 p.mc, .slice p.aa 3 p.ac], .int .i64 0, .int .u8 97] w fun e w' => e = .returned (.int .i64 1) ∧ Below w.heap.size w w') := Lib.hid (fun p w h => dnext_any exD p 0 97 w h (by omega))
  have Hs : Hid (∀ (p q : DfL) (w : World), DfAt w exD p → DfAt w exD q → Calls Try.prog 17 #[.agg #[.slice p.ma 3 p.mc, .slice p.aa 3 p.ac], .agg #[.slice q.ma 3 q.mc, .slice q.aa 3 q.ac]] w fun e w' => e = .returned (.bool true) ∧ Below w.heap.size w w') := Lib.hid (fun p q w h1 h2 => refDSame_self exD p q w h1 h2)
  clear hB2 q1 q3 z1 m1 m2 m3
  go_enter Try.func9, Try.ntmps9
  go_wp2_with (fail)
  have h0 := (((Blk.new w 55 #[.int .u8 97, .int .u8 97]).alloc (.cells #[.int .i64 2, .slice (some ⟨w.heap.size, 0, none⟩) 1 1, .slice none 0 0] 45)).alloc (.cells #[.int .i64 2, .slice (some ⟨w.heap.size, 0, none⟩) 1 1, .slice none 0 0] 45)).alloc (.cells #[.int .i64 2, .slice (some ⟨w.heap.size, 0, none⟩) 1 1, .slice none 0 0, .int .i64 5, .slice none 0 0, .slice (some ⟨w.heap.size + 1 + 1, 0, none⟩) 1 1] 45)
  have h2 := (blkN ((w.alloc (.cells #[.int .u8 97, .int .u8 97] 55)).alloc (.cells #[.int .i64 2, .slice (some ⟨w.heap.size, 0, none⟩) 1 1, .slice none 0 0] 45)) (w.heap.size + 1 + 1) #[.int .i64 2, .slice (some ⟨w.heap.size, 0, none⟩) 1 1, .slice none 0 0] 45 (by simp)).alloc (.cells #[.int .i64 2, .slice (some ⟨w.heap.size, 0, none⟩) 1 1, .slice none 0 0, .int .i64 5, .slice none 0 0, .slice (some ⟨w.heap.size + 1 + 1, 0, none⟩) 1 1] 45)
  have h3 := blkN (((w.alloc (.cells #[.int .u8 97, .int .u8 97] 55)).alloc (.cells #[.int .i64 2, .slice (some ⟨w.heap.size, 0, none⟩) 1 1, .slice none 0 0] 45)).alloc (.cells #[.int .i64 2, .slice (some ⟨w.heap.size, 0, none⟩) 1 1, .slice none 0 0] 45)) (w.heap.size + 1 + 1 + 1) #[.int .i64 2, .slice (some ⟨w.heap.size, 0, none⟩) 1 1, .slice none 0 0, .int .i64 5, .slice none 0 0, .slice (some ⟨w.heap.size + 1 + 1, 0, none⟩) 1 1] 45 (by simp)
  have hb : Below w.heap.size w ((((w.alloc (.cells #[.int .u8 97, .int .u8 97] 55)).alloc (.cells #[.int .i64 2, .slice (some ⟨w.heap.size, 0, none⟩) 1 1, .slice none 0 0] 45)).alloc (.cells #[.int .i64 2, .slice (some ⟨w.heap.size, 0, none⟩) 1 1, .slice none 0 0] 45)).alloc (.cells #[.int .i64 2, .slice (some ⟨w.heap.size, 0, none⟩) 1 1, .slice none 0 0, .int .i64 5, .slice none 0 0, .slice (some ⟨w.heap.size + 1 + 1, 0, none⟩) 1 1] 45)) := ((((Below.refl _ w).alloc (Nat.le_refl _) _).alloc (by simp) _).alloc (by simp; omega) _).alloc (by simp; omega) _
  generalize ((((w.alloc (.cells #[.int .u8 97, .int .u8 97] 55)).alloc (.cells #[.int .i64 2, .slice (some ⟨w.heap.size, 0, none⟩) 1 1, .slice none 0 0] 45)).alloc (.cells #[.int .i64 2, .slice (some ⟨w.heap.size, 0, none⟩) 1 1, .slice none 0 0] 45)).alloc (.cells #[.int .i64 2, .slice (some ⟨w.heap.size, 0, none⟩) 1 1, .slice none 0 0, .int .i64 5, .slice none 0 0, .slice (some ⟨w.heap.size + 1 + 1, 0, none⟩) 1 1] 45)) = W at h0 h2 h3 hb ⊢
  have sA : Sps W (some ⟨w.heap.size, 0, none⟩) 1 [⟨97, 97⟩] := by
    refine ⟨by simp, by omega, fun e => (by cases e), fun i _ => ⟨_, _, rfl⟩, fun b off e i hi => ?_⟩
    cases e
    obtain rfl : i = 0 := by simp at hi; omega
    exact ⟨h0.cell 0, h0.cell 1⟩
  have eA : ∀ (b off : Nat), W.cell? ⟨b, off, none⟩ = some (.int .i64 2) → W.cell? ⟨b, off + 1, none⟩ = some (.slice (some ⟨w.heap.size, 0, none⟩) 1 1) → W.cell? ⟨b, off + 2, none⟩ = some (.slice none 0 0) → ∀ r, Elems W r b (off + 3) → Elems W (.cons hA .nil r) b off := fun b off c0 c1 c2 r hr => ⟨c0, ⟨_, _, c1, sA⟩, ⟨none, 0, c2, Nat.le_refl _, by omega, fun _ => rfl, fun h => absurd h (Nat.lt_irrefl _)⟩, hr⟩
  have e2 : Elems W (.cons hA .nil .nil) (w.heap.size + 1 + 1) 0 := eA _ _ (h2.cell 0) (h2.cell 1) (h2.cell 2) _ trivial
  have e3 : Elems W fSt (w.heap.size + 1 + 1 + 1) 0 := eA _ _ (h3.cell 0) (h3.cell 1) (h3.cell 2) _ ⟨h3.cell 3, ⟨none, 0, h3.cell 4, Sps.nil W⟩, ⟨_, 1, h3.cell 5, by decide, by omega, fun e => (by cases e), fun _ => ⟨_, _, rfl, e2⟩⟩, trivial⟩
  have Hi := Lib.hid (Items.of (cap := 2) e3 (by decide) (by omega))
  clear h0 h2 h3 sA eA e2 e3
  refine (Hb.out _ _ _ Hi.out).mono ?_
  rintro e w1 ⟨p, rfl, hp, hb1⟩
  obtain ⟨pa, pc, pg, ph⟩ := p
  dsimp only at *
  have hm2 : (2 : Nat) ≤ pc ∧ pc ≤ 9223372036854775807 ∧ 5 ≤ ph ∧ ph ≤ 9223372036854775807 := ⟨hp.ends.le, hp.ends.max, hp.es.le, hp.es.max⟩
  have hM1 := Blk.new w1 32 #[.int .i64 5, .int .i64 0, .slice pa 2 pc, .slice pg 5 ph]
  have hup := up_by (w := w1) (.cells #[.int .i64 5, .int .i64 0, .slice pa 2 pc, .slice pg 5 ph] 32)
  have HP2 := Lib.hid (hp.grown hup)
  have HB2 := Lib.hid ((hb.trans (hb1.mono hb.size)).trans (hup.mono (Nat.le_trans hb.size hb1.size)))
  clear hp hb hb1 hup
  have y0 := hM1.cell 0
  have y1 := hM1.cell 1
  have y2 := hM1.cell 2
  have y3 := hM1.cell 3
  have yl := hM1.lt
  simp only [List.getElem?_cons_zero, List.getElem?_cons_succ] at y0 y1 y2 y3
  go_wp2_with (fail)
  refine (Hd.out ⟨pa, pc, pg, ph⟩ _ HP2.out).mono ?_
  rintro e w3 ⟨⟨p2, hp2, rfl⟩, hb3⟩
  obtain ⟨rs, ma, mc, aa, ac⟩ := p2
  dsimp only at *
  have hm3 : (3 : Nat) ≤ mc ∧ mc ≤ 9223372036854775807 ∧ 3 ≤ ac ∧ ac ≤ 9223372036854775807 := ⟨by have := hp2.ms.le; rw [hp2.len] at this; exact this, hp2.ms.max, hp2.acc.le, hp2.acc.max⟩
  have HB3 := Lib.hid (HB2.out.trans (hb3.mono HB2.out.size))
  clear y0 y1 y2 y3 yl hM1 HP2 HB2 hb3
  go_upto_region 5 with fail
  obtain ⟨hbl, hsz, hwant⟩ := lit_dfa (w3.alloc (.cells #[.slice ma 3 mc, .slice aa 3 ac] 25)) _ rfl
  have hdv := Blk.new w3 25 #[.slice ma 3 mc, .slice aa 3 ac]
  have hv := up_by (w := w3) (.cells #[.slice ma 3 mc, .slice aa 3 ac] 25)
  have hpv := hp2.grown hv
  have hdw := hdv.below hbl hdv.lt
  have hpw := hpv.grown hbl
  have hbw := HB3.out.trans ((hv.trans (hbl.mono hv.size)).mono HB3.out.size)
  rw [World.size_alloc w3] at hsz hwant hdw hpw hbw
  obtain ⟨W, hW⟩ : ∃ W, Hid (((((((w3.alloc (.cells #[.slice ma 3 mc, .slice aa 3 ac] 25)).alloc (.cells #[.int .u8 97, .int .u8 97, .int .i64 1] 57)).alloc (.cells #[.int .u8 97, .int .u8 97, .int .i64 2] 57)).alloc (.cells #[.int .u8 97, .int .u8 97, .int .i64 2] 57)).alloc (.cells #[.slice (some ⟨w3.heap.size + 1, 0, none⟩) 1 1, .slice (some ⟨w3.heap.size + 1 + 1, 0, none⟩) 1 1, .slice (some ⟨w3.heap.size + 1 + 1 + 1, 0, none⟩) 1 1] 58)).alloc (.cells #[.int .i64 1, .int .i64 0, .int .i64 1] 3)) = W) := ⟨_, Lib.hid rfl⟩
  rw [hW.out] at hsz hwant hdw hpw hbw ⊢
  have hz := Blk.new W 25 #[.slice (some ⟨w3.heap.size + 1 + 1 + 1 + 1, 0, none⟩) 3 3, .slice (some ⟨w3.heap.size + 1 + 1 + 1 + 1 + 1, 0, none⟩) 3 3]
  have hu := up_by (w := W) (.cells #[.slice (some ⟨w3.heap.size + 1 + 1 + 1 + 1, 0, none⟩) 3 3, .slice (some ⟨w3.heap.size + 1 + 1 + 1 + 1 + 1, 0, none⟩) 3 3] 25)
  rw [hsz] at hz
  have HB := Lib.hid (hbw.trans (hu.mono hbw.size))
  have HD := Lib.hid (hdw.below hu hdw.lt)
  have HZ := Lib.hid hz
  have HP := Lib.hid (hpw.grown hu)
  have HQ := Lib.hid (hwant.grown hu)
  obtain ⟨U, hU⟩ : ∃ U, Hid (W.alloc (.cells #[.slice (some ⟨w3.heap.size + 1 + 1 + 1 + 1, 0, none⟩) 3 3, .slice (some ⟨w3.heap.size + 1 + 1 + 1 + 1 + 1, 0, none⟩) 3 3] 25) = U) := ⟨_, Lib.hid rfl⟩
  rw [hU.out] at HB HD HZ HP HQ ⊢
  clear hbl hsz hwant hdv hv hpv hdw hpw hbw hz hu hp2 HB3
  have x0 := HD.out.cell 0
  have x1 := HD.out.cell 1
  have xl := HD.out.lt
  simp only [List.getElem?_cons_zero, List.getElem?_cons_succ] at x0 x1
  have z0 := HZ.out.cell 0
  have z1 := HZ.out.cell 1
  have zl := HZ.out.lt
  simp only [List.getElem?_cons_zero, List.getElem?_cons_succ] at z0 z1
  go_wp2_with (fail)
  refine (Hs.out _ _ _ HP.out HQ.out).mono ?_
  rintro e u4 ⟨rfl, hb⟩
  have HBn := Lib.hid (HB.out.trans (hb.mono HB.out.size))
  have HDn := Lib.hid (HD.out.below hb HD.out.lt)
  have HPn := Lib.hid (HP.out.grown hb)
  clear HB HD HP hb x0 x1 xl z0 z1 zl HZ HQ
  have HB := HBn
  have HD := HDn
  have HP := HPn
  clear HBn HDn HPn
  have x0 := HD.out.cell 0
  have x1 := HD.out.cell 1
  have xl := HD.out.lt
  simp only [List.getElem?_cons_zero, List.getElem?_cons_succ] at x0 x1
  go_wp2_with (fail)
  refine (Hr.out ⟨rs, ma, mc, aa, ac⟩ ⟨#[97]⟩ _ (by decide) HP.out).mono ?_
  rintro e u5 ⟨rfl, hb⟩
  have HBn := Lib.hid (HB.out.trans (hb.mono HB.out.size))
  have HDn := Lib.hid (HD.out.below hb HD.out.lt)
  have HPn := Lib.hid (HP.out.grown hb)
  clear HB HD HP hb x0 x1 xl 
  have HB := HBn
  have HD := HDn
  have HP := HPn
  clear HBn HDn HPn
  have x0 := HD.out.cell 0
  have x1 := HD.out.cell 1
  have xl := HD.out.lt
  simp only [List.getElem?_cons_zero, List.getElem?_cons_succ] at x0 x1
  rw [show drunP exD (⟨#[97]⟩ : ByteArray).data.toList = 0 from by decide]
  go_wp2_with (fail)
  refine (Hr.out ⟨rs, ma, mc, aa, ac⟩ ⟨#[]⟩ _ (by decide) HP.out).mono ?_
  rintro e u6 ⟨rfl, hb⟩
  have HBn := Lib.hid (HB.out.trans (hb.mono HB.out.size))
  have HDn := Lib.hid (HD.out.below hb HD.out.lt)
  have HPn := Lib.hid (HP.out.grown hb)
  clear HB HD HP hb x0 x1 xl 
  have HB := HBn
  have HD := HDn
  have HP := HPn
  clear HBn HDn HPn
  have x0 := HD.out.cell 0
  have x1 := HD.out.cell 1
  have xl := HD.out.lt
  simp only [List.getElem?_cons_zero, List.getElem?_cons_succ] at x0 x1
  rw [show drunP exD (⟨#[]⟩ : ByteArray).data.toList = 1 from by decide]
  go_wp2_with (fail)
  refine (Hr.out ⟨rs, ma, mc, aa, ac⟩ ⟨#[98]⟩ _ (by decide) HP.out).mono ?_
  rintro e u7 ⟨rfl, hb⟩
  have HBn := Lib.hid (HB.out.trans (hb.mono HB.out.size))
  have HDn := Lib.hid (HD.out.below hb HD.out.lt)
  have HPn := Lib.hid (HP.out.grown hb)
  clear HB HD HP hb x0 x1 xl 
  have HB := HBn
  have HD := HDn
  have HP := HPn
  clear HBn HDn HPn
  have x0 := HD.out.cell 0
  have x1 := HD.out.cell 1
  have xl := HD.out.lt
  simp only [List.getElem?_cons_zero, List.getElem?_cons_succ] at x0 x1
  rw [show drunP exD (⟨#[98]⟩ : ByteArray).data.toList = -1 from by decide]
  go_wp2_with (fail)
  refine (Hn.out ⟨rs, ma, mc, aa, ac⟩ _ HP.out).mono ?_
  rintro e u8 ⟨rfl, hb⟩
  have HBn := Lib.hid (HB.out.trans (hb.mono HB.out.size))
  have HDn := Lib.hid (HD.out.below hb HD.out.lt)
  have HPn := Lib.hid (HP.out.grown hb)
  clear HB HD HP hb x0 x1 xl 
  have HB := HBn
  have HD := HDn
  have HP := HPn
  clear HBn HDn HPn
  have x0 := HD.out.cell 0
  have x1 := HD.out.cell 1
  have xl := HD.out.lt
  simp only [List.getElem?_cons_zero, List.getElem?_cons_succ] at x0 x1
  go_wp2_with (fail)
  exact bodyPost_ret (v := .bool true) (by simp [results, Try.results9, go_sem]; try rfl) rfl ⟨rfl, HB.out⟩
end Go.Proofs.Ytngbfjimmdkfeaa

