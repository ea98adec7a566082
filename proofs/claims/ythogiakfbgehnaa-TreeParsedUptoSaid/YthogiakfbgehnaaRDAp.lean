/- Texts joined: Qm Qn. -/
import Derived.Test.YthogiakfbgehnaaRDAo
set_option linter.unusedVariables false
set_option linter.unusedSimpArgs false
namespace Go.Proofs.Ythogiakfbgehnaa
open Go.RowKit Go.Maps
attribute [local go_sem] Oper.semAt_some
/-- A list that is new, rising. -/
def RisF (w : World) (P : Int → Prop) (e : Ending) (W' : World) : Prop := ∃ a c l, e = .returned (.slice a l.length c) ∧ Ris l P ∧ Ints W' a c l ∧ FrB w.heap.size a ∧ Below w.heap.size w W'
set_option maxRecDepth 100000 in
set_option maxHeartbeats 16000000 in
theorem refPredict_any (d : CfD) (x y : Int) (w : World) (hd : CfAt w d) (hf : FitC d) (hx : -9223372036854775808 ≤ x ∧ x ≤ 9223372036854775807) (hy : -9223372036854775808 ≤ y ∧ y ≤ 9223372036854775807) :
 Calls Try.prog 119 #[d.v, .int .i64 x, .int .i64 y] w (RisF w (PrdP (d.alts.map IrD.p) (nulB (d.alts.map IrD.p)) d.toks.length x y)) := by
 have hr60 := hf.r
 obtain ⟨FO, hFO⟩ : ∃ FO : Nat → Int → Prop, Hid ((fun r => FolP (d.alts.map IrD.p) (nulB (d.alts.map IrD.p)) d.toks.length r) = FO) := ⟨_, Lib.hid rfl⟩
 have Hfol := Lib.hid (fun W (hb : Below w.heap.size w W) => refFollow9_any d W (hd.grown hb) hf)
 rw [hFO.out] at Hfol
 have HFO : Hid (∀ r t, FolP (d.alts.map IrD.p) (nulB (d.alts.map IrD.p)) d.toks.length r t ↔ FO r t) := Lib.hid (fun r t => Iff.of_eq (congrFun (congrFun hFO.out r) t))
 have Hlead := Lib.hid (fun W (hb : Below w.heap.size w W) (s : List Int) sa sc (hs : Ints W sa sc s) (hok : OkL d.toks.length d.alts.length s) => refLead9f_any d s sa sc W (hd.grown hb) hf hs hok)
 have hpl : (d.alts.map IrD.p).length = d.alts.length := List.length_map _
 have hst : ∀ r (h : r < d.alts.length), (d.alts.map IrD.p).getD r [] = (d.alts[r]).ds.map (fun x => x.l) := fun r h => by
  rw [List.getD_eq_getElem?_getD, List.getElem?_map, List.getElem?_eq_getElem h]
  rfl
 have Hyes : Hid (∀ (r j : Nat) (hr : r < d.alts.length) (hj : j < (d.alts[r]).ds.length) t, TakP (d.alts.map IrD.p) (nulB (d.alts.map IrD.p)) d.toks.length r ((d.alts[r]).ds[j]).l t ↔ PrdP (d.alts.map IrD.p) (nulB (d.alts.map IrD.p)) d.toks.length (r : Int) (j : Int) t) := Lib.hid (fun r j hr hj t => by
  have h1 : ((d.alts.map IrD.p).getD r [])[j]? = some ((d.alts[r]).ds[j]).l := by rw [hst r hr, List.getElem?_map, List.getElem?_eq_getElem hj]; rfl
  unfold PrdP
  rw [Int.toNat_natCast, Int.toNat_natCast, takB_at h1]
  constructor
  ·exact fun h => ⟨by omega, by omega, h⟩
  ·exact fun h => h.2.2)
 obtain ⟨Q, hQ⟩ : ∃ Q : Ending → World → Prop, Hid (RisF w (PrdP (d.alts.map IrD.p) (nulB (d.alts.map IrD.p)) d.toks.length x y) = Q) := ⟨_, Lib.hid rfl⟩
 rw [hQ.out]
 have Hnil0 : Hid ((x < 0 ∨ (d.alts.length : Int) ≤ x ∨ y < 0 ∨ (∃ r, ∃ h : r < d.alts.length, x = (r : Int) ∧ ((d.alts[r]).ds.length : Int) ≤ y)) → ∀ W, Below w.heap.size w W → Q (.returned (.slice none 0 0)) W) := Lib.hid (fun h W hb => by
  rw [← hQ.out]
  refine ⟨none, 0, [], rfl, prd_none ?_, Vs.nil _, (fun _ _ e => by cases e), hb⟩
  rcases h with h | h | h | ⟨r, hr, rfl, h⟩
  ·exact .inl h
  ·exact .inr (.inl (by rw [hpl]; exact h))
  ·exact .inr (.inr (.inl h))
  ·exact .inr (.inr (.inr (by rw [Int.toNat_natCast, hst r hr, List.length_map]; exact h)))
  )
 have HQ : Hid (∀ (r j : Nat) (hr : r < d.alts.length) (hj : j < (d.alts[r]).ds.length), x = (r : Int) → y = (j : Int) → ∀ W a c l, Ris l (fun t => TokP (d.alts.map IrD.p) (nulB (d.alts.map IrD.p)) (ahd (nulB (d.alts.map IrD.p)) ((d.alts[r]).ds[j]).l) t ∨ (emp (nulB (d.alts.map IrD.p)) ((d.alts[r]).ds[j]).l = true ∧ FO r t)) → Ints W a c l → FrB w.heap.size a → Below w.heap.size w W → Q (.returned (.slice a l.length c)) W) := Lib.hid (fun r j hr hj ex ey W a c l h1 h2 h3 h4 => by
  rw [← hQ.out]
  refine ⟨a, c, l, rfl, ris_or h1 (fun t => ?_), h2, h3, h4⟩
  rw [ex, ey, ← Hyes.out r j hr hj t]
  unfold TakP
  rw [HFO.out])
 have Htn0 : Hid (∀ (r j : Nat) (hr : r < d.alts.length) (hj : j < (d.alts[r]).ds.length) t, TakP (d.alts.map IrD.p) (nulB (d.alts.map IrD.p)) d.toks.length r ((d.alts[r]).ds[j]).l t → 0 ≤ t ∧ t ≤ 100) := Lib.hid (fun r j hr hj t ht => tak_near hf (hf.l _ (List.getElem_mem hr) _ (List.getElem_mem hj)).2 ht)
 have Hfn0 : Hid (∀ r t, FO r t → 0 ≤ t ∧ t ≤ 100) := Lib.hid (fun r t ht => fol_near hf ((HFO.out r t).2 ht))
 have Hok0 : Hid (∀ (r j : Nat) (hr : r < d.alts.length) (hj : j < (d.alts[r]).ds.length), OkL d.toks.length d.alts.length ((d.alts[r]).ds[j]).l) := Lib.hid (fun r j hr hj => (hf.l _ (List.getElem_mem hr) _ (List.getElem_mem hj)).2)
 have Hcell : Hid (∀ (r : Nat) (h : r < d.alts.length), (d.alts[r]).ds.length ≤ (d.alts[r]).c ∧ (d.alts[r]).c ≤ 9223372036854775807 ∧ ∃ p po, d.aa = some ⟨p, po, none⟩ ∧ w.cell? ⟨p, po + r, none⟩ = some (.slice (d.alts[r]).a (d.alts[r]).ds.length (d.alts[r]).c)) := Lib.hid (fun r h => by
  have h1 := (hd.rules _ (List.getElem_mem h)).row
  obtain ⟨p, po, hp⟩ := hd.alts.at_ r (by rw [List.length_map]; exact h)
  refine ⟨by have := h1.le; rwa [List.length_map] at this, h1.max, p, po, hp, ?_⟩
  have := hd.alts.cell p po hp r (by rw [List.length_map]; exact h)
  rw [List.getElem_map] at this
  exact this)
 have Hcel2 : Hid (∀ (r j : Nat) (h : r < d.alts.length) (hj : j < (d.alts[r]).ds.length), Ints w ((d.alts[r]).ds[j]).a ((d.alts[r]).ds[j]).c ((d.alts[r]).ds[j]).l ∧ ∃ q qo, (d.alts[r]).a = some ⟨q, qo, none⟩ ∧ w.cell? ⟨q, qo + j, none⟩ = some (.slice ((d.alts[r]).ds[j]).a ((d.alts[r]).ds[j]).l.length ((d.alts[r]).ds[j]).c)) := Lib.hid (fun r j h hj => by
  have h1 := hd.rules _ (List.getElem_mem h)
  obtain ⟨q, qo, hq⟩ := h1.row.at_ j (by rw [List.length_map]; exact hj)
  refine ⟨h1.nms _ (List.getElem_mem hj), q, qo, hq, ?_⟩
  have := h1.row.cell q qo hq j (by rw [List.length_map]; exact hj)
  rw [List.getElem_map] at this
  exact this)
 have hxm : d.alts.length ≤ d.ac ∧ d.ac ≤ 9223372036854775807 := ⟨by have := hd.alts.le; rwa [List.length_map] at this, hd.alts.max⟩
 clear hQ hpl hst Hyes hd hf hFO
 obtain ⟨f, hf9⟩ : ∃ q, Hid (nulB (d.alts.map IrD.p) = q) := ⟨_, Lib.hid rfl⟩
 rw [hf9.out] at HQ Htn0 Hlead
 obtain ⟨al, hal9⟩ : ∃ q, Hid (d.alts.map IrD.p = q) := ⟨_, Lib.hid rfl⟩
 rw [hal9.out] at HQ Htn0 Hlead
 obtain ⟨DD, hDD⟩ : ∃ q, Hid (d = q) := ⟨_, Lib.hid rfl⟩
 have hv : d.v = .agg #[.slice d.ta d.toks.length d.tc, .slice d.na d.names.length d.nc, .slice d.aa d.alts.length d.ac] := rfl
 rw [hv] at Hfol Hlead ⊢
 have hb1 : Below w.heap.size w (w.alloc (.cells #[.slice d.ta d.toks.length d.tc, .slice d.na d.names.length d.nc, .slice d.aa d.alts.length d.ac] 25)) := (Below.refl _ w).alloc (Nat.le_refl _) _
 have hA := Blk.new w 25 #[.slice d.ta d.toks.length d.tc, .slice d.na d.names.length d.nc, .slice d.aa d.alts.length d.ac]
 obtain ⟨T, HT⟩ : ∃ q, Hid (d.toks.length = q) := ⟨_, Lib.hid rfl⟩
 obtain ⟨N, HN⟩ : ∃ q, Hid (d.names.length = q) := ⟨_, Lib.hid rfl⟩
 obtain ⟨L, HL⟩ : ∃ q, Hid (d.alts.length = q) := ⟨_, Lib.hid rfl⟩
 obtain ⟨xta, Hxta⟩ : ∃ q, Hid (d.ta = q) := ⟨_, Lib.hid rfl⟩
 obtain ⟨xtc, Hxtc⟩ : ∃ q, Hid (d.tc = q) := ⟨_, Lib.hid rfl⟩
 obtain ⟨xna, Hxna⟩ : ∃ q, Hid (d.na = q) := ⟨_, Lib.hid rfl⟩
 obtain ⟨xnc, Hxnc⟩ : ∃ q, Hid (d.nc = q) := ⟨_, Lib.hid rfl⟩
 obtain ⟨xaa, Hxaa⟩ : ∃ q, Hid (d.aa = q) := ⟨_, Lib.hid rfl⟩
 obtain ⟨xac, Hxac⟩ : ∃ q, Hid (d.ac = q) := ⟨_, Lib.hid rfl⟩
 rw [HT.out, HN.out, HL.out, Hxta.out, Hxtc.out, Hxna.out, Hxnc.out, Hxaa.out, Hxac.out] at hA hb1 Hfol Hlead ⊢
 rw [HL.out, Hxac.out] at hxm
 have Hnil1 : Hid ((x < 0 ∨ (L : Int) ≤ x ∨ y < 0 ∨ (∃ r, ∃ h : r < d.alts.length, x = (r : Int) ∧ ((d.alts[r]).ds.length : Int) ≤ y)) → ∀ W, Below w.heap.size w W → Q (.returned (.slice none 0 0)) W) := Lib.hid (by rw [← HL.out]; exact Hnil0.out)
 have x0 := hA.cell 0
 have x1 := hA.cell 1
 have x2 := hA.cell 2
 have xl := hA.lt
 simp only [List.getElem?_cons_zero, List.getElem?_cons_succ] at x0 x1 x2
 have HA := Lib.hid hA
 have Hb1 := Lib.hid hb1
 clear hA hb1 hv Hnil0 hDD
 go_enter Try.func119, Try.ntmps119
 by_cases hx0 : x < 0
 ·have Hnil := Lib.hid (Hnil1.out (.inl hx0))
  go_wp2_with (fail)
  first | exact (Hnil.out _ Hb1.out) | exact bodyPost_ret (v := .slice none 0 0) (by simp [results, Try.results119, go_sem]; try first | rfl | assumption | omega) rfl (Hnil.out _ Hb1.out)
 have hx0' : (0 : Int) ≤ x := by omega
 by_cases hx1 : (L : Int) ≤ x
 ·have Hnil := Lib.hid (Hnil1.out (.inr (.inl hx1)))
  go_wp2_with (fail)
  first | exact (Hnil.out _ Hb1.out) | exact bodyPost_ret (v := .slice none 0 0) (by simp [results, Try.results119, go_sem]; try first | rfl | assumption | omega) rfl (Hnil.out _ Hb1.out)
 have hx1' : x < (L : Int) := by omega
 by_cases hy0 : y < 0
 ·have Hnil := Lib.hid (Hnil1.out (.inr (.inr (.inl hy0))))
  go_wp2_with (fail)
  first | exact (Hnil.out _ Hb1.out) | exact bodyPost_ret (v := .slice none 0 0) (by simp [results, Try.results119, go_sem]; try first | rfl | assumption | omega) rfl (Hnil.out _ Hb1.out)
 have hy0' : (0 : Int) ≤ y := by omega
 obtain ⟨r, rfl⟩ : ∃ r : Nat, x = (r : Int) := ⟨x.toNat, by omega⟩
 obtain ⟨j, rfl⟩ : ∃ j : Nat, y = (j : Int) := ⟨y.toNat, by omega⟩
 have hrl : r < d.alts.length := by rw [HL.out]; omega
 have hrL : r < L := by omega
 obtain ⟨hm1, hm2, p, po, hp, cp⟩ := Hcell.out r hrl
 rw [Hxaa.out] at hp
 have Hnil2 : Hid (((d.alts[r]).ds.length : Int) ≤ (j : Int) → ∀ W, Below w.heap.size w W → Q (.returned (.slice none 0 0)) W) := Lib.hid (fun h => Hnil1.out (.inr (.inr (.inr ⟨r, hrl, rfl, h⟩))))
 have cpb : p < w.heap.size := World.block_lt_of_cell? _ _ cp
 have cp1 := (Hb1.out.cell (p := ⟨p, po + r, none⟩) cpb).trans cp
 have hblp := World.block_lt_of_cell? _ _ cp1
 by_cases hjl : j < (d.alts[r]).ds.length
 ·obtain ⟨hnm, q, qo, hq, cq⟩ := Hcel2.out r j hrl hjl
  have hok := Hok0.out r j hrl hjl
  have HQ2 := Lib.hid (HQ.out r j hrl hjl rfl rfl)
  have Htn1 : Hid (∀ t, (TokP al f (ahd f ((d.alts[r]).ds[j]).l) t ∨ (emp f ((d.alts[r]).ds[j]).l = true ∧ FO r t)) → 0 ≤ t ∧ t ≤ 100) := Lib.hid (fun t ht => by
   rcases ht with h | ⟨_, h⟩
   ·exact Htn0.out r j hrl hjl t (.inl h)
   ·exact Hfn0.out r t h)
  have Hfn : Hid (∀ t, FO r t → 0 ≤ t ∧ t ≤ 100) := Lib.hid (fun t ht => Hfn0.out r t ht)
  have hjm : j < d.alts[r].ds.length := hjl
  obtain ⟨Mx, hMx⟩ : ∃ q, Hid (d.alts[r].ds.length = q) := ⟨_, Lib.hid rfl⟩
  rw [hMx.out] at hm1 hjm cp cp1
  obtain ⟨ea, hea⟩ : ∃ q, Hid (d.alts[r].a = q) := ⟨_, Lib.hid rfl⟩
  obtain ⟨ec, hec⟩ : ∃ q, Hid (d.alts[r].c = q) := ⟨_, Lib.hid rfl⟩
  rw [hea.out] at hq cp cp1
  rw [hec.out] at hm1 hm2 cp cp1
  obtain ⟨xv, hxv⟩ : ∃ v, Hid ((d.alts[r]).ds[j] = v) := ⟨_, Lib.hid rfl⟩
  rw [hxv.out] at hnm cq hok HQ2 Htn1
  obtain ⟨el, ela, elc⟩ := xv
  dsimp only at hnm cq hok HQ2 Htn1
  obtain ⟨M, hM⟩ : ∃ q, Hid (Mx = q) := ⟨_, Lib.hid rfl⟩
  rw [hM.out] at hm1 hjm cp cp1
  have Htn := Htn1
  have hjI : (j : Int) < (M : Int) := by omega
  subst hp
  subst hq
  obtain ⟨EL, hEL⟩ : ∃ q, Hid (el.length = q) := ⟨_, Lib.hid rfl⟩
  rw [hEL.out] at cq
  have Hcp := Lib.hid cp
  have Hcq := Lib.hid cq
  have Hok := Lib.hid hok
  rw [HT.out, HL.out] at Hok
  have Hnm := Lib.hid hnm
  clear cp cq hnm hok Hcell Hcel2 Hnil1 Hnil2 HQ Htn0 Hok0 Hfn0 cpb
  go_wp2_with (fail)
  obtain ⟨bx, hbx⟩ : ∃ q, Hid (w.heap.size = q) := ⟨_, Lib.hid rfl⟩
  rw [hbx.out] at HA x0 x1 x2 xl ⊢
  generalize hV : World.alloc w _ = V1 at HA x0 x1 x2 xl Hb1 cp1 hblp ⊢
  clear hV x0 x1 x2 xl cp1 hblp
  have Hbd := Lib.hid Hb1.out.drew
  have HAd := Lib.hid (show Blk V1.drew bx 25 [.slice xta T xtc, .slice xna N xnc, .slice (some ⟨p, po, none⟩) L xac] from HA.out)
  have Hld := Lib.hid (Hlead.out V1.drew Hbd.out el ela elc (Hnm.out.grown Hbd.out) Hok.out)
  rw [hEL.out] at Hld
  have cp := (Hbd.out.cell (p := ⟨p, po + r, none⟩) (World.block_lt_of_cell? _ _ Hcp.out)).trans Hcp.out
  have cq := (Hbd.out.cell (p := ⟨q, qo + j, none⟩) (World.block_lt_of_cell? _ _ Hcq.out)).trans Hcq.out
  have HS1 : Hid (V1.drew.cell? ⟨bx, 0, none⟩ = some (.slice xta T xtc) ∧ V1.drew.cell? ⟨bx, 1, none⟩ = some (.slice xna N xnc) ∧ V1.drew.cell? ⟨bx, 2, none⟩ = some (.slice (some ⟨p, po, none⟩) L xac) ∧ V1.drew.cell? ⟨p, po + r, none⟩ = some (.slice (some ⟨q, qo, none⟩) M ec) ∧ V1.drew.cell? ⟨q, qo + j, none⟩ = some (.slice ela EL elc)) := Lib.hid ⟨HAd.out.cell 0, HAd.out.cell 1, HAd.out.cell 2, cp, cq⟩
  clear cp cq
  refine wp_region_held_drew (S := fun w' => w'.cell? ⟨bx, 0, none⟩ = some (.slice xta T xtc) ∧ w'.cell? ⟨bx, 1, none⟩ = some (.slice xna N xnc) ∧ w'.cell? ⟨bx, 2, none⟩ = some (.slice (some ⟨p, po, none⟩) L xac) ∧ w'.cell? ⟨p, po + r, none⟩ = some (.slice (some ⟨q, qo, none⟩) M ec) ∧ w'.cell? ⟨q, qo + j, none⟩ = some (.slice ela EL elc)) (by kernel_rfl) ?_ (fun hHeld => ?_)
  ·exact HS1.out
  refine wpAnyH_take (i := 0) (v := ?_) (iatLS iatZS) (by kernel_rfl) (by kernel_rfl) (by kernel_rfl) (fun _ _ _ h => h) (Or.inl ⟨by rfl, ?_⟩) (by assumption) ?_
  rotate_left
  ·intro w hSw
   try dsimp only at hSw
   go_simp
   all_goals with_reducible rfl
  try simp only [Act.put, List.setIfInBounds_toArray, List.set_cons_zero, List.set_cons_succ]
  refine wpAnyH_take (i := 1) (v := ?_) (iatLS (iatSS iatZS)) (by kernel_rfl) (by kernel_rfl) (by kernel_rfl) (fun _ _ _ h => h) (Or.inl ⟨by rfl, ?_⟩) (by assumption) ?_
  rotate_left
  ·intro w hSw
   try dsimp only at hSw
   go_simp
   all_goals with_reducible rfl
  try simp only [Act.put, List.setIfInBounds_toArray, List.set_cons_zero, List.set_cons_succ]
  refine wpAnyH_take (i := 2) (v := ?_) (iatLS (iatSS (iatSS iatZS))) (by kernel_rfl) (by kernel_rfl) (by kernel_rfl) (fun _ _ _ h => h) (Or.inl ⟨by rfl, ?_⟩) (by assumption) ?_
  rotate_left
  ·intro w hSw
   try dsimp only at hSw
   go_simp
   all_goals with_reducible rfl
  try simp only [Act.put, List.setIfInBounds_toArray, List.set_cons_zero, List.set_cons_succ]
  refine wpAnyH_take (i := 3) (v := ?_) (iatLS (iatSS (iatSS (iatSS iatZS)))) (by kernel_rfl) (by kernel_rfl) (by kernel_rfl) (fun _ _ _ h => h) (Or.inl ⟨by rfl, ?_⟩) (by assumption) ?_
  rotate_left
  ·intro w hSw
   try dsimp only at hSw
   go_simp
   all_goals with_reducible rfl
  try simp only [Act.put, List.setIfInBounds_toArray, List.set_cons_zero, List.set_cons_succ]
  refine wpAnyH_take (i := 4) (v := ?_) (iatLS (iatSS (iatSS (iatSS (iatSS iatZS))))) (by kernel_rfl) (by kernel_rfl) (by kernel_rfl) (fun _ _ _ h => h) (Or.inl ⟨by rfl, ?_⟩) (by assumption) ?_
  rotate_left
  ·intro w hSw
   try dsimp only at hSw
   go_simp
   all_goals with_reducible rfl
  try simp only [Act.put, List.setIfInBounds_toArray, List.set_cons_zero, List.set_cons_succ]
  refine wpAnyH_take (i := 5) (v := ?_) (iatLS (iatSS (iatSS (iatSS (iatSS (iatSS iatZS)))))) (by kernel_rfl) (by kernel_rfl) (by kernel_rfl) (fun _ _ _ h => h) (Or.inl ⟨by rfl, ?_⟩) (by assumption) ?_
  rotate_left
  ·intro w hSw
   try dsimp only at hSw
   go_simp
   all_goals with_reducible rfl
  try simp only [Act.put, List.setIfInBounds_toArray, List.set_cons_zero, List.set_cons_succ]
  refine wpAnyH_take (i := 6) (v := ?_) (iatLS (iatSS (iatSS (iatSS (iatSS (iatSS (iatSS iatZS))))))) (by kernel_rfl) (by kernel_rfl) (by kernel_rfl) (fun _ _ _ h => h) (Or.inl ⟨by rfl, ?_⟩) (by assumption) ?_
  rotate_left
  ·intro w hSw
   try dsimp only at hSw
   go_simp
   all_goals with_reducible rfl
  try simp only [Act.put, List.setIfInBounds_toArray, List.set_cons_zero, List.set_cons_succ]
  refine wpAnyH_take (i := 7) (v := ?_) (iatLS (iatSS (iatSS (iatSS (iatSS (iatSS (iatSS (iatSS iatZS)))))))) (by kernel_rfl) (by kernel_rfl) (by kernel_rfl) (fun _ _ _ h => h) (Or.inl ⟨by rfl, ?_⟩) (by assumption) ?_
  rotate_left
  ·intro w hSw
   try dsimp only at hSw
   go_simp
   all_goals with_reducible rfl
  try simp only [Act.put, List.setIfInBounds_toArray, List.set_cons_zero, List.set_cons_succ]
  refine wpAnyH_take (i := 8) (v := ?_) (iatLS (iatSS (iatSS (iatSS (iatSS (iatSS (iatSS (iatSS (iatSS iatZS))))))))) (by kernel_rfl) (by kernel_rfl) (by kernel_rfl) (fun _ _ _ h => h) (Or.inl ⟨by rfl, ?_⟩) (by assumption) ?_
  rotate_left
  ·intro w hSw
   try dsimp only at hSw
   go_simp
   all_goals with_reducible rfl
  try simp only [Act.put, List.setIfInBounds_toArray, List.set_cons_zero, List.set_cons_succ]
  refine wpAnyH_ready (rs := [9]) (by kernel_rfl) (by simp) ?_
  refine AllReadyH.cons (iatLS (iatSS (iatSS (iatSS (iatSS (iatSS (iatSS (iatSS (iatSS (iatSS iatZS)))))))))) (fun K hK => ?_) AllReadyH.nil
  go_simp
  (with_reducible refine Hld.out.mono ?_)
  rintro e8 w3 ⟨la, lc, l, rfl, hli, hlf, hlr, hb3⟩
  have HR3 := Lib.hid hlr
  have HI3 := Lib.hid hli
  have HF3 : Hid (FrB w.heap.size la) := Lib.hid (fun b off e => Nat.le_trans Hbd.out.size (hlf b off e))
  have HA3 := Lib.hid (HAd.out.below hb3 HAd.out.lt)
  have Hb3 := Lib.hid (Hbd.out.trans (hb3.mono Hbd.out.size))
  have cp := (Hb3.out.cell (p := ⟨p, po + r, none⟩) (World.block_lt_of_cell? _ _ Hcp.out)).trans Hcp.out
  have cq := (Hb3.out.cell (p := ⟨q, qo + j, none⟩) (World.block_lt_of_cell? _ _ Hcq.out)).trans Hcq.out
  have HS3 : Hid (w3.cell? ⟨bx, 0, none⟩ = some (.slice xta T xtc) ∧ w3.cell? ⟨bx, 1, none⟩ = some (.slice xna N xnc) ∧ w3.cell? ⟨bx, 2, none⟩ = some (.slice (some ⟨p, po, none⟩) L xac) ∧ w3.cell? ⟨p, po + r, none⟩ = some (.slice (some ⟨q, qo, none⟩) M ec) ∧ w3.cell? ⟨q, qo + j, none⟩ = some (.slice ela EL elc)) := Lib.hid ⟨HA3.out.cell 0, HA3.out.cell 1, HA3.out.cell 2, cp, cq⟩
  obtain ⟨LL, hLL⟩ : ∃ q, Hid (l.length = q) := ⟨_, Lib.hid rfl⟩
  rw [hLL.out]
  clear hli hlf hlr hb3 cp cq
  try dsimp only
  refine hK.out _ _ ?_ (fun hHeld => ?_)
  ·exact HS3.out
  clear hK K
  try simp only [Act.put, List.setIfInBounds_toArray, List.set_cons_zero, List.set_cons_succ]
  refine wpAnyH_take (i := 10) (v := ?_) (iatLS (iatSS (iatSS (iatSS (iatSS (iatSS (iatSS (iatSS (iatSS (iatSS (iatSS iatZS))))))))))) (by kernel_rfl) (by kernel_rfl) (by kernel_rfl) (fun _ _ _ h => h) (Or.inl ⟨by rfl, ?_⟩) (by assumption) ?_
  rotate_left
  ·intro w hSw
   try dsimp only at hSw
   go_simp
   all_goals with_reducible rfl
  try simp only [Act.put, List.setIfInBounds_toArray, List.set_cons_zero, List.set_cons_succ]
  refine wpAnyH_take (i := 11) (v := ?_) (iatLS (iatSS (iatSS (iatSS (iatSS (iatSS (iatSS (iatSS (iatSS (iatSS (iatSS (iatSS iatZS)))))))))))) (by kernel_rfl) (by kernel_rfl) (by kernel_rfl) (fun _ _ _ h => h) (Or.inl ⟨by rfl, ?_⟩) (by assumption) ?_
  rotate_left
  ·intro w hSw
   try dsimp only at hSw
   go_simp
   all_goals with_reducible rfl
  try simp only [Act.put, List.setIfInBounds_toArray, List.set_cons_zero, List.set_cons_succ]
  refine wpAnyH_take (i := 12) (v := ?_) (iatLS (iatSS (iatSS (iatSS (iatSS (iatSS (iatSS (iatSS (iatSS (iatSS (iatSS (iatSS (iatSS iatZS))))))))))))) (by kernel_rfl) (by kernel_rfl) (by kernel_rfl) (fun _ _ _ h => h) (Or.inl ⟨by rfl, ?_⟩) (by assumption) ?_
  rotate_left
  ·intro w hSw
   try dsimp only at hSw
   go_simp
   all_goals with_reducible rfl
  try simp only [Act.put, List.setIfInBounds_toArray, List.set_cons_zero, List.set_cons_succ]
  refine wpAnyH_take (i := 13) (v := ?_) (iatLS (iatSS (iatSS (iatSS (iatSS (iatSS (iatSS (iatSS (iatSS (iatSS (iatSS (iatSS (iatSS (iatSS iatZS)))))))))))))) (by kernel_rfl) (by kernel_rfl) (by kernel_rfl) (fun _ _ _ h => h) (Or.inl ⟨by rfl, ?_⟩) (by assumption) ?_
  rotate_left
  ·intro w hSw
   try dsimp only at hSw
   go_simp
   all_goals with_reducible rfl
  try simp only [Act.put, List.setIfInBounds_toArray, List.set_cons_zero, List.set_cons_succ]
  refine wpAnyH_take (i := 14) (v := ?_) (iatLS (iatSS (iatSS (iatSS (iatSS (iatSS (iatSS (iatSS (iatSS (iatSS (iatSS (iatSS (iatSS (iatSS (iatSS iatZS))))))))))))))) (by kernel_rfl) (by kernel_rfl) (by kernel_rfl) (fun _ _ _ h => h) (Or.inl ⟨by rfl, ?_⟩) (by assumption) ?_
  rotate_left
  ·intro w hSw
   try dsimp only at hSw
   go_simp
   all_goals with_reducible rfl
  try simp only [Act.put, List.setIfInBounds_toArray, List.set_cons_zero, List.set_cons_succ]
  refine wpAnyH_done (by kernel_rfl) ?_ _
  have Hfol2 := Lib.hid (Hfol.out w3 Hb3.out)
  obtain ⟨E, hE⟩ : ∃ q, Hid (emp f el = q) := ⟨_, Lib.hid rfl⟩
  rw [hE.out]
  cases E
  ·have Hfin : Hid (Q (.returned (.slice la LL lc)) w3) := Lib.hid (by
    rw [← hLL.out]
    refine HQ2.out w3 la lc l (ris_or HR3.out (fun t => ?_)) HI3.out HF3.out Hb3.out
    constructor
    ·exact .inl
    ·rintro (h | ⟨h, _⟩)
     ·exact h
     ·rw [hE.out] at h; cases h)
   go_wp2_with (fail)
   first | exact Hfin.out | exact bodyPost_ret (v := .slice la LL lc) (by simp [results, Try.results119, go_sem]; try first | rfl | assumption | omega) rfl Hfin.out
  ·have x0 := HA3.out.cell 0
   have x1 := HA3.out.cell 1
   have x2 := HA3.out.cell 2
   have xl := HA3.out.lt
   simp only [List.getElem?_cons_zero, List.getElem?_cons_succ] at x0 x1 x2
   go_wp2_with (fail)
   refine Hfol2.out.mono ?_
   rintro e9 w4 ⟨fa, fc, fs, rfl, hfl, hfa, hfr, hb4⟩
   have Hb4 := Lib.hid (Hb3.out.trans (hb4.mono Hb3.out.size))
   have HI4 := Lib.hid (HI3.out.grown hb4)
   have hrf : r < fs.length := by rw [hfl]; exact hrL
   obtain ⟨u, uo, hu⟩ := hfa.row.at_ r (by rw [List.length_map]; exact hrf)
   have cu := hfa.row.cell u uo hu r (by rw [List.length_map]; exact hrf)
   rw [List.getElem_map] at cu
   have Hfi := Lib.hid (hfa.nms _ (List.getElem_mem hrf))
   have Hfr := Lib.hid (hfr r hrf)
   have hfm : L ≤ fc ∧ fc ≤ 9223372036854775807 := ⟨by have := hfa.row.le; rw [List.length_map, hfl] at this; exact this, hfa.row.max⟩
   obtain ⟨fd, hfd⟩ : ∃ q, Hid (fs[r] = q) := ⟨_, Lib.hid rfl⟩
   rw [hfd.out] at cu Hfi Hfr
   obtain ⟨fl, fla, flc⟩ := fd
   change _ = some (Value.slice fla fl.length flc) at cu
   dsimp only at Hfi Hfr
   have hblu := World.block_lt_of_cell? _ _ cu
   subst hu
   have hflm : fl.length ≤ flc ∧ flc ≤ 9223372036854775807 := ⟨by have := Hfi.out.le; rwa [List.length_map] at this, Hfi.out.max⟩
   obtain ⟨X, hX⟩ : ∃ q, Hid (fl.length = q) := ⟨_, Lib.hid rfl⟩
   rw [hX.out] at cu hflm
   have HG4 : Hid (Ris l (fun t => TokP al f (ahd f el) t ∨ t ∈ fl.take 0)) := Lib.hid (ris_or HR3.out (fun t => by simp))
   clear x0 x1 x2 xl hfl hfa hfr hb4 Hfol2
   go_wp2_with (fail)
   clear cu hblu
   go_loopw [7, 54] (fun sv iv wr => ∃ (i : Nat) (oa : Option Addr) (oc : Nat) (o : List Int), i ≤ X ∧ iv = .int .i64 (i : Int) ∧ sv = .slice oa o.length oc ∧ Hid (Ris o (fun t => TokP al f (ahd f el) t ∨ t ∈ fl.take i)) ∧ Hid (Ints wr oa oc o) ∧ Hid (FrB w.heap.size oa) ∧ Below w4.heap.size w4 wr) (fun _ iv _ => X - (RowKit.intOf iv).toNat)
   case atStart => exact ⟨0, la, lc, l, Nat.zero_le _, rfl, by rw [hLL.out], HG4, HI4, HF3, Below.refl _ _⟩
   case round =>
    clear HG4 HI4 HF3
    obtain ⟨i, oa, oc, o, hi, rfl, rfl, HO, HI, HF, hbr⟩ := hrel
    obtain ⟨U, rfl⟩ : ∃ U, U = wr := ⟨_, rfl⟩
    have Hbw := Lib.hid (Hb4.out.trans (hbr.mono Hb4.out.size))
    by_cases hlti : i < X
    ·have hiI : (i : Int) < (X : Int) := by omega
     have hiI0 : (0 : Int) ≤ (i : Int) := by omega
     have hil : i < fl.length := by rw [hX.out]; exact hlti
     have hrw := Hfi.out.grown hbr
     obtain ⟨b, bo, hb⟩ := hrw.at_ i (by rw [List.length_map]; exact hil)
     have cb := hrw.cell b bo hb i (by rw [List.length_map]; exact hil)
     rw [List.getElem_map] at cb
     have htk : fl.take (i + 1) = fl.take i ++ [fl[i]] := by rw [List.take_add_one, List.getElem?_eq_getElem hil]; rfl
     obtain ⟨x, hx⟩ : ∃ v, Hid (fl[i] = v) := ⟨_, Lib.hid rfl⟩
     rw [hx.out] at cb htk
     have hblb := World.block_lt_of_cell? _ _ cb
     have hol : o.length ≤ 300 := ris_len101 HO.out (fun t ht => ht.elim (fun h => Htn.out t (.inl h)) (fun h => Hfn.out t ((Hfr.out.mem t).1 (List.mem_of_mem_take h))))
     have Hw := Lib.hid (with9_any o x oa oc U HI.out (by omega))
     have HG2 : Hid (Ris (withZ o x) (fun t => TokP al f (ahd f el) t ∨ t ∈ fl.take (i + 1))) := Lib.hid (ris_or (HO.out.with_ x) (fun t => by
      rw [htk, List.mem_append, List.mem_singleton, or_assoc]))
     have hom : o.length ≤ oc ∧ oc ≤ 9223372036854775807 := ⟨by have := HI.out.le; rwa [List.length_map] at this, HI.out.max⟩
     obtain ⟨ol, hol9⟩ : ∃ q, Hid (o.length = q) := ⟨_, Lib.hid rfl⟩
     rw [hol9.out] at Hw hom ⊢
     subst hb
     clear hrw htk hol
     go_wp2_with (fail)
     refine Hw.out.mono ?_
     rintro e7 w7 ⟨⟨oa2, oc2, rfl, hi2, hf2⟩, hb7⟩
     have HF2 : Hid (FrB w.heap.size oa2) := Lib.hid (by
      rcases hf2 with h | h
      ·rw [h]; exact HF.out
      ·exact fun b off e => Nat.le_trans Hbw.out.size (h b off e))
     have HI2 := Lib.hid hi2
     have Hb7 := Lib.hid (hbr.trans (hb7.mono hbr.size))
     clear hi2 hf2 hb7 Hw cb hblb
     go_wp2_with (fail)
     exact ⟨⟨i + 1, oa2, oc2, withZ o x, by omega, by go_num, rfl, HG2, HI2, HF2, Hb7.out⟩, by simp [RowKit.intOf]; omega⟩
    ·have hie : i = X := by omega
     have hiI : ¬ (i : Int) < (X : Int) := by omega
     have Hfin : Hid (Q (.returned (.slice oa o.length oc)) U) := Lib.hid (by
      refine HQ2.out U oa oc o (ris_or HO.out (fun t => ?_)) HI.out HF.out Hbw.out
      rw [hie, ← hX.out, List.take_length, Hfr.out.mem]
      constructor
      ·rintro (h | h)
       ·exact .inl h
       ·exact .inr ⟨hE.out, h⟩
      ·rintro (h | ⟨_, h⟩)
       ·exact .inl h
       ·exact .inr h)
     have hom : o.length ≤ oc ∧ oc ≤ 9223372036854775807 := ⟨by have := HI.out.le; rwa [List.length_map] at this, HI.out.max⟩
     obtain ⟨ol, hol9⟩ : ∃ q, Hid (o.length = q) := ⟨_, Lib.hid rfl⟩
     rw [hol9.out] at Hfin hom ⊢
     clear hie
     go_wp2_with (fail)
     first | exact Hfin.out | exact bodyPost_ret (v := .slice oa ol oc) (by simp [results, Try.results119, go_sem]; try first | rfl | assumption | omega) rfl Hfin.out
 ·have hnl : ((d.alts[r]).ds.length : Int) ≤ (j : Int) := by omega
  have Hnil := Lib.hid (Hnil2.out hnl)
  obtain ⟨M, hM⟩ : ∃ q, Hid (d.alts[r].ds.length = q) := ⟨_, Lib.hid rfl⟩
  rw [hM.out] at hm1 cp cp1 hnl
  subst hp
  clear Hnil1 Hnil2 HQ Hcell Hcel2 Htn0 Hok0 Hfn0
  go_wp2_with (fail)
  first | exact (Hnil.out _ Hb1.out) | exact bodyPost_ret (v := .slice none 0 0) (by simp [results, Try.results119, go_sem]; try first | rfl | assumption | omega) rfl (Hnil.out _ Hb1.out)
end Go.Proofs.Ythogiakfbgehnaa
namespace Go.Proofs.Ythogiakfbgehnaa
open Go.RowKit Go.Maps
attribute [local go_sem] Oper.semAt_some
/-- A value of one cell is put onto an own row; where the row lies then. -/
theorem own_push1 {w : World} (sT ty eT : TypeId) (zv : Value) (by_ : Nat) (hu : Try.prog.underlying sT = some (.slice eT)) (hinfo : (Try.prog.info? eT).map (fun i => (i.zero, i.size, i.bytes)) = some (some zv, 1, by_)) (hzs : zv.cells.size = 1) (hby : by_ ≤ 40) (x : Value) (hx : x.oneCell' = true)
 {base n cap : Nat} {a : Option Addr} {xs : List Value} (hown : w.ownsRow base eT 1 (.slice a n cap) n xs) (hn : n + 1 ≤ 1000000000) (hbase : base ≤ w.heap.size) :
 ∃ a' c' w', (Builtin.append_ #[sT, sT] ty #[.slice a n cap, .slice (some ⟨w.heap.size, 0, none⟩) 1 1]).run Try.prog (w.alloc (.cells #[x] eT)) = .ok (.slice a' (n + 1) c') w' ∧
  w'.ownsRow base eT 1 (.slice a' (n + 1) c') (n + 1) (xs ++ [x]) ∧ w.grownBy w' (Value.slice a n cap).ownBlock ∧ (∀ g, (Value.slice a' (n + 1) c').ownBlock = some g → (Value.slice a n cap).ownBlock = some g ∨ w.heap.size ≤ g) := by
 obtain ⟨i0, hi, hz0, hz1, hz2⟩ := info_parts hinfo
 have hnew : ∀ j u, [x][j]? = some u → (w.alloc (.cells #[x] eT)).cell? ((⟨w.heap.size, 0, none⟩ : Addr).add j) = some u := cell_one_new w x _
 obtain ⟨v', w', hrun, ho, hg, _, hw⟩ := run_append_own_at (P := Try.prog) (w := w.alloc (.cells #[x] eT)) base sT ty eT i0 zv 1 by_ hu hi hz0 hz1 hz2 hzs (by decide) _ _ _ (hown.alloc _) ⟨w.heap.size, 0, none⟩ 1 1 [x] rfl hnew (fun u hu => by
  simp only [List.mem_cons, List.not_mem_nil, or_false] at hu
  subst hu
  exact hx) (by unfold maxLen; omega) (by have := Nat.mul_le_mul (show n + 1 ≤ 1000000000 from hn) hby; omega) (by simp; omega)
 obtain ⟨a', cap', rfl⟩ := slice_of_own ho
 refine ⟨a', cap', w', hrun, ho, grownBy_trans (World.grownBy_alloc w _ _) hg (fun i e => .inl e), fun g e => ?_⟩
 rcases hw with hw | hw
 ·exact .inl (by rw [← hw]; exact e)
 ·rw [hw] at e
  have := Option.some.inj e
  exact .inr (by rw [← this]; simp)
/-- What reads a list that lies apart from the row that grew reads it still. -/
theorem vs_kept {W W' : World} {a : Option Addr} {c : Nat} {l : List Value} {row : Option Nat} (h : Vs W a c l) (hg : W.grownBy W' row) (hr : l ≠ [] → ∀ b off, a = some ⟨b, off, none⟩ → row ≠ some b) : Vs W' a c l :=
 ⟨h.le, h.max, h.nil_, h.at_, fun b off e i hi => by
  have hc := h.cell b off e i hi
  have hlt : b < W.heap.size := World.block_lt_of_cell? _ _ hc
  have hb := hg.block b hlt (fun e2 => hr (fun e3 => by subst e3; exact absurd hi (Nat.not_lt_zero _)) b off e e2.symm)
  unfold World.cell? at hc ⊢
  rw [hb]
  exact hc⟩
theorem vs_lt {W : World} {a : Option Addr} {c : Nat} {l : List Value} (h : Vs W a c l) (hl : l ≠ []) {b off : Nat} (e : a = some ⟨b, off, none⟩) : b < W.heap.size :=
 World.block_lt_of_cell? _ _ (h.cell b off e 0 (List.length_pos_iff.2 hl))
/-- No list lies in that block. -/
def ApI (ds : List IltD) (q : Option Nat) : Prop := ∀ d ∈ ds, d.l ≠ [] → ∀ b off, d.a = some ⟨b, off, none⟩ → q ≠ some b
theorem ints_kept {W W' : World} {ds : List IltD} {row : Option Nat} (h : ∀ d ∈ ds, Ints W d.a d.c d.l) (hg : W.grownBy W' row) (hr : ApI ds row) : ∀ d ∈ ds, Ints W' d.a d.c d.l :=
 fun d hd => vs_kept (h d hd) hg (fun hl => hr d hd (fun e => hl (by rw [e]; rfl)))
/-- What the reference's all answers. -/
def AllQ (w : World) (L : Nat) (ns : Nat → Nat) (P : Nat → Nat → Int → Prop) (e : Ending) (W' : World) : Prop := ∃ oa oc, ∃ irs : List IrD, e = .returned (.slice oa irs.length oc) ∧ irs.length = L ∧ Vs W' oa oc (irs.map IrD.v) ∧ (∀ e ∈ irs, AltsI W' e.a e.c e.ds) ∧
 (∀ r (h : r < irs.length), irs[r].ds.length = ns r ∧ ∀ i (h2 : i < irs[r].ds.length), Ris irs[r].ds[i].l (P r i)) ∧ Below w.heap.size w W'
theorem info_row2 : (Try.prog.info? 32).map (fun i => (i.zero, i.size, i.bytes)) = some (some (.slice none 0 0), 1, 24) := by kernel_rfl
set_option maxRecDepth 100000 in
set_option maxHeartbeats 16000000 in
theorem all10_any (d : CfD) (w : World) (hd : CfAt w d) (hf : FitC d) :
 Calls Try.prog 85 #[d.v] w (AllQ w d.alts.length (fun r => ((d.alts.map IrD.p).getD r []).length) (fun r i => PrdP (d.alts.map IrD.p) (nulB (d.alts.map IrD.p)) d.toks.length (r : Int) (i : Int))) := by
 have hr60 := hf.r
 have ha30 : Hid (∀ r (h : r < d.alts.length), (d.alts[r]).ds.length ≤ 30) := Lib.hid (fun r h => hf.a _ (List.getElem_mem h))
 obtain ⟨PP, hPP⟩ : ∃ q : Nat → Nat → Int → Prop, Hid ((fun (r i : Nat) => PrdP (d.alts.map IrD.p) (nulB (d.alts.map IrD.p)) d.toks.length (r : Int) (i : Int)) = q) := ⟨_, Lib.hid rfl⟩
 have Hpr := Lib.hid (fun (r j : Nat) (hr : r ≤ 1000) (hj : j ≤ 1000) W (hb : Below w.heap.size w W) => by
  have h := refPredict_any d (r : Int) (j : Int) W (hd.grown hb) hf (by omega) (by omega)
  rw [show PrdP (d.alts.map IrD.p) (nulB (d.alts.map IrD.p)) d.toks.length (r : Int) (j : Int) = PP r j from congrFun (congrFun hPP.out r) j] at h
  exact h)
 rw [hPP.out]
 have hns : Hid (∀ r (h : r < d.alts.length), ((d.alts.map IrD.p).getD r []).length = (d.alts[r]).ds.length) := Lib.hid (fun r h => by
  rw [List.getD_eq_getElem?_getD, List.getElem?_map, List.getElem?_eq_getElem h]
  exact List.length_map _)
 obtain ⟨ns, hns9⟩ : ∃ q : Nat → Nat, Hid ((fun r => ((d.alts.map IrD.p).getD r []).length) = q) := ⟨_, Lib.hid rfl⟩
 have Hns : Hid (∀ r (h : r < d.alts.length), ns r = (d.alts[r]).ds.length) := Lib.hid (fun r h => by rw [← hns.out r h, ← hns9.out])
 rw [hns9.out]
 obtain ⟨Q, hQ⟩ : ∃ Q : Ending → World → Prop, Hid (AllQ w d.alts.length ns PP = Q) := ⟨_, Lib.hid rfl⟩
 rw [hQ.out]
 have HQ : Hid (∀ W oa oc (irs : List IrD), irs.length = d.alts.length → Vs W oa oc (irs.map IrD.v) → (∀ e ∈ irs, AltsI W e.a e.c e.ds) → (∀ r (h : r < irs.length), irs[r].ds.length = ns r ∧ ∀ i (h2 : i < irs[r].ds.length), Ris irs[r].ds[i].l (PP r i)) → Below w.heap.size w W → Q (.returned (.slice oa irs.length oc)) W) := Lib.hid (fun W oa oc irs h1 h2 h3 h4 h5 => by rw [← hQ.out]; exact ⟨oa, oc, irs, rfl, h1, h2, h3, h4, h5⟩)
 have Hcell : Hid (∀ (r : Nat) (h : r < d.alts.length), (d.alts[r]).ds.length ≤ (d.alts[r]).c ∧ (d.alts[r]).c ≤ 9223372036854775807 ∧ ∃ p po, d.aa = some ⟨p, po, none⟩ ∧ w.cell? ⟨p, po + r, none⟩ = some (.slice (d.alts[r]).a (d.alts[r]).ds.length (d.alts[r]).c)) := Lib.hid (fun r h => by
  have h1 := (hd.rules _ (List.getElem_mem h)).row
  obtain ⟨p, po, hp⟩ := hd.alts.at_ r (by rw [List.length_map]; exact h)
  refine ⟨by have := h1.le; rwa [List.length_map] at this, h1.max, p, po, hp, ?_⟩
  have := hd.alts.cell p po hp r (by rw [List.length_map]; exact h)
  rw [List.getElem_map] at this
  exact this)
 have hxm : d.alts.length ≤ d.ac ∧ d.ac ≤ 9223372036854775807 := ⟨by have := hd.alts.le; rwa [List.length_map] at this, hd.alts.max⟩
 clear hQ hd hf hPP hns hns9
 obtain ⟨DD, hDD⟩ : ∃ q, Hid (d = q) := ⟨_, Lib.hid rfl⟩
 have hv : d.v = .agg #[.slice d.ta d.toks.length d.tc, .slice d.na d.names.length d.nc, .slice d.aa d.alts.length d.ac] := rfl
 rw [hv] at Hpr ⊢
 have hb1 : Below w.heap.size w (w.alloc (.cells #[.slice d.ta d.toks.length d.tc, .slice d.na d.names.length d.nc, .slice d.aa d.alts.length d.ac] 25)) := (Below.refl _ w).alloc (Nat.le_refl _) _
 have hA := Blk.new w 25 #[.slice d.ta d.toks.length d.tc, .slice d.na d.names.length d.nc, .slice d.aa d.alts.length d.ac]
 obtain ⟨T, HT⟩ : ∃ q, Hid (d.toks.length = q) := ⟨_, Lib.hid rfl⟩
 obtain ⟨N, HN⟩ : ∃ q, Hid (d.names.length = q) := ⟨_, Lib.hid rfl⟩
 obtain ⟨L, HL⟩ : ∃ q, Hid (d.alts.length = q) := ⟨_, Lib.hid rfl⟩
 obtain ⟨xta, Hxta⟩ : ∃ q, Hid (d.ta = q) := ⟨_, Lib.hid rfl⟩
 obtain ⟨xtc, Hxtc⟩ : ∃ q, Hid (d.tc = q) := ⟨_, Lib.hid rfl⟩
 obtain ⟨xna, Hxna⟩ : ∃ q, Hid (d.na = q) := ⟨_, Lib.hid rfl⟩
 obtain ⟨xnc, Hxnc⟩ : ∃ q, Hid (d.nc = q) := ⟨_, Lib.hid rfl⟩
 obtain ⟨xaa, Hxaa⟩ : ∃ q, Hid (d.aa = q) := ⟨_, Lib.hid rfl⟩
 obtain ⟨xac, Hxac⟩ : ∃ q, Hid (d.ac = q) := ⟨_, Lib.hid rfl⟩
 rw [HT.out, HN.out, HL.out, Hxta.out, Hxtc.out, Hxna.out, Hxnc.out, Hxaa.out, Hxac.out] at hA hb1 Hpr ⊢
 rw [HL.out, Hxac.out] at hxm
 rw [HL.out] at hr60
 have x0 := hA.cell 0
 have x1 := hA.cell 1
 have x2 := hA.cell 2
 have xl := hA.lt
 simp only [List.getElem?_cons_zero, List.getElem?_cons_succ] at x0 x1 x2
 have HA := Lib.hid hA
 have Hb1 := Lib.hid hb1
 clear hA hb1 hv hDD
 go_enter Try.func85, Try.ntmps85
 go_wp2_with (fail)
 obtain ⟨bx, hbx⟩ : ∃ q, Hid (w.heap.size = q) := ⟨_, Lib.hid rfl⟩
 rw [hbx.out] at HA x0 x1 x2 xl ⊢
 generalize hV : World.alloc w _ = V1 at HA x0 x1 x2 xl Hb1 ⊢
 clear hV x0 x1 x2 xl
 obtain ⟨base, hbase⟩ : ∃ q, Hid (V1.heap.size = q) := ⟨_, Lib.hid rfl⟩
 have hbb : bx < base := by rw [← hbase.out]; exact HA.out.lt
 have hwb : w.heap.size ≤ base := by rw [← hbase.out]; exact Hb1.out.size
 have hbV : V1.heap.size = base := hbase.out
 have Hb0 : Hid (Below base V1 V1) := Lib.hid (Below.refl _ _)
 go_loopw [3, 11] (fun sv kv wr => ∃ (k : Nat) (oa : Option Addr) (oc : Nat) (irs : List IrD), k ≤ L ∧ kv = .int .i64 (k : Int) ∧ sv = .slice oa irs.length oc ∧ Hid (irs.length = k) ∧ Hid (wr.ownsRow base 32 1 (.slice oa irs.length oc) irs.length (irs.map IrD.v)) ∧ Hid (∀ e ∈ irs, wr.ownsRow base 35 1 (.slice e.a e.ds.length e.c) e.ds.length (e.ds.map IltD.v)) ∧ Hid (∀ e ∈ irs, ∀ x ∈ e.ds, Ints wr x.a x.c x.l) ∧ Hid (∀ e ∈ irs, ApI e.ds (Value.slice oa irs.length oc).ownBlock) ∧ Hid (∀ r (h : r < irs.length), irs[r].ds.length = ns r ∧ ∀ i (h2 : i < irs[r].ds.length), Ris irs[r].ds[i].l (PP r i)) ∧ Below base V1 wr) (fun _ kv _ => L - (RowKit.intOf kv).toNat)
 case atStart => exact ⟨0, none, 0, [], Nat.zero_le _, rfl, rfl, Lib.hid rfl, Lib.hid (World.ownsRow_nil _ _ _ 1), Lib.hid (fun e he => by cases he), Lib.hid (fun e he => by cases he), Lib.hid (fun e he => by cases he), Lib.hid (fun r h => by cases h), Hb0.out⟩
 case round =>
  clear Hb0
  obtain ⟨k, oa, oc, irs, hk, rfl, rfl, Hkl, HO, HE, HI, HP, HC, hbr⟩ := hrel
  obtain ⟨U, rfl⟩ : ∃ U, U = wr := ⟨_, rfl⟩
  have hbrV : Below V1.heap.size V1 U := by rw [hbV]; exact hbr
  have Hbw := Lib.hid (Hb1.out.trans (hbrV.mono Hb1.out.size))
  have hbn : base ≤ U.heap.size := by have := hbr.size; omega
  have hvs := own_vals HO.out (by rw [List.length_map])
  have hom : irs.length ≤ oc ∧ oc ≤ 9223372036854775807 := ⟨by have := hvs.le; rwa [List.length_map] at this, hvs.max⟩
  by_cases hlt : k < L
  ·have hkI : (k : Int) < (L : Int) := by omega
   have hkI0 : (0 : Int) ≤ (k : Int) := by omega
   have hrl : k < d.alts.length := by rw [HL.out]; exact hlt
   obtain ⟨hm1, hm2, p, po, hp, cp⟩ := Hcell.out k hrl
   have hd30 := ha30.out k hrl
   have hnsk := Hns.out k hrl
   rw [Hxaa.out] at hp
   obtain ⟨e, he⟩ : ∃ v, Hid (d.alts[k] = v) := ⟨_, Lib.hid rfl⟩
   rw [he.out] at hm1 hm2 cp hd30 hnsk
   obtain ⟨ed, ea, ec⟩ := e
   dsimp only at hm1 hm2 cp hd30 hnsk
   obtain ⟨M, hM⟩ : ∃ q, Hid (ed.length = q) := ⟨_, Lib.hid rfl⟩
   rw [hM.out] at hm1 cp hd30 hnsk
   have cpu := (Hbw.out.cell (p := ⟨p, po + k, none⟩) (World.block_lt_of_cell? _ _ cp)).trans cp
   have hblp := World.block_lt_of_cell? _ _ cpu
   have HAu := Lib.hid (HA.out.below hbr hbb)
   have x2 := HAu.out.cell 2
   have xl := HAu.out.lt
   simp only [List.getElem?_cons_zero, List.getElem?_cons_succ] at x2
   subst hp
   obtain ⟨on, hon⟩ : ∃ q, Hid (irs.length = q) := ⟨_, Lib.hid rfl⟩
   have hvs2 := hvs
   rw [hon.out] at hom ⊢
   clear cp hvs hvs2
   have Hnsk := Lib.hid hnsk
   clear hnsk
   go_wp2_with (fail)
   clear x2 xl cpu hblp HAu
   have hU : True := trivial
   obtain ⟨H0, hH0⟩ : ∃ q, Hid (U.heap.size = q) := ⟨_, Lib.hid rfl⟩
   have hHb : base ≤ H0 := by rw [← hH0.out]; exact hbn
   have Hr0 : Hid (Below H0 U U) := Lib.hid (Below.refl _ _)
   go_loopw [6, 18] (fun sv jv wr => ∃ (j : Nat) (la : Option Addr) (lc : Nat) (ds : List IltD), j ≤ M ∧ jv = .int .i64 (j : Int) ∧ sv = .slice la ds.length lc ∧ Hid (ds.length = j) ∧ Hid (wr.ownsRow H0 35 1 (.slice la ds.length lc) ds.length (ds.map IltD.v)) ∧ Hid (∀ x ∈ ds, Ints wr x.a x.c x.l) ∧ Hid (∀ x ∈ ds, FrB H0 x.a) ∧ Hid (ApI ds (Value.slice la ds.length lc).ownBlock) ∧ Hid (∀ i (h : i < ds.length), Ris ds[i].l (PP k i)) ∧ Below H0 U wr) (fun _ jv _ => M - (RowKit.intOf jv).toNat)
   case atStart => exact ⟨0, none, 0, [], Nat.zero_le _, rfl, rfl, Lib.hid rfl, Lib.hid (World.ownsRow_nil _ _ _ 1), Lib.hid (fun e he => by cases he), Lib.hid (fun e he => by cases he), Lib.hid (fun e he => by cases he), Lib.hid (fun r h => by cases h), Hr0.out⟩
   case round =>
    clear Hr0
    obtain ⟨j, la, lc, ds, hj, rfl, rfl, Hjl, Ho, Hi, Hf, Hp, Hc, hrr⟩ := hrel
    obtain ⟨U2, rfl⟩ : ∃ U, U = wr := ⟨_, rfl⟩
    have hrrU : Below U.heap.size U U2 := by rw [hH0.out]; exact hrr
    have hvs := own_vals Ho.out (by rw [List.length_map])
    have hlm : ds.length ≤ lc ∧ lc ≤ 9223372036854775807 := ⟨by have := hvs.le; rwa [List.length_map] at this, hvs.max⟩
    have hbn2 : H0 ≤ U2.heap.size := by have := hrr.size; have := hH0.out; omega
    have hb2 : Below base V1 U2 := hbr.trans (hrr.mono hHb)
    by_cases hltj : j < M
    ·have hjI : (j : Int) < (M : Int) := by omega
     have hjI0 : (0 : Int) ≤ (j : Int) := by omega
     have HAu := Lib.hid (HA.out.below hb2 hbb)
     have x0 := HAu.out.cell 0
     have x1 := HAu.out.cell 1
     have x2 := HAu.out.cell 2
     have xl := HAu.out.lt
     simp only [List.getElem?_cons_zero, List.getElem?_cons_succ] at x0 x1 x2
     have Hc1 := Lib.hid (Hpr.out k j (by omega) (by omega) U2 (Hbw.out.trans (hrrU.mono Hbw.out.size)))
     obtain ⟨ln, hln⟩ : ∃ q, Hid (ds.length = q) := ⟨_, Lib.hid rfl⟩
     rw [hln.out] at hlm ⊢
     clear hvs
     go_wp2_with (fail)
     refine Hc1.out.mono ?_
     rintro e5 w5 ⟨pa, pc, pl, rfl, hpr, hpi, hpf, hb5⟩
     have ho5 := World.ownsRow.kept Ho.out (below_grownBy hb5 none) (by cases e : (Value.slice la ds.length lc).ownBlock <;> simp)
     have hi5 : ∀ x ∈ ds, Ints w5 x.a x.c x.l := fun x hx => (Hi.out x hx).grown hb5
     have hb5n : H0 ≤ w5.heap.size := Nat.le_trans hbn2 hb5.size
     obtain ⟨la2, lc2, w6, hrun, ho6, hg6, hfr6⟩ := own_push1 32 32 35 (.slice none 0 0) 24 Try.underlying32 info_rowI rfl (by decide) (.slice pa pl.length pc) rfl ho5 (by have := Hjl.out; omega) hb5n
     have hold : ∀ b, (Value.slice la ds.length lc).ownBlock = some b → b < U2.heap.size := fun b e => (World.ownsRow.lt Ho.out b e).2
     have hap5 : ApI (ds ++ [(⟨pl, pa, pc⟩ : IltD)]) (Value.slice la ds.length lc).ownBlock := fun x hx hne b off e => by
      rcases List.mem_append.1 hx with hx | hx
      ·exact Hp.out x hx hne b off e
      ·rw [List.mem_singleton] at hx
       subst hx
       intro e2
       have h1 := hold b e2
       have h2 := hpf b off e
       omega
     have hi5b : ∀ x ∈ ds ++ [(⟨pl, pa, pc⟩ : IltD)], Ints w5 x.a x.c x.l := fun x hx => by
      rcases List.mem_append.1 hx with hx | hx
      ·exact hi5 x hx
      ·rw [List.mem_singleton] at hx
       subst hx
       exact hpi
     have Hi6 := Lib.hid (ints_kept hi5b hg6 hap5)
     have Hp6 : Hid (ApI (ds ++ [(⟨pl, pa, pc⟩ : IltD)]) (Value.slice la2 (ds.length + 1) lc2).ownBlock) := Lib.hid (fun x hx hne b off e e2 => by
      rcases hfr6 b e2 with h1 | h1
      ·exact hap5 x hx hne b off e h1
      ·have := vs_lt (hi5b x hx) (fun e3 => hne (List.map_eq_nil_iff.1 e3)) e
       omega)
     have Hf6 : Hid (∀ x ∈ ds ++ [(⟨pl, pa, pc⟩ : IltD)], FrB H0 x.a) := Lib.hid (fun x hx => by
      rcases List.mem_append.1 hx with hx | hx
      ·exact Hf.out x hx
      ·rw [List.mem_singleton] at hx
       subst hx
       exact fun b off e => Nat.le_trans hbn2 (hpf b off e))
     have Hln : (ds ++ [(⟨pl, pa, pc⟩ : IltD)]).length = ds.length + 1 := by simp
     have Ho6 : Hid (w6.ownsRow H0 35 1 (.slice la2 (ds.length + 1) lc2) (ds.length + 1) ((ds ++ [(⟨pl, pa, pc⟩ : IltD)]).map IltD.v)) := Lib.hid (by rw [List.map_append]; exact ho6)
     have Hc6 : Hid (∀ i (h : i < (ds ++ [(⟨pl, pa, pc⟩ : IltD)]).length), Ris (ds ++ [(⟨pl, pa, pc⟩ : IltD)])[i].l (PP k i)) := Lib.hid (fun i h => by
      by_cases hi : i < ds.length
      ·rw [List.getElem_append_left hi]; exact Hc.out i hi
      ·have : i = ds.length := by rw [Hln] at h; omega
       subst this
       rw [List.getElem_append_right (Nat.le_refl _)]
       simp only [Nat.sub_self, List.getElem_cons_zero]
       rw [Hjl.out]
       exact hpr)
     have Hb6 : Hid (Below H0 U w6) := Lib.hid ((hrr.trans (hb5.mono hbn2)).trans (belowAt hg6 (fun q hq => (World.ownsRow.lt ho5 q hq).1) hb5n))
     obtain ⟨ds2, hds2⟩ : ∃ q, Hid (ds ++ [(⟨pl, pa, pc⟩ : IltD)] = q) := ⟨_, Lib.hid rfl⟩
     rw [hds2.out] at Hi6 Hp6 Hf6 Hln Ho6 Hc6
     rw [← Hln] at Hp6 Ho6 hrun
     have HLN : Hid (ds2.length = j + 1) := Lib.hid (by rw [Hln, Hjl.out])
     obtain ⟨pn, hpn⟩ : ∃ q, Hid (pl.length = q) := ⟨_, Lib.hid rfl⟩
     rw [hpn.out] at hrun ⊢
     have Hln2 : Hid (ds2.length = ln + 1) := Lib.hid (by rw [Hln, hln.out])
     rw [hln.out, Hln2.out] at hrun
     have Hrun := Lib.hid hrun
     clear x0 x1 x2 xl HAu hrun hpr hpi hpf hb5 ho5 hi5 hap5 hi5b ho6 hg6 hfr6 hold Hln Hc1 hb2 hrr hrrU
     go_wp2_with (at_builtin; refine wpList_append_run rfl _ _ 32 32 rfl _ _ _ _ rfl rfl Hrun.out ?_)
     first | exact ⟨⟨j + 1, la2, lc2, ds2, by omega, by go_num, by rw [Hln2.out], HLN, Ho6, Hi6, Hf6, Hp6, Hc6, Hb6.out⟩, by simp [RowKit.intOf]; omega⟩ | fail "end"
    ·have hje : j = M := by omega
     have hjI : ¬ (j : Int) < (M : Int) := by omega
     -- the row of all that was found is put onto out
     have hO2 := World.ownsRow.kept HO.out (below_grownBy hrrU none) (by cases e : (Value.slice oa irs.length oc).ownBlock <;> simp)
     have hE2 : ∀ e ∈ irs, U2.ownsRow base 35 1 (.slice e.a e.ds.length e.c) e.ds.length (e.ds.map IltD.v) := fun e he => World.ownsRow.kept (HE.out e he) (below_grownBy hrrU none) (by cases e0 : (Value.slice e.a e.ds.length e.c).ownBlock <;> simp)
     have hI2 : ∀ e ∈ irs, ∀ x ∈ e.ds, Ints U2 x.a x.c x.l := fun e he x hx => (HI.out e he x hx).grown hrrU
     have hbn3 : base ≤ U2.heap.size := Nat.le_trans hHb hbn2
     obtain ⟨oa2, oc2, w6, hrun, ho6, hg6, hfr6⟩ := own_push1 23 23 32 (.slice none 0 0) 24 Try.underlying23 info_row2 rfl (by decide) (.slice la ds.length lc) rfl hO2 (by have := Hkl.out; omega) hbn3
     have hty : ∀ q, (Value.slice oa irs.length oc).ownBlock = some q → ∃ cur t' fr, U2.heap[q]? = some (.cells cur t' fr) ∧ 35 ≠ t' := fun q hq => by
      obtain ⟨cur, hc⟩ := own_heap hO2 hq
      exact ⟨cur, _, _, hc, by decide⟩
     have hoU : ∀ b, (Value.slice oa irs.length oc).ownBlock = some b → b < H0 := fun b e => by have := (World.ownsRow.lt HO.out b e).2; have := hH0.out; omega
     have hapN : ApI ds (Value.slice oa irs.length oc).ownBlock := fun x hx hne b off e e2 => by
      have h1 := hoU b e2
      have h2 := Hf.out x hx b off e
      omega
     have HI6 : Hid (∀ e ∈ irs ++ [(⟨ds, la, lc⟩ : IrD)], ∀ x ∈ e.ds, Ints w6 x.a x.c x.l) := Lib.hid (fun e he => by
      rcases List.mem_append.1 he with he | he
      ·exact ints_kept (hI2 e he) hg6 (HP.out e he)
      ·rw [List.mem_singleton] at he
       subst he
       exact ints_kept Hi.out hg6 hapN)
     have HE6 : Hid (∀ e ∈ irs ++ [(⟨ds, la, lc⟩ : IrD)], w6.ownsRow base 35 1 (.slice e.a e.ds.length e.c) e.ds.length (e.ds.map IltD.v)) := Lib.hid (fun e he => by
      rcases List.mem_append.1 he with he | he
      ·exact own_kept_ty (hE2 e he) hg6 hty
      ·rw [List.mem_singleton] at he
       subst he
       exact own_kept_ty (own_mono Ho.out hHb) hg6 hty)
     have HP6 : Hid (∀ e ∈ irs ++ [(⟨ds, la, lc⟩ : IrD)], ApI e.ds (Value.slice oa2 (irs.length + 1) oc2).ownBlock) := Lib.hid (fun e he x hx hne b off e1 e2 => by
      rcases hfr6 b e2 with h1 | h1
      ·rcases List.mem_append.1 he with he | he
       ·exact HP.out e he x hx hne b off e1 h1
       ·rw [List.mem_singleton] at he
        subst he
        exact hapN x hx hne b off e1 h1
      ·have hlt2 : b < U2.heap.size := by
        rcases List.mem_append.1 he with he | he
        ·exact vs_lt (hI2 e he x hx) (fun e3 => hne (List.map_eq_nil_iff.1 e3)) e1
        ·rw [List.mem_singleton] at he
         subst he
         exact vs_lt (Hi.out x hx) (fun e3 => hne (List.map_eq_nil_iff.1 e3)) e1
       omega)
     have Hln : (irs ++ [(⟨ds, la, lc⟩ : IrD)]).length = irs.length + 1 := by simp
     have HO6 : Hid (w6.ownsRow base 32 1 (.slice oa2 (irs.length + 1) oc2) (irs.length + 1) ((irs ++ [(⟨ds, la, lc⟩ : IrD)]).map IrD.v)) := Lib.hid (by rw [List.map_append]; exact ho6)
     have HC6 : Hid (∀ r (h : r < (irs ++ [(⟨ds, la, lc⟩ : IrD)]).length), (irs ++ [(⟨ds, la, lc⟩ : IrD)])[r].ds.length = ns r ∧ ∀ i (h2 : i < (irs ++ [(⟨ds, la, lc⟩ : IrD)])[r].ds.length), Ris (irs ++ [(⟨ds, la, lc⟩ : IrD)])[r].ds[i].l (PP r i)) := Lib.hid (fun r h => by
      by_cases hi : r < irs.length
      ·have e9 : (irs ++ [(⟨ds, la, lc⟩ : IrD)])[r] = irs[r] := List.getElem_append_left hi
       simp only [e9]
       exact HC.out r hi
      ·have : r = irs.length := by rw [Hln] at h; omega
       subst this
       have e9 : (irs ++ [(⟨ds, la, lc⟩ : IrD)])[irs.length] = ⟨ds, la, lc⟩ := by rw [List.getElem_append_right (Nat.le_refl _)]; simp
       simp only [e9]
       refine ⟨by rw [Hjl.out, Hkl.out, Hnsk.out, hje], fun i h2 => ?_⟩
       have h9 := Hc.out i h2
       rw [← Hkl.out] at h9
       exact h9)
     have Hb6 : Hid (Below base V1 w6) := Lib.hid (hb2.trans (belowAt hg6 (fun q hq => (World.ownsRow.lt hO2 q hq).1) hbn3))
     obtain ⟨irs2, hirs2⟩ : ∃ q, Hid (irs ++ [(⟨ds, la, lc⟩ : IrD)] = q) := ⟨_, Lib.hid rfl⟩
     rw [hirs2.out] at HI6 HE6 HP6 Hln HO6 HC6
     rw [← Hln] at HP6 HO6 hrun
     have HLN : Hid (irs2.length = k + 1) := Lib.hid (by rw [Hln, Hkl.out])
     have Hln2 : Hid (irs2.length = on + 1) := Lib.hid (by rw [Hln, hon.out])
     rw [hon.out, Hln2.out] at hrun
     obtain ⟨dn, hdn⟩ : ∃ q, Hid (ds.length = q) := ⟨_, Lib.hid rfl⟩
     rw [hdn.out] at hrun hlm ⊢
     have Hrun := Lib.hid hrun
     clear hje hrun ho6 hg6 hfr6 hO2 hE2 hI2 hty hoU hapN Hln hvs hb2 hrr hrrU
     go_wp2_with (at_builtin; refine wpList_append_run rfl _ _ 23 23 rfl _ _ _ _ rfl rfl Hrun.out ?_)
     exact ⟨⟨k + 1, oa2, oc2, irs2, by omega, by go_num, by rw [Hln2.out], HLN, HO6, HE6, HI6, HP6, HC6, Hb6.out⟩, by simp [RowKit.intOf]; omega⟩
  ·have hke : k = L := by omega
   have hkI : ¬ (k : Int) < (L : Int) := by omega
   have Hfin := Lib.hid (HQ.out U oa oc irs (by rw [Hkl.out, hke, HL.out]) hvs (fun e he => ⟨own_vals (HE.out e he) (by rw [List.length_map]), HI.out e he⟩) HC.out Hbw.out)
   obtain ⟨on, hon⟩ : ∃ q, Hid (irs.length = q) := ⟨_, Lib.hid rfl⟩
   rw [hon.out] at Hfin hom ⊢
   clear hke hvs
   go_wp2_with (fail)
   first | exact Hfin.out | exact bodyPost_ret (v := .slice oa on oc) (by simp [results, Try.results85, go_sem]; try first | rfl | assumption | omega) rfl Hfin.out
end Go.Proofs.Ythogiakfbgehnaa
