/- Texts joined: Qh Qi. -/
import Derived.Test.YtldmgifphkpdlaaRVAw
set_option linter.unusedVariables false
set_option linter.unusedSimpArgs false
namespace Go.Proofs.Ytldmgifphkpdlaa
open Go.RowKit Go.Maps
attribute [local go_sem] Oper.semAt_some
/-- What the alternative of those numbers is taken at. -/
def PrdP (al : List (List (List Int))) (f : Nat → Bool) (T : Nat) (x y t : Int) : Prop := 0 ≤ x ∧ 0 ≤ y ∧ takB al f T x.toNat t y.toNat = true
theorem prd_none {al : List (List (List Int))} {f : Nat → Bool} {T : Nat} {x y : Int} (h : x < 0 ∨ (al.length : Int) ≤ x ∨ y < 0 ∨ ((al.getD x.toNat []).length : Int) ≤ y) : Ris [] (PrdP al f T x y) := by
 refine ⟨List.Pairwise.nil, fun t => ⟨fun h => (by cases h), ?_⟩⟩
 rintro ⟨h1, h2, h3⟩
 obtain ⟨a, ha, _⟩ := takB_iff.1 h3
 have := (List.getElem?_eq_some_iff.1 ha).1
 rcases h with h | h | h | h
 ·omega
 ·rw [List.getD_eq_getElem?_getD, List.getElem?_eq_none (by omega)] at this
  simp at this
 ·omega
 ·omega
set_option maxRecDepth 100000 in
set_option maxHeartbeats 16000000 in
theorem predict_any (d : CfD) (x y : Int) (w : World) (hd : CfAt w d) (hf : FitC d) (hx : -9223372036854775808 ≤ x ∧ x ≤ 9223372036854775807) (hy : -9223372036854775808 ≤ y ∧ y ≤ 9223372036854775807) :
 Calls Try.prog 31 #[d.v, .int .i64 x, .int .i64 y] w (RisQ w (PrdP (d.alts.map IrD.p) (nulB (d.alts.map IrD.p)) d.toks.length x y)) := by
 have hr60 := hf.r
 have Hng := Lib.hid (fun W (hb : Below w.heap.size w W) => newGuide_any d W (hd.grown hb) hf)
 have Hru := Lib.hid (fun fa fc W => rules_any d fa fc W (by omega))
 have Htk := Lib.hid (fun fa fc fs (r j : Nat) W (hb : Below w.heap.size w W) (hfo : FolAt W d fa fc fs) (hr : r < d.alts.length) (hj : j < (d.alts[r]).ds.length) => takenAt_any d fa fc fs r j W (hd.grown hb) hf hfo hr hj)
 have Hgr := Lib.hid (fun W W' fa fc fs (h : FolAt W d fa fc fs) (hb : Below W.heap.size W W') => h.grown hb)
 have hpl : (d.alts.map IrD.p).length = d.alts.length := List.length_map _
 have hst : ∀ r (h : r < d.alts.length), (d.alts.map IrD.p).getD r [] = (d.alts[r]).ds.map (fun x => x.l) := fun r h => by
  rw [List.getD_eq_getElem?_getD, List.getElem?_map, List.getElem?_eq_getElem h]
  rfl
 have Hyes : Hid (∀ (r j : Nat) (hr : r < d.alts.length) (hj : j < (d.alts[r]).ds.length) t, TakP (d.alts.map IrD.p) (nulB (d.alts.map IrD.p)) d.toks.length r ((d.alts[r]).ds[j]).l t ↔ PrdP (d.alts.map IrD.p) (nulB (d.alts.map IrD.p)) d.toks.length (r : Int) (j : Int) t) := Lib.hid (fun r j hr hj t => by
  have h1 : ((d.alts.map IrD.p).getD r [])[j]? = some ((d.alts[r]).ds[j]).l := by rw [hst r hr, List.getElem?_map, List.getElem?_eq_getElem hj]; rfl
  unfold PrdP
  rw [Int.toNat_natCast, Int.toNat_natCast, takB_at h1]
  constructor
  ·exact fun h => ⟨by omega, by omega, h⟩
  ·exact fun h => h.2.2)
 obtain ⟨Q, hQ⟩ : ∃ Q : Ending → World → Prop, Hid (RisQ w (PrdP (d.alts.map IrD.p) (nulB (d.alts.map IrD.p)) d.toks.length x y) = Q) := ⟨_, Lib.hid rfl⟩
 rw [hQ.out]
 have Hnil0 : Hid ((x < 0 ∨ (d.alts.length : Int) ≤ x ∨ y < 0 ∨ (∃ r, ∃ h : r < d.alts.length, x = (r : Int) ∧ ((d.alts[r]).ds.length : Int) ≤ y)) → ∀ W, Below w.heap.size w W → Q (.returned (.slice none 0 0)) W) := Lib.hid (fun h W hb => by
  rw [← hQ.out]
  refine ⟨none, 0, [], rfl, prd_none ?_, OwnKZ.nil _ _, hb⟩
  rcases h with h | h | h | ⟨r, hr, rfl, h⟩
  ·exact .inl h
  ·exact .inr (.inl (by rw [hpl]; exact h))
  ·exact .inr (.inr (.inl h))
  ·exact .inr (.inr (.inr (by rw [Int.toNat_natCast, hst r hr, List.length_map]; exact h)))
  )
 have HQ : Hid (∀ (r j : Nat) (hr : r < d.alts.length) (hj : j < (d.alts[r]).ds.length), x = (r : Int) → y = (j : Int) → ∀ W a c l, Ris l (TakP (d.alts.map IrD.p) (nulB (d.alts.map IrD.p)) d.toks.length r ((d.alts[r]).ds[j]).l) → OwnKZ W w.heap.size a c l → Below w.heap.size w W → Q (.returned (.slice a l.length c)) W) := Lib.hid (fun r j hr hj ex ey W a c l h1 h2 h3 => by
  rw [← hQ.out]
  refine ⟨a, c, l, rfl, ris_or h1 (fun t => ?_), h2, h3⟩
  rw [ex, ey]
  exact Hyes.out r j hr hj t)
 have Hcell : Hid (∀ (r : Nat) (h : r < d.alts.length), (d.alts[r]).ds.length ≤ (d.alts[r]).c ∧ (d.alts[r]).c ≤ 9223372036854775807 ∧ ∃ p po, d.aa = some ⟨p, po, none⟩ ∧ w.cell? ⟨p, po + r, none⟩ = some (.slice (d.alts[r]).a (d.alts[r]).ds.length (d.alts[r]).c)) := Lib.hid (fun r h => by
  have h1 := (hd.rules _ (List.getElem_mem h)).row
  obtain ⟨p, po, hp⟩ := hd.alts.at_ r (by rw [List.length_map]; exact h)
  refine ⟨by have := h1.le; rwa [List.length_map] at this, h1.max, p, po, hp, ?_⟩
  have := hd.alts.cell p po hp r (by rw [List.length_map]; exact h)
  rw [List.getElem_map] at this
  exact this)
 have hxm : d.alts.length ≤ d.ac ∧ d.ac ≤ 9223372036854775807 := ⟨by have := hd.alts.le; rwa [List.length_map] at this, hd.alts.max⟩
 clear hQ hpl hst Hyes hd hf
 obtain ⟨DD, hDD⟩ : ∃ q, Hid (d = q) := ⟨_, Lib.hid rfl⟩
 have hv : d.v = .agg #[.slice d.ta d.toks.length d.tc, .slice d.na d.names.length d.nc, .slice d.aa d.alts.length d.ac] := rfl
 rw [hv] at Hng ⊢
 have hg : ∀ fa fc, guV d fa fc = .agg #[.slice d.ta d.toks.length d.tc, .slice d.na d.names.length d.nc, .slice d.aa d.alts.length d.ac, .slice fa d.alts.length fc] := fun _ _ => rfl
 have hb1 : Below w.heap.size w (w.alloc (.cells #[.slice d.ta d.toks.length d.tc, .slice d.na d.names.length d.nc, .slice d.aa d.alts.length d.ac] 25)) := (Below.refl _ w).alloc (Nat.le_refl _) _
 have hA := Blk.new w 25 #[.slice d.ta d.toks.length d.tc, .slice d.na d.names.length d.nc, .slice d.aa d.alts.length d.ac]
 obtain ⟨T, HT⟩ : ∃ q, Hid (d.toks.length = q) := ⟨_, Lib.hid rfl⟩
 obtain ⟨N, HN⟩ : ∃ q, Hid (d.names.length = q) := ⟨_, Lib.hid rfl⟩
 obtain ⟨L, HL⟩ : ∃ q, Hid (d.alts.length = q) := ⟨_, Lib.hid rfl⟩
 obtain ⟨xta, Hxta⟩ : ∃ q, Hid (d.ta = q) := ⟨_, Lib.hid rfl⟩
 obtain ⟨xtc, Hxtc⟩ : ∃ q, Hid (d.tc = q) := ⟨_, Lib.hid rfl⟩
 obtain ⟨xna, Hxna⟩ : ∃ q, Hid (d.na = q) := ⟨_, Lib.hid rfl⟩
 obtain ⟨xnc, Hxnc⟩ : ∃ q, Hid (d.nc = q) := ⟨_, Lib.hid rfl⟩
 obtain ⟨xaa, Hxaa⟩ : ∃ q, Hid (d.aa = q) := ⟨_, Lib.hid rfl⟩
 obtain ⟨xac, Hxac⟩ : ∃ q, Hid (d.ac = q) := ⟨_, Lib.hid rfl⟩
 have hgu : Hid (∀ fa fc, guV d fa fc = .agg #[.slice xta T xtc, .slice xna N xnc, .slice xaa L xac, .slice fa L fc]) := Lib.hid (fun fa fc => by rw [hg, HT.out, HN.out, HL.out, Hxta.out, Hxtc.out, Hxna.out, Hxnc.out, Hxaa.out, Hxac.out])
 rw [HT.out, HN.out, HL.out, Hxta.out, Hxtc.out, Hxna.out, Hxnc.out, Hxaa.out, Hxac.out] at hA hb1 Hng ⊢
 rw [HL.out, Hxac.out] at hxm
 have Hnil1 : Hid ((x < 0 ∨ (L : Int) ≤ x ∨ y < 0 ∨ (∃ r, ∃ h : r < d.alts.length, x = (r : Int) ∧ ((d.alts[r]).ds.length : Int) ≤ y)) → ∀ W, Below w.heap.size w W → Q (.returned (.slice none 0 0)) W) := Lib.hid (by rw [← HL.out]; exact Hnil0.out)
 have Hru2 : Hid (∀ fa fc W, Calls Try.prog 73 #[.agg #[.slice xta T xtc, .slice xna N xnc, .slice xaa L xac, .slice fa L fc]] W fun e w' => e = .returned (.int .i64 (L : Int)) ∧ Below W.heap.size W w') := Lib.hid (fun fa fc W => by
  have := Hru.out fa fc W
  rw [hgu.out, HL.out] at this
  exact this)
 have x0 := hA.cell 0
 have x1 := hA.cell 1
 have x2 := hA.cell 2
 have xl := hA.lt
 simp only [List.getElem?_cons_zero, List.getElem?_cons_succ] at x0 x1 x2
 have HA := Lib.hid hA
 have Hb1 := Lib.hid hb1
 clear hA hb1 hv hg Hnil0 Hru hDD
 go_enter Try.func31, Try.ntmps31
 go_wp2_with (fail)
 obtain ⟨bx, hbx⟩ : ∃ q, Hid (w.heap.size = q) := ⟨_, Lib.hid rfl⟩
 rw [hbx.out] at HA x0 x1 x2 xl ⊢
 generalize hV : World.alloc w _ = V1 at HA x0 x1 x2 xl Hb1 ⊢
 clear hV
 refine (Hng.out V1 Hb1.out).mono ?_
 rintro e w2 ⟨fa, fc, fs, rfl, hfo, hb⟩
 have HA2 := Lib.hid (HA.out.below hb HA.out.lt)
 have Hb2 := Lib.hid (Hb1.out.trans (hb.mono Hb1.out.size))
 have hb3 : Below w2.heap.size w2 (w2.alloc (.cells #[.slice xta T xtc, .slice xna N xnc, .slice xaa L xac, .slice fa L fc] 95)) := (Below.refl _ w2).alloc (Nat.le_refl _) _
 have hG3 := Blk.new w2 95 #[.slice xta T xtc, .slice xna N xnc, .slice xaa L xac, .slice fa L fc]
 have Hfo3 := Lib.hid (Hgr.out _ _ fa fc fs hfo hb3)
 have HA3 := Lib.hid (HA2.out.below hb3 HA2.out.lt)
 have HG3 := Lib.hid hG3
 have Hb3 := Lib.hid (Hb2.out.trans (hb3.mono Hb2.out.size))
 rw [hgu.out]
 clear x0 x1 x2 xl hb hfo hb3 hG3
 by_cases hx0 : x < 0
 ·have Hnil := Lib.hid (Hnil1.out (.inl hx0))
  go_wp2_with (fail)
  first | exact (Hnil.out _ Hb3.out) | exact bodyPost_ret (v := .slice none 0 0) (by simp [results, Try.results31, go_sem]; try first | rfl | assumption | omega) rfl (Hnil.out _ Hb3.out)
 have hx0' : (0 : Int) ≤ x := by omega
 go_wp2_with (fail)
 obtain ⟨bg, hbg⟩ : ∃ q, Hid (w2.heap.size = q) := ⟨_, Lib.hid rfl⟩
 rw [hbg.out] at HG3 ⊢
 generalize hV : World.alloc w2 _ = V3 at HA3 HG3 Hb3 Hfo3 ⊢
 clear hV
 refine (Hru2.out fa fc V3).mono ?_
 rintro e w4 ⟨rfl, hb⟩
 have HA4 := Lib.hid (HA3.out.below hb HA3.out.lt)
 have HG4 := Lib.hid (HG3.out.below hb HG3.out.lt)
 have Hb4 := Lib.hid (Hb3.out.trans (hb.mono Hb3.out.size))
 have Hfo4 := Lib.hid (Hgr.out _ _ fa fc fs Hfo3.out hb)
 clear hb
 by_cases hx1 : (L : Int) ≤ x
 ·have Hnil := Lib.hid (Hnil1.out (.inr (.inl hx1)))
  go_wp2_with (fail)
  first | exact (Hnil.out _ Hb4.out) | exact bodyPost_ret (v := .slice none 0 0) (by simp [results, Try.results31, go_sem]; try first | rfl | assumption | omega) rfl (Hnil.out _ Hb4.out)
 have hx1' : x < (L : Int) := by omega
 by_cases hy0 : y < 0
 ·have Hnil := Lib.hid (Hnil1.out (.inr (.inr (.inl hy0))))
  go_wp2_with (fail)
  first | exact (Hnil.out _ Hb4.out) | exact bodyPost_ret (v := .slice none 0 0) (by simp [results, Try.results31, go_sem]; try first | rfl | assumption | omega) rfl (Hnil.out _ Hb4.out)
 have hy0' : (0 : Int) ≤ y := by omega
 obtain ⟨r, rfl⟩ : ∃ r : Nat, x = (r : Int) := ⟨x.toNat, by omega⟩
 obtain ⟨j, rfl⟩ : ∃ j : Nat, y = (j : Int) := ⟨y.toNat, by omega⟩
 have hrl : r < d.alts.length := by rw [HL.out]; omega
 obtain ⟨hm1, hm2, p, po, hp, cp⟩ := Hcell.out r hrl
 rw [Hxaa.out] at hp
 have Hnil2 : Hid (((d.alts[r]).ds.length : Int) ≤ (j : Int) → ∀ W, Below w.heap.size w W → Q (.returned (.slice none 0 0)) W) := Lib.hid (fun h => Hnil1.out (.inr (.inr (.inr ⟨r, hrl, rfl, h⟩))))
 have Htk2 : Hid (∀ hj : j < (d.alts[r]).ds.length, _) := Lib.hid (fun hj => Htk.out fa fc fs r j w4 Hb4.out Hfo4.out hrl hj)
 have HQ2 := Lib.hid (fun hj => HQ.out r j hrl hj rfl rfl)
 rw [hgu.out] at Htk2
 obtain ⟨e, he⟩ : ∃ v, Hid (d.alts[r] = v) := ⟨_, Lib.hid rfl⟩
 rw [he.out] at hm1 hm2 cp Hnil2
 have hMl : Hid (d.alts[r].ds.length = e.ds.length) := Lib.hid (by rw [he.out])
 obtain ⟨ed, ea, ec⟩ := e
 dsimp only at hm1 hm2 cp Hnil2 hMl
 obtain ⟨M, hM⟩ : ∃ q, Hid (ed.length = q) := ⟨_, Lib.hid rfl⟩
 rw [hM.out] at hm1 cp Hnil2 hMl
 have cp4 := (Hb4.out.cell (p := ⟨p, po + r, none⟩) (World.block_lt_of_cell? _ _ cp)).trans cp
 have hblp := World.block_lt_of_cell? _ _ cp4
 have x2 := HA4.out.cell 2
 have xl := HA4.out.lt
 simp only [List.getElem?_cons_zero, List.getElem?_cons_succ] at x2
 subst hp
 clear cp
 by_cases hy1 : (M : Int) ≤ (j : Int)
 ·have Hnil := Lib.hid (Hnil2.out hy1)
  clear Htk2 HQ2
  go_wp2_with (fail)
  first | exact (Hnil.out _ Hb4.out) | exact bodyPost_ret (v := .slice none 0 0) (by simp [results, Try.results31, go_sem]; try first | rfl | assumption | omega) rfl (Hnil.out _ Hb4.out)
 have hy1' : (j : Int) < (M : Int) := by omega
 have hjl : j < (d.alts[r]).ds.length := by rw [hMl.out]; omega
 have Htk3 := Lib.hid (Htk2.out hjl)
 have HQ3 := Lib.hid (HQ2.out hjl)
 have y0 := HG4.out.cell 0
 have y1 := HG4.out.cell 1
 have y2 := HG4.out.cell 2
 have y3 := HG4.out.cell 3
 have yl := HG4.out.lt
 simp only [List.getElem?_cons_zero, List.getElem?_cons_succ] at y0 y1 y2 y3
 clear Htk2 HQ2 Hnil1 Hnil2
 go_wp2_with (fail)
 refine Htk3.out.mono ?_
 rintro e9 w5 ⟨la, lc, l, rfl, hri, ho, hb⟩
 have Hfin := Lib.hid (HQ3.out w5 la lc l hri (own_mono ho Hb4.out.size) (Hb4.out.trans (hb.mono Hb4.out.size)))
 clear y0 y1 y2 y3 yl x2 xl hri ho hb Htk3 HQ3
 go_wp2_with (fail)
 first | exact Hfin.out | exact bodyPost_ret (v := .slice la l.length lc) (by simp [results, Try.results31, go_sem]; try first | rfl | assumption | omega) rfl Hfin.out
end Go.Proofs.Ytldmgifphkpdlaa
namespace Go.Proofs.Ytldmgifphkpdlaa
open Go.RowKit Go.Maps
attribute [local go_sem] Oper.semAt_some
theorem TkA.kept_ty {W W' : World} {base g L : Nat} {es : List IltD} {row : Option Nat} (h : TkA W base g L es) (hg : W.grownBy W' row) (hr : ∀ q, row = some q → ∃ cur t fr, W.heap[q]? = some (.cells cur t fr) ∧ 35 ≠ t ∧ 3 ≠ t) : TkA W' base g L es :=
 ⟨own_kept_ty h.own hg (fun q e => by obtain ⟨cur, t, fr, h1, h2, _⟩ := hr q e; exact ⟨cur, t, fr, h1, h2⟩), h.len, fun e he => own_kept_ty (h.ins e he) hg (fun q e => by obtain ⟨cur, t, fr, h1, _, h2⟩ := hr q e; exact ⟨cur, t, fr, h1, h2⟩), h.apart⟩
/-- Clashes in memory. -/
abbrev Cl4 := Nat × Nat × Nat × Nat
def clC (x : Cl4) : List Value := [.int .i64 (x.1 : Int), .int .i64 (x.2.1 : Int), .int .i64 (x.2.2.1 : Int), .int .i64 (x.2.2.2 : Int)]
abbrev OwnCl (W : World) (base : Nat) (a : Option Addr) (c : Nat) (l : List Cl4) : Prop := W.ownsRow base 93 4 (.slice a l.length c) l.length (l.flatMap clC)
theorem info_cl : (Try.prog.info? 93).map (fun i => (i.zero, i.size, i.bytes)) = some (some (.agg #[.int .i64 0, .int .i64 0, .int .i64 0, .int .i64 0]), 4, 32) := by kernel_rfl
theorem own_heapN {W : World} {base e n sz : Nat} {v : Value} {xs : List Value} (h : W.ownsRow base e sz v n xs) {k : Nat} (hk : v.ownBlock = some k) : ∃ cur, W.heap[k]? = some (.cells cur e (0, 0)) := by
 rcases h.2 with ⟨e1, _⟩ | ⟨g, cp, cur, e1, hb, hk2, _⟩
 ·rw [e1] at hk; cases hk
 ·rw [e1] at hk
  have : g = k := Option.some.inj hk
  subst this
  exact ⟨cur, hk2⟩
theorem OwnCl.push {W : World} {base c : Nat} {a : Option Addr} {l : List Cl4} (h : OwnCl W base a c l) (x : Cl4) (ty : TypeId) (hn : l.length + 1 ≤ 1099511627780) (hb : base ≤ W.heap.size) :
 ∃ a' c' w', (Builtin.append_ #[47, 47] ty #[.slice a l.length c, .slice (some ⟨W.heap.size, 0, none⟩) 1 1]).run Try.prog (W.alloc (.cells #[.int .i64 (x.1 : Int), .int .i64 (x.2.1 : Int), .int .i64 (x.2.2.1 : Int), .int .i64 (x.2.2.2 : Int)] 93)) = .ok (.slice a' (l.length + 1) c') w' ∧
  OwnCl w' base a' c' (l ++ [x]) ∧ Below base W w' ∧ (∀ B g L es, TkA W B g L es → TkA w' B g L es) := by
 obtain ⟨a', c', w', hrun, ho, hg⟩ := run_pushV W 47 ty 93 (.agg #[.int .i64 0, .int .i64 0, .int .i64 0, .int .i64 0]) 4 32 Try.underlying47 info_cl rfl (by decide) (by decide) (clC x) rfl (fun u hu => by
  simp only [clC, List.mem_cons, List.not_mem_nil, or_false] at hu
  rcases hu with rfl | rfl | rfl | rfl <;> rfl) h hn hb
 refine ⟨a', c', w', hrun, ?_, belowAt hg (fun q hq => (World.ownsRow.lt h q hq).1) hb, fun B g L es hE => hE.kept_ty hg (fun q hq => ?_)⟩
 ·unfold OwnCl
  rw [List.length_append, List.length_singleton, List.flatMap_append, List.flatMap_singleton]
  exact ho
 ·obtain ⟨cur, hc⟩ := own_heapN h hq
  exact ⟨cur, _, _, hc, by decide, by decide⟩
theorem OwnCl.nil (W : World) (base : Nat) : OwnCl W base none 0 [] := World.ownsRow_nil W base _ 4
theorem OwnCl.le {W : World} {base c : Nat} {a : Option Addr} {l : List Cl4} (h : OwnCl W base a c l) : l.length ≤ c ∧ c ≤ 9223372036854775807 := by
 rcases h.2 with ⟨e1, e2⟩ | ⟨g, cap', cur, e1, hb, hg, hle, hm, hs, ht⟩
 ·simp only [Value.slice.injEq] at e1
  omega
 ·simp only [Value.slice.injEq] at e1
  unfold maxLen at hm
  omega
theorem OwnCl.below {W W' : World} {base c : Nat} {a : Option Addr} {l : List Cl4} (h : OwnCl W base a c l) (hb : Below W.heap.size W W') : OwnCl W' base a c l :=
 World.ownsRow.kept h (below_grownBy hb none) (by cases e : (Value.slice a l.length c).ownBlock <;> simp)
theorem prTo_len (p : Nat → Bool) (l : List Nat) : ∀ n, (prTo p l n).length ≤ n * l.length
 | 0 => by simp [prTo]
 | n + 1 => by
  rw [prTo_snoc, List.length_append, Nat.add_mul]
  have h1 := prTo_len p l n
  have h2 : (prAt p l n).length ≤ l.length := by
   unfold prAt
   split
   ·rw [List.length_map]
    have h3 := List.length_filter_le p (l.drop (n + 1))
    rw [List.length_drop] at h3
    omega
   ·simp
  omega
def ClsQ (w : World) (q : List Cl4) (e : Ending) (W' : World) : Prop := ∃ a c, e = .returned (.slice a q.length c) ∧ OwnCl W' w.heap.size a c q ∧ Below w.heap.size w W'
/-- All clashes of a grammar. -/
noncomputable def allCl (al : List (List (List Int))) (f : Nat → Bool) (T : Nat) : List Cl4 := clS (fun r t j => takB al f T r (t : Int) j) (fun r => (al.getD r []).length) (T + 1) al.length
set_option maxRecDepth 100000 in
set_option maxHeartbeats 16000000 in
theorem clashes_any (d : CfD) (w : World) (hd : CfAt w d) (hf : FitC d) :
 Calls Try.prog 36 #[d.v] w (ClsQ w (allCl (d.alts.map IrD.p) (nulB (d.alts.map IrD.p)) d.toks.length)) := by
 have hr60 := hf.r
 have ht60 := hf.t
 have Hng := Lib.hid (fun W (hb : Below w.heap.size w W) => newGuide_any d W (hd.grown hb) hf)
 have Hru := Lib.hid (fun fa fc W => rules_any d fa fc W (by omega))
 have hpl : (d.alts.map IrD.p).length = d.alts.length := List.length_map _
 have hst : ∀ r (h : r < d.alts.length), (d.alts.map IrD.p).getD r [] = (d.alts[r]).ds.map (fun x => x.l) := fun r h => by
  rw [List.getD_eq_getElem?_getD, List.getElem?_map, List.getElem?_eq_getElem h]
  rfl
 have Hns : Hid (∀ r, ((d.alts.map IrD.p).getD r []).length ≤ 30) := Lib.hid (fun r => by
  by_cases h : r < d.alts.length
  ·rw [hst r h, List.length_map]; exact hf.a _ (List.getElem_mem h)
  ·rw [List.getD_eq_getElem?_getD, List.getElem?_eq_none (by rw [hpl]; omega)]; simp)
 have Htk := Lib.hid (fun fa fc fs (r : Nat) W (hb : Below w.heap.size w W) (hfo : FolAt W d fa fc fs) (hr : r < d.alts.length) => by
  have h := takers_any d fa fc fs r W (hd.grown hb) hf hfo hr
  rw [show (d.alts[r]).ds.length = ((d.alts.map IrD.p).getD r []).length by rw [hst r hr, List.length_map]] at h
  exact h)
 have Hgr := Lib.hid (fun W W' fa fc fs (h : FolAt W d fa fc fs) (hb : Below W.heap.size W W') => h.grown hb)
 obtain ⟨al, hal9⟩ : ∃ q, Hid (d.alts.map IrD.p = q) := ⟨_, Lib.hid rfl⟩
 rw [hal9.out] at Htk Hns hpl ⊢
 obtain ⟨f, hf9⟩ : ∃ q, Hid (nulB al = q) := ⟨_, Lib.hid rfl⟩
 rw [hf9.out] at Htk ⊢
 obtain ⟨P, hP⟩ : ∃ q : Nat → Nat → Nat → Bool, Hid ((fun (r t j : Nat) => takB al f d.toks.length r (t : Int) j) = q) := ⟨_, Lib.hid rfl⟩
 have HP : Hid (∀ (r t j : Nat), takB al f d.toks.length r (t : Int) j = P r t j) := Lib.hid (fun r t j => congrFun (congrFun (congrFun hP.out r) t) j)
 obtain ⟨ns, hns9⟩ : ∃ q : Nat → Nat, Hid ((fun r => (al.getD r []).length) = q) := ⟨_, Lib.hid rfl⟩
 have Hnn : Hid (∀ r, (al.getD r []).length = ns r) := Lib.hid (fun r => congrFun hns9.out r)
 have HTK : Hid (∀ r t n, tkL (takB al f d.toks.length r) n t = ((List.range n).filter (P r t)).map (fun j : Nat => (j : Int))) := Lib.hid (fun r t n => by
  unfold tkL
  congr 1
  exact List.filter_congr (fun j _ => HP.out r t j))
 obtain ⟨Q, hQ⟩ : ∃ Q : Ending → World → Prop, Hid (ClsQ w (allCl al f d.toks.length) = Q) := ⟨_, Lib.hid rfl⟩
 rw [hQ.out]
 have HQ : Hid (∀ W a c l, l = clS P ns (d.toks.length + 1) d.alts.length → OwnCl W w.heap.size a c l → Below w.heap.size w W → Q (.returned (.slice a l.length c)) W) := Lib.hid (fun W a c l h1 h2 h3 => by
  rw [← hQ.out]
  have e : l = allCl al f d.toks.length := by
   rw [h1]
   unfold allCl
   rw [hP.out, hns9.out, hpl]
  subst e
  exact ⟨a, c, rfl, h2, h3⟩)
 have hNs : Hid (∀ r, ns r ≤ 30) := Lib.hid (fun r => by rw [← Hnn.out]; exact Hns.out r)
 have hxm : d.alts.length ≤ d.ac ∧ d.ac ≤ 9223372036854775807 := ⟨by have := hd.alts.le; rwa [List.length_map] at this, hd.alts.max⟩
 clear hQ hpl hst hd hf hP hns9 Hns
 obtain ⟨DD, hDD⟩ : ∃ q, Hid (d = q) := ⟨_, Lib.hid rfl⟩
 have hv : d.v = .agg #[.slice d.ta d.toks.length d.tc, .slice d.na d.names.length d.nc, .slice d.aa d.alts.length d.ac] := rfl
 rw [hv] at Hng ⊢
 have hg : ∀ fa fc, guV d fa fc = .agg #[.slice d.ta d.toks.length d.tc, .slice d.na d.names.length d.nc, .slice d.aa d.alts.length d.ac, .slice fa d.alts.length fc] := fun _ _ => rfl
 have hb1 : Below w.heap.size w (w.alloc (.cells #[.slice d.ta d.toks.length d.tc, .slice d.na d.names.length d.nc, .slice d.aa d.alts.length d.ac] 25)) := (Below.refl _ w).alloc (Nat.le_refl _) _
 have hA := Blk.new w 25 #[.slice d.ta d.toks.length d.tc, .slice d.na d.names.length d.nc, .slice d.aa d.alts.length d.ac]
 obtain ⟨T, HT⟩ : ∃ q, Hid (d.toks.length = q) := ⟨_, Lib.hid rfl⟩
 obtain ⟨N, HN⟩ : ∃ q, Hid (d.names.length = q) := ⟨_, Lib.hid rfl⟩
 obtain ⟨L, HL⟩ : ∃ q, Hid (d.alts.length = q) := ⟨_, Lib.hid rfl⟩
 obtain ⟨xta, Hxta⟩ : ∃ q, Hid (d.ta = q) := ⟨_, Lib.hid rfl⟩
 obtain ⟨xtc, Hxtc⟩ : ∃ q, Hid (d.tc = q) := ⟨_, Lib.hid rfl⟩
 obtain ⟨xna, Hxna⟩ : ∃ q, Hid (d.na = q) := ⟨_, Lib.hid rfl⟩
 obtain ⟨xnc, Hxnc⟩ : ∃ q, Hid (d.nc = q) := ⟨_, Lib.hid rfl⟩
 obtain ⟨xaa, Hxaa⟩ : ∃ q, Hid (d.aa = q) := ⟨_, Lib.hid rfl⟩
 obtain ⟨xac, Hxac⟩ : ∃ q, Hid (d.ac = q) := ⟨_, Lib.hid rfl⟩
 have hgu : Hid (∀ fa fc, guV d fa fc = .agg #[.slice xta T xtc, .slice xna N xnc, .slice xaa L xac, .slice fa L fc]) := Lib.hid (fun fa fc => by rw [hg, HT.out, HN.out, HL.out, Hxta.out, Hxtc.out, Hxna.out, Hxnc.out, Hxaa.out, Hxac.out])
 rw [HT.out, HN.out, HL.out, Hxta.out, Hxtc.out, Hxna.out, Hxnc.out, Hxaa.out, Hxac.out] at hA hb1 Hng ⊢
 rw [HL.out, Hxac.out] at hxm
 rw [HT.out, HL.out] at HQ
 rw [HT.out] at HTK ht60
 rw [HL.out] at hr60
 have Hru2 : Hid (∀ fa fc W, Calls Try.prog 73 #[.agg #[.slice xta T xtc, .slice xna N xnc, .slice xaa L xac, .slice fa L fc]] W fun e w' => e = .returned (.int .i64 (L : Int)) ∧ Below W.heap.size W w') := Lib.hid (fun fa fc W => by
  have := Hru.out fa fc W
  rw [hgu.out, HL.out] at this
  exact this)
 have Htk2 : Hid (∀ fa fc fs (r : Nat) W (hb : Below w.heap.size w W) (hfo : FolAt W d fa fc fs) (hr : r < L), Calls Try.prog 76 #[.agg #[.slice xta T xtc, .slice xna N xnc, .slice xaa L xac, .slice fa L fc], .int .i64 (r : Int)] W (TkrQ W T (fun t => ((List.range (ns r)).filter (P r t)).map (fun j : Nat => (j : Int))))) := Lib.hid (fun fa fc fs r W hb hfo hr => by
  have := Htk.out fa fc fs r W hb hfo (by rw [HL.out]; exact hr)
  rw [hgu.out, HT.out, Hnn.out] at this
  rw [show (fun t => ((List.range (ns r)).filter (P r t)).map (fun j : Nat => (j : Int))) = tkL (takB al f T r) (ns r) from funext (fun t => (HTK.out r t (ns r)).symm)]
  exact this)
 have x0 := hA.cell 0
 have x1 := hA.cell 1
 have x2 := hA.cell 2
 have xl := hA.lt
 simp only [List.getElem?_cons_zero, List.getElem?_cons_succ] at x0 x1 x2
 have HA := Lib.hid hA
 have Hb1 := Lib.hid hb1
 clear hA hb1 hv hg Hru Htk hDD HTK
 go_enter Try.func36, Try.ntmps36
 go_wp2_with (fail)
 obtain ⟨bx, hbx⟩ : ∃ q, Hid (w.heap.size = q) := ⟨_, Lib.hid rfl⟩
 rw [hbx.out] at HA x0 x1 x2 xl ⊢
 generalize hV : World.alloc w _ = V1 at HA x0 x1 x2 xl Hb1 ⊢
 clear hV
 refine (Hng.out V1 Hb1.out).mono ?_
 rintro e w2 ⟨fa, fc, fs, rfl, hfo, hb⟩
 have HA2 := Lib.hid (HA.out.below hb HA.out.lt)
 have Hb2 := Lib.hid (Hb1.out.trans (hb.mono Hb1.out.size))
 have hb3 : Below w2.heap.size w2 (w2.alloc (.cells #[.slice xta T xtc, .slice xna N xnc, .slice xaa L xac, .slice fa L fc] 95)) := (Below.refl _ w2).alloc (Nat.le_refl _) _
 have hG3 := Blk.new w2 95 #[.slice xta T xtc, .slice xna N xnc, .slice xaa L xac, .slice fa L fc]
 have Hfo3 := Lib.hid (Hgr.out _ _ fa fc fs hfo hb3)
 have HG3 := Lib.hid hG3
 have Hb3 := Lib.hid (Hb2.out.trans (hb3.mono Hb2.out.size))
 have hfm : True := trivial
 rw [hgu.out]
 clear x0 x1 x2 xl hb hfo hb3 hG3 HA2 HA
 go_wp2_with (fail)
 obtain ⟨bg, hbg⟩ : ∃ q, Hid (w2.heap.size = q) := ⟨_, Lib.hid rfl⟩
 rw [hbg.out] at HG3 ⊢
 generalize hV : World.alloc w2 _ = V3 at HG3 Hb3 Hfo3 ⊢
 clear hV
 refine (Hru2.out fa fc V3).mono ?_
 rintro e w4 ⟨rfl, hb4⟩
 obtain ⟨base, hbase⟩ : ∃ q, Hid (V3.heap.size = q) := ⟨_, Lib.hid rfl⟩
 have hbgb : bg < base := by rw [← hbase.out]; exact HG3.out.lt
 have hwb : w.heap.size ≤ base := by rw [← hbase.out]; exact Hb3.out.size
 have hbV : base ≤ V3.heap.size := by rw [hbase.out]; exact Nat.le_refl _
 rw [hbase.out] at hb4
 have Hb4 := Lib.hid hb4
 clear hb4
 go_wp2_with (fail)
 go_loopw [4, 16] (fun sv kv wr => ∃ (k : Nat) (a : Option Addr) (c : Nat) (l : List Cl4), k ≤ L ∧ kv = .int .i64 (k : Int) ∧ sv = .slice a l.length c ∧ Hid (l = clS P ns (T + 1) k) ∧ Hid (OwnCl wr base a c l) ∧ Below base V3 wr) (fun _ kv _ => L - (RowKit.intOf kv).toNat)
 case atStart => exact ⟨0, none, 0, [], Nat.zero_le _, rfl, rfl, Lib.hid rfl, Lib.hid (OwnCl.nil _ _), Hb4.out⟩
 case round =>
  clear Hb4
  obtain ⟨k, a, c, l, hk, rfl, rfl, Hl, HO, hbr⟩ := hrel
  obtain ⟨U, rfl⟩ : ∃ U, U = wr := ⟨_, rfl⟩
  have hlm := HO.out.le
  by_cases hlt : k < L
  ·have hkI : (k : Int) < (L : Int) := by omega
   have hkI0 : (0 : Int) ≤ (k : Int) := by omega
   have hbr3 : Below V3.heap.size V3 U := by rw [hbase.out]; exact hbr
   have Hbw := Lib.hid (Hb3.out.trans (hbr3.mono Hb3.out.size))
   have HGu := Lib.hid (HG3.out.below hbr hbgb)
   have y0 := HGu.out.cell 0
   have y1 := HGu.out.cell 1
   have y2 := HGu.out.cell 2
   have y3 := HGu.out.cell 3
   have yl := HGu.out.lt
   simp only [List.getElem?_cons_zero, List.getElem?_cons_succ] at y0 y1 y2 y3
   have Hc := Lib.hid (Htk2.out fa fc fs k U Hbw.out (Hgr.out _ _ fa fc fs Hfo3.out hbr3) hlt)
   have hbn : base ≤ U.heap.size := by have := hbr.size; omega
   obtain ⟨ln, hln⟩ : ∃ q, Hid (l.length = q) := ⟨_, Lib.hid rfl⟩
   rw [hln.out] at hlm ⊢
   clear hbr3
   go_wp2_with (fail)
   refine Hc.out.mono ?_
   rintro e5 w5 ⟨g5, es, rfl, hE5, hR5, hb5⟩
   have HE5 := Lib.hid (hE5.mono hbn)
   have HR5 := Lib.hid hR5
   have HO5 := Lib.hid (HO.out.below hb5)
   have Hb5 := Lib.hid (hbr.trans (hb5.mono hbn))
   clear y0 y1 y2 y3 yl HGu Hc hE5 hR5 hb5 HO hbr Hbw
   go_wp2_with (fail)
   rw [← hln.out]
   clear hln hlm
   obtain ⟨A1, hA1⟩ : ∃ q, Hid (clS P ns (T + 1) k = q) := ⟨_, Lib.hid rfl⟩
   rw [hA1.out] at Hl
   go_loopw [4, 23] (fun sv tv wr => ∃ (t : Nat) (a : Option Addr) (c : Nat) (l : List Cl4), t ≤ T + 1 ∧ tv = .int .i64 (t : Int) ∧ sv = .slice a l.length c ∧ Hid (l = A1 ++ clR (P k) (ns k) k t) ∧ Hid (OwnCl wr base a c l) ∧ Hid (TkA wr base g5 (T + 1) es) ∧ Below base V3 wr) (fun _ tv _ => T + 1 - (RowKit.intOf tv).toNat)
   case atStart => exact ⟨0, a, c, l, Nat.zero_le _, rfl, rfl, Lib.hid (by rw [Hl.out]; simp [clR]), HO5, HE5, Hb5.out⟩
   case round =>
    clear Hl HO5 HE5 Hb5
    obtain ⟨t, a, c, l, ht, rfl, rfl, Hl, HO, HE, hbr⟩ := hrel
    obtain ⟨U2, rfl⟩ : ∃ U, U = wr := ⟨_, rfl⟩
    have hlm := HO.out.le
    by_cases hltt : t < T + 1
    ·have htI : (t : Int) < (T : Int) + 1 := by omega
     have htI1 : (t : Int) < ((T + 1 : Nat) : Int) := by omega
     have htI0 : (0 : Int) ≤ (t : Int) := by omega
     have hte : t < es.length := by rw [HE.out.len]; exact hltt
     obtain ⟨F, hF⟩ : ∃ q, Hid ((List.range (ns k)).filter (P k t) = q) := ⟨_, Lib.hid rfl⟩
     have hrow := HR5.out t hltt
     rw [rowL_at hte] at hrow
     try dsimp only at hrow
     rw [hF.out] at hrow
     have hFl : F.length ≤ 30 := by rw [← hF.out]; have := List.length_filter_le (P k t) (List.range (ns k)); rw [List.length_range] at this; have := hNs.out k; omega
     have ce := HE.out.alts.row.cell g5 0 rfl t (by rw [List.length_map]; exact hte)
     rw [List.getElem_map, Nat.zero_add] at ce
     have hgl := HE.out.lt
     have hei := HE.out.alts.nms _ (List.getElem_mem hte)
     obtain ⟨ev, hev⟩ : ∃ v, Hid (es[t] = v) := ⟨_, Lib.hid rfl⟩
     rw [hev.out] at hrow ce hei
     obtain ⟨evl, eva, evc⟩ := ev
     dsimp only at hrow hei
     change _ = some (Value.slice eva evl.length evc) at ce
     have Hevl := Lib.hid hrow
     have hevm : evl.length ≤ evc ∧ evc ≤ 9223372036854775807 := ⟨by have := hei.le; rwa [List.length_map] at this, hei.max⟩
     obtain ⟨EV, hEVl⟩ : ∃ q, Hid (evl.length = q) := ⟨_, Lib.hid rfl⟩
     have hEF : EV = F.length := by rw [← hEVl.out, hrow, List.length_map]
     rw [hEVl.out] at ce hevm
     obtain ⟨A2, hA2⟩ : ∃ q, Hid (A1 ++ clR (P k) (ns k) k t = q) := ⟨_, Lib.hid rfl⟩
     have HA2 : Hid (A2.length ≤ 3500000) := Lib.hid (by
      rw [← hA2.out, ← hA1.out, List.length_append]
      have h1 := clS_len P ns (T + 1) 900 (fun r => by have := Nat.mul_le_mul (hNs.out r) (hNs.out r); omega) k
      have h2 := clR_len (P k) (ns k) k t
      have h3 := Nat.mul_le_mul (hNs.out k) (hNs.out k)
      have h4 : k * ((T + 1) * 900) ≤ 60 * (61 * 900) := Nat.mul_le_mul (by omega) (Nat.mul_le_mul (by omega) (Nat.le_refl _))
      have h5 : t * (ns k * ns k) ≤ 61 * 900 := Nat.mul_le_mul (by omega) h3
      omega)
     rw [hA2.out] at Hl
     have hEI : (EV : Int) = ((F.length : Nat) : Int) := by rw [hEF]
     obtain ⟨ln, hln⟩ : ∃ q, Hid (l.length = q) := ⟨_, Lib.hid rfl⟩
     rw [hln.out] at hlm ⊢
     clear hrow hei hEI
     have HEF := Lib.hid hEF
     clear hEF
     go_wp2_with (fail)
     rw [← hln.out]
     clear hln hlm ce
     go_loopw [4, 30] (fun sv iv wr => ∃ (i : Nat) (a : Option Addr) (c : Nat) (l : List Cl4), i ≤ EV ∧ iv = .int .i64 (i : Int) ∧ sv = .slice a l.length c ∧ Hid (l = A2 ++ (prTo (fun _ => true) F i).map (fun x => (k, t, x.1, x.2))) ∧ Hid (OwnCl wr base a c l) ∧ Hid (TkA wr base g5 (T + 1) es) ∧ Below base V3 wr) (fun _ iv _ => EV - (RowKit.intOf iv).toNat)
     case atStart => exact ⟨0, a, c, l, Nat.zero_le _, rfl, rfl, Lib.hid (by rw [Hl.out]; simp [prTo]), HO, HE, hbr⟩
     case round =>
      clear Hl HO HE hbr
      obtain ⟨i, a, c, l, hi, rfl, rfl, Hl, HO, HE, hbr⟩ := hrel
      obtain ⟨U3, rfl⟩ : ∃ U, U = wr := ⟨_, rfl⟩
      have hlm := HO.out.le
      have hEF := HEF.out
      by_cases hlti : i < EV
      ·have hiI : (i : Int) < (EV : Int) := by omega
       have hiI0 : (0 : Int) ≤ (i : Int) := by omega
       have hrw := HE.out.alts.nms _ (List.getElem_mem hte)
       rw [hev.out] at hrw
       have hil : i < evl.length := by rw [hEVl.out]; exact hlti
       obtain ⟨b, bo, hb⟩ := hrw.at_ i (by rw [List.length_map]; exact hil)
       have cb := hrw.cell b bo hb i (by rw [List.length_map]; exact hil)
       rw [List.getElem_map] at cb
       have hiF : i < F.length := by omega
       have hbv : evl[i] = ((F[i] : Nat) : Int) := by simp only [Hevl.out, List.getElem_map]
       have hfe : F.getD i 0 = F[i] := by rw [List.getD_eq_getElem?_getD, List.getElem?_eq_getElem hiF]; rfl
       obtain ⟨fi, hfi⟩ : ∃ q, Hid (F.getD i 0 = q) := ⟨_, Lib.hid rfl⟩
       rw [hbv, ← hfe, hfi.out] at cb
       have hblb := World.block_lt_of_cell? _ _ cb
       try dsimp only at hb
       subst hb
       obtain ⟨A3, hA3⟩ : ∃ q, Hid (A2 ++ (prTo (fun _ => true) F i).map (fun x => (k, t, x.1, x.2)) = q) := ⟨_, Lib.hid rfl⟩
       have hA3 : Hid (A3 = A2 ++ (prTo (fun _ => true) F i).map (fun x => (k, t, x.1, x.2))) := Lib.hid hA3.out.symm
       have HA3 : Hid (A3.length ≤ 3600000) := Lib.hid (by
        rw [hA3.out, List.length_append, List.length_map]
        have h1 := HA2.out
        have h2 := prTo_len (fun _ => true) F i
        have h3 : i * F.length ≤ 30 * 30 := Nat.mul_le_mul (by omega) hFl
        omega)
       rw [← hA3.out] at Hl
       have hw1 : IntKind.i64.wrap ((i : Int) + 1) = (i : Int) + 1 := IntWalk.i64_in _ (by omega)
       have hle1 : (i : Int) + 1 ≤ (EV : Int) := by omega
       have hle0 : (0 : Int) ≤ (i : Int) + 1 := by omega
       clear hbv hfe hrw
       by_cases hce : evc = i + 1
       ·have hEe : EV = i + 1 := by omega
        have hcI : (evc : Int) = (i : Int) + 1 := by omega
        obtain ⟨ln, hln⟩ : ∃ q, Hid (l.length = q) := ⟨_, Lib.hid rfl⟩
        rw [hln.out] at hlm ⊢
        go_wp2_with (fail)
        rw [← hln.out]
        clear hln cb hblb
        go_loopw [4, 40] (fun sv jv wr => ∃ (j : Nat) (a : Option Addr) (c : Nat) (l : List Cl4), j ≤ EV - (i + 1) ∧ jv = .int .i64 (j : Int) ∧ sv = .slice a l.length c ∧ Hid (l = A3 ++ (((F.drop (i + 1)).take j).map (fun b => (k, t, F.getD i 0, b)))) ∧ Hid (OwnCl wr base a c l) ∧ Hid (TkA wr base g5 (T + 1) es) ∧ Below base V3 wr) (fun _ jv _ => EV - (i + 1) - (RowKit.intOf jv).toNat)
        case atStart => exact ⟨0, a, c, l, Nat.zero_le _, rfl, rfl, Lib.hid (by rw [Hl.out]; simp), HO, HE, hbr⟩
        case round =>
         clear Hl HO HE hbr hlm
         obtain ⟨j, a, c, l, hj, rfl, rfl, Hl, HO, HE, hbr⟩ := hrel
         obtain ⟨U4, rfl⟩ : ∃ U, U = wr := ⟨_, rfl⟩
         have hlm := HO.out.le
         have Hlen := Lib.hid (show l.length ≤ 4000000 from by
          rw [Hl.out, List.length_append, List.length_map, List.length_take]
          have h1 := HA3.out
          have h2 : j ≤ 30 := by omega
          omega)
         by_cases hltj : j < EV - (i + 1)
         ·have hjI : (j : Int) < (EV : Int) - ((i : Int) + 1) := by omega
          have hjI2 : (j : Int) < ((EV - (i + 1) : Nat) : Int) := by omega
          have hjI0 : (0 : Int) ≤ (j : Int) := by omega
          have hjl : i + 1 + j < F.length := by omega
          have hte : t < es.length := by rw [HE.out.len]; exact hltt
          have hrw := HE.out.alts.nms _ (List.getElem_mem hte)
          rw [hev.out] at hrw
          have hjl2 : i + 1 + j < evl.length := by rw [hEVl.out]; omega
          have cb := hrw.cell b bo rfl (i + 1 + j) (by rw [List.length_map]; exact hjl2)
          rw [List.getElem_map] at cb
          have hbv : evl[i + 1 + j] = ((F[i + 1 + j] : Nat) : Int) := by simp only [Hevl.out, List.getElem_map]
          rw [hbv, show bo + (i + 1 + j) = bo + (i + 1) + j by omega] at cb
          have hblb := World.block_lt_of_cell? _ _ cb
          have hdj : ((F.drop (i + 1)).take (j + 1)) = (F.drop (i + 1)).take j ++ [F[i + 1 + j]] := by
           rw [List.take_add_one, List.getElem?_drop, List.getElem?_eq_getElem hjl]
           try rfl
          have hai : F.getD i 0 = F[i]'(by omega) := by rw [List.getD_eq_getElem?_getD, List.getElem?_eq_getElem (by omega)]; rfl
          have hbn : base ≤ U4.heap.size := by have := hbr.size; omega
          obtain ⟨a2, c2, w6, hrun, ho2, hb6, hE6⟩ := HO.out.push (k, t, F.getD i 0, F[i + 1 + j]) 47 (by have := Hlen.out; omega) hbn
          dsimp only at hrun
          have Hl2 : Hid (l ++ [(k, t, F.getD i 0, F[i + 1 + j])] = A3 ++ (((F.drop (i + 1)).take (j + 1)).map (fun b => (k, t, F.getD i 0, b)))) := Lib.hid (by rw [hdj, List.map_append, ← List.append_assoc, ← Hl.out]; rfl)
          have HO2 := Lib.hid ho2
          have HE2 := Lib.hid (hE6 _ _ _ _ HE.out)
          have Hb2 := Lib.hid (hbr.trans hb6)
          have Hln : Hid ((l ++ [(k, t, F.getD i 0, F[i + 1 + j])]).length = l.length + 1) := Lib.hid (by simp)
          obtain ⟨fb, hfb⟩ : ∃ q, Hid (F[i + 1 + j] = q) := ⟨_, Lib.hid rfl⟩
          rw [hfb.out] at cb hrun Hl2 HO2 Hln
          rw [hfi.out] at hrun Hl2 HO2 Hln
          obtain ⟨L2, hL2⟩ : ∃ q, Hid (l ++ [(k, t, fi, fb)] = q) := ⟨_, Lib.hid rfl⟩
          rw [hL2.out] at Hl2 HO2 Hln
          obtain ⟨ln, hln⟩ : ∃ q, Hid (l.length = q) := ⟨_, Lib.hid rfl⟩
          rw [hln.out] at hrun hlm Hln ⊢
          have Hrun := Lib.hid hrun
          clear hrun ho2 hb6 hE6 hdj hai hbv hrw hL2
          go_wp2_with (at_builtin; refine wpList_append_run rfl _ _ 47 47 rfl _ _ _ _ rfl rfl Hrun.out ?_)
          all_goals exact ⟨⟨j + 1, a2, c2, L2, by omega, by go_num, by rw [Hln.out], Lib.hid (by rw [hfi.out]; exact Hl2.out), HO2, HE2, Hb2.out⟩, by simp [RowKit.intOf]; omega⟩
         ·have hje : j = EV - (i + 1) := by omega
          have hjI : ¬ (j : Int) < (EV : Int) - ((i : Int) + 1) := by omega
          have hjI2 : ¬ (j : Int) < ((EV - (i + 1) : Nat) : Int) := by omega
          have Hl2 : Hid (l = A2 ++ (prTo (fun _ => true) F (i + 1)).map (fun x => (k, t, x.1, x.2))) := Lib.hid (by
           rw [Hl.out, hA3.out, prTo_snoc, List.map_append, ← List.append_assoc]
           congr 1
           unfold prAt
           rw [if_pos rfl, List.filter_eq_self.2 (fun _ _ => rfl), List.map_map, List.take_of_length_le (by rw [List.length_drop]; omega)]
           rfl)
          clear hje
          go_wp2_with (fail)
          first | exact ⟨⟨i + 1, a, c, l, by omega, by go_num, rfl, Hl2, HO, HE, hbr⟩, by simp [RowKit.intOf]; omega⟩ | exact ⟨⟨_, _, _, _, _, ⟨i + 1, by omega, rfl, a, c, l, rfl, Hl2, HO⟩, rfl, rfl, rfl, rfl, by go_num⟩, by simp [RowKit.intOf]; omega⟩
       ·have hcI : ¬ (evc : Int) = (i : Int) + 1 := by omega
        obtain ⟨ln, hln⟩ : ∃ q, Hid (l.length = q) := ⟨_, Lib.hid rfl⟩
        rw [hln.out] at hlm ⊢
        go_wp2_with (fail)
        rw [← hln.out]
        clear hln cb hblb
        go_loopw [4, 40] (fun sv jv wr => ∃ (j : Nat) (a : Option Addr) (c : Nat) (l : List Cl4), j ≤ EV - (i + 1) ∧ jv = .int .i64 (j : Int) ∧ sv = .slice a l.length c ∧ Hid (l = A3 ++ (((F.drop (i + 1)).take j).map (fun b => (k, t, F.getD i 0, b)))) ∧ Hid (OwnCl wr base a c l) ∧ Hid (TkA wr base g5 (T + 1) es) ∧ Below base V3 wr) (fun _ jv _ => EV - (i + 1) - (RowKit.intOf jv).toNat)
        case atStart => exact ⟨0, a, c, l, Nat.zero_le _, rfl, rfl, Lib.hid (by rw [Hl.out]; simp), HO, HE, hbr⟩
        case round =>
         clear Hl HO HE hbr hlm
         obtain ⟨j, a, c, l, hj, rfl, rfl, Hl, HO, HE, hbr⟩ := hrel
         obtain ⟨U4, rfl⟩ : ∃ U, U = wr := ⟨_, rfl⟩
         have hlm := HO.out.le
         have Hlen := Lib.hid (show l.length ≤ 4000000 from by
          rw [Hl.out, List.length_append, List.length_map, List.length_take]
          have h1 := HA3.out
          have h2 : j ≤ 30 := by omega
          omega)
         by_cases hltj : j < EV - (i + 1)
         ·have hjI : (j : Int) < (EV : Int) - ((i : Int) + 1) := by omega
          have hjI2 : (j : Int) < ((EV - (i + 1) : Nat) : Int) := by omega
          have hjI0 : (0 : Int) ≤ (j : Int) := by omega
          have hjl : i + 1 + j < F.length := by omega
          have hte : t < es.length := by rw [HE.out.len]; exact hltt
          have hrw := HE.out.alts.nms _ (List.getElem_mem hte)
          rw [hev.out] at hrw
          have hjl2 : i + 1 + j < evl.length := by rw [hEVl.out]; omega
          have cb := hrw.cell b bo rfl (i + 1 + j) (by rw [List.length_map]; exact hjl2)
          rw [List.getElem_map] at cb
          have hbv : evl[i + 1 + j] = ((F[i + 1 + j] : Nat) : Int) := by simp only [Hevl.out, List.getElem_map]
          rw [hbv, show bo + (i + 1 + j) = bo + (i + 1) + j by omega] at cb
          have hblb := World.block_lt_of_cell? _ _ cb
          have hdj : ((F.drop (i + 1)).take (j + 1)) = (F.drop (i + 1)).take j ++ [F[i + 1 + j]] := by
           rw [List.take_add_one, List.getElem?_drop, List.getElem?_eq_getElem hjl]
           try rfl
          have hai : F.getD i 0 = F[i]'(by omega) := by rw [List.getD_eq_getElem?_getD, List.getElem?_eq_getElem (by omega)]; rfl
          have hbn : base ≤ U4.heap.size := by have := hbr.size; omega
          obtain ⟨a2, c2, w6, hrun, ho2, hb6, hE6⟩ := HO.out.push (k, t, F.getD i 0, F[i + 1 + j]) 47 (by have := Hlen.out; omega) hbn
          dsimp only at hrun
          have Hl2 : Hid (l ++ [(k, t, F.getD i 0, F[i + 1 + j])] = A3 ++ (((F.drop (i + 1)).take (j + 1)).map (fun b => (k, t, F.getD i 0, b)))) := Lib.hid (by rw [hdj, List.map_append, ← List.append_assoc, ← Hl.out]; rfl)
          have HO2 := Lib.hid ho2
          have HE2 := Lib.hid (hE6 _ _ _ _ HE.out)
          have Hb2 := Lib.hid (hbr.trans hb6)
          have Hln : Hid ((l ++ [(k, t, F.getD i 0, F[i + 1 + j])]).length = l.length + 1) := Lib.hid (by simp)
          obtain ⟨fb, hfb⟩ : ∃ q, Hid (F[i + 1 + j] = q) := ⟨_, Lib.hid rfl⟩
          rw [hfb.out] at cb hrun Hl2 HO2 Hln
          rw [hfi.out] at hrun Hl2 HO2 Hln
          obtain ⟨L2, hL2⟩ : ∃ q, Hid (l ++ [(k, t, fi, fb)] = q) := ⟨_, Lib.hid rfl⟩
          rw [hL2.out] at Hl2 HO2 Hln
          obtain ⟨ln, hln⟩ : ∃ q, Hid (l.length = q) := ⟨_, Lib.hid rfl⟩
          rw [hln.out] at hrun hlm Hln ⊢
          have Hrun := Lib.hid hrun
          clear hrun ho2 hb6 hE6 hdj hai hbv hrw hL2
          go_wp2_with (at_builtin; refine wpList_append_run rfl _ _ 47 47 rfl _ _ _ _ rfl rfl Hrun.out ?_)
          all_goals exact ⟨⟨j + 1, a2, c2, L2, by omega, by go_num, by rw [Hln.out], Lib.hid (by rw [hfi.out]; exact Hl2.out), HO2, HE2, Hb2.out⟩, by simp [RowKit.intOf]; omega⟩
         ·have hje : j = EV - (i + 1) := by omega
          have hjI : ¬ (j : Int) < (EV : Int) - ((i : Int) + 1) := by omega
          have hjI2 : ¬ (j : Int) < ((EV - (i + 1) : Nat) : Int) := by omega
          have Hl2 : Hid (l = A2 ++ (prTo (fun _ => true) F (i + 1)).map (fun x => (k, t, x.1, x.2))) := Lib.hid (by
           rw [Hl.out, hA3.out, prTo_snoc, List.map_append, ← List.append_assoc]
           congr 1
           unfold prAt
           rw [if_pos rfl, List.filter_eq_self.2 (fun _ _ => rfl), List.map_map, List.take_of_length_le (by rw [List.length_drop]; omega)]
           rfl)
          clear hje
          go_wp2_with (fail)
          first | exact ⟨⟨i + 1, a, c, l, by omega, by go_num, rfl, Hl2, HO, HE, hbr⟩, by simp [RowKit.intOf]; omega⟩ | exact ⟨⟨_, _, _, _, _, ⟨i + 1, by omega, rfl, a, c, l, rfl, Hl2, HO⟩, rfl, rfl, rfl, rfl, by go_num⟩, by simp [RowKit.intOf]; omega⟩
      ·have hie : i = EV := by omega
       have hiI : ¬ (i : Int) < (EV : Int) := by omega
       have Hl2 : Hid (l = A1 ++ clR (P k) (ns k) k (t + 1)) := Lib.hid (by
        rw [Hl.out, clR_snoc, ← List.append_assoc, hA2.out, hie, hEF, prTo_is, ← hF.out, prF_filter]
        rfl)
       clear hie
       go_wp2_with (fail)
       exact ⟨⟨t + 1, a, c, l, by omega, by go_num, rfl, Hl2, HO, HE, hbr⟩, by simp [RowKit.intOf]; omega⟩
    ·have hte : t = T + 1 := by omega
     have htI : ¬ (t : Int) < (T : Int) + 1 := by omega
     have htI1 : ¬ (t : Int) < ((T + 1 : Nat) : Int) := by omega
     have Hl2 : Hid (l = clS P ns (T + 1) (k + 1)) := Lib.hid (by rw [Hl.out, clS_snoc, hA1.out, hte])
     clear hte
     go_wp2_with (fail)
     exact ⟨⟨k + 1, a, c, l, by omega, by go_num, rfl, Hl2, HO, hbr⟩, by simp [RowKit.intOf]; omega⟩
  ·have hke : k = L := by omega
   have hkI : ¬ (k : Int) < (L : Int) := by omega
   have hbr3 : Below V3.heap.size V3 U := by rw [hbase.out]; exact hbr
   have Hfin := Lib.hid (HQ.out U a c l (by rw [Hl.out, hke]) (own_mono HO.out hwb) (Hb3.out.trans (hbr3.mono Hb3.out.size)))
   obtain ⟨ln, hln⟩ : ∃ q, Hid (l.length = q) := ⟨_, Lib.hid rfl⟩
   rw [hln.out] at hlm Hfin ⊢
   clear hke hbr3
   go_wp2_with (fail)
   first | exact Hfin.out | exact bodyPost_ret (v := .slice a ln c) (by simp [results, Try.results36, go_sem]; try first | rfl | assumption | omega) rfl Hfin.out
end Go.Proofs.Ytldmgifphkpdlaa
