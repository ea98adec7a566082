/- Texts joined: Ff. -/
import Derived.Test.YthogiakfbgehnaaRDAm
set_option linter.unusedVariables false
set_option linter.unusedSimpArgs false
namespace Go.Proofs.Ythogiakfbgehnaa
open Go.RowKit Go.Maps
attribute [local go_sem] Oper.semAt_some
set_option maxRecDepth 100000 in
set_option maxHeartbeats 16000000 in
theorem refFollow9_any (d : CfD) (w : World) (hd : CfAt w d) (hf : FitC d) :
 Calls Try.prog 24 #[d.v] w (LstQ w d.alts.length (fun r => FolP (d.alts.map IrD.p) (nulB (d.alts.map IrD.p)) d.toks.length r)) := by
 have hAl : Hid (∀ k (h : k < d.alts.length), (d.alts.map IrD.p).getD k [] = (d.alts[k]).ds.map (fun x => x.l)) := Lib.hid (fun k h => by
  rw [List.getD_eq_getElem?_getD, List.getElem?_map, List.getElem?_eq_getElem h]
  rfl)
 have hAo : Hid (∀ r, d.alts.length ≤ r → (d.alts.map IrD.p).getD r [] = []) := Lib.hid (fun r h => by
  rw [List.getD_eq_getElem?_getD, List.getElem?_eq_none (by rw [List.length_map]; exact h)]
  rfl)
 have hpl : (d.alts.map IrD.p).length = d.alts.length := List.length_map _
 have Htk : Hid (∀ l : List Int, (∀ y ∈ l, -(d.alts.length : Int) ≤ y ∧ y < d.toks.length) → ∀ t, TokP (d.alts.map IrD.p) (nulB (d.alts.map IrD.p)) l t → 0 ≤ t ∧ t ≤ 100) := Lib.hid (fun l hl t ht => tok_near hf (l := l) hl ht)
 have HPb : Hid (∀ (r : Nat) t, TokP (d.alts.map IrD.p) (nulB (d.alts.map IrD.p)) [-1 - (r : Int)] t → 0 ≤ t ∧ t ≤ 100) := Lib.hid (fun r t ht => by
  by_cases hr : r < d.alts.length
  ·exact tok_near hf (l := [-1 - (r : Int)]) (fun x hx => by rw [List.mem_singleton] at hx; subst hx; omega) ht
  ·refine ⟨ht.1, ?_⟩
   exfalso
   exact tok_none (by rw [hpl]; omega) ht)
 have Hfn : Hid (∀ (r : Nat) t, FolP (d.alts.map IrD.p) (nulB (d.alts.map IrD.p)) d.toks.length r t → 0 ≤ t ∧ t ≤ 100) := Lib.hid (fun r t ht => fol_near hf ht)
 have Hnul := Lib.hid (fun W (hb : Below w.heap.size w W) => nul9_any d W (hd.grown hb) hf)
 have Hfir := Lib.hid (fun W (hb : Below w.heap.size w W) => first9_any d W (hd.grown hb) hf)
 have Hrule := Lib.hid (fun x (hx : -(d.alts.length : Int) ≤ x ∧ x ≤ 1000000000) W (hb : Below w.heap.size w W) => rule9_any d x W (hd.grown hb) hx (by have := hf.r; omega))
 have Hemp := Lib.hid (fun (s : List Int) sa sc na nc (f : Nat → Bool) W (hb : Below w.heap.size w W) (hs : Ints W sa sc s) (hn : BlsF W na nc d.alts.length f) (hx : ∀ x ∈ s, -(d.alts.length : Int) ≤ x ∧ x ≤ 1000000000) => emp9_any d s sa sc na nc f W (hd.grown hb) hs hn hx (by have := hf.r; omega))
 have Hlead := Lib.hid (fun (s : List Int) sa sc na nc (f : Nat → Bool) ka kc ds K W (hb : Below w.heap.size w W) (hs : Ints W sa sc s) (hn : BlsF W na nc d.alts.length f) (hx : ∀ x ∈ s, -(d.alts.length : Int) ≤ x ∧ x ≤ 100) (hk : AltsI W ka kc ds) (hkl : ds.length = d.alts.length) (hK : ∀ r (h : r < ds.length), Ris ds[r].l (K r)) (hKb : ∀ r t, K r t → 0 ≤ t ∧ t ≤ 100) => lead9_any d s sa sc na nc f ka kc ds K W (hd.grown hb) hs hn hx (by have := hf.r; omega) hk hkl hK hKb)
 obtain ⟨xt, xta, xtc, xn, xna, xnc, xa, xaa, xac⟩ := d
 obtain ⟨hx1, hx2, hx3, hx4⟩ := hd
 obtain ⟨hf1, hf2, hf3, hf4, hf5⟩ := hf
 dsimp only [CfD.v] at *
 have hxm : xa.length ≤ xac ∧ xac ≤ 9223372036854775807 := ⟨by have := hx3.le; rwa [List.length_map] at this, hx3.max⟩
 have htm : xt.length ≤ xtc ∧ xtc ≤ 9223372036854775807 := ⟨by have := hx1.le; rwa [List.length_map] at this, hx1.max⟩
 have HX3 := Lib.hid hx3
 have HX4 := Lib.hid hx4
 have HF4 := Lib.hid hf4
 have HF5c := Lib.hid hf5
 obtain ⟨al, hal9⟩ : ∃ q, Hid (xa.map IrD.p = q) := ⟨_, Lib.hid rfl⟩
 rw [hal9.out] at hAl hAo hpl Htk HPb Hfn Hnul Hfir ⊢
 obtain ⟨f, hf9⟩ : ∃ q, Hid (nulB al = q) := ⟨_, Lib.hid rfl⟩
 rw [hf9.out] at Htk HPb Hfn Hnul Hfir ⊢
 obtain ⟨P0, hP0⟩ : ∃ q : Nat → Int → Prop, Hid ((fun (r : Nat) t => TokP al f [-1 - (r : Int)] t) = q) := ⟨_, Lib.hid rfl⟩
 have HAP : Hid ((fun (r : Nat) t => TokP al f [-1 - (r : Int)] t) = P0) := hP0
 have HPb : Hid (∀ r t, P0 r t → 0 ≤ t ∧ t ≤ 100) := Lib.hid (by rw [← hP0.out]; exact HPb.out)
 rw [show (fun r : Nat => TokP al f [-1 - (r : Int)]) = P0 from hP0.out] at Hfir
 obtain ⟨P, hP⟩ : ∃ q : Nat → Int → Prop, Hid ((fun r : Nat => FolP al f xt.length r) = q) := ⟨_, Lib.hid rfl⟩
 have HP : Hid (∀ (r : Nat) t, FolP al f xt.length r t ↔ P r t) := Lib.hid (fun r t => Iff.of_eq (congrFun (congrFun hP.out r) t))
 rw [hP.out]
 obtain ⟨Q, hQ⟩ : ∃ Q, Hid (LstQ w xa.length P = Q) := ⟨_, Lib.hid rfl⟩
 rw [hQ.out]
 have hb1 : Below w.heap.size w (w.alloc (.cells #[.slice xta xt.length xtc, .slice xna xn.length xnc, .slice xaa xa.length xac] 25)) := (Below.refl _ w).alloc (Nat.le_refl _) _
 have hA := Blk.new w 25 #[.slice xta xt.length xtc, .slice xna xn.length xnc, .slice xaa xa.length xac]
 obtain ⟨T, HT⟩ : ∃ q, Hid (xt.length = q) := ⟨_, Lib.hid rfl⟩
 obtain ⟨N, HN⟩ : ∃ q, Hid (xn.length = q) := ⟨_, Lib.hid rfl⟩
 obtain ⟨L, HL⟩ : ∃ q, Hid (xa.length = q) := ⟨_, Lib.hid rfl⟩
 rw [HT.out, HN.out, HL.out] at hA hb1
 rw [HT.out, HN.out, HL.out]
 have x0 := hA.cell 0
 have x1 := hA.cell 1
 have x2 := hA.cell 2
 have xl := hA.lt
 simp only [List.getElem?_cons_zero, List.getElem?_cons_succ] at x0 x1 x2
 have HA := Lib.hid hA
 have Hb1 := Lib.hid hb1
 rw [HL.out] at hxm hf1 hf2 hQ hAo hpl
 rw [HL.out, HT.out] at HF5c Htk
 rw [HT.out] at hf3 Hfn HP htm
 rw [HT.out, HN.out, HL.out] at Hlead Hnul Hfir Hrule Hemp
 have HQ := Lib.hid hQ.out
 have Hpl := Lib.hid hpl
 obtain ⟨iO, hiO, hzO, hsO, hbO⟩ := info_parts info_rowI
 have Hmk := Lib.hid (fun (W : World) => run_makeSlice_full (P := Try.prog) (w := W) w.heap.size 32 35 iO (.slice none 0 0) 1 Try.underlying32 hiO hzO hsO .i64 .i64 L (by omega) (by rw [hbO]; omega) (by unfold maxLen; omega))
 have Hc1 := Lib.hid (Hnul.out _ Hb1.out)
 clear hA hx1 hx2 hx3 hx4 hf4 hf5 hQ hb1 hiO hzO hsO hbO Hnul hP hpl
 go_enter Try.func24, Try.ntmps24
 go_wp2_with (fail)
 obtain ⟨bx, hbx⟩ : ∃ q, Hid (w.heap.size = q) := ⟨_, Lib.hid rfl⟩
 have hbW : bx ≤ w.heap.size := by rw [hbx.out]; exact Nat.le_refl _
 have hbW2 : w.heap.size ≤ bx := by rw [hbx.out]; exact Nat.le_refl _
 rw [hbx.out] at HA x0 x1 x2 xl Hmk ⊢
 generalize hV : World.alloc w _ = V at HA x0 x1 x2 xl Hb1 Hc1 ⊢
 clear hV
 refine Hc1.out.mono ?_
 rintro e w2 ⟨na, nc, rfl, ho, hb⟩
 have Hn2 := Lib.hid ho.bls
 have HA2 := Lib.hid (HA.out.below hb HA.out.lt)
 have Hb2 := Lib.hid (Hb1.out.trans (hb.mono Hb1.out.size))
 clear x0 x1 x2 xl hb ho Hc1
 have x0 := HA2.out.cell 0
 have x1 := HA2.out.cell 1
 have x2 := HA2.out.cell 2
 have xl := HA2.out.lt
 simp only [List.getElem?_cons_zero, List.getElem?_cons_succ] at x0 x1 x2
 go_wp2_with (fail)
 refine (Hfir.out w2 Hb2.out).mono ?_
 rintro e w3 ⟨fa, fc, fs, rfl, hfl, hfa, hfr, hb⟩
 have Hfl := Lib.hid hfl
 have Hfr := Lib.hid hfr
 have Hfs3 := Lib.hid hfa
 have Hn3 := Lib.hid (Vs.grown Hn2.out hb)
 have HA3 := Lib.hid (HA2.out.below hb HA2.out.lt)
 have Hb3 := Lib.hid (Hb2.out.trans (hb.mono Hb2.out.size))
 clear x0 x1 x2 xl hb hfl hfa hfr Hfir
 have hnm : L ≤ nc ∧ nc ≤ 9223372036854775807 := ⟨by have := Hn3.out.le; simpa using this, Hn3.out.max⟩
 have hfm : L ≤ fc ∧ fc ≤ 9223372036854775807 := ⟨by have := Hfs3.out.row.le; rw [List.length_map, Hfl.out] at this; exact this, Hfs3.out.row.max⟩
 obtain ⟨w4, hrun4, ho4, hg4⟩ := Hmk.out w3 (Nat.le_trans hbW Hb3.out.size)
 rw [made_fill _ rfl] at ho4
 have hb34 := belowAt hg4 (B := w3.heap.size) (fun i e => by cases e) (Nat.le_refl _)
 have HA4 := Lib.hid (HA3.out.below hb34 HA3.out.lt)
 have Hb4 := Lib.hid hb34
 obtain ⟨g, hg⟩ : ∃ q, Hid (w3.heap.size = q) := ⟨_, Lib.hid rfl⟩
 have hbg : bx < g := by rw [← hg.out]; exact HA3.out.lt
 have hgb : w3.heap.size ≤ (⟨g, 0, none⟩ : Addr).block := by rw [hg.out]; exact Nat.le_refl _
 rw [hg.out] at hrun4 ho4
 have HF4w : Hid (FsA w4 bx g L (List.replicate L ⟨[], none, 0⟩)) := Lib.hid ⟨by rw [List.map_replicate]; exact ho4, List.length_replicate .., fun e he => by rw [List.mem_replicate] at he; rw [he.2]; exact Vs.nil _, fun e he b off h => by rw [List.mem_replicate] at he; rw [he.2] at h; cases h⟩
 have hr0 : ∀ r, rowL (List.replicate L ⟨[], none, 0⟩) r = [] := fun r => by
  by_cases h : r < L
  ·rw [rowL_at (by rw [List.length_replicate]; exact h)]; simp
  ·exact rowL_out (by rw [List.length_replicate]; omega)
 have hgW : g < w4.heap.size := (World.ownsRow.lt HF4w.out.own g rfl).2
 have hb5 : Below w4.heap.size w4 (w4.alloc (.cells #[.int .i64 (T : Int)] 3)) := (Below.refl _ w4).alloc (Nat.le_refl _) _
 have hsw : (w4.alloc (.cells #[.int .i64 (T : Int)] 3)).setCell ⟨g, 0, none⟩ (.slice (some ⟨w4.heap.size, 0, none⟩) 1 1) = (w4.setCell ⟨g, 0, none⟩ (.slice (some ⟨w4.heap.size, 0, none⟩) 1 1)).alloc (.cells #[.int .i64 (T : Int)] 3) := World.setCell_alloc_past _ _ _ _ hgW
 have HF5 : Hid (FsA ((w4.setCell ⟨g, 0, none⟩ (.slice (some ⟨w4.heap.size, 0, none⟩) 1 1)).alloc (.cells #[.int .i64 (T : Int)] 3)) bx g L ((List.replicate L ⟨[], none, 0⟩).set 0 ⟨[(T : Int)], some ⟨w4.heap.size, 0, none⟩, 1⟩)) := Lib.hid (by
  rw [← hsw]
  exact (HF4w.out.below hb5).set ⟨[(T : Int)], some ⟨w4.heap.size, 0, none⟩, 1⟩ (one_vs w4 T) (fun b off e => by injection e with e; injection e with e; omega))
 have Hb5 : Hid (Below w3.heap.size w3 ((w4.setCell ⟨g, 0, none⟩ (.slice (some ⟨w4.heap.size, 0, none⟩) 1 1)).alloc (.cells #[.int .i64 (T : Int)] 3))) := Lib.hid (by
  rw [← hsw]
  exact (Hb4.out.trans (hb5.mono Hb4.out.size)).setCell (p := ⟨g, 0, none⟩) hgb _)
 have hr5 : ∀ r, rowL ((List.replicate L ⟨[], none, 0⟩).set 0 ⟨[(T : Int)], some ⟨w4.heap.size, 0, none⟩, 1⟩) r = if r = 0 then [(T : Int)] else [] := fun r => by
  rw [rowL_set _ (by rw [List.length_replicate]; exact hf1), hr0]
 have HU5 : Hid (∀ r, (rowL ((List.replicate L ⟨[], none, 0⟩).set 0 ⟨[(T : Int)], some ⟨w4.heap.size, 0, none⟩, 1⟩) r).Pairwise (· < ·)) := Lib.hid (fun r => by rw [hr5]; split <;> simp)
 have HS5 : Hid (∀ r t, t ∈ rowL ((List.replicate L ⟨[], none, 0⟩).set 0 ⟨[(T : Int)], some ⟨w4.heap.size, 0, none⟩, 1⟩) r → FolP al f T r t) := Lib.hid (fun r t h => by
  rw [hr5] at h
  split at h
  ·next e => subst e; rw [List.mem_singleton] at h; subst h; exact fol_end
  ·cases h)
 have HT5 : Hid ((T : Int) ∈ rowL ((List.replicate L ⟨[], none, 0⟩).set 0 ⟨[(T : Int)], some ⟨w4.heap.size, 0, none⟩, 1⟩) 0) := Lib.hid (by rw [hr5]; simp)
 have Hfar : Hid (∀ (es : List IltD), es.length = L → (∀ r, (rowL es r).Pairwise (· < ·)) → (∀ r t, t ∈ rowL es r → FolP al f T r t) → szL es ≤ L * 300) := Lib.hid (fun es hl hu hs => by
  rw [← hl]
  refine szL_bound (fun e he => ?_)
  obtain ⟨r, hr, rfl⟩ := List.getElem_of_mem he
  have := ris_len101 (l := es[r].l) (P := fun t => t ∈ rowL es r) ⟨by have := hu r; rwa [rowL_at hr] at this, fun t => by rw [rowL_at hr]⟩ (fun t ht => Hfn.out r t (hs r t ht))
  exact this)
 generalize hes5 : (List.replicate L (⟨[], none, 0⟩ : IltD)).set 0 ⟨[(T : Int)], some ⟨w4.heap.size, 0, none⟩, 1⟩ = es5 at HF5 HU5 HS5 HT5
 have x0 := HA4.out.cell 0
 have x2 := HA3.out.cell 2
 have xl := HA3.out.lt
 have xl4 := HA4.out.lt
 simp only [List.getElem?_cons_zero, List.getElem?_cons_succ] at x0 x2
 have zf := own_frz (j := 0) HF4w.out.own
 have z0 := HF4w.out.alts.row.cell g 0 rfl 0 (by rw [List.length_map, List.length_replicate]; exact hf1)
 rw [List.getElem_map, Nat.zero_add, List.getElem_replicate] at z0
 change _ = some (Value.slice none 0 0) at z0
 have hlI0 : (0 : Int) < (L : Int) := by omega
 have hlI1 : (L : Int) > 0 := hlI0
 clear ho4 hg4 hb34 hr0 Hmk hr5 hes5 hsw hb5
 go_wp2_with (fail)
 generalize hW5 : World.alloc (World.setCell w4 _ _) _ = W5 at HF5 Hb5 ⊢
 clear hW5 hrun4 x0 x2 xl xl4 zf z0 hgW
 obtain ⟨CL, hCL⟩ : ∃ q : List IltD → Prop, Hid ((fun es : List IltD => ∀ r, ∀ a ∈ al.getD r [], ∀ i, FoD al f (rowL es) (rowL es) r a i) = q) := ⟨_, Lib.hid rfl⟩
 have HCL : Hid (∀ es : List IltD, (∀ r, ∀ a ∈ al.getD r [], ∀ i, FoD al f (rowL es) (rowL es) r a i) = CL es) := Lib.hid (fun es => congrFun hCL.out es)
 go_loopw [6] (fun sv wr => ∃ (hv : Int) (es : List IltD), sv = .int .i64 hv ∧ Hid (FsA wr bx g L es) ∧ Hid (∀ r, (rowL es r).Pairwise (· < ·)) ∧ Hid (∀ r t, t ∈ rowL es r → FolP al f T r t) ∧ Hid ((T : Int) ∈ rowL es 0) ∧ -1 ≤ hv ∧ hv ≤ szL es ∧ Hid (hv = szL es → CL es) ∧ Below w3.heap.size w3 wr) (fun sv _ => L * 300 + 2 - ((RowKit.intOf sv) + 1).toNat)
 case atStart => exact ⟨-1, _, rfl, HF5, HU5, HS5, HT5, by omega, by omega, Lib.hid (fun h => by omega), Hb5.out⟩
 case round =>
  clear HF5 HU5 HS5 HT5 Hb5
  obtain ⟨hv, es, rfl, HF, HU, HS, HT0, hv1, hv2, HH, hbr⟩ := hrel
  obtain ⟨U, rfl⟩ : ∃ U, U = wr := ⟨_, rfl⟩
  have hsz := Hfar.out es HF.out.len HU.out HS.out
  have Hsz := Lib.hid (size9_any es (some ⟨g, 0, none⟩) L U HF.out.alts (by omega))
  rw [HF.out.len] at Hsz
  obtain ⟨Z, hZ⟩ : ∃ q, Hid (szL es = q) := ⟨_, Lib.hid rfl⟩
  rw [hZ.out] at Hsz hsz hv2 HH
  by_cases he : hv = (Z : Int)
  ·have HC := HH.out he
   have Hfin : Hid (Q (.returned (.slice (some ⟨g, 0, none⟩) L L)) U) := Lib.hid (by
    rw [← HQ.out]
    rw [← HCL.out] at HC
    refine ⟨some ⟨g, 0, none⟩, L, es, rfl, HF.out.len, HF.out.alts, fun r h => ⟨by have := HU.out r; rwa [rowL_at h] at this, fun t => ?_⟩, Hb3.out.trans (hbr.mono Hb3.out.size)⟩
    rw [← HP.out, ← rowL_at h]
    exact ⟨HS.out r t, fun ht => fo_all HT0.out HC ht⟩)
   subst he
   clear HC HH
   go_wp2_with (fail)
   refine Hsz.out.mono ?_
   rintro e w4 ⟨rfl, rfl⟩
   go_wp2_with (fail)
   first | exact Hfin.out | exact bodyPost_ret (v := .slice (some ⟨g, 0, none⟩) L L) (by simp [results, Try.results24, go_sem]; try first | rfl | assumption | omega) rfl Hfin.out
  ·have hne : (hv != (Z : Int)) = true := by rw [bne_iff_ne]; exact he
   have HAu := Lib.hid (HA3.out.below hbr HA3.out.lt)
   have x2 := HAu.out.cell 2
   have xl := HAu.out.lt
   simp only [List.getElem?_cons_zero, List.getElem?_cons_succ] at x2
   have HK0 := Lib.hid (FoK.start (al := al) (f := f) (T := T) HU.out HS.out)
   have hesl : Hid (es.length = L) := Lib.hid HF.out.len
   go_wp2_with (fail)
   refine Hsz.out.mono ?_
   rintro e w4 ⟨rfl, rfl⟩
   go_wp2_with (fail)
   refine Hsz.out.mono ?_
   rintro e w5 ⟨rfl, rfl⟩
   go_wp2_with (fail)
   clear x2 xl HAu
   go_loopw [40] (fun iv wr => ∃ (k : Nat) (es2 : List IltD), k ≤ L ∧ iv = .int .i64 (k : Int) ∧ Hid (FoK al f T (rowL es) (rowL es2) k 0 0) ∧ Hid (FsA wr bx g L es2) ∧ Below w3.heap.size w3 wr) (fun iv _ => L - (RowKit.intOf iv).toNat)
   case atStart => exact ⟨0, es, Nat.zero_le _, rfl, HK0, HF, hbr⟩
   case round =>
    clear HF hbr HK0 Hsz
    obtain ⟨k, es2, hk, rfl, HK, HF, hbr⟩ := hrel
    obtain ⟨U1, rfl⟩ : ∃ U, U = wr := ⟨_, rfl⟩
    by_cases hlt : k < L
    ·have hkI : (k : Int) < (L : Int) := by omega
     have hkI0 : (0 : Int) ≤ (k : Int) := by omega
     have hkl : k < xa.length := by rw [HL.out]; exact hlt
     have hrow := HX3.out.grown (Hb3.out.trans (hbr.mono Hb3.out.size))
     have hst := hAl.out k hkl
     obtain ⟨p, po, hp⟩ := hrow.at_ k (by rw [List.length_map]; exact hkl)
     have cp := hrow.cell p po hp k (by rw [List.length_map]; exact hkl)
     rw [List.getElem_map] at cp
     have hm : xa[k] ∈ xa := List.getElem_mem hkl
     obtain ⟨e, he⟩ : ∃ v, Hid (xa[k] = v) := ⟨_, Lib.hid rfl⟩
     rw [he.out] at cp hm hst
     have hblp := World.block_lt_of_cell? _ _ cp
     obtain ⟨ed, ea, ec⟩ := e
     change _ = some (Value.slice ea ed.length ec) at cp
     have hal : AltsI w ea ec ed := HX4.out _ hm
     have hdm : ed.length ≤ ec ∧ ec ≤ 9223372036854775807 := ⟨by have := hal.row.le; rwa [List.length_map] at this, hal.row.max⟩
     have hd30 : ed.length ≤ 30 := HF4.out _ hm
     have hok := Lib.hid (HF5c.out _ hm)
     have Hal := Lib.hid hal
     have Hst := Lib.hid hst
     obtain ⟨M, hM⟩ : ∃ q, Hid (ed.length = q) := ⟨_, Lib.hid rfl⟩
     rw [hM.out] at cp hdm hd30
     subst hp
     clear hm hal hrow hst
     go_wp2_with (fail)
     clear cp hblp
     go_loopw [47] (fun jv wr => ∃ (j : Nat) (es2 : List IltD), j ≤ M ∧ jv = .int .i64 (j : Int) ∧ Hid (FoK al f T (rowL es) (rowL es2) k j 0) ∧ Hid (FsA wr bx g L es2) ∧ Below w3.heap.size w3 wr) (fun jv _ => M - (RowKit.intOf jv).toNat)
     case atStart => exact ⟨0, es2, Nat.zero_le _, rfl, HK, HF, hbr⟩
     case round =>
      clear HK HF hbr
      obtain ⟨j, es2, hj, rfl, HK, HF, hbr⟩ := hrel
      obtain ⟨U2, rfl⟩ : ∃ U, U = wr := ⟨_, rfl⟩
      by_cases hltj : j < M
      ·have hjI : (j : Int) < (M : Int) := by omega
       have hjI0 : (0 : Int) ≤ (j : Int) := by omega
       have hjl : j < ed.length := by rw [hM.out]; exact hltj
       have hrow := Hal.out.row.grown (Hb3.out.trans (hbr.mono Hb3.out.size))
       have hok2 := hok.out _ (List.getElem_mem hjl)
       have hin : (al.getD k [])[j]? = some (ed[j]).l := by rw [Hst.out, List.getElem?_map, List.getElem?_eq_getElem hjl]; rfl
       have hnm := Hal.out.nms _ (List.getElem_mem hjl)
       obtain ⟨c, co, hc⟩ := hrow.at_ j (by rw [List.length_map]; exact hjl)
       have cc := hrow.cell c co hc j (by rw [List.length_map]; exact hjl)
       rw [List.getElem_map] at cc
       obtain ⟨e, he⟩ : ∃ v, Hid (ed[j] = v) := ⟨_, Lib.hid rfl⟩
       rw [he.out] at cc hok2 hin hnm
       have hblc := World.block_lt_of_cell? _ _ cc
       obtain ⟨el, ela, elc⟩ := e
       change _ = some (Value.slice ela el.length elc) at cc
       dsimp only at hok2 hin hnm
       have hem : el.length ≤ elc ∧ elc ≤ 9223372036854775807 := ⟨by have := hnm.le; rwa [List.length_map] at this, hnm.max⟩
       have Hok := Lib.hid hok2
       have Hnm := Lib.hid hnm
       have Hin := Lib.hid hin
       have hel := hok2.1
       obtain ⟨EL, hEL⟩ : ∃ q, Hid (el.length = q) := ⟨_, Lib.hid rfl⟩
       rw [hEL.out] at cc hem hel
       subst hc
       clear hrow hok2 hnm hin
       go_wp2_with (fail)
       clear cc hblc
       go_loopw [53] (fun iv wr => ∃ (i : Nat) (es2 : List IltD), i ≤ EL ∧ iv = .int .i64 (i : Int) ∧ Hid (FoK al f T (rowL es) (rowL es2) k j i) ∧ Hid (FsA wr bx g L es2) ∧ Below w3.heap.size w3 wr) (fun iv _ => EL - (RowKit.intOf iv).toNat)
       case atStart => exact ⟨0, es2, Nat.zero_le _, rfl, HK, HF, hbr⟩
       case round =>
        clear HK HF hbr
        obtain ⟨i, es2, hi, rfl, HK, HF, hbr⟩ := hrel
        obtain ⟨U3, rfl⟩ : ∃ U, U = wr := ⟨_, rfl⟩
        by_cases hlti : i < EL
        ·have hiI : (i : Int) < (EL : Int) := by omega
         have hiI0 : (0 : Int) ≤ (i : Int) := by omega
         have hil : i < el.length := by rw [hEL.out]; exact hlti
         have hrow := Hnm.out.grown (Hb3.out.trans (hbr.mono Hb3.out.size))
         obtain ⟨a, ao, ha⟩ := hrow.at_ i (by rw [List.length_map]; exact hil)
         have ca := hrow.cell a ao ha i (by rw [List.length_map]; exact hil)
         rw [List.getElem_map] at ca
         have hm := Hok.out.2 _ (List.getElem_mem hil)
         obtain ⟨x, hxv⟩ : ∃ v, Hid (el[i] = v) := ⟨_, Lib.hid rfl⟩
         rw [hxv.out] at ca hm
         have hbla := World.block_lt_of_cell? _ _ ca
         have Hru := Lib.hid (Hrule.out x ⟨hm.1, by have := hm.2; omega⟩ U3 (Hb3.out.trans (hbr.mono Hb3.out.size)))
         have HAu := Lib.hid (HA3.out.below hbr HA3.out.lt)
         have x0 := HAu.out.cell 0
         have x1 := HAu.out.cell 1
         have x2 := HAu.out.cell 2
         have xl := HAu.out.lt
         simp only [List.getElem?_cons_zero, List.getElem?_cons_succ] at x0 x1 x2
         have hxi : el[i]? = some x := by rw [List.getElem?_eq_getElem hil, hxv.out]
         by_cases h0 : x < 0
         ·obtain ⟨s, hsx⟩ : ∃ s : Nat, Hid (x = -1 - (s : Int)) := ⟨ruL x, Lib.hid (of_ruL h0).symm⟩
          have hsL : s < L := by have := hsx.out; have := hm.1; omega
          have hrs : ((ruL x : Nat) : Int) = (s : Int) := by rw [hsx.out, ruL_of]
          rw [if_pos h0, hrs] at Hru
          have hin2 : Hid (el[i]? = some (-1 - (s : Int))) := Lib.hid (by rw [hxi, hsx.out])
          have hsI : (s : Int) < (L : Int) := by omega
          have hsI0 : (0 : Int) ≤ (s : Int) := by omega
          have hsI1 : ¬ (s : Int) < 0 := by omega
          have hse : s < es2.length := by rw [HF.out.len]; exact hsL
          have hke : k < es2.length := by rw [HF.out.len]; exact hlt
          obtain ⟨sa2, hsae⟩ : ∃ sa2 : Option Addr, Hid (sa2 = (if elc = i + 1 then some ⟨a, ao, none⟩ else some ⟨a, ao + (i + 1), none⟩)) := ⟨_, Lib.hid rfl⟩
          have hsi : Ints w sa2 (elc - (i + 1)) (el.drop (i + 1)) := by
           rw [hsae.out]
           subst ha
           by_cases hce : elc = i + 1
           ·rw [if_pos hce, List.drop_eq_nil_of_le (by rw [hEL.out]; omega)]
            exact ints_end _ (by omega)
           ·rw [if_neg hce]
            exact ints_drop Hnm.out (i + 1) (by rw [hEL.out]; omega)
          have hdl : (el.drop (i + 1)).length = EL - (i + 1) := by rw [List.length_drop, hEL.out]
          have Hokd : Hid (∀ x ∈ el.drop (i + 1), -(L : Int) ≤ x ∧ x < T) := Lib.hid (fun x hx => Hok.out.2 x (List.mem_of_mem_drop hx))
          have Hemp2 := Lib.hid (fun W (hb : Below w3.heap.size w3 W) => Hemp.out (el.drop (i + 1)) sa2 (elc - (i + 1)) na nc f W (Hb3.out.trans (hb.mono Hb3.out.size)) (hsi.grown (Hb3.out.trans (hb.mono Hb3.out.size))) (Vs.grown Hn3.out hb) (fun x hx => ⟨(Hokd.out x hx).1, by have := (Hokd.out x hx).2; omega⟩))
          have Hlead2 := Lib.hid (fun W (hb : Below w3.heap.size w3 W) => Hlead.out (el.drop (i + 1)) sa2 (elc - (i + 1)) na nc f fa fc fs P0 W (Hb3.out.trans (hb.mono Hb3.out.size)) (hsi.grown (Hb3.out.trans (hb.mono Hb3.out.size))) (Vs.grown Hn3.out hb) (fun x hx => ⟨(Hokd.out x hx).1, by have := (Hokd.out x hx).2; omega⟩) (Hfs3.out.grown hb) Hfl.out (fun r h => Hfr.out r h) HPb.out)
          rw [Hfl.out, hdl] at Hlead2
          rw [hdl] at Hemp2
          obtain ⟨E, hE9⟩ : ∃ v, Hid (emp f (el.drop (i + 1)) = v) := ⟨_, Lib.hid rfl⟩
          rw [hE9.out] at Hemp2
          rw [hsae.out] at Hlead2 Hemp2
          have HKb : Hid (∀ r t, t ∈ rowL es2 r → 0 ≤ t ∧ t ≤ 100) := Lib.hid (fun r t ht => Hfn.out r t (HK.out.sound r t ht))
          have Hlb : Hid (∀ t, TokP al f (ahd f (el.drop (i + 1))) t → 0 ≤ t ∧ t ≤ 100) := Lib.hid (fun t ht => Htk.out (ahd f (el.drop (i + 1))) (fun y hy => Hokd.out y (ahd_sub hy)) t ht)
          have hw1 : IntKind.i64.wrap ((i : Int) + 1) = ((i + 1 : Nat) : Int) := by rw [show (i : Int) + 1 = ((i + 1 : Nat) : Int) by omega]; exact IntWalk.i64_in _ (by omega)
          have hle1 : (i : Int) + 1 ≤ (EL : Int) := by omega
          have hle0 : (0 : Int) ≤ (i : Int) + 1 := by omega
          subst ha
          clear hrow hm hsi hdl hxi hrs
          go_wp2_with (fail)
          refine Hru.out.mono ?_
          rintro e9 V4 ⟨rfl, hb9⟩
          have HF0 := Lib.hid (HF.out.below hb9)
          have HA0 := Lib.hid (HAu.out.below hb9 HAu.out.lt)
          have Hb0 := Lib.hid (hbr.trans (hb9.mono hbr.size))
          have HFd := Lib.hid (HF0.out.below (Below.refl _ V4).drew)
          have HAd := Lib.hid (HA0.out.below (Below.refl _ V4).drew HA0.out.lt)
          have Hbd := Lib.hid Hb0.out.drew
          have Hl := Lib.hid (Hlead2.out V4.drew Hbd.out)
          have ck := HFd.out.alts.row.cell g 0 rfl s (by rw [List.length_map]; exact hse)
          rw [List.getElem_map, Nat.zero_add] at ck
          have Hei := Lib.hid (HFd.out.ints _ (List.getElem_mem hse))
          have Hea := Lib.hid (HFd.out.apart _ (List.getElem_mem hse))
          have Her := Lib.hid (rowL_at hse)
          obtain ⟨u, hu⟩ : ∃ v, Hid (es2[s] = v) := ⟨_, Lib.hid rfl⟩
          rw [hu.out] at ck Hei Hea Her
          obtain ⟨ul, ua, uc⟩ := u
          change _ = some (Value.slice ua ul.length uc) at ck
          dsimp only at Hei Hea Her
          obtain ⟨UL, hUL⟩ : ∃ q, Hid (ul.length = q) := ⟨_, Lib.hid rfl⟩
          rw [hUL.out] at ck
          have HS0 : Hid (V4.drew.cell? ⟨bx, 0, none⟩ = some (.slice xta T xtc) ∧ V4.drew.cell? ⟨bx, 1, none⟩ = some (.slice xna N xnc) ∧ V4.drew.cell? ⟨bx, 2, none⟩ = some (.slice (some ⟨p, po, none⟩) L xac) ∧ V4.drew.cell? ⟨g, s, none⟩ = some (.slice ua UL uc)) := Lib.hid ⟨HAd.out.cell 0, HAd.out.cell 1, HAd.out.cell 2, ck⟩
          clear x0 x1 x2 xl ck hb9
          go_wp2_with (fail)
          refine region_till 16 (fun w' => w'.cell? ⟨bx, 0, none⟩ = some (.slice xta T xtc) ∧ w'.cell? ⟨bx, 1, none⟩ = some (.slice xna N xnc) ∧ w'.cell? ⟨bx, 2, none⟩ = some (.slice (some ⟨p, po, none⟩) L xac) ∧ w'.cell? ⟨g, s, none⟩ = some (.slice ua UL uc)) (by kernel_rfl) ?_
          refine till_takeY (i := 0) [15, 16] (v := ?_) (iatLS iatZS) (by kernel_rfl) (by kernel_rfl) (by kernel_rfl) (fun _ _ _ h => h) (by decide) (by kernel_rfl) (by decide) (by kernel_rfl) (Or.inl ⟨by rfl, ?_⟩) HS0.out ?_
          rotate_left
          ·intro w hSw
           try dsimp only at hSw
           go_simp
           all_goals with_reducible rfl
          try simp only [Act.put, List.setIfInBounds_toArray, List.set_cons_zero, List.set_cons_succ]
          refine till_takeY (i := 1) [15, 16] (v := ?_) (iatLS (iatSS iatZS)) (by kernel_rfl) (by kernel_rfl) (by kernel_rfl) (fun _ _ _ h => h) (by decide) (by kernel_rfl) (by decide) (by kernel_rfl) (Or.inl ⟨by rfl, ?_⟩) HS0.out ?_
          rotate_left
          ·intro w hSw
           try dsimp only at hSw
           go_simp
           all_goals with_reducible rfl
          try simp only [Act.put, List.setIfInBounds_toArray, List.set_cons_zero, List.set_cons_succ]
          refine till_takeY (i := 2) [4, 5, 14, 16] (v := ?_) (iatLS (iatSS (iatSS iatZS))) (by kernel_rfl) (by kernel_rfl) (by kernel_rfl) (fun _ _ _ h => h) (by decide) (by kernel_rfl) (by decide) (by kernel_rfl) (Or.inl ⟨by rfl, ?_⟩) HS0.out ?_
          rotate_left
          ·intro w hSw
           try dsimp only at hSw
           go_simp
           all_goals with_reducible rfl
          try simp only [Act.put, List.setIfInBounds_toArray, List.set_cons_zero, List.set_cons_succ]
          refine till_takeY (i := 3) [4, 5, 14, 16] (v := ?_) (iatLS (iatSS (iatSS (iatSS iatZS)))) (by kernel_rfl) (by kernel_rfl) (by kernel_rfl) (fun _ _ _ h => h) (by decide) (by kernel_rfl) (by decide) (by kernel_rfl) (Or.inl ⟨by rfl, ?_⟩) HS0.out ?_
          rotate_left
          ·intro w hSw
           try dsimp only at hSw
           go_simp
           all_goals with_reducible rfl
          try simp only [Act.put, List.setIfInBounds_toArray, List.set_cons_zero, List.set_cons_succ]
          refine till_takeY (i := 4) [5, 14, 16] (v := ?_) (iatLS (iatSS (iatSS (iatSS (iatSS iatZS))))) (by kernel_rfl) (by kernel_rfl) (by kernel_rfl) (fun _ _ _ h => h) (by decide) (by kernel_rfl) (by decide) (by kernel_rfl) (Or.inl ⟨by rfl, ?_⟩) HS0.out ?_
          rotate_left
          ·intro w hSw
           try dsimp only at hSw
           go_simp
           all_goals with_reducible rfl
          try simp only [Act.put, List.setIfInBounds_toArray, List.set_cons_zero, List.set_cons_succ]
          refine till_takeY (i := 5) [14, 16] (v := ?_) (iatLS (iatSS (iatSS (iatSS (iatSS (iatSS iatZS)))))) (by kernel_rfl) (by kernel_rfl) (by kernel_rfl) (fun _ _ _ h => h) (by decide) (by kernel_rfl) (by decide) (by kernel_rfl) (Or.inl ⟨by rfl, ?_⟩) HS0.out ?_
          rotate_left
          ·intro w hSw
           try dsimp only at hSw
           go_simp
           all_goals with_reducible rfl
          try simp only [Act.put, List.setIfInBounds_toArray, List.set_cons_zero, List.set_cons_succ]
          refine till_takeY (i := 6) [13, 14, 16] (v := ?_) (iatLS (iatSS (iatSS (iatSS (iatSS (iatSS (iatSS iatZS))))))) (by kernel_rfl) (by kernel_rfl) (by kernel_rfl) (fun _ _ _ h => h) (by decide) (by kernel_rfl) (by decide) (by kernel_rfl) (Or.inl ⟨by rfl, ?_⟩) HS0.out ?_
          rotate_left
          ·intro w hSw
           try dsimp only at hSw
           go_simp
           all_goals with_reducible rfl
          try simp only [Act.put, List.setIfInBounds_toArray, List.set_cons_zero, List.set_cons_succ]
          refine till_takeY (i := 7) [10, 13, 14, 16] (v := ?_) (iatLS (iatSS (iatSS (iatSS (iatSS (iatSS (iatSS (iatSS iatZS)))))))) (by kernel_rfl) (by kernel_rfl) (by kernel_rfl) (fun _ _ _ h => h) (by decide) (by kernel_rfl) (by decide) (by kernel_rfl) (Or.inl ⟨by rfl, ?_⟩) HS0.out ?_
          rotate_left
          ·intro w hSw
           try dsimp only at hSw
           go_simp
           all_goals with_reducible rfl
          try simp only [Act.put, List.setIfInBounds_toArray, List.set_cons_zero, List.set_cons_succ]
          refine till_takeY (i := 8) [9, 10, 13, 14, 16] (v := ?_) (iatLS (iatSS (iatSS (iatSS (iatSS (iatSS (iatSS (iatSS (iatSS iatZS))))))))) (by kernel_rfl) (by kernel_rfl) (by kernel_rfl) (fun _ _ _ h => h) (by decide) (by kernel_rfl) (by decide) (by kernel_rfl) (Or.inl ⟨by rfl, ?_⟩) HS0.out ?_
          rotate_left
          ·intro w hSw
           try dsimp only at hSw
           go_simp
           all_goals with_reducible rfl
          try simp only [Act.put, List.setIfInBounds_toArray, List.set_cons_zero, List.set_cons_succ]
          refine till_takeY (i := 9) [10, 13, 14, 16] (v := ?_) (iatLS (iatSS (iatSS (iatSS (iatSS (iatSS (iatSS (iatSS (iatSS (iatSS iatZS)))))))))) (by kernel_rfl) (by kernel_rfl) (by kernel_rfl) (fun _ _ _ h => h) (by decide) (by kernel_rfl) (by decide) (by kernel_rfl) (Or.inl ⟨by rfl, ?_⟩) HS0.out ?_
          rotate_left
          ·intro w hSw
           try dsimp only at hSw
           go_simp
           all_goals with_reducible rfl
          try simp only [Act.put, List.setIfInBounds_toArray, List.set_cons_zero, List.set_cons_succ]
          refine till_takeY (i := 10) [13, 14, 16] (v := ?_) (iatLS (iatSS (iatSS (iatSS (iatSS (iatSS (iatSS (iatSS (iatSS (iatSS (iatSS iatZS))))))))))) (by kernel_rfl) (by kernel_rfl) (by kernel_rfl) (fun _ _ _ h => h) (by decide) (by kernel_rfl) (by decide) (by kernel_rfl) (Or.inl ⟨by rfl, ?_⟩) HS0.out ?_
          rotate_left
          ·intro w hSw
           try dsimp only at hSw
           go_simp
           all_goals with_reducible rfl
          try simp only [Act.put, List.setIfInBounds_toArray, List.set_cons_zero, List.set_cons_succ]
          refine till_takeY (i := 11) [13, 14, 16] (v := ?_) (iatLS (iatSS (iatSS (iatSS (iatSS (iatSS (iatSS (iatSS (iatSS (iatSS (iatSS (iatSS iatZS)))))))))))) (by kernel_rfl) (by kernel_rfl) (by kernel_rfl) (fun _ _ _ h => h) (by decide) (by kernel_rfl) (by decide) (by kernel_rfl) (Or.inl ⟨by rfl, ?_⟩) HS0.out ?_
          rotate_left
          ·intro w hSw
           try dsimp only at hSw
           go_simp
           all_goals with_reducible rfl
          try simp only [Act.put, List.setIfInBounds_toArray, List.set_cons_zero, List.set_cons_succ]
          refine till_takeY (i := 12) [13, 14, 16] (v := ?_) (iatLS (iatSS (iatSS (iatSS (iatSS (iatSS (iatSS (iatSS (iatSS (iatSS (iatSS (iatSS (iatSS iatZS))))))))))))) (by kernel_rfl) (by kernel_rfl) (by kernel_rfl) (fun _ _ _ h => h) (by decide) (by kernel_rfl) (by decide) (by kernel_rfl) (Or.inl ⟨by rfl, ?_⟩) HS0.out ?_
          rotate_left
          ·intro w hSw
           try dsimp only at hSw
           go_simp
           all_goals with_reducible rfl
          try simp only [Act.put, List.setIfInBounds_toArray, List.set_cons_zero, List.set_cons_succ]
          refine till_ready (rs := [13]) (by kernel_rfl) (by simp) ?_
          refine TillAll.cons (iatLS (iatSS (iatSS (iatSS (iatSS (iatSS (iatSS (iatSS (iatSS (iatSS (iatSS (iatSS (iatSS (iatSS iatZS)))))))))))))) (fun K hK => ?_) TillAll.nil
          go_simp
          generalize hsaq : (if elc = i + 1 then some (⟨a, ao, none⟩ : Addr) else some ⟨a, ao + (i + 1), none⟩) = sa9 at Hl ⊢
          clear hsaq
          (with_reducible refine Hl.out.mono ?_)
          rintro e8 W5 ⟨la, lc, l, rfl, hli, hlr, hb5⟩
          have Hli := Lib.hid hli
          have Hlr : Hid (Ris l (TokP al f (ahd f (el.drop (i + 1))))) := Lib.hid (ris_or hlr (fun t => by rw [← HAP.out]; exact ld_tok))
          have HF5w := Lib.hid (HFd.out.below hb5)
          have HA5 := Lib.hid (HAd.out.below hb5 HAd.out.lt)
          have Hb5 := Lib.hid (Hbd.out.trans (hb5.mono Hbd.out.size))
          have Hei5 := Lib.hid (Hei.out.grown hb5)
          have ck5 := HF5w.out.alts.row.cell g 0 rfl s (by rw [List.length_map]; exact hse)
          rw [List.getElem_map, Nat.zero_add, hu.out] at ck5
          change _ = some (Value.slice ua ul.length uc) at ck5
          rw [hUL.out] at ck5
          have HS5 : Hid (W5.cell? ⟨bx, 0, none⟩ = some (.slice xta T xtc) ∧ W5.cell? ⟨bx, 1, none⟩ = some (.slice xna N xnc) ∧ W5.cell? ⟨bx, 2, none⟩ = some (.slice (some ⟨p, po, none⟩) L xac) ∧ W5.cell? ⟨g, s, none⟩ = some (.slice ua UL uc)) := Lib.hid ⟨HA5.out.cell 0, HA5.out.cell 1, HA5.out.cell 2, ck5⟩
          have Hall := Lib.hid (all9_any ul l ua la uc lc (fun t => t ∈ rowL es2 s) W5 Hei5.out Hli.out ⟨by have := HK.out.up s; rwa [Her.out] at this, fun t => by rw [Her.out]⟩ (fun t ht => HKb.out s t ht) (fun t ht => Hlb.out t ((Hlr.out.mem t).1 ht)))
          rw [hUL.out] at Hall
          obtain ⟨LL, hLL⟩ : ∃ q, Hid (l.length = q) := ⟨_, Lib.hid rfl⟩
          rw [hLL.out] at Hall ⊢
          clear hli hlr hb5 ck5
          try dsimp only
          refine hK.out _ _ ?_ ?_
          ·exact fun _ => HS5.out
          clear hK K
          try simp only [Act.put, List.setIfInBounds_toArray, List.set_cons_zero, List.set_cons_succ]
          refine till_ready (rs := [14]) (by kernel_rfl) (by simp) ?_
          refine TillAll.cons (iatLS (iatSS (iatSS (iatSS (iatSS (iatSS (iatSS (iatSS (iatSS (iatSS (iatSS (iatSS (iatSS (iatSS (iatSS iatZS))))))))))))))) (fun K hK => ?_) TillAll.nil
          go_simp
          (with_reducible refine Hall.out.mono ?_)
          rintro e8 W6 ⟨oa, oc, r2, rfl, hoi, hor, hof, hb6⟩
          have HF6 := Lib.hid (HF5w.out.below hb6)
          have HA6 := Lib.hid (HA5.out.below hb6 HA5.out.lt)
          have Hb6 := Lib.hid (Hb5.out.trans (hb6.mono Hb5.out.size))
          have hgW : g < W5.heap.size := (World.ownsRow.lt HF5w.out.own g rfl).2
          have hap : ∀ b off, oa = some ⟨b, off, none⟩ → g < b := fun b off e => by
           rcases hof with h | h
           ·subst h; exact Hea.out b off e
           ·exact Nat.lt_of_lt_of_le hgW (h b off e)
          have Hor := Lib.hid (ris_or hor (fun t => or_congr Iff.rfl (Hlr.out.mem t)))
          have HF7 : Hid (FsA (W6.setCell ⟨g, s, none⟩ (.slice oa r2.length oc)) bx g L (es2.set s ⟨r2, oa, oc⟩)) := Lib.hid (HF6.out.set ⟨r2, oa, oc⟩ hoi hap)
          have HA7 := Lib.hid (HA6.out.setOther (b' := g) (j := s) (by omega) (.slice oa r2.length oc))
          have Hb7 := Lib.hid (Hb6.out.setCell (p := ⟨g, s, none⟩) hgb (.slice oa r2.length oc))
          have z0 := HF6.out.alts.row.cell g 0 rfl s (by rw [List.length_map]; exact hse)
          rw [List.getElem_map, Nat.zero_add, hu.out] at z0
          change _ = some (Value.slice ua ul.length uc) at z0
          rw [hUL.out] at z0
          have HS6 : Hid (W6.cell? ⟨bx, 0, none⟩ = some (.slice xta T xtc) ∧ W6.cell? ⟨bx, 1, none⟩ = some (.slice xna N xnc) ∧ W6.cell? ⟨bx, 2, none⟩ = some (.slice (some ⟨p, po, none⟩) L xac) ∧ W6.cell? ⟨g, s, none⟩ = some (.slice ua UL uc)) := Lib.hid ⟨HA6.out.cell 0, HA6.out.cell 1, HA6.out.cell 2, z0⟩
          have zf := own_frz (j := s) HF6.out.own
          have zl : g < W6.heap.size := (World.ownsRow.lt HF6.out.own g rfl).2
          obtain ⟨RL, hRL⟩ : ∃ q, Hid (r2.length = q) := ⟨_, Lib.hid rfl⟩
          rw [hRL.out] at HF7 HA7 Hb7 ⊢
          clear hoi hor hof hb6 hap
          try dsimp only
          refine hK.out _ _ ?_ ?_
          ·exact fun _ => HS6.out
          clear hK K
          try simp only [Act.put, List.setIfInBounds_toArray, List.set_cons_zero, List.set_cons_succ]
          refine till_takeY (i := 15) [16] (v := ?_) (iatLS (iatSS (iatSS (iatSS (iatSS (iatSS (iatSS (iatSS (iatSS (iatSS (iatSS (iatSS (iatSS (iatSS (iatSS (iatSS iatZS)))))))))))))))) (by kernel_rfl) (by kernel_rfl) (by kernel_rfl) (fun _ _ _ h => h) (by decide) (by kernel_rfl) (by decide) (by kernel_rfl) (Or.inl ⟨by rfl, ?_⟩) HS6.out ?_
          rotate_left
          ·intro w hSw
           try dsimp only at hSw
           go_simp
           all_goals with_reducible rfl
          try simp only [Act.put, List.setIfInBounds_toArray, List.set_cons_zero, List.set_cons_succ]
          refine till_ready (rs := [16]) (by kernel_rfl) (by simp) ?_
          refine TillAll.cons (iatLS (iatSS (iatSS (iatSS (iatSS (iatSS (iatSS (iatSS (iatSS (iatSS (iatSS (iatSS (iatSS (iatSS (iatSS (iatSS (iatSS iatZS))))))))))))))))) (fun K hK => ?_) TillAll.nil
          go_simp
          generalize hW : World.setCell W6 _ _ = W7 at HF7 HA7 Hb7 ⊢
          clear hW z0 zf zl
          refine hK.out _ _ ?_ ?_
          ·exact fun h => nomatch (show (true : Bool) = false from h)
          clear hK K
          try simp only [Act.put, List.setIfInBounds_toArray, List.set_cons_zero, List.set_cons_succ]
          refine till_done (by kernel_rfl) ?_ _
          go_wp2_with (fail)
          have HF7d := Lib.hid (HF7.out.below (Below.refl _ W7).drew)
          have HA7d := Lib.hid (HA7.out.below (Below.refl _ W7).drew HA7.out.lt)
          have Hb7d := Lib.hid Hb7.out.drew
          have He2 := Lib.hid (Hemp2.out W7.drew Hb7d.out)
          have HS7 : Hid (W7.drew.cell? ⟨bx, 0, none⟩ = some (.slice xta T xtc) ∧ W7.drew.cell? ⟨bx, 1, none⟩ = some (.slice xna N xnc) ∧ W7.drew.cell? ⟨bx, 2, none⟩ = some (.slice (some ⟨p, po, none⟩) L xac)) := Lib.hid ⟨HA7d.out.cell 0, HA7d.out.cell 1, HA7d.out.cell 2⟩
          refine wp_region_held_drew (S := fun w' => w'.cell? ⟨bx, 0, none⟩ = some (.slice xta T xtc) ∧ w'.cell? ⟨bx, 1, none⟩ = some (.slice xna N xnc) ∧ w'.cell? ⟨bx, 2, none⟩ = some (.slice (some ⟨p, po, none⟩) L xac)) (by kernel_rfl) ?_ (fun hHeld => ?_)
          ·exact HS7.out
          refine wpAnyH_take (i := 0) (v := ?_) (iatLS iatZS) (by kernel_rfl) (by kernel_rfl) (by kernel_rfl) (fun _ _ _ h => h) (Or.inl ⟨by rfl, ?_⟩) (by assumption) ?_
          rotate_left
          ·intro w hSw
           try dsimp only at hSw
           go_simp
           all_goals with_reducible rfl
          try simp only [Act.put, List.setIfInBounds_toArray, List.set_cons_zero, List.set_cons_succ]
          refine wpAnyH_take (i := 1) (v := ?_) (iatLS (iatSS iatZS)) (by kernel_rfl) (by kernel_rfl) (by kernel_rfl) (fun _ _ _ h => h) (Or.inl ⟨by rfl, ?_⟩) (by assumption) ?_
          rotate_left
          ·intro w hSw
           try dsimp only at hSw
           go_simp
           all_goals with_reducible rfl
          try simp only [Act.put, List.setIfInBounds_toArray, List.set_cons_zero, List.set_cons_succ]
          refine wpAnyH_take (i := 2) (v := ?_) (iatLS (iatSS (iatSS iatZS))) (by kernel_rfl) (by kernel_rfl) (by kernel_rfl) (fun _ _ _ h => h) (Or.inl ⟨by rfl, ?_⟩) (by assumption) ?_
          rotate_left
          ·intro w hSw
           try dsimp only at hSw
           go_simp
           all_goals with_reducible rfl
          try simp only [Act.put, List.setIfInBounds_toArray, List.set_cons_zero, List.set_cons_succ]
          refine wpAnyH_take (i := 3) (v := ?_) (iatLS (iatSS (iatSS (iatSS iatZS)))) (by kernel_rfl) (by kernel_rfl) (by kernel_rfl) (fun _ _ _ h => h) (Or.inl ⟨by rfl, ?_⟩) (by assumption) ?_
          rotate_left
          ·intro w hSw
           try dsimp only at hSw
           go_simp
           all_goals with_reducible rfl
          try simp only [Act.put, List.setIfInBounds_toArray, List.set_cons_zero, List.set_cons_succ]
          refine wpAnyH_take (i := 4) (v := ?_) (iatLS (iatSS (iatSS (iatSS (iatSS iatZS))))) (by kernel_rfl) (by kernel_rfl) (by kernel_rfl) (fun _ _ _ h => h) (Or.inl ⟨by rfl, ?_⟩) (by assumption) ?_
          rotate_left
          ·intro w hSw
           try dsimp only at hSw
           go_simp
           all_goals with_reducible rfl
          try simp only [Act.put, List.setIfInBounds_toArray, List.set_cons_zero, List.set_cons_succ]
          refine wpAnyH_take (i := 5) (v := ?_) (iatLS (iatSS (iatSS (iatSS (iatSS (iatSS iatZS)))))) (by kernel_rfl) (by kernel_rfl) (by kernel_rfl) (fun _ _ _ h => h) (Or.inl ⟨by rfl, ?_⟩) (by assumption) ?_
          rotate_left
          ·intro w hSw
           try dsimp only at hSw
           go_simp
           all_goals with_reducible rfl
          try simp only [Act.put, List.setIfInBounds_toArray, List.set_cons_zero, List.set_cons_succ]
          refine wpAnyH_ready (rs := [6]) (by kernel_rfl) (by simp) ?_
          refine AllReadyH.cons (iatLS (iatSS (iatSS (iatSS (iatSS (iatSS (iatSS iatZS))))))) (fun K hK => ?_) AllReadyH.nil
          go_simp
          generalize hsaq : (if elc = i + 1 then some (⟨a, ao, none⟩ : Addr) else some ⟨a, ao + (i + 1), none⟩) = sa8 at He2 ⊢
          clear hsaq
          (with_reducible refine He2.out.mono ?_)
          rintro e8 W8 ⟨rfl, hb8⟩
          have HF8 := Lib.hid (HF7d.out.below hb8)
          have HA8 := Lib.hid (HA7d.out.below hb8 HA7d.out.lt)
          have Hb8 := Lib.hid (Hb7d.out.trans (hb8.mono Hb7d.out.size))
          have HS8 : Hid (W8.cell? ⟨bx, 0, none⟩ = some (.slice xta T xtc) ∧ W8.cell? ⟨bx, 1, none⟩ = some (.slice xna N xnc) ∧ W8.cell? ⟨bx, 2, none⟩ = some (.slice (some ⟨p, po, none⟩) L xac)) := Lib.hid ⟨HA8.out.cell 0, HA8.out.cell 1, HA8.out.cell 2⟩
          clear hb8
          try dsimp only
          refine hK.out _ _ ?_ (fun hHeld => ?_)
          ·exact HS8.out
          clear hK K
          try simp only [Act.put, List.setIfInBounds_toArray, List.set_cons_zero, List.set_cons_succ]
          refine wpAnyH_done (by kernel_rfl) ?_ _
          cases E
          ·go_wp2_with (fail)
           have HK8 : Hid (FoK al f T (rowL es) (rowL (es2.set s ⟨r2, oa, oc⟩)) k j (i + 1)) := Lib.hid (by
            have h1 := HK.out.put (by rw [Hpl.out]; exact hlt) Hin.out hin2.out (r2 := r2) Hor.out.up (fun t ht => ((Hor.out.mem t).1 ht).imp_right .inl) (fun t ht => (Hor.out.mem t).2 (.inl ht)) (fun t ht => (Hor.out.mem t).2 (.inr ht)) (fun he => by rw [hE9.out] at he; cases he)
            rwa [← funext (rowL_set (⟨r2, oa, oc⟩ : IltD) hse)] at h1)
           exact ⟨⟨i + 1, _, by omega, by go_num, HK8, HF8, Hb8.out⟩, by simp [RowKit.intOf]; omega⟩
          ·have hEm : Hid (emp f (el.drop (i + 1)) = true) := hE9
           have HF8d := Lib.hid (HF8.out.below (Below.refl _ W8).drew)
           have HA8d := Lib.hid (HA8.out.below (Below.refl _ W8).drew HA8.out.lt)
           have Hb8d := Lib.hid Hb8.out.drew
           have hsl3 : (es2.set s ⟨r2, oa, oc⟩).length = L := HF8.out.len
           have hse3 : s < (es2.set s ⟨r2, oa, oc⟩).length := by rw [hsl3]; exact hsL
           have hke3 : k < (es2.set s ⟨r2, oa, oc⟩).length := by rw [hsl3]; exact hlt
           have hu3 : Hid ((es2.set s ⟨r2, oa, oc⟩)[s] = ⟨r2, oa, oc⟩) := Lib.hid (List.getElem_set_self ..)
           obtain ⟨v, hv⟩ : ∃ v, Hid ((es2.set s ⟨r2, oa, oc⟩)[k] = v) := ⟨_, Lib.hid rfl⟩
           obtain ⟨vl, va, vc⟩ := v
           have Hui2 : Hid (Ints W8.drew oa oc r2) := Lib.hid (by have := HF8d.out.ints _ (List.getElem_mem hse3); rwa [hu3.out] at this)
           have Hvi2 : Hid (Ints W8.drew va vc vl) := Lib.hid (by have := HF8d.out.ints _ (List.getElem_mem hke3); rwa [hv.out] at this)
           have Hea2 : Hid (∀ b off, oa = some ⟨b, off, none⟩ → g < b) := Lib.hid (by have := HF8d.out.apart _ (List.getElem_mem hse3); rwa [hu3.out] at this)
           have Hrb : Hid (∀ t, (t ∈ rowL es2 s ∨ TokP al f (ahd f (el.drop (i + 1))) t) → 0 ≤ t ∧ t ≤ 100) := Lib.hid (fun t ht => ht.elim (HKb.out s t) (Hlb.out t))
           have Hvb : Hid (∀ t ∈ vl, 0 ≤ t ∧ t ≤ 100) := Lib.hid (fun t ht => by
            by_cases e : k = s
            ·have e2 : vl = r2 := by
              have h3 := hv.out
              simp only [e, List.getElem_set_self] at h3
              injection h3 with h3
              exact h3.symm
             rw [e2] at ht
             exact Hrb.out t ((Hor.out.mem t).1 ht)
            ·have e2 : vl = rowL es2 k := by
              have h3 := hv.out
              rw [List.getElem_set_ne (fun h => e h.symm)] at h3
              rw [rowL_at hke, h3]
             rw [e2] at ht
             exact HKb.out k t ht)
           have c0 := HF8d.out.alts.row.cell g 0 rfl s (by rw [List.length_map]; exact hse3)
           rw [List.getElem_map, Nat.zero_add, hu3.out] at c0
           change _ = some (Value.slice oa r2.length oc) at c0
           have c1 := HF8d.out.alts.row.cell g 0 rfl k (by rw [List.length_map]; exact hke3)
           rw [List.getElem_map, Nat.zero_add, hv.out] at c1
           change _ = some (Value.slice va vl.length vc) at c1
           have Hal2 := Lib.hid (all9_any r2 vl oa va oc vc _ W8.drew Hui2.out Hvi2.out Hor.out Hrb.out Hvb.out)
           obtain ⟨VL, hVL⟩ : ∃ q, Hid (vl.length = q) := ⟨_, Lib.hid rfl⟩
           rw [hVL.out, hRL.out] at Hal2
           rw [hVL.out] at c1
           rw [hRL.out] at c0
           have HS8d : Hid (W8.drew.cell? ⟨g, s, none⟩ = some (.slice oa RL oc) ∧ W8.drew.cell? ⟨g, k, none⟩ = some (.slice va VL vc)) := Lib.hid ⟨c0, c1⟩
           clear c0 c1
           go_wp2_with (fail)
           refine region_till 12 (fun w' => w'.cell? ⟨g, s, none⟩ = some (.slice oa RL oc) ∧ w'.cell? ⟨g, k, none⟩ = some (.slice va VL vc)) (by kernel_rfl) ?_
           refine till_takeY (i := 0) [11, 12] (v := ?_) (iatLS iatZS) (by kernel_rfl) (by kernel_rfl) (by kernel_rfl) (fun _ _ _ h => h) (by decide) (by kernel_rfl) (by decide) (by kernel_rfl) (Or.inl ⟨by rfl, ?_⟩) HS8d.out ?_
           rotate_left
           ·intro w hSw
            try dsimp only at hSw
            go_simp
            all_goals with_reducible rfl
           try simp only [Act.put, List.setIfInBounds_toArray, List.set_cons_zero, List.set_cons_succ]
           refine till_takeY (i := 1) [11, 12] (v := ?_) (iatLS (iatSS iatZS)) (by kernel_rfl) (by kernel_rfl) (by kernel_rfl) (fun _ _ _ h => h) (by decide) (by kernel_rfl) (by decide) (by kernel_rfl) (Or.inl ⟨by rfl, ?_⟩) HS8d.out ?_
           rotate_left
           ·intro w hSw
            try dsimp only at hSw
            go_simp
            all_goals with_reducible rfl
           try simp only [Act.put, List.setIfInBounds_toArray, List.set_cons_zero, List.set_cons_succ]
           refine till_takeY (i := 2) [4, 5, 10, 12] (v := ?_) (iatLS (iatSS (iatSS iatZS))) (by kernel_rfl) (by kernel_rfl) (by kernel_rfl) (fun _ _ _ h => h) (by decide) (by kernel_rfl) (by decide) (by kernel_rfl) (Or.inl ⟨by rfl, ?_⟩) HS8d.out ?_
           rotate_left
           ·intro w hSw
            try dsimp only at hSw
            go_simp
            all_goals with_reducible rfl
           try simp only [Act.put, List.setIfInBounds_toArray, List.set_cons_zero, List.set_cons_succ]
           refine till_takeY (i := 3) [4, 5, 10, 12] (v := ?_) (iatLS (iatSS (iatSS (iatSS iatZS)))) (by kernel_rfl) (by kernel_rfl) (by kernel_rfl) (fun _ _ _ h => h) (by decide) (by kernel_rfl) (by decide) (by kernel_rfl) (Or.inl ⟨by rfl, ?_⟩) HS8d.out ?_
           rotate_left
           ·intro w hSw
            try dsimp only at hSw
            go_simp
            all_goals with_reducible rfl
           try simp only [Act.put, List.setIfInBounds_toArray, List.set_cons_zero, List.set_cons_succ]
           refine till_takeY (i := 4) [5, 10, 12] (v := ?_) (iatLS (iatSS (iatSS (iatSS (iatSS iatZS))))) (by kernel_rfl) (by kernel_rfl) (by kernel_rfl) (fun _ _ _ h => h) (by decide) (by kernel_rfl) (by decide) (by kernel_rfl) (Or.inl ⟨by rfl, ?_⟩) HS8d.out ?_
           rotate_left
           ·intro w hSw
            try dsimp only at hSw
            go_simp
            all_goals with_reducible rfl
           try simp only [Act.put, List.setIfInBounds_toArray, List.set_cons_zero, List.set_cons_succ]
           refine till_takeY (i := 5) [10, 12] (v := ?_) (iatLS (iatSS (iatSS (iatSS (iatSS (iatSS iatZS)))))) (by kernel_rfl) (by kernel_rfl) (by kernel_rfl) (fun _ _ _ h => h) (by decide) (by kernel_rfl) (by decide) (by kernel_rfl) (Or.inl ⟨by rfl, ?_⟩) HS8d.out ?_
           rotate_left
           ·intro w hSw
            try dsimp only at hSw
            go_simp
            all_goals with_reducible rfl
           try simp only [Act.put, List.setIfInBounds_toArray, List.set_cons_zero, List.set_cons_succ]
           refine till_takeY (i := 6) [8, 9, 10, 12] (v := ?_) (iatLS (iatSS (iatSS (iatSS (iatSS (iatSS (iatSS iatZS))))))) (by kernel_rfl) (by kernel_rfl) (by kernel_rfl) (fun _ _ _ h => h) (by decide) (by kernel_rfl) (by decide) (by kernel_rfl) (Or.inl ⟨by rfl, ?_⟩) HS8d.out ?_
           rotate_left
           ·intro w hSw
            try dsimp only at hSw
            go_simp
            all_goals with_reducible rfl
           try simp only [Act.put, List.setIfInBounds_toArray, List.set_cons_zero, List.set_cons_succ]
           refine till_takeY (i := 7) [8, 9, 10, 12] (v := ?_) (iatLS (iatSS (iatSS (iatSS (iatSS (iatSS (iatSS (iatSS iatZS)))))))) (by kernel_rfl) (by kernel_rfl) (by kernel_rfl) (fun _ _ _ h => h) (by decide) (by kernel_rfl) (by decide) (by kernel_rfl) (Or.inl ⟨by rfl, ?_⟩) HS8d.out ?_
           rotate_left
           ·intro w hSw
            try dsimp only at hSw
            go_simp
            all_goals with_reducible rfl
           try simp only [Act.put, List.setIfInBounds_toArray, List.set_cons_zero, List.set_cons_succ]
           refine till_takeY (i := 8) [9, 10, 12] (v := ?_) (iatLS (iatSS (iatSS (iatSS (iatSS (iatSS (iatSS (iatSS (iatSS iatZS))))))))) (by kernel_rfl) (by kernel_rfl) (by kernel_rfl) (fun _ _ _ h => h) (by decide) (by kernel_rfl) (by decide) (by kernel_rfl) (Or.inl ⟨by rfl, ?_⟩) HS8d.out ?_
           rotate_left
           ·intro w hSw
            try dsimp only at hSw
            go_simp
            all_goals with_reducible rfl
           try simp only [Act.put, List.setIfInBounds_toArray, List.set_cons_zero, List.set_cons_succ]
           refine till_takeY (i := 9) [10, 12] (v := ?_) (iatLS (iatSS (iatSS (iatSS (iatSS (iatSS (iatSS (iatSS (iatSS (iatSS iatZS)))))))))) (by kernel_rfl) (by kernel_rfl) (by kernel_rfl) (fun _ _ _ h => h) (by decide) (by kernel_rfl) (by decide) (by kernel_rfl) (Or.inl ⟨by rfl, ?_⟩) HS8d.out ?_
           rotate_left
           ·intro w hSw
            try dsimp only at hSw
            go_simp
            all_goals with_reducible rfl
           try simp only [Act.put, List.setIfInBounds_toArray, List.set_cons_zero, List.set_cons_succ]
           refine till_ready (rs := [10]) (by kernel_rfl) (by simp) ?_
           refine TillAll.cons (iatLS (iatSS (iatSS (iatSS (iatSS (iatSS (iatSS (iatSS (iatSS (iatSS (iatSS iatZS))))))))))) (fun K hK => ?_) TillAll.nil
           go_simp
           (with_reducible refine Hal2.out.mono ?_)
           rintro e8 W9 ⟨qa, qc, r3, rfl, hoi, hor, hof, hb9⟩
           have HF9 := Lib.hid (HF8d.out.below hb9)
           have HA9 := Lib.hid (HA8d.out.below hb9 HA8d.out.lt)
           have Hb9 := Lib.hid (Hb8d.out.trans (hb9.mono Hb8d.out.size))
           have hgW : g < W8.drew.heap.size := (World.ownsRow.lt HF8d.out.own g rfl).2
           have hap : ∀ b off, qa = some ⟨b, off, none⟩ → g < b := fun b off e => by
            rcases hof with h | h
            ·subst h; exact Hea2.out b off e
            ·exact Nat.lt_of_lt_of_le hgW (h b off e)
           have Hor3 := Lib.hid hor
           have HF10 : Hid (FsA (W9.setCell ⟨g, s, none⟩ (.slice qa r3.length qc)) bx g L ((es2.set s ⟨r2, oa, oc⟩).set s ⟨r3, qa, qc⟩)) := Lib.hid (HF9.out.set ⟨r3, qa, qc⟩ hoi hap)
           have HA10 := Lib.hid (HA9.out.setOther (b' := g) (j := s) (by omega) (.slice qa r3.length qc))
           have Hb10 := Lib.hid (Hb9.out.setCell (p := ⟨g, s, none⟩) hgb (.slice qa r3.length qc))
           have z0 := HF9.out.alts.row.cell g 0 rfl s (by rw [List.length_map]; exact hse3)
           rw [List.getElem_map, Nat.zero_add, hu3.out] at z0
           change _ = some (Value.slice oa r2.length oc) at z0
           rw [hRL.out] at z0
           have z1 := HF9.out.alts.row.cell g 0 rfl k (by rw [List.length_map]; exact hke3)
           rw [List.getElem_map, Nat.zero_add, hv.out] at z1
           change _ = some (Value.slice va vl.length vc) at z1
           rw [hVL.out] at z1
           have HS9 : Hid (W9.cell? ⟨g, s, none⟩ = some (.slice oa RL oc) ∧ W9.cell? ⟨g, k, none⟩ = some (.slice va VL vc)) := Lib.hid ⟨z0, z1⟩
           have zf := own_frz (j := s) HF9.out.own
           have zl : g < W9.heap.size := (World.ownsRow.lt HF9.out.own g rfl).2
           obtain ⟨RM, hRM⟩ : ∃ q, Hid (r3.length = q) := ⟨_, Lib.hid rfl⟩
           rw [hRM.out] at HF10 HA10 Hb10 ⊢
           clear hoi hor hof hb9 hap z1
           try dsimp only
           refine hK.out _ _ ?_ ?_
           ·exact fun _ => HS9.out
           clear hK K
           try simp only [Act.put, List.setIfInBounds_toArray, List.set_cons_zero, List.set_cons_succ]
           refine till_takeY (i := 11) [12] (v := ?_) (iatLS (iatSS (iatSS (iatSS (iatSS (iatSS (iatSS (iatSS (iatSS (iatSS (iatSS (iatSS iatZS)))))))))))) (by kernel_rfl) (by kernel_rfl) (by kernel_rfl) (fun _ _ _ h => h) (by decide) (by kernel_rfl) (by decide) (by kernel_rfl) (Or.inl ⟨by rfl, ?_⟩) HS9.out ?_
           rotate_left
           ·intro w hSw
            try dsimp only at hSw
            go_simp
            all_goals with_reducible rfl
           try simp only [Act.put, List.setIfInBounds_toArray, List.set_cons_zero, List.set_cons_succ]
           refine till_ready (rs := [12]) (by kernel_rfl) (by simp) ?_
           refine TillAll.cons (iatLS (iatSS (iatSS (iatSS (iatSS (iatSS (iatSS (iatSS (iatSS (iatSS (iatSS (iatSS (iatSS iatZS))))))))))))) (fun K hK => ?_) TillAll.nil
           go_simp
           generalize hW : World.setCell W9 _ _ = W10 at HF10 HA10 Hb10 ⊢
           clear hW z0 zf zl
           refine hK.out _ _ ?_ ?_
           ·exact fun h => nomatch (show (true : Bool) = false from h)
           clear hK K
           try simp only [Act.put, List.setIfInBounds_toArray, List.set_cons_zero, List.set_cons_succ]
           refine till_done (by kernel_rfl) ?_ _
           go_wp2_with (fail)
           have HK10 : Hid (FoK al f T (rowL es) (rowL ((es2.set s ⟨r2, oa, oc⟩).set s ⟨r3, qa, qc⟩)) k j (i + 1)) := Lib.hid (by
            have h1 := HK.out.put (by rw [Hpl.out]; exact hlt) Hin.out hin2.out (r2 := r3) Hor3.out.up (fun t ht => by
             rcases (Hor3.out.mem t).1 ht with h | h
             ·rcases h with h | h
              ·exact .inl h
              ·exact .inr (.inl h)
             ·by_cases e : k = s
              ·have e2 : vl = r2 := by
                have h3 := hv.out
                simp only [e, List.getElem_set_self] at h3
                injection h3 with h3
                exact h3.symm
               rw [e2] at h
               rcases (Hor.out.mem t).1 h with h | h
               ·exact .inl h
               ·exact .inr (.inl h)
              ·have e2 : vl = rowL es2 k := by
                have h3 := hv.out
                rw [List.getElem_set_ne (fun h => e h.symm)] at h3
                rw [rowL_at hke, h3]
               rw [e2] at h
               exact .inr (.inr ⟨hEm.out, h⟩)) (fun t ht => (Hor3.out.mem t).2 (.inl (.inl ht))) (fun t ht => (Hor3.out.mem t).2 (.inl (.inr ht))) (fun _ t ht => (Hor3.out.mem t).2 (.inr (by
               by_cases e : k = s
               ·have e2 : vl = r2 := by
                 have h3 := hv.out
                 simp only [e, List.getElem_set_self] at h3
                 injection h3 with h3
                 exact h3.symm
                rw [e2]
                rw [e] at ht
                exact (Hor.out.mem t).2 (.inl ht)
               ·have e2 : vl = rowL es2 k := by
                 have h3 := hv.out
                 rw [List.getElem_set_ne (fun h => e h.symm)] at h3
                 rw [rowL_at hke, h3]
                rw [e2]; exact ht)))
            have e9 : (fun r => if r = s then r3 else rowL es2 r) = rowL ((es2.set s ⟨r2, oa, oc⟩).set s ⟨r3, qa, qc⟩) := by
             funext r
             rw [rowL_set _ (by rw [List.length_set]; exact hse), rowL_set _ hse]
             split <;> rfl
            rwa [e9] at h1)
           exact ⟨⟨i + 1, _, by omega, by go_num, HK10, HF10, Hb10.out⟩, by simp [RowKit.intOf]; omega⟩
         ·have hx0 : (0 : Int) ≤ x := by omega
          rw [if_neg h0] at Hru
          have HK2 : Hid (FoK al f T (rowL es) (rowL es2) k j (i + 1)) := Lib.hid (HK.out.skip Hin.out hxi hx0)
          subst ha
          clear hrow hm hxi
          go_wp2_with (fail)
          refine Hru.out.mono ?_
          rintro e9 V4 ⟨rfl, hb9⟩
          have HF4 := Lib.hid (HF.out.below hb9)
          have Hb4 := Lib.hid (hbr.trans (hb9.mono hbr.size))
          clear x0 x1 x2 xl hb9
          go_wp2_with (fail)
          exact ⟨⟨i + 1, es2, by omega, by go_num, HK2, HF4, Hb4.out⟩, by simp [RowKit.intOf]; omega⟩
        ·have hie : i = EL := by omega
         have hiI : ¬ (i : Int) < (EL : Int) := by omega
         have HK2 : Hid (FoK al f T (rowL es) (rowL es2) k (j + 1) 0) := Lib.hid (HK.out.alt Hin.out (by rw [hEL.out, hie]; exact Nat.le_refl _))
         clear hie
         go_wp2_with (fail)
         exact ⟨⟨j + 1, es2, by omega, by go_num, HK2, HF, hbr⟩, by simp [RowKit.intOf]; omega⟩
      ·have hje : j = M := by omega
       have hjI : ¬ (j : Int) < (M : Int) := by omega
       have HK2 : Hid (FoK al f T (rowL es) (rowL es2) (k + 1) 0 0) := Lib.hid (HK.out.row (by rw [Hst.out, List.length_map, hM.out, hje]; exact Nat.le_refl _))
       clear hje
       go_wp2_with (fail)
       exact ⟨⟨k + 1, es2, by omega, by go_num, HK2, HF, hbr⟩, by simp [RowKit.intOf]; omega⟩
    ·have hke : k = L := by omega
     have hkI : ¬ (k : Int) < (L : Int) := by omega
     have HU2 : Hid (∀ r, (rowL es2 r).Pairwise (· < ·)) := Lib.hid HK.out.up
     have HS2 : Hid (∀ r t, t ∈ rowL es2 r → FolP al f T r t) := Lib.hid HK.out.sound
     have HT2 : Hid ((T : Int) ∈ rowL es2 0) := Lib.hid (HK.out.mono 0 _ HT0.out)
     have hll : (es.map (fun e => e.l)).length = (es2.map (fun e => e.l)).length := by rw [List.length_map, List.length_map, HF.out.len]; exact hesl.out
     have hnd : ∀ r, ((es.map (fun e => e.l)).getD r []).Nodup := fun r => pair_nodup (HU.out r)
     have hle : Z ≤ szL es2 := by
      rw [← hZ.out, szL_map, szL_map]
      exact rows_le hll hnd HK.out.mono
     have HH2 : Hid (((Z : Nat) : Int) = szL es2 → CL es2) := Lib.hid (fun h => by
      rw [← HCL.out]
      have hback : ∀ r t, t ∈ rowL es2 r → t ∈ rowL es r := rows_same hll hnd HK.out.mono (by rw [← szL_map, ← szL_map, hZ.out]; omega)
      intro r a ha i s hs
      by_cases hr : r < L
      ·have h1 := HK.out.done r (by rw [hke]; exact hr) a ha i s hs
       exact ⟨h1.1, fun he t ht => h1.2 he t (hback r t ht)⟩
      ·rw [hAo.out r (by omega)] at ha; cases ha)
     have hvZ : hv < (Z : Int) := by omega
     clear hke hll hnd
     go_wp2_with (fail)
     exact ⟨⟨(Z : Int), es2, rfl, HF, HU2, HS2, HT2, by omega, by omega, HH2, hbr⟩, by simp [RowKit.intOf]; omega⟩
end Go.Proofs.Ythogiakfbgehnaa
