/- Texts joined: Qj Qk Qm Qn Qo Qp Qq. -/
import Derived.Test.YtldmgifphkpdlaaRVAx
import Derived.Test.YtldmgifphkpdlaaRVAq
import Derived.Test.YtldmgifphkpdlaaRVAs
import Derived.Test.YtldmgifphkpdlaaRVAn
set_option linter.unusedVariables false
set_option linter.unusedSimpArgs false
namespace Go.Proofs.Ytldmgifphkpdlaa
open Go.RowKit Go.Maps
attribute [local go_sem] Oper.semAt_some
theorem rowT_len (p : Nat → Nat → Bool) (n T : Nat) : (rowT p n T).length = T := by unfold rowT; rw [List.length_map, List.length_range]
/-- What Build answers. -/
def BldQ (w : World) (al : List (List (List Int))) (f : Nat → Bool) (T : Nat) (e : Ending) (W' : World) : Prop :=
 (allCl al f T ≠ [] ∧ e = .returned (.tuple #[.slice none 0 0, .int .i64 100]) ∧ Below w.heap.size w W') ∨
 (allCl al f T = [] ∧ ∃ g rs, e = .returned (.tuple #[.slice (some ⟨g, 0, none⟩) al.length al.length, .int .i64 0]) ∧ TkA W' w.heap.size g al.length rs ∧ (∀ r, r < al.length → rowL rs r = rowT (fun t j => takB al f T r (t : Int) j) (al.getD r []).length (T + 1)) ∧ Below w.heap.size w W')
set_option maxRecDepth 100000 in
set_option maxHeartbeats 16000000 in
theorem build_any (d : CfD) (w : World) (hd : CfAt w d) (hf : FitC d) :
 Calls Try.prog 33 #[d.v] w (BldQ w (d.alts.map IrD.p) (nulB (d.alts.map IrD.p)) d.toks.length) := by
 have hr60 := hf.r
 have ht60 := hf.t
 have Hng := Lib.hid (fun W (hb : Below w.heap.size w W) => newGuide_any d W (hd.grown hb) hf)
 have Hru := Lib.hid (fun fa fc W => rules_any d fa fc W (by omega))
 have hpl : (d.alts.map IrD.p).length = d.alts.length := List.length_map _
 have hst : ∀ r (h : r < d.alts.length), (d.alts.map IrD.p).getD r [] = (d.alts[r]).ds.map (fun x => x.l) := fun r h => by
  rw [List.getD_eq_getElem?_getD, List.getElem?_map, List.getElem?_eq_getElem h]
  rfl
 have Hns : Hid (∀ r, ((d.alts.map IrD.p).getD r []).length ≤ 30) := Lib.hid (fun r => by
  by_cases h : r < d.alts.length
  ·rw [hst r h, List.length_map]; exact hf.a _ (List.getElem_mem h)
  ·rw [List.getD_eq_getElem?_getD, List.getElem?_eq_none (by rw [hpl]; omega)]; simp)
 have Htk := Lib.hid (fun fa fc fs (r : Nat) W (hb : Below w.heap.size w W) (hfo : FolAt W d fa fc fs) (hr : r < d.alts.length) => by
  have h := takers_any d fa fc fs r W (hd.grown hb) hf hfo hr
  rw [show (d.alts[r]).ds.length = ((d.alts.map IrD.p).getD r []).length by rw [hst r hr, List.length_map]] at h
  exact h)
 have Hgr := Lib.hid (fun W W' fa fc fs (h : FolAt W d fa fc fs) (hb : Below W.heap.size W W') => h.grown hb)
 obtain ⟨al, hal9⟩ : ∃ q, Hid (d.alts.map IrD.p = q) := ⟨_, Lib.hid rfl⟩
 rw [hal9.out] at Htk Hns hpl ⊢
 obtain ⟨f, hf9⟩ : ∃ q, Hid (nulB al = q) := ⟨_, Lib.hid rfl⟩
 rw [hf9.out] at Htk ⊢
 obtain ⟨P, hP⟩ : ∃ q : Nat → Nat → Nat → Bool, Hid ((fun (r t j : Nat) => takB al f d.toks.length r (t : Int) j) = q) := ⟨_, Lib.hid rfl⟩
 have HP : Hid (∀ (r t j : Nat), takB al f d.toks.length r (t : Int) j = P r t j) := Lib.hid (fun r t j => congrFun (congrFun (congrFun hP.out r) t) j)
 obtain ⟨ns, hns9⟩ : ∃ q : Nat → Nat, Hid ((fun r => (al.getD r []).length) = q) := ⟨_, Lib.hid rfl⟩
 have Hnn : Hid (∀ r, (al.getD r []).length = ns r) := Lib.hid (fun r => congrFun hns9.out r)
 have HTK : Hid (∀ r t n, tkL (takB al f d.toks.length r) n t = ((List.range n).filter (P r t)).map (fun j : Nat => (j : Int))) := Lib.hid (fun r t n => by
  unfold tkL
  congr 1
  exact List.filter_congr (fun j _ => HP.out r t j))
 obtain ⟨Q, hQ⟩ : ∃ Q : Ending → World → Prop, Hid (BldQ w al f d.toks.length = Q) := ⟨_, Lib.hid rfl⟩
 rw [hQ.out]
 have hcl : allCl al f d.toks.length = clS P ns (d.toks.length + 1) d.alts.length := by unfold allCl; rw [hP.out, hns9.out, hpl]
 have HQ1 : Hid (∀ W r t, r < d.alts.length → t < d.toks.length + 1 → 1 < ((List.range (ns r)).filter (P r t)).length → Below w.heap.size w W → Q (.returned (.tuple #[.slice none 0 0, .int .i64 100])) W) := Lib.hid (fun W r t h1 h2 h3 h4 => by
  rw [← hQ.out]
  refine .inl ⟨?_, rfl, h4⟩
  rw [hcl]
  intro e
  have := clS_nil.1 e r h1 t h2
  omega)
 have HQ2 : Hid (∀ W g rs, TkA W w.heap.size g d.alts.length rs → (∀ r, r < d.alts.length → rowL rs r = rowT (P r) (ns r) (d.toks.length + 1)) → (∀ r, r < d.alts.length → ∀ t, t < d.toks.length + 1 → ((List.range (ns r)).filter (P r t)).length ≤ 1) → Below w.heap.size w W → Q (.returned (.tuple #[.slice (some ⟨g, 0, none⟩) d.alts.length d.alts.length, .int .i64 0])) W) := Lib.hid (fun W g rs h1 h2 h3 h4 => by
  rw [← hQ.out]
  refine .inr ⟨by rw [hcl]; exact clS_nil.2 h3, g, rs, by rw [hpl], by rw [hpl]; exact h1, fun r hr => ?_, h4⟩
  rw [h2 r (by rw [← hpl]; exact hr), Hnn.out]
  congr 1
  funext t j
  exact (HP.out r t j).symm)
 clear hcl
 have hNs : Hid (∀ r, ns r ≤ 30) := Lib.hid (fun r => by rw [← Hnn.out]; exact Hns.out r)
 have hxm : d.alts.length ≤ d.ac ∧ d.ac ≤ 9223372036854775807 := ⟨by have := hd.alts.le; rwa [List.length_map] at this, hd.alts.max⟩
 clear hQ hpl hst hd hf hP hns9 Hns
 obtain ⟨DD, hDD⟩ : ∃ q, Hid (d = q) := ⟨_, Lib.hid rfl⟩
 have hv : d.v = .agg #[.slice d.ta d.toks.length d.tc, .slice d.na d.names.length d.nc, .slice d.aa d.alts.length d.ac] := rfl
 rw [hv] at Hng ⊢
 have hg : ∀ fa fc, guV d fa fc = .agg #[.slice d.ta d.toks.length d.tc, .slice d.na d.names.length d.nc, .slice d.aa d.alts.length d.ac, .slice fa d.alts.length fc] := fun _ _ => rfl
 have hb1 : Below w.heap.size w (w.alloc (.cells #[.slice d.ta d.toks.length d.tc, .slice d.na d.names.length d.nc, .slice d.aa d.alts.length d.ac] 25)) := (Below.refl _ w).alloc (Nat.le_refl _) _
 have hA := Blk.new w 25 #[.slice d.ta d.toks.length d.tc, .slice d.na d.names.length d.nc, .slice d.aa d.alts.length d.ac]
 obtain ⟨T, HT⟩ : ∃ q, Hid (d.toks.length = q) := ⟨_, Lib.hid rfl⟩
 obtain ⟨N, HN⟩ : ∃ q, Hid (d.names.length = q) := ⟨_, Lib.hid rfl⟩
 obtain ⟨L, HL⟩ : ∃ q, Hid (d.alts.length = q) := ⟨_, Lib.hid rfl⟩
 obtain ⟨xta, Hxta⟩ : ∃ q, Hid (d.ta = q) := ⟨_, Lib.hid rfl⟩
 obtain ⟨xtc, Hxtc⟩ : ∃ q, Hid (d.tc = q) := ⟨_, Lib.hid rfl⟩
 obtain ⟨xna, Hxna⟩ : ∃ q, Hid (d.na = q) := ⟨_, Lib.hid rfl⟩
 obtain ⟨xnc, Hxnc⟩ : ∃ q, Hid (d.nc = q) := ⟨_, Lib.hid rfl⟩
 obtain ⟨xaa, Hxaa⟩ : ∃ q, Hid (d.aa = q) := ⟨_, Lib.hid rfl⟩
 obtain ⟨xac, Hxac⟩ : ∃ q, Hid (d.ac = q) := ⟨_, Lib.hid rfl⟩
 have hgu : Hid (∀ fa fc, guV d fa fc = .agg #[.slice xta T xtc, .slice xna N xnc, .slice xaa L xac, .slice fa L fc]) := Lib.hid (fun fa fc => by rw [hg, HT.out, HN.out, HL.out, Hxta.out, Hxtc.out, Hxna.out, Hxnc.out, Hxaa.out, Hxac.out])
 rw [HT.out, HN.out, HL.out, Hxta.out, Hxtc.out, Hxna.out, Hxnc.out, Hxaa.out, Hxac.out] at hA hb1 Hng ⊢
 rw [HL.out, Hxac.out] at hxm
 rw [HT.out, HL.out] at HQ1 HQ2
 rw [HT.out] at HTK ht60
 rw [HL.out] at hr60
 have Hru2 : Hid (∀ fa fc W, Calls Try.prog 73 #[.agg #[.slice xta T xtc, .slice xna N xnc, .slice xaa L xac, .slice fa L fc]] W fun e w' => e = .returned (.int .i64 (L : Int)) ∧ Below W.heap.size W w') := Lib.hid (fun fa fc W => by
  have := Hru.out fa fc W
  rw [hgu.out, HL.out] at this
  exact this)
 have Htk2 : Hid (∀ fa fc fs (r : Nat) W (hb : Below w.heap.size w W) (hfo : FolAt W d fa fc fs) (hr : r < L), Calls Try.prog 76 #[.agg #[.slice xta T xtc, .slice xna N xnc, .slice xaa L xac, .slice fa L fc], .int .i64 (r : Int)] W (TkrQ W T (fun t => ((List.range (ns r)).filter (P r t)).map (fun j : Nat => (j : Int))))) := Lib.hid (fun fa fc fs r W hb hfo hr => by
  have := Htk.out fa fc fs r W hb hfo (by rw [HL.out]; exact hr)
  rw [hgu.out, HT.out, Hnn.out] at this
  rw [show (fun t => ((List.range (ns r)).filter (P r t)).map (fun j : Nat => (j : Int))) = tkL (takB al f T r) (ns r) from funext (fun t => (HTK.out r t (ns r)).symm)]
  exact this)
 have x0 := hA.cell 0
 have x1 := hA.cell 1
 have x2 := hA.cell 2
 have xl := hA.lt
 simp only [List.getElem?_cons_zero, List.getElem?_cons_succ] at x0 x1 x2
 have HA := Lib.hid hA
 have Hb1 := Lib.hid hb1
 obtain ⟨iO, hiO, hzO, hsO, hbO⟩ := info_parts info_rowI
 have Hmk := Lib.hid (fun (b : Nat) (W : World) (hW : b ≤ W.heap.size) => run_makeSlice_full (P := Try.prog) (w := W) b 32 35 iO (.slice none 0 0) 1 Try.underlying32 hiO hzO hsO .i64 .i64 L (by omega) (by rw [hbO]; omega) (by unfold maxLen; omega) hW)
 clear hA hb1 hv hg Hru Htk hDD HTK hiO hzO hsO hbO
 go_enter Try.func33, Try.ntmps33
 go_wp2_with (fail)
 obtain ⟨bx, hbx⟩ : ∃ q, Hid (w.heap.size = q) := ⟨_, Lib.hid rfl⟩
 rw [hbx.out] at HA x0 x1 x2 xl ⊢
 generalize hV : World.alloc w _ = V1 at HA x0 x1 x2 xl Hb1 ⊢
 clear hV
 refine (Hng.out V1 Hb1.out).mono ?_
 rintro e w2 ⟨fa, fc, fs, rfl, hfo, hb⟩
 have HA2 := Lib.hid (HA.out.below hb HA.out.lt)
 have Hb2 := Lib.hid (Hb1.out.trans (hb.mono Hb1.out.size))
 have hb3 : Below w2.heap.size w2 (w2.alloc (.cells #[.slice xta T xtc, .slice xna N xnc, .slice xaa L xac, .slice fa L fc] 95)) := (Below.refl _ w2).alloc (Nat.le_refl _) _
 have hG3 := Blk.new w2 95 #[.slice xta T xtc, .slice xna N xnc, .slice xaa L xac, .slice fa L fc]
 have Hfo3 := Lib.hid (Hgr.out _ _ fa fc fs hfo hb3)
 have HG3 := Lib.hid hG3
 have Hb3 := Lib.hid (Hb2.out.trans (hb3.mono Hb2.out.size))
 have hfm : True := trivial
 rw [hgu.out]
 clear x0 x1 x2 xl hb hfo hb3 hG3 HA2 HA
 go_wp2_with (fail)
 obtain ⟨bg, hbg⟩ : ∃ q, Hid (w2.heap.size = q) := ⟨_, Lib.hid rfl⟩
 rw [hbg.out] at HG3 ⊢
 generalize hV : World.alloc w2 _ = V3 at HG3 Hb3 Hfo3 ⊢
 clear hV
 refine (Hru2.out fa fc V3).mono ?_
 rintro e w4 ⟨rfl, hb4⟩
 obtain ⟨base, hbase⟩ : ∃ q, Hid (V3.heap.size = q) := ⟨_, Lib.hid rfl⟩
 have hbgb : bg < base := by rw [← hbase.out]; exact HG3.out.lt
 have hwb : w.heap.size ≤ base := by rw [← hbase.out]; exact Hb3.out.size
 have hbV : base ≤ V3.heap.size := by rw [hbase.out]; exact Nat.le_refl _
 rw [hbase.out] at hb4
 have hbn4 : base ≤ w4.heap.size := by have := hb4.size; omega
 obtain ⟨w5, hrun5, ho5, hg5⟩ := Hmk.out base w4 hbn4
 rw [made_fill _ rfl] at ho5
 have hb45 := belowAt hg5 (B := base) (fun i e => by cases e) hbn4
 have Hb5 := Lib.hid (hb4.trans hb45)
 obtain ⟨g, hg⟩ : ∃ q, Hid (w4.heap.size = q) := ⟨_, Lib.hid rfl⟩
 rw [hg.out] at hrun5 ho5
 have hbg2 : base ≤ g := by rw [← hg.out]; exact hbn4
 have HT5 : Hid (TkA w5 base g L (List.replicate L ⟨[], none, 0⟩)) := Lib.hid ⟨by rw [List.map_replicate]; exact ho5, List.length_replicate .., fun e he => by rw [List.mem_replicate] at he; rw [he.2]; exact OwnKZ.nil _ _, fun i j hi hj hij b h => by rw [List.getElem_replicate] at h; cases h⟩
 have HR5 : Hid (∀ r, r < L → rowL (List.replicate L (⟨[], none, 0⟩ : IltD)) r = if r < 0 then rowT (P r) (ns r) (T + 1) else []) := Lib.hid (fun r hr => by rw [rowL_at (by rw [List.length_replicate]; exact hr)]; simp)
 have HG5 := Lib.hid (HG3.out.below Hb5.out hbgb)
 have y0 := HG5.out.cell 0
 have y1 := HG5.out.cell 1
 have y2 := HG5.out.cell 2
 have y3 := HG5.out.cell 3
 have yl := HG5.out.lt
 simp only [List.getElem?_cons_zero, List.getElem?_cons_succ] at y0 y1 y2 y3
 have Hru5 := Lib.hid (Hru2.out fa fc w5)
 clear hb4 hb45 ho5 hg5 hbn4
 go_wp2_with (fail)
 refine Hru5.out.mono ?_
 rintro e w6 ⟨rfl, hb6⟩
 have HT6 := Lib.hid (HT5.out.below hb6)
 have Hb6 := Lib.hid (Hb5.out.trans (hb6.mono (by have := Hb5.out.size; omega)))
 clear hrun5 y0 y1 y2 y3 yl HG5 HT5 Hb5 hb6 Hru5
 go_wp2_with (fail)
 go_loopw [16] (fun kv wr => ∃ (k : Nat) (rs : List IltD), k ≤ L ∧ kv = .int .i64 (k : Int) ∧ Hid (TkA wr base g L rs) ∧ Hid (∀ r, r < L → rowL rs r = if r < k then rowT (P r) (ns r) (T + 1) else []) ∧ Hid (∀ r, r < k → ∀ t, t < T + 1 → ((List.range (ns r)).filter (P r t)).length ≤ 1) ∧ Below base V3 wr) (fun kv _ => L - (RowKit.intOf kv).toNat)
 case atStart => exact ⟨0, _, Nat.zero_le _, rfl, HT6, HR5, Lib.hid (fun r hr => absurd hr (by omega)), Hb6.out⟩
 case round =>
  clear HT6 HR5 Hb6
  obtain ⟨k, rs, hk, rfl, HT0, HR, HN0, hbr⟩ := hrel
  obtain ⟨U, rfl⟩ : ∃ U, U = wr := ⟨_, rfl⟩
  have hbr3 : Below V3.heap.size V3 U := by rw [hbase.out]; exact hbr
  have Hbw := Lib.hid (Hb3.out.trans (hbr3.mono Hb3.out.size))
  by_cases hlt : k < L
  ·have hkI : (k : Int) < (L : Int) := by omega
   have hkI0 : (0 : Int) ≤ (k : Int) := by omega
   have HGu := Lib.hid (HG3.out.below hbr hbgb)
   have y0 := HGu.out.cell 0
   have y1 := HGu.out.cell 1
   have y2 := HGu.out.cell 2
   have y3 := HGu.out.cell 3
   have yl := HGu.out.lt
   simp only [List.getElem?_cons_zero, List.getElem?_cons_succ] at y0 y1 y2 y3
   have Hc := Lib.hid (Htk2.out fa fc fs k U Hbw.out (Hgr.out _ _ fa fc fs Hfo3.out hbr3) hlt)
   have hbn : base ≤ U.heap.size := by have := hbr.size; omega
   have hkr : k < rs.length := by rw [HT0.out.len]; exact hlt
   have hr0 := HR.out k hlt
   rw [if_neg (Nat.lt_irrefl k), rowL_at hkr] at hr0
   clear hbr3
   go_wp2_with (fail)
   refine Hc.out.mono ?_
   rintro e5 w5 ⟨g5, es, rfl, hE5, hR5, hb5⟩
   have HE5 := Lib.hid hE5
   have HE5R := Lib.hid hR5
   have HT5 := Lib.hid (HT0.out.below hb5)
   have Hb5 := Lib.hid (hbr.trans (hb5.mono hbn))
   have hgU : g < U.heap.size := HT0.out.lt.2
   have HR5 : Hid (∀ r, r < L → rowL rs r = if r < k then rowT (P r) (ns r) (T + 1) else if r = k then rowT (P k) (ns k) 0 else []) := Lib.hid (fun r hr => by
    rw [HR.out r hr]
    split
    ·rfl
    ·split <;> rfl)
   have Hap5 : Hid (∀ x ∈ rs, ∀ b, ownB x = some b → b < U.heap.size ∨ (b ≠ g5 ∧ ∀ e ∈ es, ownB e ≠ some b)) := Lib.hid (fun x hx b h1 => .inl (World.ownsRow.lt (HT0.out.ins x hx) b h1).2)
   obtain ⟨H5, hH5⟩ : ∃ q, Hid (U.heap.size = q) := ⟨_, Lib.hid rfl⟩
   rw [hH5.out] at HE5 hgU Hap5
   clear y0 y1 y2 y3 yl HGu Hc hE5 hR5 hb5 HT0 HR hbr Hbw
   go_wp2_with (fail)
   go_loopw [23] (fun tv wr => ∃ (t : Nat) (rs : List IltD), t ≤ T + 1 ∧ tv = .int .i64 (t : Int) ∧ Hid (TkA wr base g L rs) ∧ Hid (∀ r, r < L → rowL rs r = if r < k then rowT (P r) (ns r) (T + 1) else if r = k then rowT (P k) (ns k) t else []) ∧ Hid (∀ t2, t2 < t → ((List.range (ns k)).filter (P k t2)).length ≤ 1) ∧ Hid (TkA wr H5 g5 (T + 1) es) ∧ Hid (∀ x ∈ rs, ∀ b, ownB x = some b → b < H5 ∨ (b ≠ g5 ∧ ∀ e ∈ es, ownB e ≠ some b)) ∧ Below base V3 wr) (fun tv _ => T + 1 - (RowKit.intOf tv).toNat)
   case atStart => exact ⟨0, rs, Nat.zero_le _, rfl, HT5, HR5, Lib.hid (fun t ht => absurd ht (by omega)), HE5, Hap5, Hb5.out⟩
   case round =>
    clear HT5 HR5 HE5 Hap5 Hb5
    obtain ⟨t, rs, ht, rfl, HT0, HR, HN, HE, Hap, hbr⟩ := hrel
    obtain ⟨U2, rfl⟩ : ∃ U, U = wr := ⟨_, rfl⟩
    by_cases hltt : t < T + 1
    ·have htI : (t : Int) < (T : Int) + 1 := by omega
     have htI1 : (t : Int) < ((T + 1 : Nat) : Int) := by omega
     have htI0 : (0 : Int) ≤ (t : Int) := by omega
     have hte : t < es.length := by rw [HE.out.len]; exact hltt
     obtain ⟨F, hF⟩ : ∃ q, Hid ((List.range (ns k)).filter (P k t) = q) := ⟨_, Lib.hid rfl⟩
     have hrow := HE5R.out t hltt
     rw [rowL_at hte] at hrow
     try dsimp only at hrow
     rw [hF.out] at hrow
     have ce := HE.out.alts.row.cell g5 0 rfl t (by rw [List.length_map]; exact hte)
     rw [List.getElem_map, Nat.zero_add] at ce
     have hgl := HE.out.lt
     have hei := HE.out.alts.nms _ (List.getElem_mem hte)
     obtain ⟨ev, hev⟩ : ∃ v, Hid (es[t] = v) := ⟨_, Lib.hid rfl⟩
     rw [hev.out] at hrow ce hei
     obtain ⟨evl, eva, evc⟩ := ev
     dsimp only at hrow hei
     change _ = some (Value.slice eva evl.length evc) at ce
     have Hevl := Lib.hid hrow
     have Hei := Lib.hid hei
     obtain ⟨EV, hEVl⟩ : ∃ q, Hid (evl.length = q) := ⟨_, Lib.hid rfl⟩
     have HEF : Hid (EV = F.length) := Lib.hid (by rw [← hEVl.out, hrow, List.length_map])
     rw [hEVl.out] at ce
     clear hrow hei
     by_cases hc1 : 1 < EV
     ·have hcI : (1 : Int) < (EV : Int) := by omega
      have hcI2 : (EV : Int) > 1 := hcI
      have hbr3 : Below V3.heap.size V3 U2 := by rw [hbase.out]; exact hbr
      have Hfin := Lib.hid (HQ1.out U2 k t hlt hltt (by rw [hF.out, ← HEF.out]; exact hc1) (Hb3.out.trans (hbr3.mono Hb3.out.size)))
      clear hbr3
      go_wp2_with (fail)
      first | exact Hfin.out | exact bodyPost_ret (v := .tuple #[.slice none 0 0, .int .i64 100]) (by simp [results, Try.results33, go_sem]; try first | rfl | assumption | omega) rfl Hfin.out
     ·have hcI : ¬ (EV : Int) > 1 := by omega
      have hcI2 : ¬ (1 : Int) < (EV : Int) := by omega
      have hkr2 : k < rs.length := by rw [HT0.out.len]; exact hlt
      have hrk := HR.out k hlt
      rw [if_neg (Nat.lt_irrefl k), if_pos rfl, rowL_at hkr2] at hrk
      have hon : onlyI evl = onlyL F := by rw [Hevl.out, onlyI_nat]
      have HTd := Lib.hid (HT0.out.below (Below.refl _ U2).drew)
      have HEd := Lib.hid (HE.out.below (Below.refl _ U2).drew)
      have Hbd := Lib.hid hbr.drew
      have Hon := Lib.hid (onlyOf_any evl eva evc U2.drew (Hei.out.grown (Below.refl _ U2).drew))
      rw [hEVl.out, hon] at Hon
      have hbn2 : base ≤ U2.drew.heap.size := by have := Hbd.out.size; omega
      have hlen : rs[k].l.length = t := by rw [hrk, rowT_len]
      obtain ⟨a2, c2, w6, hrun, z0, zf, zl, hE, hgr, hfr, hcu⟩ := HTd.out.push hkr2 (onlyL F) 35 (by rw [hlen]; omega) hbn2
      have ck := HTd.out.alts.row.cell g 0 rfl k (by rw [List.length_map]; exact hkr2)
      rw [List.getElem_map, Nat.zero_add] at ck
      have hgl2 := HTd.out.lt
      have hme := List.getElem_mem hkr2
      have hold : ∀ b, ownB rs[k] = some b → b ≠ g5 ∧ ∀ e ∈ es, ownB e ≠ some b := fun b h1 => by
       rcases Hap.out _ hme b h1 with h2 | h2
       ·refine ⟨by have := HE.out.lt.1; omega, fun e he h3 => ?_⟩
        have := (World.ownsRow.lt (HE.out.ins e he) b h3).1
        omega
       ·exact h2
      have hE6 : TkA w6 H5 g5 (T + 1) es := HEd.out.kept hgr (fun q hq => hold q hq)
      have hE7 : TkA (w6.setCell ⟨g, k, none⟩ (.slice a2 (rs[k].l.length + 1) c2)) H5 g5 (T + 1) es := hE6.kept (grownBy_set w6 _ _ _) (fun q hq => by
       obtain rfl := Option.some.inj hq
       refine ⟨by have h9 := hE6.lt.1; show g ≠ g5; omega, fun e he h3 => ?_⟩
       have h9 := (World.ownsRow.lt (hE6.ins e he) _ h3).1
       have h10 : H5 ≤ g := h9
       omega)
      have hap7 : ∀ x ∈ rs.set k ⟨rs[k].l ++ [onlyL F], a2, c2⟩, ∀ b, ownB x = some b → b < H5 ∨ (b ≠ g5 ∧ ∀ e ∈ es, ownB e ≠ some b) := fun x hx b h1 => by
       rcases List.mem_or_eq_of_mem_set hx with hx | rfl
       ·exact Hap.out x hx b h1
       ·rcases hfr b h1 with h3 | h3
        ·exact Hap.out _ hme b h3
        ·refine .inr ⟨by have := HEd.out.lt.2; omega, fun e he h4 => ?_⟩
         have := (World.ownsRow.lt (HEd.out.ins e he) b h4).2
         omega
      have hb6 : Below base V3 w6 := Hbd.out.trans (belowAt hgr (fun q hq => (World.ownsRow.lt (HTd.out.ins _ hme) q hq).1) hbn2)
      have hb7 : Below base V3 (w6.setCell ⟨g, k, none⟩ (.slice a2 (rs[k].l.length + 1) c2)) := hb6.setCell (p := ⟨g, k, none⟩) hbg2 _
      have hrow2 : ∀ r, r < L → rowL (rs.set k ⟨rs[k].l ++ [onlyL F], a2, c2⟩) r = if r < k then rowT (P r) (ns r) (T + 1) else if r = k then rowT (P k) (ns k) (t + 1) else [] := fun r hr => by
       rw [rowL_set _ hkr2]
       by_cases e : r = k
       ·subst e
        rw [if_pos rfl, if_neg (Nat.lt_irrefl r), if_pos rfl, rowT_snoc, hF.out, hrk]
       ·rw [if_neg e, HR.out r hr, if_neg e, if_neg e]
      have HN7 : Hid (∀ t2, t2 < t + 1 → ((List.range (ns k)).filter (P k t2)).length ≤ 1) := Lib.hid (fun t2 h2 => by
       by_cases e : t2 = t
       ·subst e
        rw [hF.out, ← HEF.out]
        omega
       ·exact HN.out t2 (by omega))
      obtain ⟨rv, hrv⟩ : ∃ v, Hid (rs[k] = v) := ⟨_, Lib.hid rfl⟩
      rw [hrv.out] at hrun z0 hE hE7 hap7 hb7 hrow2 ck
      obtain ⟨rvl, ra, rc⟩ := rv
      dsimp only at hrun z0 hE hE7 hap7 hb7 hrow2
      change _ = some (Value.slice ra rvl.length rc) at ck
      obtain ⟨W7, hW7⟩ : ∃ q, Hid (w6.setCell ⟨g, k, none⟩ (.slice a2 (rvl.length + 1) c2) = q) := ⟨_, Lib.hid rfl⟩
      rw [hW7.out] at hE hE7 hb7
      have HT7 := Lib.hid hE
      have HE7 := Lib.hid hE7
      have HR7 := Lib.hid hrow2
      have Hap7 := Lib.hid hap7
      have HB7 := Lib.hid hb7
      obtain ⟨RL, hRL⟩ : ∃ q, Hid (rvl.length = q) := ⟨_, Lib.hid rfl⟩
      rw [hRL.out] at hrun z0 ck hW7
      obtain ⟨oF, hoF⟩ : ∃ q, Hid (onlyL F = q) := ⟨_, Lib.hid rfl⟩
      rw [hoF.out] at hrun Hon HT7 HR7 Hap7
      have Hrun := Lib.hid hrun
      have HZ0 := Lib.hid z0
      have HS0 : Hid (U2.drew.cell? ⟨g, k, none⟩ = some (.slice ra RL rc)) := Lib.hid ck
      have HS8 : Hid ((U2.drew.alloc (.cells #[.int .i64 oF] 3)).cell? ⟨g, k, none⟩ = some (.slice ra RL rc)) := Lib.hid ((World.cell?_alloc_past _ _ _ hgl2.2).trans ck)
      clear hrun hgr hfr hcu hE6 hE7 hE hap7 hb6 hb7 hrow2 hrk hon hlen hold hme ck HTd HEd Hbd
      go_wp2_with (fail)
      refine region_till 11 (fun w' => w'.cell? ⟨g, k, none⟩ = some (.slice ra RL rc)) (by kernel_rfl) ?_
      refine till_takeY (i := 0) [10, 11] (v := ?_) (iatLS iatZS) (by kernel_rfl) (by kernel_rfl) (by kernel_rfl) (fun _ _ _ h => h) (by decide) (by kernel_rfl) (by decide) (by kernel_rfl) (Or.inl ⟨by rfl, ?_⟩) HS0.out ?_
      rotate_left
      ·intro w hSw
       try dsimp only at hSw
       go_simp
       all_goals with_reducible rfl
      try simp only [Act.put, List.setIfInBounds_toArray, List.set_cons_zero, List.set_cons_succ]
      refine till_takeY (i := 1) [10, 11] (v := ?_) (iatLS (iatSS iatZS)) (by kernel_rfl) (by kernel_rfl) (by kernel_rfl) (fun _ _ _ h => h) (by decide) (by kernel_rfl) (by decide) (by kernel_rfl) (Or.inl ⟨by rfl, ?_⟩) HS0.out ?_
      rotate_left
      ·intro w hSw
       try dsimp only at hSw
       go_simp
       all_goals with_reducible rfl
      try simp only [Act.put, List.setIfInBounds_toArray, List.set_cons_zero, List.set_cons_succ]
      refine till_takeY (i := 2) [4, 5, 9, 11] (v := ?_) (iatLS (iatSS (iatSS iatZS))) (by kernel_rfl) (by kernel_rfl) (by kernel_rfl) (fun _ _ _ h => h) (by decide) (by kernel_rfl) (by decide) (by kernel_rfl) (Or.inl ⟨by rfl, ?_⟩) HS0.out ?_
      rotate_left
      ·intro w hSw
       try dsimp only at hSw
       go_simp
       all_goals with_reducible rfl
      try simp only [Act.put, List.setIfInBounds_toArray, List.set_cons_zero, List.set_cons_succ]
      refine till_takeY (i := 3) [4, 5, 9, 11] (v := ?_) (iatLS (iatSS (iatSS (iatSS iatZS)))) (by kernel_rfl) (by kernel_rfl) (by kernel_rfl) (fun _ _ _ h => h) (by decide) (by kernel_rfl) (by decide) (by kernel_rfl) (Or.inl ⟨by rfl, ?_⟩) HS0.out ?_
      rotate_left
      ·intro w hSw
       try dsimp only at hSw
       go_simp
       all_goals with_reducible rfl
      try simp only [Act.put, List.setIfInBounds_toArray, List.set_cons_zero, List.set_cons_succ]
      refine till_takeY (i := 4) [5, 9, 11] (v := ?_) (iatLS (iatSS (iatSS (iatSS (iatSS iatZS))))) (by kernel_rfl) (by kernel_rfl) (by kernel_rfl) (fun _ _ _ h => h) (by decide) (by kernel_rfl) (by decide) (by kernel_rfl) (Or.inl ⟨by rfl, ?_⟩) HS0.out ?_
      rotate_left
      ·intro w hSw
       try dsimp only at hSw
       go_simp
       all_goals with_reducible rfl
      try simp only [Act.put, List.setIfInBounds_toArray, List.set_cons_zero, List.set_cons_succ]
      refine till_takeY (i := 5) [9, 11] (v := ?_) (iatLS (iatSS (iatSS (iatSS (iatSS (iatSS iatZS)))))) (by kernel_rfl) (by kernel_rfl) (by kernel_rfl) (fun _ _ _ h => h) (by decide) (by kernel_rfl) (by decide) (by kernel_rfl) (Or.inl ⟨by rfl, ?_⟩) HS0.out ?_
      rotate_left
      ·intro w hSw
       try dsimp only at hSw
       go_simp
       all_goals with_reducible rfl
      try simp only [Act.put, List.setIfInBounds_toArray, List.set_cons_zero, List.set_cons_succ]
      refine till_takeY (i := 6) [7, 8, 9, 11] (v := ?_) (iatLS (iatSS (iatSS (iatSS (iatSS (iatSS (iatSS iatZS))))))) (by kernel_rfl) (by kernel_rfl) (by kernel_rfl) (fun _ _ _ h => h) (by decide) (by kernel_rfl) (by decide) (by kernel_rfl) (Or.inl ⟨by rfl, ?_⟩) HS0.out ?_
      rotate_left
      ·intro w hSw
       try dsimp only at hSw
       go_simp
       all_goals with_reducible rfl
      try simp only [Act.put, List.setIfInBounds_toArray, List.set_cons_zero, List.set_cons_succ]
      refine till_ready (rs := [7]) (by kernel_rfl) (by simp) ?_
      refine TillAll.cons (iatLS (iatSS (iatSS (iatSS (iatSS (iatSS (iatSS (iatSS iatZS)))))))) (fun K hK => ?_) TillAll.nil
      go_simp
      (with_reducible refine Hon.out.mono ?_)
      rintro e8 W5 ⟨rfl, rfl⟩
      try dsimp only
      refine hK.out _ _ ?_ ?_
      ·exact fun _ => HS0.out
      clear hK K
      try simp only [Act.put, List.setIfInBounds_toArray, List.set_cons_zero, List.set_cons_succ]
      refine till_ready (rs := [8]) (by kernel_rfl) (by simp) ?_
      refine TillAll.cons (iatLS (iatSS (iatSS (iatSS (iatSS (iatSS (iatSS (iatSS (iatSS iatZS))))))))) (fun K hK => ?_) TillAll.nil
      go_simp
      refine hK.out _ _ ?_ ?_
      ·exact fun _ => HS8.out
      clear hK K
      try simp only [Act.put, List.setIfInBounds_toArray, List.set_cons_zero, List.set_cons_succ]
      refine till_ready (rs := [9]) (by kernel_rfl) (by simp) ?_
      refine TillAll.cons (iatLS (iatSS (iatSS (iatSS (iatSS (iatSS (iatSS (iatSS (iatSS (iatSS iatZS)))))))))) (fun K hK => ?_) TillAll.nil
      refine step_append_run rfl _ _ 35 35 rfl _ _ _ _ rfl rfl Hrun.out ?_
      refine hK.out _ _ ?_ ?_
      ·exact fun _ => z0
      clear hK K
      try simp only [Act.put, List.setIfInBounds_toArray, List.set_cons_zero, List.set_cons_succ]
      refine till_takeY (i := 10) [11] (v := ?_) (iatLS (iatSS (iatSS (iatSS (iatSS (iatSS (iatSS (iatSS (iatSS (iatSS (iatSS iatZS))))))))))) (by kernel_rfl) (by kernel_rfl) (by kernel_rfl) (fun _ _ _ h => h) (by decide) (by kernel_rfl) (by decide) (by kernel_rfl) (Or.inl ⟨by rfl, ?_⟩) HZ0.out ?_
      rotate_left
      ·intro w hSw
       try dsimp only at hSw
       go_simp
       all_goals with_reducible rfl
      try simp only [Act.put, List.setIfInBounds_toArray, List.set_cons_zero, List.set_cons_succ]
      refine till_ready (rs := [11]) (by kernel_rfl) (by simp) ?_
      refine TillAll.cons (iatLS (iatSS (iatSS (iatSS (iatSS (iatSS (iatSS (iatSS (iatSS (iatSS (iatSS (iatSS iatZS)))))))))))) (fun K hK => ?_) TillAll.nil
      go_simp
      rw [hW7.out]
      refine hK.out _ _ ?_ ?_
      ·exact fun h => nomatch (show (true : Bool) = false from h)
      clear hK K
      try simp only [Act.put, List.setIfInBounds_toArray, List.set_cons_zero, List.set_cons_succ]
      refine till_done (by kernel_rfl) ?_ _
      go_wp2_with (fail)
      exact ⟨⟨t + 1, _, by omega, by go_num, HT7, HR7, HN7, HE7, Hap7, HB7.out⟩, by simp [RowKit.intOf]; omega⟩
    ·have hte : t = T + 1 := by omega
     have htI : ¬ (t : Int) < (T : Int) + 1 := by omega
     have htI1 : ¬ (t : Int) < ((T + 1 : Nat) : Int) := by omega
     have HR2 : Hid (∀ r, r < L → rowL rs r = if r < k + 1 then rowT (P r) (ns r) (T + 1) else []) := Lib.hid (fun r hr => by
      rw [HR.out r hr, hte]
      by_cases e : r < k
      ·rw [if_pos e, if_pos (by omega)]
      ·rw [if_neg e]
       by_cases e2 : r = k
       ·subst e2; rw [if_pos rfl, if_pos (by omega)]
       ·rw [if_neg e2, if_neg (by omega)])
     have HN2 : Hid (∀ r, r < k + 1 → ∀ t, t < T + 1 → ((List.range (ns r)).filter (P r t)).length ≤ 1) := Lib.hid (fun r hr t2 h2 => by
      by_cases e : r = k
      ·subst e; exact HN.out t2 (by omega)
      ·exact HN0.out r (by omega) t2 h2)
     clear hte
     go_wp2_with (fail)
     exact ⟨⟨k + 1, rs, by omega, by go_num, HT0, HR2, HN2, hbr⟩, by simp [RowKit.intOf]; omega⟩
  ·have hke : k = L := by omega
   have hkI : ¬ (k : Int) < (L : Int) := by omega
   have Hfin := Lib.hid (HQ2.out U g rs (HT0.out.mono hwb) (fun r hr => by rw [HR.out r hr, if_pos (by omega)]) (fun r hr => HN0.out r (by omega)) Hbw.out)
   clear hke hbr3
   go_wp2_with (fail)
   first | exact Hfin.out | exact bodyPost_ret (v := .tuple #[.slice (some ⟨g, 0, none⟩) L L, .int .i64 0]) (by simp [results, Try.results33, go_sem]; try first | rfl | assumption | omega) rfl Hfin.out
end Go.Proofs.Ytldmgifphkpdlaa
namespace Go.Proofs.Ytldmgifphkpdlaa
open Go.RowKit Go.Maps
attribute [local go_sem] Oper.semAt_some
end Go.Proofs.Ytldmgifphkpdlaa
namespace Go.Proofs.Ytldmgifphkpdlaa
open Go.RowKit Go.Maps
attribute [local go_sem] Oper.semAt_some
end Go.Proofs.Ytldmgifphkpdlaa
namespace Go.Proofs.Ytldmgifphkpdlaa
open Go.RowKit Go.Maps
attribute [local go_sem] Oper.semAt_some
end Go.Proofs.Ytldmgifphkpdlaa
namespace Go.Proofs.Ytldmgifphkpdlaa
open Go.RowKit Go.Maps
attribute [local go_sem] Oper.semAt_some
end Go.Proofs.Ytldmgifphkpdlaa
namespace Go.Proofs.Ytldmgifphkpdlaa
open Go.RowKit Go.Maps
attribute [local go_sem] Oper.semAt_some
end Go.Proofs.Ytldmgifphkpdlaa
namespace Go.Proofs.Ytldmgifphkpdlaa
open Go.RowKit Go.Maps
attribute [local go_sem] Oper.semAt_some
theorem e10C_tak : (fun (r t j : Nat) => takB e9C (nulB e9C) 2 r (t : Int) j) = fun r t j => decide (r = 0 ∧ ((j = 0 ∧ t = 0) ∨ (j = 1 ∧ (t = 1 ∨ t = 2)))) := by
 funext r t j
 rw [Bool.eq_iff_iff, takB_iff, decide_eq_true_iff]
 have hahd : ahd (nulB e9C) [0, -1, 1] = [0] := by rw [e9C_nul]; simp [ahd]
 have hemp : emp (nulB e9C) [0, -1, 1] = false := by rw [e9C_nul]; simp [emp]
 constructor
 ·rintro ⟨a, ha, h⟩
  by_cases e : r = 0
  ·subst e
   refine ⟨rfl, ?_⟩
   match j, ha with
   | 0, ha =>
    obtain rfl : [0, -1, 1] = a := by simpa [e9C] using ha
    rcases h with h | ⟨h, _⟩
    ·rw [hahd] at h
     have := tok_tok (by omega) h
     exact .inl ⟨rfl, by omega⟩
    ·rw [hemp] at h; cases h
   | 1, ha =>
    obtain rfl : [] = a := by simpa [e9C] using ha
    rcases h with h | ⟨_, h⟩
    ·obtain ⟨x, hx, _⟩ := tok_iff.1 h
     cases hx
    ·have h2 := (e9C_fol.mem _).2 h
     have h3 : (t : Int) = 1 ∨ (t : Int) = 2 := by simpa using h2
     exact .inr ⟨rfl, by omega⟩
   | j + 2, ha => simp [e9C] at ha
  ·rw [e9C_out r (by omega)] at ha
   simp at ha
 ·rintro ⟨rfl, ⟨rfl, rfl⟩ | ⟨rfl, h⟩⟩
  ·exact ⟨[0, -1, 1], rfl, .inl (by rw [hahd]; exact tok_self (by omega))⟩
  ·refine ⟨[], rfl, .inr ⟨rfl, (e9C_fol.mem _).1 ?_⟩⟩
   rcases h with rfl | rfl <;> simp
def e10D : List (List (List Int)) := [[[0], [0, 1]]]
theorem e10D_out (r : Nat) (h : 1 ≤ r) : e10D.getD r [] = [] := by
 obtain ⟨r, rfl⟩ : ∃ q, r = q + 1 := ⟨r - 1, by omega⟩
 rfl
theorem e10D_nul : nulB e10D = fun _ => false := by
 funext r
 cases e : nulB e10D r
 ·rfl
 ·have h1 := nulB_lt e
  obtain ⟨a, ha, he⟩ := (nul_iff h1).1 e
  simp [e10D] at h1
  subst h1
  have : a = [0] ∨ a = [0, 1] := by simpa [e10D] using ha
  rcases this with rfl | rfl
  ·rw [emp_cons] at he; simp at he
  ·rw [emp_cons] at he; simp at he
theorem e10D_tak : (fun (r t j : Nat) => takB e10D (nulB e10D) 2 r (t : Int) j) = fun r t j => decide (r = 0 ∧ t = 0 ∧ (j = 0 ∨ j = 1)) := by
 funext r t j
 rw [Bool.eq_iff_iff, takB_iff, decide_eq_true_iff]
 have h0 : ahd (nulB e10D) [0] = [0] := by rw [e10D_nul]; simp [ahd]
 have h1 : ahd (nulB e10D) [0, 1] = [0] := by rw [e10D_nul]; simp [ahd]
 have g0 : emp (nulB e10D) [0] = false := by rw [e10D_nul]; simp [emp]
 have g1 : emp (nulB e10D) [0, 1] = false := by rw [e10D_nul]; simp [emp]
 constructor
 ·rintro ⟨a, ha, h⟩
  by_cases e : r = 0
  ·subst e
   refine ⟨rfl, ?_⟩
   match j, ha with
   | 0, ha =>
    obtain rfl : [0] = a := by simpa [e10D] using ha
    rcases h with h | ⟨h, _⟩
    ·rw [h0] at h
     have := tok_tok (by omega) h
     exact ⟨by omega, .inl rfl⟩
    ·rw [g0] at h; cases h
   | 1, ha =>
    obtain rfl : [0, 1] = a := by simpa [e10D] using ha
    rcases h with h | ⟨h, _⟩
    ·rw [h1] at h
     have := tok_tok (by omega) h
     exact ⟨by omega, .inr rfl⟩
    ·rw [g1] at h; cases h
   | j + 2, ha => simp [e10D] at ha
  ·rw [e10D_out r (by omega)] at ha
   simp at ha
 ·rintro ⟨rfl, rfl, rfl | rfl⟩
  ·exact ⟨[0], rfl, .inl (by rw [h0]; exact tok_self (by omega))⟩
  ·exact ⟨[0, 1], rfl, .inl (by rw [h1]; exact tok_self (by omega))⟩
theorem e10C_all : allCl e9C (nulB e9C) 2 = [] := by
 unfold allCl
 rw [e10C_tak]
 rfl
theorem e10D_all : allCl e10D (nulB e10D) 2 = [(0, 0, 0, 1)] := by
 unfold allCl
 rw [e10D_tak]
 rfl
theorem e10C_row : rowT (fun t j => takB e9C (nulB e9C) 2 0 (t : Int) j) (e9C.getD 0 []).length (2 + 1) = [0, 1, 1] := by
 have := congrFun e10C_tak 0
 rw [this]
 rfl
theorem e10C_prd : Ris [1, 2] (PrdP e9C (nulB e9C) 2 ((0 : Nat) : Int) ((1 : Nat) : Int)) := by
 refine ris_2 _ _ (by omega) _ fun t => ?_
 unfold PrdP
 rw [Int.toNat_natCast, Int.toNat_natCast, takB_at (a := []) rfl]
 unfold TakP
 have h1 := e9C_fol.mem t
 have h2 : (t = 1 ∨ t = 2) ↔ FolP e9C (nulB e9C) 2 0 t := by simpa using h1
 rw [h2]
 constructor
 ·rintro ⟨_, _, h | ⟨_, h⟩⟩
  ·obtain ⟨x, hx, _⟩ := tok_iff.1 h
   cases hx
  ·exact h
 ·exact fun h => ⟨by omega, by omega, .inr ⟨rfl, h⟩⟩
theorem OwnCl.at_ {W : World} {base c : Nat} {a : Option Addr} {l : List Cl4} (h : OwnCl W base a c l) (i : Nat) (hi : i < l.length) :
 ∃ g, a = some ⟨g, 0, none⟩ ∧ g < W.heap.size ∧ W.cell? ⟨g, i * 4, none⟩ = some (.int .i64 (l[i].1 : Int)) ∧ W.cell? ⟨g, i * 4 + 1, none⟩ = some (.int .i64 (l[i].2.1 : Int)) ∧ W.cell? ⟨g, i * 4 + 2, none⟩ = some (.int .i64 (l[i].2.2.1 : Int)) ∧ W.cell? ⟨g, i * 4 + 3, none⟩ = some (.int .i64 (l[i].2.2.2 : Int)) := by
 rcases h.2 with ⟨_, e2⟩ | ⟨g, cap', cur, e1, hb, hg, hle, hm, hs, ht⟩
 ·omega
 ·simp only [Value.slice.injEq] at e1
  obtain ⟨rfl, -, rfl⟩ := e1
  have key : ∀ (l : List Cl4) (i : Nat) (hi : i < l.length), (l.flatMap clC)[i * 4]? = some (.int .i64 (l[i].1 : Int)) ∧ (l.flatMap clC)[i * 4 + 1]? = some (.int .i64 (l[i].2.1 : Int)) ∧ (l.flatMap clC)[i * 4 + 2]? = some (.int .i64 (l[i].2.2.1 : Int)) ∧ (l.flatMap clC)[i * 4 + 3]? = some (.int .i64 (l[i].2.2.2 : Int)) := by
   intro l
   induction l with
   | nil => intro i hi; cases hi
   | cons x l ih =>
    intro i hi
    rw [List.flatMap_cons]
    cases i with
    | zero => simp [clC]
    | succ i =>
     have h4 : (clC x).length = 4 := rfl
     have := ih i (by simpa using hi)
     rw [List.getElem?_append_right (by rw [h4]; omega), List.getElem?_append_right (by rw [h4]; omega), List.getElem?_append_right (by rw [h4]; omega), List.getElem?_append_right (by rw [h4]; omega), h4, show (i + 1) * 4 - 4 = i * 4 by omega, show (i + 1) * 4 + 1 - 4 = i * 4 + 1 by omega, show (i + 1) * 4 + 2 - 4 = i * 4 + 2 by omega, show (i + 1) * 4 + 3 - 4 = i * 4 + 3 by omega]
     simpa using this
  obtain ⟨k0, k1, k2, k3⟩ := key l i hi
  refine ⟨g, rfl, (Array.getElem?_eq_some_iff.1 hg).1, ?_, ?_, ?_, ?_⟩
  ·rw [h.cellAt (i * 4) (by omega)]; exact k0
  ·rw [h.cellAt (i * 4 + 1) (by omega)]; exact k1
  ·rw [h.cellAt (i * 4 + 2) (by omega)]; exact k2
  ·rw [h.cellAt (i * 4 + 3) (by omega)]; exact k3
set_option maxRecDepth 100000 in
set_option maxHeartbeats 16000000 in
theorem sameCl_any (l : List Cl4) (a b : Option Addr) (ac bc b1 b2 : Nat) (w : World) (ha : OwnCl w b1 a ac l) (hb : OwnCl w b2 b bc l) :
 Calls Try.prog 35 #[.slice a l.length ac, .slice b l.length bc] w fun e w' => e = .returned (.bool true) ∧ Below w.heap.size w w' := by
 have hlm := ha.le
 have hlm2 := hb.le
 have Ha := Lib.hid ha
 have Hb := Lib.hid hb
 obtain ⟨L, HL⟩ : ∃ L, Hid (l.length = L) := ⟨_, Lib.hid rfl⟩
 rw [HL.out] at hlm hlm2 ⊢
 clear ha hb
 go_enter Try.func35, Try.ntmps35
 go_wp2_with (fail)
 go_loopw [13] (fun i wr => ∃ k : Nat, k ≤ L ∧ i = .int .i64 k ∧ Below w.heap.size w wr) (fun i _ => L - (RowKit.intOf i).toNat)
 case atStart => exact ⟨0, by omega, rfl, Below.refl _ _⟩
 case round =>
  obtain ⟨k, hk, rfl, hbr⟩ := hrel
  obtain ⟨U, rfl⟩ : ∃ U, U = wr := ⟨_, rfl⟩
  by_cases hlt : k < L
  ·have hkI : (k : Int) < (L : Int) := by omega
   have hkI0 : (0 : Int) ≤ (k : Int) := by omega
   have hkl : k < l.length := by rw [HL.out]; exact hlt
   have ha2 := (Ha.out.below hbr).at_ k hkl
   have hb2 := (Hb.out.below hbr).at_ k hkl
   obtain ⟨g, rfl, hgl, c1, c2, c3, c4⟩ := ha2
   obtain ⟨q, rfl, hql, e1, e2, e3, e4⟩ := hb2
   obtain ⟨x1, hx1⟩ : ∃ v, Hid ((l[k].1 : Int) = v) := ⟨_, Lib.hid rfl⟩
   obtain ⟨x2, hx2⟩ : ∃ v, Hid ((l[k].2.1 : Int) = v) := ⟨_, Lib.hid rfl⟩
   obtain ⟨x3, hx3⟩ : ∃ v, Hid ((l[k].2.2.1 : Int) = v) := ⟨_, Lib.hid rfl⟩
   obtain ⟨x4, hx4⟩ : ∃ v, Hid ((l[k].2.2.2 : Int) = v) := ⟨_, Lib.hid rfl⟩
   rw [hx1.out] at c1 e1
   rw [hx2.out] at c2 e2
   rw [hx3.out] at c3 e3
   rw [hx4.out] at c4 e4
   have HS6 : Hid (U.drew.cell? ⟨g, k * 4, none⟩ = some (.int .i64 x1) ∧ U.drew.cell? ⟨g, k * 4 + 1, none⟩ = some (.int .i64 x2) ∧ U.drew.cell? ⟨g, k * 4 + 2, none⟩ = some (.int .i64 x3) ∧ U.drew.cell? ⟨g, k * 4 + 3, none⟩ = some (.int .i64 x4) ∧ U.drew.cell? ⟨q, k * 4, none⟩ = some (.int .i64 x1) ∧ U.drew.cell? ⟨q, k * 4 + 1, none⟩ = some (.int .i64 x2) ∧ U.drew.cell? ⟨q, k * 4 + 2, none⟩ = some (.int .i64 x3) ∧ U.drew.cell? ⟨q, k * 4 + 3, none⟩ = some (.int .i64 x4)) := Lib.hid ⟨c1, c2, c3, c4, e1, e2, e3, e4⟩
   clear c1 c2 c3 c4 e1 e2 e3 e4
   go_wp2_with (fail)
   refine wp_region_held_drew (S := fun w' => w'.cell? ⟨g, k * 4, none⟩ = some (.int .i64 x1) ∧ w'.cell? ⟨g, k * 4 + 1, none⟩ = some (.int .i64 x2) ∧ w'.cell? ⟨g, k * 4 + 2, none⟩ = some (.int .i64 x3) ∧ w'.cell? ⟨g, k * 4 + 3, none⟩ = some (.int .i64 x4) ∧ w'.cell? ⟨q, k * 4, none⟩ = some (.int .i64 x1) ∧ w'.cell? ⟨q, k * 4 + 1, none⟩ = some (.int .i64 x2) ∧ w'.cell? ⟨q, k * 4 + 2, none⟩ = some (.int .i64 x3) ∧ w'.cell? ⟨q, k * 4 + 3, none⟩ = some (.int .i64 x4)) (by kernel_rfl) ?_ (fun hHeld => ?_)
   ·exact HS6.out
   refine wpAnyH_take (i := 0) (v := ?_) (iatLS iatZS) (by kernel_rfl) (by kernel_rfl) (by kernel_rfl) (fun _ _ _ h => h) (Or.inl ⟨by rfl, ?_⟩) (by assumption) ?_
   rotate_left
   ·intro w hSw
    try dsimp only at hSw
    go_simp
    all_goals with_reducible rfl
   try simp only [Act.put, List.setIfInBounds_toArray, List.set_cons_zero, List.set_cons_succ]
   refine wpAnyH_take (i := 1) (v := ?_) (iatLS (iatSS iatZS)) (by kernel_rfl) (by kernel_rfl) (by kernel_rfl) (fun _ _ _ h => h) (Or.inl ⟨by rfl, ?_⟩) (by assumption) ?_
   rotate_left
   ·intro w hSw
    try dsimp only at hSw
    go_simp
    all_goals with_reducible rfl
   try simp only [Act.put, List.setIfInBounds_toArray, List.set_cons_zero, List.set_cons_succ]
   refine wpAnyH_take (i := 2) (v := ?_) (iatLS (iatSS (iatSS iatZS))) (by kernel_rfl) (by kernel_rfl) (by kernel_rfl) (fun _ _ _ h => h) (Or.inl ⟨by rfl, ?_⟩) (by assumption) ?_
   rotate_left
   ·intro w hSw
    try dsimp only at hSw
    go_simp
    all_goals with_reducible rfl
   try simp only [Act.put, List.setIfInBounds_toArray, List.set_cons_zero, List.set_cons_succ]
   refine wpAnyH_take (i := 3) (v := ?_) (iatLS (iatSS (iatSS (iatSS iatZS)))) (by kernel_rfl) (by kernel_rfl) (by kernel_rfl) (fun _ _ _ h => h) (Or.inl ⟨by rfl, ?_⟩) (by assumption) ?_
   rotate_left
   ·intro w hSw
    try dsimp only at hSw
    go_simp
    all_goals with_reducible rfl
   try simp only [Act.put, List.setIfInBounds_toArray, List.set_cons_zero, List.set_cons_succ]
   refine wpAnyH_take (i := 4) (v := ?_) (iatLS (iatSS (iatSS (iatSS (iatSS iatZS))))) (by kernel_rfl) (by kernel_rfl) (by kernel_rfl) (fun _ _ _ h => h) (Or.inl ⟨by rfl, ?_⟩) (by assumption) ?_
   rotate_left
   ·intro w hSw
    try dsimp only at hSw
    go_simp
    all_goals with_reducible rfl
   try simp only [Act.put, List.setIfInBounds_toArray, List.set_cons_zero, List.set_cons_succ]
   refine wpAnyH_take (i := 5) (v := ?_) (iatLS (iatSS (iatSS (iatSS (iatSS (iatSS iatZS)))))) (by kernel_rfl) (by kernel_rfl) (by kernel_rfl) (fun _ _ _ h => h) (Or.inl ⟨by rfl, ?_⟩) (by assumption) ?_
   rotate_left
   ·intro w hSw
    try dsimp only at hSw
    go_simp
    all_goals with_reducible rfl
   try simp only [Act.put, List.setIfInBounds_toArray, List.set_cons_zero, List.set_cons_succ]
   refine wpAnyH_take (i := 6) (v := ?_) (iatLS (iatSS (iatSS (iatSS (iatSS (iatSS (iatSS iatZS))))))) (by kernel_rfl) (by kernel_rfl) (by kernel_rfl) (fun _ _ _ h => h) (Or.inl ⟨by rfl, ?_⟩) (by assumption) ?_
   rotate_left
   ·intro w hSw
    try dsimp only at hSw
    go_simp
    all_goals with_reducible rfl
   try simp only [Act.put, List.setIfInBounds_toArray, List.set_cons_zero, List.set_cons_succ]
   refine wpAnyH_take (i := 7) (v := ?_) (iatLS (iatSS (iatSS (iatSS (iatSS (iatSS (iatSS (iatSS iatZS)))))))) (by kernel_rfl) (by kernel_rfl) (by kernel_rfl) (fun _ _ _ h => h) (Or.inl ⟨by rfl, ?_⟩) (by assumption) ?_
   rotate_left
   ·intro w hSw
    try dsimp only at hSw
    go_simp
    all_goals with_reducible rfl
   try simp only [Act.put, List.setIfInBounds_toArray, List.set_cons_zero, List.set_cons_succ]
   refine wpAnyH_take (i := 8) (v := ?_) (iatLS (iatSS (iatSS (iatSS (iatSS (iatSS (iatSS (iatSS (iatSS iatZS))))))))) (by kernel_rfl) (by kernel_rfl) (by kernel_rfl) (fun _ _ _ h => h) (Or.inl ⟨by rfl, ?_⟩) (by assumption) ?_
   rotate_left
   ·intro w hSw
    try dsimp only at hSw
    go_simp
    all_goals with_reducible rfl
   try simp only [Act.put, List.setIfInBounds_toArray, List.set_cons_zero, List.set_cons_succ]
   refine wpAnyH_done (by kernel_rfl) ?_ _
   go_wp2_with (fail)
   exact ⟨⟨k + 1, by omega, by go_num, hbr.drew⟩, by simp [RowKit.intOf]; omega⟩
  ·have hke : k = L := by omega
   have hkI : ¬ (k : Int) < (L : Int) := by omega
   clear hke
   go_wp2_with (fail)
   exact bodyPost_ret (v := .bool true) (by simp [results, Try.results35, go_sem]; try first | rfl | assumption | omega) rfl ⟨rfl, hbr⟩
noncomputable def few10 (d : CfD) : Bool := decide (d.toks.length + d.names.length + szC (d.alts.map IrD.p) ≤ 150) && decide (validE d.p = 0)
theorem few10_fit {d : CfD} (h : few10 d = true) : FitC d := by
 unfold few10 at h
 rw [Bool.and_eq_true, decide_eq_true_eq, decide_eq_true_eq] at h
 exact valid_fit h.2
set_option maxRecDepth 100000 in
set_option maxHeartbeats 16000000 in
theorem few10_any (d : CfD) (w : World) (hd : CfAt w d) (h1 : ∀ t ∈ d.toks, t.size ≤ maxLen) (h2 : ∀ t ∈ d.names, t.size ≤ maxLen) (h3 : ∀ r ∈ d.alts, ∀ a ∈ r.ds, ∀ x ∈ a.l, -9223372036854775808 ≤ x ∧ x ≤ 9223372036854775807) (hs : d.toks.length + d.names.length + szC (d.alts.map IrD.p) ≤ 1000000000000) :
 Calls Try.prog 30 #[d.v] w fun e w' => e = .returned (.bool (few10 d)) ∧ Below w.heap.size w w' := by
 have HF := Lib.hid (fun W (hb : Below w.heap.size w W) => refFewM_any 150 (by omega) d W (hd.grown hb) hs)
 have HV := Lib.hid (fun W (hb : Below w.heap.size w W) (hf : d.toks.length + d.names.length + szC (d.alts.map IrD.p) ≤ 150) => refValid_any d W (hd.grown hb) ⟨by omega, h1, h2⟩ h3)
 obtain ⟨R, hR⟩ : ∃ q, Hid (few10 d = q) := ⟨_, Lib.hid rfl⟩
 rw [hR.out]
 unfold few10 at hR
 obtain ⟨E, hE⟩ : ∃ q, Hid (validE d.p = q) := ⟨_, Lib.hid rfl⟩
 rw [hE.out] at HV hR
 obtain ⟨Z, hZ⟩ : ∃ q, Hid (d.toks.length + d.names.length + szC (d.alts.map IrD.p) = q) := ⟨_, Lib.hid rfl⟩
 rw [hZ.out] at HF HV hR
 obtain ⟨xt, xta, xtc, xn, xna, xnc, xa, xaa, xac⟩ := d
 dsimp only [CfD.v] at *
 have hb1 : Below w.heap.size w (w.alloc (.cells #[.slice xta xt.length xtc, .slice xna xn.length xnc, .slice xaa xa.length xac] 25)) := (Below.refl _ w).alloc (Nat.le_refl _) _
 have hA := Blk.new w 25 #[.slice xta xt.length xtc, .slice xna xn.length xnc, .slice xaa xa.length xac]
 obtain ⟨T, HT⟩ : ∃ q, Hid (xt.length = q) := ⟨_, Lib.hid rfl⟩
 obtain ⟨N, HN⟩ : ∃ q, Hid (xn.length = q) := ⟨_, Lib.hid rfl⟩
 obtain ⟨L, HL⟩ : ∃ q, Hid (xa.length = q) := ⟨_, Lib.hid rfl⟩
 rw [HT.out, HN.out, HL.out] at hA hb1 HF HV ⊢
 have x0 := hA.cell 0
 have x1 := hA.cell 1
 have x2 := hA.cell 2
 have xl := hA.lt
 simp only [List.getElem?_cons_zero, List.getElem?_cons_succ] at x0 x1 x2
 have HA := Lib.hid hA
 have Hb1 := Lib.hid hb1
 have HF' : Hid (∀ W, Below w.heap.size w W → Calls Try.prog 49 #[.agg #[.slice xta T xtc, .slice xna N xnc, .slice xaa L xac], .int .i64 150] W fun e w' => e = .returned (.bool (decide (Z ≤ 150))) ∧ Below W.heap.size W w') := HF
 have Hc1 := Lib.hid (HF'.out _ hb1)
 clear hd hA hb1 h1 h2 h3 hs HF HF'
 by_cases hz : Z ≤ 150
 ·rw [decide_eq_true hz] at Hc1 hR
  rw [Bool.true_and] at hR
  have HV' : Hid (∀ W, Below w.heap.size w W → Calls Try.prog 50 #[.agg #[.slice xta T xtc, .slice xna N xnc, .slice xaa L xac]] W fun e w' => e = .returned (.int .i64 E) ∧ Below W.heap.size W w') := Lib.hid (fun W hb => HV.out W hb hz)
  clear HV hz
  go_enter Try.func30, Try.ntmps30
  go_wp2_with (fail)
  obtain ⟨bx, hbx⟩ : ∃ q, Hid (w.heap.size = q) := ⟨_, Lib.hid rfl⟩
  rw [hbx.out] at HA xl x0 x1 x2 ⊢
  generalize hV : World.alloc w _ = V at HA x0 x1 x2 xl Hb1 Hc1 ⊢
  clear hV
  refine Hc1.out.mono ?_
  rintro e w2 ⟨rfl, hb2⟩
  have HA2 := Lib.hid (HA.out.below hb2 HA.out.lt)
  have Hb2 := Lib.hid (Hb1.out.trans (hb2.mono Hb1.out.size))
  clear x0 x1 x2 xl hb2 Hc1
  have x0 := HA2.out.cell 0
  have x1 := HA2.out.cell 1
  have x2 := HA2.out.cell 2
  have xl := HA2.out.lt
  simp only [List.getElem?_cons_zero, List.getElem?_cons_succ] at x0 x1 x2
  go_wp2_with (fail)
  refine (HV'.out w2 Hb2.out).mono ?_
  rintro e w3 ⟨rfl, hb3⟩
  have Hb3 := Lib.hid (Hb2.out.trans (hb3.mono Hb2.out.size))
  clear x0 x1 x2 xl hb3 HV'
  by_cases h0 : E = 0
  ·subst h0
   have hRt : Hid (R = true) := Lib.hid (by rw [← hR.out]; exact decide_eq_true rfl)
   go_wp2_with (fail)
   exact bodyPost_ret (v := .bool true) (by simp [results, Try.results30, go_sem]; try first | rfl | assumption | omega) rfl ⟨by rw [hRt.out], Hb3.out⟩
  ·have hRt : Hid (R = false) := Lib.hid (by rw [← hR.out]; exact decide_eq_false h0)
   have h00 : (E == 0) = false := by rw [beq_eq_false_iff_ne]; exact h0
   go_wp2_with (fail)
   exact bodyPost_ret (v := .bool false) (by simp [results, Try.results30, go_sem]; try first | rfl | assumption | omega) rfl ⟨by rw [hRt.out], Hb3.out⟩
 ·rw [decide_eq_false hz] at Hc1 hR
  rw [Bool.false_and] at hR
  clear HV hz
  go_enter Try.func30, Try.ntmps30
  go_wp2_with (fail)
  obtain ⟨bx, hbx⟩ : ∃ q, Hid (w.heap.size = q) := ⟨_, Lib.hid rfl⟩
  rw [hbx.out] at HA xl x0 x1 x2 ⊢
  generalize hV : World.alloc w _ = V at HA x0 x1 x2 xl Hb1 Hc1 ⊢
  clear hV
  refine Hc1.out.mono ?_
  rintro e w2 ⟨rfl, hb2⟩
  have Hb2 := Lib.hid (Hb1.out.trans (hb2.mono Hb1.out.size))
  clear x0 x1 x2 xl hb2 Hc1
  go_wp2_with (fail)
  exact bodyPost_ret (v := .bool false) (by simp [results, Try.results30, go_sem]; try first | rfl | assumption | omega) rfl ⟨by rw [← hR.out], Hb2.out⟩
end Go.Proofs.Ytldmgifphkpdlaa
