/- Texts joined: Qj Qk. -/
import Derived.Test.YtldmgifphkpdlaaRTAx
import Derived.Test.YtldmgifphkpdlaaRTAq
import Derived.Test.YtldmgifphkpdlaaRTAs
set_option linter.unusedVariables false
set_option linter.unusedSimpArgs false
namespace Go.Proofs.Ytldmgifphkpdlaa
open Go.RowKit Go.Maps
attribute [local go_sem] Oper.semAt_some
theorem rowT_len (p : Nat → Nat → Bool) (n T : Nat) : (rowT p n T).length = T := by unfold rowT; rw [List.length_map, List.length_range]
/-- What Build answers. -/
def BldQ (w : World) (al : List (List (List Int))) (f : Nat → Bool) (T : Nat) (e : Ending) (W' : World) : Prop :=
 (allCl al f T ≠ [] ∧ e = .returned (.tuple #[.slice none 0 0, .int .i64 100]) ∧ Below w.heap.size w W') ∨
 (allCl al f T = [] ∧ ∃ g rs, e = .returned (.tuple #[.slice (some ⟨g, 0, none⟩) al.length al.length, .int .i64 0]) ∧ TkA W' w.heap.size g al.length rs ∧ (∀ r, r < al.length → rowL rs r = rowT (fun t j => takB al f T r (t : Int) j) (al.getD r []).length (T + 1)) ∧ Below w.heap.size w W')
set_option maxRecDepth 100000 in
set_option maxHeartbeats 16000000 in
theorem build_any (d : CfD) (w : World) (hd : CfAt w d) (hf : FitC d) :
 Calls Try.prog 33 #[d.v] w (BldQ w (d.alts.map IrD.p) (nulB (d.alts.map IrD.p)) d.toks.length) := by
 have hr60 := hf.r
 have ht60 := hf.t
 have Hng := Lib.hid (fun W (hb : Below w.heap.size w W) => newGuide_any d W (hd.grown hb) hf)
 have Hru := Lib.hid (fun fa fc W => rules_any d fa fc W (by omega))
 have hpl : (d.alts.map IrD.p).length = d.alts.length := List.length_map _
 have hst : ∀ r (h : r < d.alts.length), (d.alts.map IrD.p).getD r [] = (d.alts[r]).ds.map (fun x => x.l) := fun r h => by
  rw [List.getD_eq_getElem?_getD, List.getElem?_map, List.getElem?_eq_getElem h]
  rfl
 have Hns : Hid (∀ r, ((d.alts.map IrD.p).getD r []).length ≤ 30) := Lib.hid (fun r => by
  by_cases h : r < d.alts.length
  ·rw [hst r h, List.length_map]; exact hf.a _ (List.getElem_mem h)
  ·rw [List.getD_eq_getElem?_getD, List.getElem?_eq_none (by rw [hpl]; omega)]; simp)
 have Htk := Lib.hid (fun fa fc fs (r : Nat) W (hb : Below w.heap.size w W) (hfo : FolAt W d fa fc fs) (hr : r < d.alts.length) => by
  have h := takers_any d fa fc fs r W (hd.grown hb) hf hfo hr
  rw [show (d.alts[r]).ds.length = ((d.alts.map IrD.p).getD r []).length by rw [hst r hr, List.length_map]] at h
  exact h)
 have Hgr := Lib.hid (fun W W' fa fc fs (h : FolAt W d fa fc fs) (hb : Below W.heap.size W W') => h.grown hb)
 obtain ⟨al, hal9⟩ : ∃ q, Hid (d.alts.map IrD.p = q) := ⟨_, Lib.hid rfl⟩
 rw [hal9.out] at Htk Hns hpl ⊢
 obtain ⟨f, hf9⟩ : ∃ q, Hid (nulB al = q) := ⟨_, Lib.hid rfl⟩
 rw [hf9.out] at Htk ⊢
 obtain ⟨P, hP⟩ : ∃ q : Nat → Nat → Nat → Bool, Hid ((fun (r t j : Nat) => takB al f d.toks.length r (t : Int) j) = q) := ⟨_, Lib.hid rfl⟩
 have HP : Hid (∀ (r t j : Nat), takB al f d.toks.length r (t : Int) j = P r t j) := Lib.hid (fun r t j => congrFun (congrFun (congrFun hP.out r) t) j)
 obtain ⟨ns, hns9⟩ : ∃ q : Nat → Nat, Hid ((fun r => (al.getD r []).length) = q) := ⟨_, Lib.hid rfl⟩
 have Hnn : Hid (∀ r, (al.getD r []).length = ns r) := Lib.hid (fun r => congrFun hns9.out r)
 have HTK : Hid (∀ r t n, tkL (takB al f d.toks.length r) n t = ((List.range n).filter (P r t)).map (fun j : Nat => (j : Int))) := Lib.hid (fun r t n => by
  unfold tkL
  congr 1
  exact List.filter_congr (fun j _ => HP.out r t j))
 obtain ⟨Q, hQ⟩ : ∃ Q : Ending → World → Prop, Hid (BldQ w al f d.toks.length = Q) := ⟨_, Lib.hid rfl⟩
 rw [hQ.out]
 have hcl : allCl al f d.toks.length = clS P ns (d.toks.length + 1) d.alts.length := by unfold allCl; rw [hP.out, hns9.out, hpl]
 have HQ1 : Hid (∀ W r t, r < d.alts.length → t < d.toks.length + 1 → 1 < ((List.range (ns r)).filter (P r t)).length → Below w.heap.size w W → Q (.returned (.tuple #[.slice none 0 0, .int .i64 100])) W) := Lib.hid (fun W r t h1 h2 h3 h4 => by
  rw [← hQ.out]
  refine .inl ⟨?_, rfl, h4⟩
  rw [hcl]
  intro e
  have := clS_nil.1 e r h1 t h2
  omega)
 have HQ2 : Hid (∀ W g rs, TkA W w.heap.size g d.alts.length rs → (∀ r, r < d.alts.length → rowL rs r = rowT (P r) (ns r) (d.toks.length + 1)) → (∀ r, r < d.alts.length → ∀ t, t < d.toks.length + 1 → ((List.range (ns r)).filter (P r t)).length ≤ 1) → Below w.heap.size w W → Q (.returned (.tuple #[.slice (some ⟨g, 0, none⟩) d.alts.length d.alts.length, .int .i64 0])) W) := Lib.hid (fun W g rs h1 h2 h3 h4 => by
  rw [← hQ.out]
  refine .inr ⟨by rw [hcl]; exact clS_nil.2 h3, g, rs, by rw [hpl], by rw [hpl]; exact h1, fun r hr => ?_, h4⟩
  rw [h2 r (by rw [← hpl]; exact hr), Hnn.out]
  congr 1
  funext t j
  exact (HP.out r t j).symm)
 clear hcl
 have hNs : Hid (∀ r, ns r ≤ 30) := Lib.hid (fun r => by rw [← Hnn.out]; exact Hns.out r)
 have hxm : d.alts.length ≤ d.ac ∧ d.ac ≤ 9223372036854775807 := ⟨by have := hd.alts.le; rwa [List.length_map] at this, hd.alts.max⟩
 clear hQ hpl hst hd hf hP hns9 Hns
 obtain ⟨DD, hDD⟩ : ∃ q, Hid (d = q) := ⟨_, Lib.hid rfl⟩
 have hv : d.v = .agg #[.slice d.ta d.toks.length d.tc, .slice d.na d.names.length d.nc, .slice d.aa d.alts.length d.ac] := rfl
 rw [hv] at Hng ⊢
 have hg : ∀ fa fc, guV d fa fc = .agg #[.slice d.ta d.toks.length d.tc, .slice d.na d.names.length d.nc, .slice d.aa d.alts.length d.ac, .slice fa d.alts.length fc] := fun _ _ => rfl
 have hb1 : Below w.heap.size w (w.alloc (.cells #[.slice d.ta d.toks.length d.tc, .slice d.na d.names.length d.nc, .slice d.aa d.alts.length d.ac] 25)) := (Below.refl _ w).alloc (Nat.le_refl _) _
 have hA := Blk.new w 25 #[.slice d.ta d.toks.length d.tc, .slice d.na d.names.length d.nc, .slice d.aa d.alts.length d.ac]
 obtain ⟨T, HT⟩ : ∃ q, Hid (d.toks.length = q) := ⟨_, Lib.hid rfl⟩
 obtain ⟨N, HN⟩ : ∃ q, Hid (d.names.length = q) := ⟨_, Lib.hid rfl⟩
 obtain ⟨L, HL⟩ : ∃ q, Hid (d.alts.length = q) := ⟨_, Lib.hid rfl⟩
 obtain ⟨xta, Hxta⟩ : ∃ q, Hid (d.ta = q) := ⟨_, Lib.hid rfl⟩
 obtain ⟨xtc, Hxtc⟩ : ∃ q, Hid (d.tc = q) := ⟨_, Lib.hid rfl⟩
 obtain ⟨xna, Hxna⟩ : ∃ q, Hid (d.na = q) := ⟨_, Lib.hid rfl⟩
 obtain ⟨xnc, Hxnc⟩ : ∃ q, Hid (d.nc = q) := ⟨_, Lib.hid rfl⟩
 obtain ⟨xaa, Hxaa⟩ : ∃ q, Hid (d.aa = q) := ⟨_, Lib.hid rfl⟩
 obtain ⟨xac, Hxac⟩ : ∃ q, Hid (d.ac = q) := ⟨_, Lib.hid rfl⟩
 have hgu : Hid (∀ fa fc, guV d fa fc = .agg #[.slice xta T xtc, .slice xna N xnc, .slice xaa L xac, .slice fa L fc]) := Lib.hid (fun fa fc => by rw [hg, HT.out, HN.out, HL.out, Hxta.out, Hxtc.out, Hxna.out, Hxnc.out, Hxaa.out, Hxac.out])
 rw [HT.out, HN.out, HL.out, Hxta.out, Hxtc.out, Hxna.out, Hxnc.out, Hxaa.out, Hxac.out] at hA hb1 Hng ⊢
 rw [HL.out, Hxac.out] at hxm
 rw [HT.out, HL.out] at HQ1 HQ2
 rw [HT.out] at HTK ht60
 rw [HL.out] at hr60
 have Hru2 : Hid (∀ fa fc W, Calls Try.prog 73 #[.agg #[.slice xta T xtc, .slice xna N xnc, .slice xaa L xac, .slice fa L fc]] W fun e w' => e = .returned (.int .i64 (L : Int)) ∧ Below W.heap.size W w') := Lib.hid (fun fa fc W => by
  have := Hru.out fa fc W
  rw [hgu.out, HL.out] at this
  exact this)
 have Htk2 : Hid (∀ fa fc fs (r : Nat) W (hb : Below w.heap.size w W) (hfo : FolAt W d fa fc fs) (hr : r < L), Calls Try.prog 76 #[.agg #[.slice xta T xtc, .slice xna N xnc, .slice xaa L xac, .slice fa L fc], .int .i64 (r : Int)] W (TkrQ W T (fun t => ((List.range (ns r)).filter (P r t)).map (fun j : Nat => (j : Int))))) := Lib.hid (fun fa fc fs r W hb hfo hr => by
  have := Htk.out fa fc fs r W hb hfo (by rw [HL.out]; exact hr)
  rw [hgu.out, HT.out, Hnn.out] at this
  rw [show (fun t => ((List.range (ns r)).filter (P r t)).map (fun j : Nat => (j : Int))) = tkL (takB al f T r) (ns r) from funext (fun t => (HTK.out r t (ns r)).symm)]
  exact this)
 have x0 := hA.cell 0
 have x1 := hA.cell 1
 have x2 := hA.cell 2
 have xl := hA.lt
 simp only [List.getElem?_cons_zero, List.getElem?_cons_succ] at x0 x1 x2
 have HA := Lib.hid hA
 have Hb1 := Lib.hid hb1
 obtain ⟨iO, hiO, hzO, hsO, hbO⟩ := info_parts info_rowI
 have Hmk := Lib.hid (fun (b : Nat) (W : World) (hW : b ≤ W.heap.size) => run_makeSlice_full (P := Try.prog) (w := W) b 32 35 iO (.slice none 0 0) 1 Try.underlying32 hiO hzO hsO .i64 .i64 L (by omega) (by rw [hbO]; omega) (by unfold maxLen; omega) hW)
 clear hA hb1 hv hg Hru Htk hDD HTK hiO hzO hsO hbO
 go_enter Try.func33, Try.ntmps33
 go_wp2_with (fail)
 obtain ⟨bx, hbx⟩ : ∃ q, Hid (w.heap.size = q) := ⟨_, Lib.hid rfl⟩
 rw [hbx.out] at HA x0 x1 x2 xl ⊢
 generalize hV : World.alloc w _ = V1 at HA x0 x1 x2 xl Hb1 ⊢
 clear hV
 refine (Hng.out V1 Hb1.out).mono ?_
 rintro e w2 ⟨fa, fc, fs, rfl, hfo, hb⟩
 have HA2 := Lib.hid (HA.out.below hb HA.out.lt)
 have Hb2 := Lib.hid (Hb1.out.trans (hb.mono Hb1.out.size))
 have hb3 : Below w2.heap.size w2 (w2.alloc (.cells #[.slice xta T xtc, .slice xna N xnc, .slice xaa L xac, .slice fa L fc] 95)) := (Below.refl _ w2).alloc (Nat.le_refl _) _
 have hG3 := Blk.new w2 95 #[.slice xta T xtc, .slice xna N xnc, .slice xaa L xac, .slice fa L fc]
 have Hfo3 := Lib.hid (Hgr.out _ _ fa fc fs hfo hb3)
 have HG3 := Lib.hid hG3
 have Hb3 := Lib.hid (Hb2.out.trans (hb3.mono Hb2.out.size))
 have hfm : True := trivial
 rw [hgu.out]
 clear x0 x1 x2 xl hb hfo hb3 hG3 HA2 HA
 go_wp2_with (fail)
 obtain ⟨bg, hbg⟩ : ∃ q, Hid (w2.heap.size = q) := ⟨_, Lib.hid rfl⟩
 rw [hbg.out] at HG3 ⊢
 generalize hV : World.alloc w2 _ = V3 at HG3 Hb3 Hfo3 ⊢
 clear hV
 refine (Hru2.out fa fc V3).mono ?_
 rintro e w4 ⟨rfl, hb4⟩
 obtain ⟨base, hbase⟩ : ∃ q, Hid (V3.heap.size = q) := ⟨_, Lib.hid rfl⟩
 have hbgb : bg < base := by rw [← hbase.out]; exact HG3.out.lt
 have hwb : w.heap.size ≤ base := by rw [← hbase.out]; exact Hb3.out.size
 have hbV : base ≤ V3.heap.size := by rw [hbase.out]; exact Nat.le_refl _
 rw [hbase.out] at hb4
 have hbn4 : base ≤ w4.heap.size := by have := hb4.size; omega
 obtain ⟨w5, hrun5, ho5, hg5⟩ := Hmk.out base w4 hbn4
 rw [made_fill _ rfl] at ho5
 have hb45 := belowAt hg5 (B := base) (fun i e => by cases e) hbn4
 have Hb5 := Lib.hid (hb4.trans hb45)
 obtain ⟨g, hg⟩ : ∃ q, Hid (w4.heap.size = q) := ⟨_, Lib.hid rfl⟩
 rw [hg.out] at hrun5 ho5
 have hbg2 : base ≤ g := by rw [← hg.out]; exact hbn4
 have HT5 : Hid (TkA w5 base g L (List.replicate L ⟨[], none, 0⟩)) := Lib.hid ⟨by rw [List.map_replicate]; exact ho5, List.length_replicate .., fun e he => by rw [List.mem_replicate] at he; rw [he.2]; exact OwnKZ.nil _ _, fun i j hi hj hij b h => by rw [List.getElem_replicate] at h; cases h⟩
 have HR5 : Hid (∀ r, r < L → rowL (List.replicate L (⟨[], none, 0⟩ : IltD)) r = if r < 0 then rowT (P r) (ns r) (T + 1) else []) := Lib.hid (fun r hr => by rw [rowL_at (by rw [List.length_replicate]; exact hr)]; simp)
 have HG5 := Lib.hid (HG3.out.below Hb5.out hbgb)
 have y0 := HG5.out.cell 0
 have y1 := HG5.out.cell 1
 have y2 := HG5.out.cell 2
 have y3 := HG5.out.cell 3
 have yl := HG5.out.lt
 simp only [List.getElem?_cons_zero, List.getElem?_cons_succ] at y0 y1 y2 y3
 have Hru5 := Lib.hid (Hru2.out fa fc w5)
 clear hb4 hb45 ho5 hg5 hbn4
 go_wp2_with (fail)
 refine Hru5.out.mono ?_
 rintro e w6 ⟨rfl, hb6⟩
 have HT6 := Lib.hid (HT5.out.below hb6)
 have Hb6 := Lib.hid (Hb5.out.trans (hb6.mono (by have := Hb5.out.size; omega)))
 clear hrun5 y0 y1 y2 y3 yl HG5 HT5 Hb5 hb6 Hru5
 go_wp2_with (fail)
 go_loopw [16] (fun kv wr => ∃ (k : Nat) (rs : List IltD), k ≤ L ∧ kv = .int .i64 (k : Int) ∧ Hid (TkA wr base g L rs) ∧ Hid (∀ r, r < L → rowL rs r = if r < k then rowT (P r) (ns r) (T + 1) else []) ∧ Hid (∀ r, r < k → ∀ t, t < T + 1 → ((List.range (ns r)).filter (P r t)).length ≤ 1) ∧ Below base V3 wr) (fun kv _ => L - (RowKit.intOf kv).toNat)
 case atStart => exact ⟨0, _, Nat.zero_le _, rfl, HT6, HR5, Lib.hid (fun r hr => absurd hr (by omega)), Hb6.out⟩
 case round =>
  clear HT6 HR5 Hb6
  obtain ⟨k, rs, hk, rfl, HT0, HR, HN0, hbr⟩ := hrel
  obtain ⟨U, rfl⟩ : ∃ U, U = wr := ⟨_, rfl⟩
  have hbr3 : Below V3.heap.size V3 U := by rw [hbase.out]; exact hbr
  have Hbw := Lib.hid (Hb3.out.trans (hbr3.mono Hb3.out.size))
  by_cases hlt : k < L
  ·have hkI : (k : Int) < (L : Int) := by omega
   have hkI0 : (0 : Int) ≤ (k : Int) := by omega
   have HGu := Lib.hid (HG3.out.below hbr hbgb)
   have y0 := HGu.out.cell 0
   have y1 := HGu.out.cell 1
   have y2 := HGu.out.cell 2
   have y3 := HGu.out.cell 3
   have yl := HGu.out.lt
   simp only [List.getElem?_cons_zero, List.getElem?_cons_succ] at y0 y1 y2 y3
   have Hc := Lib.hid (Htk2.out fa fc fs k U Hbw.out (Hgr.out _ _ fa fc fs Hfo3.out hbr3) hlt)
   have hbn : base ≤ U.heap.size := by have := hbr.size; omega
   have hkr : k < rs.length := by rw [HT0.out.len]; exact hlt
   have hr0 := HR.out k hlt
   rw [if_neg (Nat.lt_irrefl k), rowL_at hkr] at hr0
   clear hbr3
   go_wp2_with (fail)
   refine Hc.out.mono ?_
   rintro e5 w5 ⟨g5, es, rfl, hE5, hR5, hb5⟩
   have HE5 := Lib.hid hE5
   have HE5R := Lib.hid hR5
   have HT5 := Lib.hid (HT0.out.below hb5)
   have Hb5 := Lib.hid (hbr.trans (hb5.mono hbn))
   have hgU : g < U.heap.size := HT0.out.lt.2
   have HR5 : Hid (∀ r, r < L → rowL rs r = if r < k then rowT (P r) (ns r) (T + 1) else if r = k then rowT (P k) (ns k) 0 else []) := Lib.hid (fun r hr => by
    rw [HR.out r hr]
    split
    ·rfl
    ·split <;> rfl)
   have Hap5 : Hid (∀ x ∈ rs, ∀ b, ownB x = some b → b < U.heap.size ∨ (b ≠ g5 ∧ ∀ e ∈ es, ownB e ≠ some b)) := Lib.hid (fun x hx b h1 => .inl (World.ownsRow.lt (HT0.out.ins x hx) b h1).2)
   obtain ⟨H5, hH5⟩ : ∃ q, Hid (U.heap.size = q) := ⟨_, Lib.hid rfl⟩
   rw [hH5.out] at HE5 hgU Hap5
   clear y0 y1 y2 y3 yl HGu Hc hE5 hR5 hb5 HT0 HR hbr Hbw
   go_wp2_with (fail)
   go_loopw [23] (fun tv wr => ∃ (t : Nat) (rs : List IltD), t ≤ T + 1 ∧ tv = .int .i64 (t : Int) ∧ Hid (TkA wr base g L rs) ∧ Hid (∀ r, r < L → rowL rs r = if r < k then rowT (P r) (ns r) (T + 1) else if r = k then rowT (P k) (ns k) t else []) ∧ Hid (∀ t2, t2 < t → ((List.range (ns k)).filter (P k t2)).length ≤ 1) ∧ Hid (TkA wr H5 g5 (T + 1) es) ∧ Hid (∀ x ∈ rs, ∀ b, ownB x = some b → b < H5 ∨ (b ≠ g5 ∧ ∀ e ∈ es, ownB e ≠ some b)) ∧ Below base V3 wr) (fun tv _ => T + 1 - (RowKit.intOf tv).toNat)
   case atStart => exact ⟨0, rs, Nat.zero_le _, rfl, HT5, HR5, Lib.hid (fun t ht => absurd ht (by omega)), HE5, Hap5, Hb5.out⟩
   case round =>
    clear HT5 HR5 HE5 Hap5 Hb5
    obtain ⟨t, rs, ht, rfl, HT0, HR, HN, HE, Hap, hbr⟩ := hrel
    obtain ⟨U2, rfl⟩ : ∃ U, U = wr := ⟨_, rfl⟩
    by_cases hltt : t < T + 1
    ·have htI : (t : Int) < (T : Int) + 1 := by omega
     have htI1 : (t : Int) < ((T + 1 : Nat) : Int) := by omega
     have htI0 : (0 : Int) ≤ (t : Int) := by omega
     have hte : t < es.length := by rw [HE.out.len]; exact hltt
     obtain ⟨F, hF⟩ : ∃ q, Hid ((List.range (ns k)).filter (P k t) = q) := ⟨_, Lib.hid rfl⟩
     have hrow := HE5R.out t hltt
     rw [rowL_at hte] at hrow
     try dsimp only at hrow
     rw [hF.out] at hrow
     have ce := HE.out.alts.row.cell g5 0 rfl t (by rw [List.length_map]; exact hte)
     rw [List.getElem_map, Nat.zero_add] at ce
     have hgl := HE.out.lt
     have hei := HE.out.alts.nms _ (List.getElem_mem hte)
     obtain ⟨ev, hev⟩ : ∃ v, Hid (es[t] = v) := ⟨_, Lib.hid rfl⟩
     rw [hev.out] at hrow ce hei
     obtain ⟨evl, eva, evc⟩ := ev
     dsimp only at hrow hei
     change _ = some (Value.slice eva evl.length evc) at ce
     have Hevl := Lib.hid hrow
     have Hei := Lib.hid hei
     obtain ⟨EV, hEVl⟩ : ∃ q, Hid (evl.length = q) := ⟨_, Lib.hid rfl⟩
     have HEF : Hid (EV = F.length) := Lib.hid (by rw [← hEVl.out, hrow, List.length_map])
     rw [hEVl.out] at ce
     clear hrow hei
     by_cases hc1 : 1 < EV
     ·have hcI : (1 : Int) < (EV : Int) := by omega
      have hcI2 : (EV : Int) > 1 := hcI
      have hbr3 : Below V3.heap.size V3 U2 := by rw [hbase.out]; exact hbr
      have Hfin := Lib.hid (HQ1.out U2 k t hlt hltt (by rw [hF.out, ← HEF.out]; exact hc1) (Hb3.out.trans (hbr3.mono Hb3.out.size)))
      clear hbr3
      go_wp2_with (fail)
      first | exact Hfin.out | exact bodyPost_ret (v := .tuple #[.slice none 0 0, .int .i64 100]) (by simp [results, Try.results33, go_sem]; try first | rfl | assumption | omega) rfl Hfin.out
     ·have hcI : ¬ (EV : Int) > 1 := by omega
      have hcI2 : ¬ (1 : Int) < (EV : Int) := by omega
      have hkr2 : k < rs.length := by rw [HT0.out.len]; exact hlt
      have hrk := HR.out k hlt
      rw [if_neg (Nat.lt_irrefl k), if_pos rfl, rowL_at hkr2] at hrk
      have hon : onlyI evl = onlyL F := by rw [Hevl.out, onlyI_nat]
      have HTd := Lib.hid (HT0.out.below (Below.refl _ U2).drew)
      have HEd := Lib.hid (HE.out.below (Below.refl _ U2).drew)
      have Hbd := Lib.hid hbr.drew
      have Hon := Lib.hid (onlyOf_any evl eva evc U2.drew (Hei.out.grown (Below.refl _ U2).drew))
      rw [hEVl.out, hon] at Hon
      have hbn2 : base ≤ U2.drew.heap.size := by have := Hbd.out.size; omega
      have hlen : rs[k].l.length = t := by rw [hrk, rowT_len]
      obtain ⟨a2, c2, w6, hrun, z0, zf, zl, hE, hgr, hfr, hcu⟩ := HTd.out.push hkr2 (onlyL F) 35 (by rw [hlen]; omega) hbn2
      have ck := HTd.out.alts.row.cell g 0 rfl k (by rw [List.length_map]; exact hkr2)
      rw [List.getElem_map, Nat.zero_add] at ck
      have hgl2 := HTd.out.lt
      have hme := List.getElem_mem hkr2
      have hold : ∀ b, ownB rs[k] = some b → b ≠ g5 ∧ ∀ e ∈ es, ownB e ≠ some b := fun b h1 => by
       rcases Hap.out _ hme b h1 with h2 | h2
       ·refine ⟨by have := HE.out.lt.1; omega, fun e he h3 => ?_⟩
        have := (World.ownsRow.lt (HE.out.ins e he) b h3).1
        omega
       ·exact h2
      have hE6 : TkA w6 H5 g5 (T + 1) es := HEd.out.kept hgr (fun q hq => hold q hq)
      have hE7 : TkA (w6.setCell ⟨g, k, none⟩ (.slice a2 (rs[k].l.length + 1) c2)) H5 g5 (T + 1) es := hE6.kept (grownBy_set w6 _ _ _) (fun q hq => by
       obtain rfl := Option.some.inj hq
       refine ⟨by have h9 := hE6.lt.1; show g ≠ g5; omega, fun e he h3 => ?_⟩
       have h9 := (World.ownsRow.lt (hE6.ins e he) _ h3).1
       have h10 : H5 ≤ g := h9
       omega)
      have hap7 : ∀ x ∈ rs.set k ⟨rs[k].l ++ [onlyL F], a2, c2⟩, ∀ b, ownB x = some b → b < H5 ∨ (b ≠ g5 ∧ ∀ e ∈ es, ownB e ≠ some b) := fun x hx b h1 => by
       rcases List.mem_or_eq_of_mem_set hx with hx | rfl
       ·exact Hap.out x hx b h1
       ·rcases hfr b h1 with h3 | h3
        ·exact Hap.out _ hme b h3
        ·refine .inr ⟨by have := HEd.out.lt.2; omega, fun e he h4 => ?_⟩
         have := (World.ownsRow.lt (HEd.out.ins e he) b h4).2
         omega
      have hb6 : Below base V3 w6 := Hbd.out.trans (belowAt hgr (fun q hq => (World.ownsRow.lt (HTd.out.ins _ hme) q hq).1) hbn2)
      have hb7 : Below base V3 (w6.setCell ⟨g, k, none⟩ (.slice a2 (rs[k].l.length + 1) c2)) := hb6.setCell (p := ⟨g, k, none⟩) hbg2 _
      have hrow2 : ∀ r, r < L → rowL (rs.set k ⟨rs[k].l ++ [onlyL F], a2, c2⟩) r = if r < k then rowT (P r) (ns r) (T + 1) else if r = k then rowT (P k) (ns k) (t + 1) else [] := fun r hr => by
       rw [rowL_set _ hkr2]
       by_cases e : r = k
       ·subst e
        rw [if_pos rfl, if_neg (Nat.lt_irrefl r), if_pos rfl, rowT_snoc, hF.out, hrk]
       ·rw [if_neg e, HR.out r hr, if_neg e, if_neg e]
      have HN7 : Hid (∀ t2, t2 < t + 1 → ((List.range (ns k)).filter (P k t2)).length ≤ 1) := Lib.hid (fun t2 h2 => by
       by_cases e : t2 = t
       ·subst e
        rw [hF.out, ← HEF.out]
        omega
       ·exact HN.out t2 (by omega))
      obtain ⟨rv, hrv⟩ : ∃ v, Hid (rs[k] = v) := ⟨_, Lib.hid rfl⟩
      rw [hrv.out] at hrun z0 hE hE7 hap7 hb7 hrow2 ck
      obtain ⟨rvl, ra, rc⟩ := rv
      dsimp only at hrun z0 hE hE7 hap7 hb7 hrow2
      change _ = some (Value.slice ra rvl.length rc) at ck
      obtain ⟨W7, hW7⟩ : ∃ q, Hid (w6.setCell ⟨g, k, none⟩ (.slice a2 (rvl.length + 1) c2) = q) := ⟨_, Lib.hid rfl⟩
      rw [hW7.out] at hE hE7 hb7
      have HT7 := Lib.hid hE
      have HE7 := Lib.hid hE7
      have HR7 := Lib.hid hrow2
      have Hap7 := Lib.hid hap7
      have HB7 := Lib.hid hb7
      obtain ⟨RL, hRL⟩ : ∃ q, Hid (rvl.length = q) := ⟨_, Lib.hid rfl⟩
      rw [hRL.out] at hrun z0 ck hW7
      obtain ⟨oF, hoF⟩ : ∃ q, Hid (onlyL F = q) := ⟨_, Lib.hid rfl⟩
      rw [hoF.out] at hrun Hon HT7 HR7 Hap7
      have Hrun := Lib.hid hrun
      have HZ0 := Lib.hid z0
      have HS0 : Hid (U2.drew.cell? ⟨g, k, none⟩ = some (.slice ra RL rc)) := Lib.hid ck
      have HS8 : Hid ((U2.drew.alloc (.cells #[.int .i64 oF] 3)).cell? ⟨g, k, none⟩ = some (.slice ra RL rc)) := Lib.hid ((World.cell?_alloc_past _ _ _ hgl2.2).trans ck)
      clear hrun hgr hfr hcu hE6 hE7 hE hap7 hb6 hb7 hrow2 hrk hon hlen hold hme ck HTd HEd Hbd
      go_wp2_with (fail)
      refine region_till 11 (fun w' => w'.cell? ⟨g, k, none⟩ = some (.slice ra RL rc)) (by kernel_rfl) ?_
      refine till_takeY (i := 0) [10, 11] (v := ?_) (iatLS iatZS) (by kernel_rfl) (by kernel_rfl) (by kernel_rfl) (fun _ _ _ h => h) (by decide) (by kernel_rfl) (by decide) (by kernel_rfl) (Or.inl ⟨by rfl, ?_⟩) HS0.out ?_
      rotate_left
      ·intro w hSw
       try dsimp only at hSw
       go_simp
       all_goals with_reducible rfl
      try simp only [Act.put, List.setIfInBounds_toArray, List.set_cons_zero, List.set_cons_succ]
      refine till_takeY (i := 1) [10, 11] (v := ?_) (iatLS (iatSS iatZS)) (by kernel_rfl) (by kernel_rfl) (by kernel_rfl) (fun _ _ _ h => h) (by decide) (by kernel_rfl) (by decide) (by kernel_rfl) (Or.inl ⟨by rfl, ?_⟩) HS0.out ?_
      rotate_left
      ·intro w hSw
       try dsimp only at hSw
       go_simp
       all_goals with_reducible rfl
      try simp only [Act.put, List.setIfInBounds_toArray, List.set_cons_zero, List.set_cons_succ]
      refine till_takeY (i := 2) [4, 5, 9, 11] (v := ?_) (iatLS (iatSS (iatSS iatZS))) (by kernel_rfl) (by kernel_rfl) (by kernel_rfl) (fun _ _ _ h => h) (by decide) (by kernel_rfl) (by decide) (by kernel_rfl) (Or.inl ⟨by rfl, ?_⟩) HS0.out ?_
      rotate_left
      ·intro w hSw
       try dsimp only at hSw
       go_simp
       all_goals with_reducible rfl
      try simp only [Act.put, List.setIfInBounds_toArray, List.set_cons_zero, List.set_cons_succ]
      refine till_takeY (i := 3) [4, 5, 9, 11] (v := ?_) (iatLS (iatSS (iatSS (iatSS iatZS)))) (by kernel_rfl) (by kernel_rfl) (by kernel_rfl) (fun _ _ _ h => h) (by decide) (by kernel_rfl) (by decide) (by kernel_rfl) (Or.inl ⟨by rfl, ?_⟩) HS0.out ?_
      rotate_left
      ·intro w hSw
       try dsimp only at hSw
       go_simp
       all_goals with_reducible rfl
      try simp only [Act.put, List.setIfInBounds_toArray, List.set_cons_zero, List.set_cons_succ]
      refine till_takeY (i := 4) [5, 9, 11] (v := ?_) (iatLS (iatSS (iatSS (iatSS (iatSS iatZS))))) (by kernel_rfl) (by kernel_rfl) (by kernel_rfl) (fun _ _ _ h => h) (by decide) (by kernel_rfl) (by decide) (by kernel_rfl) (Or.inl ⟨by rfl, ?_⟩) HS0.out ?_
      rotate_left
      ·intro w hSw
       try dsimp only at hSw
       go_simp
       all_goals with_reducible rfl
      try simp only [Act.put, List.setIfInBounds_toArray, List.set_cons_zero, List.set_cons_succ]
      refine till_takeY (i := 5) [9, 11] (v := ?_) (iatLS (iatSS (iatSS (iatSS (iatSS (iatSS iatZS)))))) (by kernel_rfl) (by kernel_rfl) (by kernel_rfl) (fun _ _ _ h => h) (by decide) (by kernel_rfl) (by decide) (by kernel_rfl) (Or.inl ⟨by rfl, ?_⟩) HS0.out ?_
      rotate_left
      ·intro w hSw
       try dsimp only at hSw
       go_simp
       all_goals with_reducible rfl
      try simp only [Act.put, List.setIfInBounds_toArray, List.set_cons_zero, List.set_cons_succ]
      refine till_takeY (i := 6) [7, 8, 9, 11] (v := ?_) (iatLS (iatSS (iatSS (iatSS (iatSS (iatSS (iatSS iatZS))))))) (by kernel_rfl) (by kernel_rfl) (by kernel_rfl) (fun _ _ _ h => h) (by decide) (by kernel_rfl) (by decide) (by kernel_rfl) (Or.inl ⟨by rfl, ?_⟩) HS0.out ?_
      rotate_left
      ·intro w hSw
       try dsimp only at hSw
       go_simp
       all_goals with_reducible rfl
      try simp only [Act.put, List.setIfInBounds_toArray, List.set_cons_zero, List.set_cons_succ]
      refine till_ready (rs := [7]) (by kernel_rfl) (by simp) ?_
      refine TillAll.cons (iatLS (iatSS (iatSS (iatSS (iatSS (iatSS (iatSS (iatSS iatZS)))))))) (fun K hK => ?_) TillAll.nil
      go_simp
      (with_reducible refine Hon.out.mono ?_)
      rintro e8 W5 ⟨rfl, rfl⟩
      try dsimp only
      refine hK.out _ _ ?_ ?_
      ·exact fun _ => HS0.out
      clear hK K
      try simp only [Act.put, List.setIfInBounds_toArray, List.set_cons_zero, List.set_cons_succ]
      refine till_ready (rs := [8]) (by kernel_rfl) (by simp) ?_
      refine TillAll.cons (iatLS (iatSS (iatSS (iatSS (iatSS (iatSS (iatSS (iatSS (iatSS iatZS))))))))) (fun K hK => ?_) TillAll.nil
      go_simp
      refine hK.out _ _ ?_ ?_
      ·exact fun _ => HS8.out
      clear hK K
      try simp only [Act.put, List.setIfInBounds_toArray, List.set_cons_zero, List.set_cons_succ]
      refine till_ready (rs := [9]) (by kernel_rfl) (by simp) ?_
      refine TillAll.cons (iatLS (iatSS (iatSS (iatSS (iatSS (iatSS (iatSS (iatSS (iatSS (iatSS iatZS)))))))))) (fun K hK => ?_) TillAll.nil
      refine step_append_run rfl _ _ 35 35 rfl _ _ _ _ rfl rfl Hrun.out ?_
      refine hK.out _ _ ?_ ?_
      ·exact fun _ => z0
      clear hK K
      try simp only [Act.put, List.setIfInBounds_toArray, List.set_cons_zero, List.set_cons_succ]
      refine till_takeY (i := 10) [11] (v := ?_) (iatLS (iatSS (iatSS (iatSS (iatSS (iatSS (iatSS (iatSS (iatSS (iatSS (iatSS iatZS))))))))))) (by kernel_rfl) (by kernel_rfl) (by kernel_rfl) (fun _ _ _ h => h) (by decide) (by kernel_rfl) (by decide) (by kernel_rfl) (Or.inl ⟨by rfl, ?_⟩) HZ0.out ?_
      rotate_left
      ·intro w hSw
       try dsimp only at hSw
       go_simp
       all_goals with_reducible rfl
      try simp only [Act.put, List.setIfInBounds_toArray, List.set_cons_zero, List.set_cons_succ]
      refine till_ready (rs := [11]) (by kernel_rfl) (by simp) ?_
      refine TillAll.cons (iatLS (iatSS (iatSS (iatSS (iatSS (iatSS (iatSS (iatSS (iatSS (iatSS (iatSS (iatSS iatZS)))))))))))) (fun K hK => ?_) TillAll.nil
      go_simp
      rw [hW7.out]
      refine hK.out _ _ ?_ ?_
      ·exact fun h => nomatch (show (true : Bool) = false from h)
      clear hK K
      try simp only [Act.put, List.setIfInBounds_toArray, List.set_cons_zero, List.set_cons_succ]
      refine till_done (by kernel_rfl) ?_ _
      go_wp2_with (fail)
      exact ⟨⟨t + 1, _, by omega, by go_num, HT7, HR7, HN7, HE7, Hap7, HB7.out⟩, by simp [RowKit.intOf]; omega⟩
    ·have hte : t = T + 1 := by omega
     have htI : ¬ (t : Int) < (T : Int) + 1 := by omega
     have htI1 : ¬ (t : Int) < ((T + 1 : Nat) : Int) := by omega
     have HR2 : Hid (∀ r, r < L → rowL rs r = if r < k + 1 then rowT (P r) (ns r) (T + 1) else []) := Lib.hid (fun r hr => by
      rw [HR.out r hr, hte]
      by_cases e : r < k
      ·rw [if_pos e, if_pos (by omega)]
      ·rw [if_neg e]
       by_cases e2 : r = k
       ·subst e2; rw [if_pos rfl, if_pos (by omega)]
       ·rw [if_neg e2, if_neg (by omega)])
     have HN2 : Hid (∀ r, r < k + 1 → ∀ t, t < T + 1 → ((List.range (ns r)).filter (P r t)).length ≤ 1) := Lib.hid (fun r hr t2 h2 => by
      by_cases e : r = k
      ·subst e; exact HN.out t2 (by omega)
      ·exact HN0.out r (by omega) t2 h2)
     clear hte
     go_wp2_with (fail)
     exact ⟨⟨k + 1, rs, by omega, by go_num, HT0, HR2, HN2, hbr⟩, by simp [RowKit.intOf]; omega⟩
  ·have hke : k = L := by omega
   have hkI : ¬ (k : Int) < (L : Int) := by omega
   have Hfin := Lib.hid (HQ2.out U g rs (HT0.out.mono hwb) (fun r hr => by rw [HR.out r hr, if_pos (by omega)]) (fun r hr => HN0.out r (by omega)) Hbw.out)
   clear hke hbr3
   go_wp2_with (fail)
   first | exact Hfin.out | exact bodyPost_ret (v := .tuple #[.slice (some ⟨g, 0, none⟩) L L, .int .i64 0]) (by simp [results, Try.results33, go_sem]; try first | rfl | assumption | omega) rfl Hfin.out
end Go.Proofs.Ytldmgifphkpdlaa
namespace Go.Proofs.Ytldmgifphkpdlaa
open Go.RowKit Go.Maps
attribute [local go_sem] Oper.semAt_some
set_option maxRecDepth 100000 in
set_option maxHeartbeats 16000000 in
theorem lead9f_any (d : CfD) (s : List Int) (sa : Option Addr) (sc : Nat) (na : Option Addr) (nc : Nat) (f : Nat → Bool) (ka : Option Addr) (kc : Nat) (ds : List IltD) (K : Nat → Int → Prop) (w : World) (hd : CfAt w d) (hs : Ints w sa sc s) (hn : BlsF w na nc d.alts.length f) (hx : ∀ x ∈ s, -(d.alts.length : Int) ≤ x ∧ x ≤ 100) (hl : d.alts.length ≤ 1000000) (hk : AltsI w ka kc ds) (hkl : ds.length = d.alts.length) (hK : ∀ r (h : r < ds.length), Ris ds[r].l (K r)) (hKb : ∀ r t, K r t → 0 ≤ t ∧ t ≤ 100) :
 Calls Try.prog 59 #[d.v, .slice sa s.length sc, .slice na d.alts.length nc, .slice ka ds.length kc] w fun e w' => ∃ oa oc, ∃ r : List Int, e = .returned (.slice oa r.length oc) ∧ Ints w' oa oc r ∧ FrB w.heap.size oa ∧ Ris r (ldP K f s) ∧ Below w.heap.size w w' := by
 have HR := Lib.hid (fun x (hx : -(d.alts.length : Int) ≤ x ∧ x ≤ 1000000000) W (hb : Below w.heap.size w W) => rule9_any d x W (hd.grown hb) hx hl)
 have hsm : s.length ≤ sc ∧ sc ≤ 9223372036854775807 := ⟨by have := hs.le; rwa [List.length_map] at this, hs.max⟩
 have hnm : d.alts.length ≤ nc ∧ nc ≤ 9223372036854775807 := ⟨by have := hn.le; simpa using this, hn.max⟩
 have hkm : ds.length ≤ kc ∧ kc ≤ 9223372036854775807 := ⟨by have := hk.row.le; rwa [List.length_map] at this, hk.row.max⟩
 have Hs := Lib.hid hs
 have Hn := Lib.hid hn
 have Hx := Lib.hid hx
 have Hk := Lib.hid hk
 have HK := Lib.hid hK
 have HKb := Lib.hid hKb
 have Hkl := Lib.hid hkl
 obtain ⟨xt, xta, xtc, xn, xna, xnc, xa, xaa, xac⟩ := d
 dsimp only [CfD.v] at *
 rw [hkl] at hkm ⊢
 have hb1 : Below w.heap.size w (w.alloc (.cells #[.slice xta xt.length xtc, .slice xna xn.length xnc, .slice xaa xa.length xac] 25)) := (Below.refl _ w).alloc (Nat.le_refl _) _
 have hA := Blk.new w 25 #[.slice xta xt.length xtc, .slice xna xn.length xnc, .slice xaa xa.length xac]
 obtain ⟨T, HT⟩ : ∃ q, Hid (xt.length = q) := ⟨_, Lib.hid rfl⟩
 obtain ⟨N, HN⟩ : ∃ q, Hid (xn.length = q) := ⟨_, Lib.hid rfl⟩
 obtain ⟨L, HL⟩ : ∃ q, Hid (xa.length = q) := ⟨_, Lib.hid rfl⟩
 rw [HT.out, HN.out, HL.out] at hA hb1
 rw [HT.out, HN.out, HL.out]
 have x0 := hA.cell 0
 have x1 := hA.cell 1
 have x2 := hA.cell 2
 have xl := hA.lt
 simp only [List.getElem?_cons_zero, List.getElem?_cons_succ] at x0 x1 x2
 have HA := Lib.hid hA
 have Hb1 := Lib.hid hb1
 obtain ⟨S, HS⟩ : ∃ q, Hid (s.length = q) := ⟨_, Lib.hid rfl⟩
 rw [HS.out] at hsm ⊢
 rw [HL.out] at hnm hl Hn Hx hkm Hkl
 rw [HT.out, HN.out, HL.out] at HR
 clear hd hA hb1 hs hn hx hk hK hKb hkl
 go_enter Try.func59, Try.ntmps59
 go_wp2_with (fail)
 obtain ⟨bx, hbx⟩ : ∃ q, Hid (w.heap.size = q) := ⟨_, Lib.hid rfl⟩
 rw [hbx.out] at HA x0 x1 x2 xl ⊢
 generalize hV : World.alloc w _ = V at HA x0 x1 x2 xl Hb1 ⊢
 clear hV x0 x1 x2 xl
 go_loopw [9, 15] (fun sv iv wr => ∃ (k n : Nat) (oa : Option Addr) (oc : Nat) (r : List Int), k ≤ S ∧ iv = .int .i64 (k : Int) ∧ sv = .slice oa n oc ∧ Hid (n = r.length) ∧ Hid (Ints wr oa oc r) ∧ Hid (FrB w.heap.size oa) ∧ Hid (Ris r (ldQ K (s.take k))) ∧ Hid (emp f (s.take k) = true) ∧ Hid (Blk wr bx 25 [.slice xta T xtc, .slice xna N xnc, .slice xaa L xac]) ∧ Below w.heap.size w wr) (fun _ iv _ => S - (RowKit.intOf iv).toNat)
 case atStart => exact ⟨0, 0, none, 0, [], Nat.zero_le _, rfl, rfl, Lib.hid rfl, Lib.hid (Vs.nil _), Lib.hid (fun _ _ e => by cases e), Lib.hid ⟨List.Pairwise.nil, fun t => by simp [ldQ]⟩, Lib.hid rfl, HA, Hb1.out⟩
 case round =>
  clear HA Hb1
  obtain ⟨k, n, oa, oc, r, hk, rfl, rfl, hn, HI, HFr, Hr, HE, HA, hbr⟩ := hrel
  obtain ⟨U, rfl⟩ : ∃ U, U = wr := ⟨_, rfl⟩
  by_cases hlt : k < S
  ·have hkI : (k : Int) < (S : Int) := by omega
   have hkI0 : (0 : Int) ≤ (k : Int) := by omega
   have hkl : k < s.length := by rw [HS.out]; exact hlt
   have hrow := Hs.out.grown hbr
   have hst : s.take (k + 1) = s.take k ++ [s[k]] := by rw [List.take_add_one, List.getElem?_eq_getElem hkl]; rfl
   have hah : (decide (s[k] < 0) && f (ruL s[k])) = false → ahd f s = s.take k ++ [s[k]] := fun h => ahd_at hkl HE.out h
   have hem : (decide (s[k] < 0) && f (ruL s[k])) = true → emp f (s.take (k + 1)) = true := fun h => emp_at hkl HE.out h
   have hbd : ∀ t, ldQ K (s.take k) t → 0 ≤ t ∧ t ≤ 100 := fun t ht => by
    obtain ⟨y, hy, ⟨h1, rfl⟩ | ⟨_, h1⟩⟩ := ht
    ·exact ⟨h1, (Hx.out _ (List.mem_of_mem_take hy)).2⟩
    ·exact HKb.out _ t h1
   have Hbd := Lib.hid hbd
   obtain ⟨b, bo, hb⟩ := hrow.at_ k (by rw [List.length_map]; exact hkl)
   have cb := hrow.cell b bo hb k (by rw [List.length_map]; exact hkl)
   rw [List.getElem_map] at cb
   have hm := Hx.out _ (List.getElem_mem hkl)
   obtain ⟨x, hx⟩ : ∃ v, Hid (s[k] = v) := ⟨_, Lib.hid rfl⟩
   rw [hx.out] at cb hm hst hah hem
   have hblb := World.block_lt_of_cell? _ _ cb
   subst hb
   have x0 := HA.out.cell 0
   have x1 := HA.out.cell 1
   have x2 := HA.out.cell 2
   have xl := HA.out.lt
   simp only [List.getElem?_cons_zero, List.getElem?_cons_succ] at x0 x1 x2
   have Hah := Lib.hid hah
   have Hem := Lib.hid hem
   have Hst := Lib.hid hst
   have Hru := Lib.hid (HR.out x ⟨hm.1, by omega⟩ U hbr)
   clear hrow hst hah hem hbd
   by_cases h0 : x < 0
   ·rw [if_pos h0] at Hru
    rw [decide_eq_true h0, Bool.true_and] at Hah Hem
    have hge : ¬ (0 : Int) ≤ x := by omega
    have hrL : ruL x < L := by unfold ruL; omega
    have Hor : Hid (∀ t, (ldQ K (s.take k) t ∨ K (ruL x) t) ↔ ldQ K (s.take k ++ [x]) t) := Lib.hid (fun t => by
     rw [ldQ_app, ldQ_one]
     exact or_congr Iff.rfl ⟨fun h => .inr ⟨h0, h⟩, fun h => h.elim (fun h => absurd h.1 hge) (fun h => h.2)⟩)
    obtain ⟨ru, hru⟩ : ∃ r, Hid (ruL x = r) := ⟨_, Lib.hid rfl⟩
    rw [hru.out] at Hru Hah Hem hrL Hor
    have hrI : (ru : Int) < (L : Int) := by omega
    have hrI0 : (0 : Int) ≤ (ru : Int) := by omega
    go_wp2_with (fail)
    refine Hru.out.mono ?_
    rintro e w3 ⟨rfl, hb3⟩
    have Hb3 := Lib.hid (hbr.trans (hb3.mono hbr.size))
    have HA3 := Lib.hid (HA.out.below hb3 HA.out.lt)
    have HI3 := Lib.hid (HI.out.grown hb3)
    have hk3 := Hk.out.grown Hb3.out
    have hrd : ru < ds.length := by rw [Hkl.out]; exact hrL
    obtain ⟨k0, ko, hk0⟩ := hk3.row.at_ ru (by rw [List.length_map]; exact hrd)
    have ck := hk3.row.cell k0 ko hk0 ru (by rw [List.length_map]; exact hrd)
    rw [List.getElem_map] at ck
    have hki := hk3.nms _ (List.getElem_mem hrd)
    have hkr := HK.out ru hrd
    obtain ⟨u, hu⟩ : ∃ v, Hid (ds[ru] = v) := ⟨_, Lib.hid rfl⟩
    rw [hu.out] at ck hki hkr
    obtain ⟨ul, ua, uc⟩ := u
    change _ = some (Value.slice ua ul.length uc) at ck
    dsimp only at hki hkr
    have hblk := World.block_lt_of_cell? _ _ ck
    have Hall := Lib.hid (all9_any r ul oa ua oc uc (ldQ K (s.take k)) w3 HI3.out hki Hr.out Hbd.out (fun t ht => HKb.out _ t ((hkr.mem t).1 ht)))
    have Hkr := Lib.hid hkr
    rw [← hn.out] at Hall
    obtain ⟨UL, hUL⟩ : ∃ v, Hid (ul.length = v) := ⟨_, Lib.hid rfl⟩
    rw [hUL.out] at Hall ck
    subst hk0
    clear x0 x1 x2 xl hb3 hk3 hki hkr hbr
    go_wp2_with (fail)
    clear ck hblk
    refine Hall.out.mono ?_
    rintro e w4 ⟨oa2, oc2, r2, rfl, hi4, hr4, hf4, hb4⟩
    have HF4 : Hid (FrB w.heap.size oa2) := Lib.hid (by
     rcases hf4 with h | h
     ·rw [h]; exact HFr.out
     ·exact fun b off e => Nat.le_trans Hb3.out.size (h b off e))
    clear hf4
    have HI4 := Lib.hid hi4
    have Hr4 : Hid (Ris r2 (ldQ K (s.take k ++ [x]))) := Lib.hid (ris_or hr4 (fun t => (or_congr Iff.rfl (Hkr.out.mem t)).trans (Hor.out t)))
    have Hb4 := Lib.hid (Hb3.out.trans (hb4.mono Hb3.out.size))
    have HA4 := Lib.hid (HA3.out.below hb4 HA3.out.lt)
    have hn4 := Vs.grown Hn.out Hb4.out
    obtain ⟨n0, no, hn0⟩ := hn4.at_ ru (by simpa using hrL)
    have cn := hn4.cell n0 no hn0 ru (by simpa using hrL)
    rw [range_at] at cn
    have hbln := World.block_lt_of_cell? _ _ cn
    subst hn0
    obtain ⟨q, hq⟩ : ∃ v, Hid (f ru = v) := ⟨_, Lib.hid rfl⟩
    rw [hq.out] at cn Hah Hem
    obtain ⟨n2, hn2⟩ : ∃ v, Hid (v = r2.length) := ⟨_, Lib.hid rfl⟩
    rw [← hn2.out]
    clear hi4 hr4 hb4 hn4
    cases q
    ·have hFin : Hid (∃ oa oc, ∃ r : List Int, Ending.returned (.slice oa2 n2 oc2) = .returned (.slice oa r.length oc) ∧ Ints w4 oa oc r ∧ FrB w.heap.size oa ∧ Ris r (ldP K f s) ∧ Below w.heap.size w w4) := Lib.hid ⟨oa2, oc2, r2, by rw [hn2.out], HI4.out, HF4.out, by unfold ldP; rw [Hah.out rfl]; exact Hr4.out, Hb4.out⟩
     go_wp2_with (fail)
     exact bodyPost_ret (v := .slice oa2 n2 oc2) (by simp [results, Try.results59, go_sem]; try first | rfl | assumption | omega) rfl hFin.out
    ·have HEn : Hid (emp f (s.take (k + 1)) = true) := Lib.hid (Hem.out rfl)
     have HrN : Hid (Ris r2 (ldQ K (s.take (k + 1)))) := Lib.hid (by rw [Hst.out]; exact Hr4.out)
     go_wp2_with (fail)
     exact ⟨⟨k + 1, n2, oa2, oc2, r2, by omega, by go_num, rfl, hn2, HI4, HF4, HrN, HEn, HA4, Hb4.out⟩, by simp [RowKit.intOf]; omega⟩
   ·rw [if_neg h0] at Hru
    rw [decide_eq_false h0, Bool.false_and] at Hah
    have Hah2 := Lib.hid (Hah.out rfl)
    clear Hah Hem
    have hge : (0 : Int) ≤ x := by omega
    have Hor : Hid (∀ t, (ldQ K (s.take k) t ∨ t = x) ↔ ldQ K (s.take k ++ [x]) t) := Lib.hid (fun t => by
     rw [ldQ_app, ldQ_one]
     exact or_congr Iff.rfl ⟨fun h => .inl ⟨hge, h⟩, fun h => h.elim (fun h => h.2) (fun h => absurd h.1 h0)⟩)
    have hrl : r.length ≤ 300 := ris_len101 Hr.out Hbd.out
    go_wp2_with (fail)
    refine Hru.out.mono ?_
    rintro e w3 ⟨rfl, hb3⟩
    have Hb3 := Lib.hid (hbr.trans (hb3.mono hbr.size))
    have HI3 := Lib.hid (HI.out.grown hb3)
    have Hw := Lib.hid (with9_any r x oa oc w3 HI3.out (by omega))
    rw [← hn.out] at Hw
    clear x0 x1 x2 xl hb3 hrl hbr
    go_wp2_with (fail)
    refine Hw.out.mono ?_
    rintro e w4 ⟨⟨oa2, oc2, rfl, hi4, hf4⟩, hb4⟩
    have HF4 : Hid (FrB w.heap.size oa2) := Lib.hid (by
     rcases hf4 with h | h
     ·rw [h]; exact HFr.out
     ·exact fun b off e => Nat.le_trans Hb3.out.size (h b off e))
    clear hf4
    have hFin : Hid (∃ oa oc, ∃ r' : List Int, Ending.returned (.slice oa2 (withZ r x).length oc2) = .returned (.slice oa r'.length oc) ∧ Ints w4 oa oc r' ∧ FrB w.heap.size oa ∧ Ris r' (ldP K f s) ∧ Below w.heap.size w w4) := Lib.hid ⟨oa2, oc2, withZ r x, rfl, hi4, HF4.out, by unfold ldP; rw [Hah2.out]; exact ris_or (Hr.out.with_ x) Hor.out, Hb3.out.trans (hb4.mono Hb3.out.size)⟩
    clear hi4 hb4 Hw
    go_wp2_with (fail)
    exact bodyPost_ret (v := .slice oa2 (withZ r x).length oc2) (by simp [results, Try.results59, go_sem]; try first | rfl | assumption | omega) rfl hFin.out
  ·have hke : k = S := by omega
   have hkI : ¬ (k : Int) < (S : Int) := by omega
   have hFin : Hid (∃ oa' oc', ∃ r' : List Int, Ending.returned (.slice oa n oc) = .returned (.slice oa' r'.length oc') ∧ Ints U oa' oc' r' ∧ FrB w.heap.size oa' ∧ Ris r' (ldP K f s) ∧ Below w.heap.size w U) := Lib.hid (by
    have h1 := Hr.out
    have h2 := HE.out
    rw [hke, List.take_of_length_le (by rw [HS.out]; exact Nat.le_refl _)] at h1 h2
    exact ⟨oa, oc, r, by rw [hn.out], HI.out, HFr.out, by unfold ldP; rw [ahd_emp h2]; exact h1, hbr⟩)
   clear hke hbr
   go_wp2_with (fail)
   exact bodyPost_ret (v := .slice oa n oc) (by simp [results, Try.results59, go_sem]; try first | rfl | assumption | omega) rfl hFin.out
set_option maxRecDepth 100000 in
set_option maxHeartbeats 16000000 in
theorem refLead9f_any (d : CfD) (s : List Int) (sa : Option Addr) (sc : Nat) (w : World) (hd : CfAt w d) (hf : FitC d) (hs : Ints w sa sc s) (hok : OkL d.toks.length d.alts.length s) :
 Calls Try.prog 28 #[d.v, .slice sa s.length sc] w fun e w' => ∃ a c, ∃ l : List Int, e = .returned (.tuple #[.slice a l.length c, .bool (emp (nulB (d.alts.map IrD.p)) s)]) ∧ Ints w' a c l ∧ FrB w.heap.size a ∧ Ris l (TokP (d.alts.map IrD.p) (nulB (d.alts.map IrD.p)) (ahd (nulB (d.alts.map IrD.p)) s)) ∧ Below w.heap.size w w' := by
 have hft := hf.t
 have hfr := hf.r
 have hsm : s.length ≤ sc ∧ sc ≤ 9223372036854775807 := ⟨by have := hs.le; rwa [List.length_map] at this, hs.max⟩
 have Hnul := Lib.hid (fun W (hb : Below w.heap.size w W) => nul9_any d W (hd.grown hb) hf)
 have Hfir := Lib.hid (fun W (hb : Below w.heap.size w W) => first9_any d W (hd.grown hb) hf)
 have Hle := Lib.hid (fun na nc (f : Nat → Bool) ka kc ds K W (hb : Below w.heap.size w W) (hn : BlsF W na nc d.alts.length f) (hk : AltsI W ka kc ds) (hkl : ds.length = d.alts.length) (hK : ∀ r (h : r < ds.length), Ris ds[r].l (K r)) (hKb : ∀ r t, K r t → 0 ≤ t ∧ t ≤ 100) => lead9f_any d s sa sc na nc f ka kc ds K W (hd.grown hb) (hs.grown hb) hn (fun x hx => ⟨(hok x hx).1, by have := (hok x hx).2; omega⟩) (by omega) hk hkl hK hKb)
 have Hem := Lib.hid (fun na nc (f : Nat → Bool) W (hb : Below w.heap.size w W) (hn : BlsF W na nc d.alts.length f) => emp9_any d s sa sc na nc f W (hd.grown hb) (hs.grown hb) hn (fun x hx => ⟨(hok x hx).1, by have := (hok x hx).2; omega⟩) (by omega))
 have Htn := Lib.hid (fun (r : Nat) (hr : r < d.alts.length) (t : Int) (ht : TokP (d.alts.map IrD.p) (nulB (d.alts.map IrD.p)) [-1 - (r : Int)] t) => tok_near hf (l := [-1 - (r : Int)]) (fun x hx => by rw [List.mem_singleton] at hx; subst hx; omega) ht)
 have Hok := Lib.hid hok
 obtain ⟨xt, xta, xtc, xn, xna, xnc, xa, xaa, xac⟩ := d
 dsimp only [CfD.v] at *
 obtain ⟨al, hal9⟩ : ∃ q, Hid (xa.map IrD.p = q) := ⟨_, Lib.hid rfl⟩
 rw [hal9.out] at Hnul Hfir Htn ⊢
 obtain ⟨f, hf9⟩ : ∃ q, Hid (nulB al = q) := ⟨_, Lib.hid rfl⟩
 rw [hf9.out] at Hnul Hfir Htn ⊢
 have hb1 : Below w.heap.size w (w.alloc (.cells #[.slice xta xt.length xtc, .slice xna xn.length xnc, .slice xaa xa.length xac] 25)) := (Below.refl _ w).alloc (Nat.le_refl _) _
 have hA := Blk.new w 25 #[.slice xta xt.length xtc, .slice xna xn.length xnc, .slice xaa xa.length xac]
 obtain ⟨T, HT⟩ : ∃ q, Hid (xt.length = q) := ⟨_, Lib.hid rfl⟩
 obtain ⟨N, HN⟩ : ∃ q, Hid (xn.length = q) := ⟨_, Lib.hid rfl⟩
 obtain ⟨L, HL⟩ : ∃ q, Hid (xa.length = q) := ⟨_, Lib.hid rfl⟩
 rw [HT.out, HN.out, HL.out] at hA hb1
 rw [HT.out, HN.out, HL.out]
 have x0 := hA.cell 0
 have x1 := hA.cell 1
 have x2 := hA.cell 2
 have xl := hA.lt
 simp only [List.getElem?_cons_zero, List.getElem?_cons_succ] at x0 x1 x2
 have HA := Lib.hid hA
 have Hb1 := Lib.hid hb1
 obtain ⟨S, HS⟩ : ∃ q, Hid (s.length = q) := ⟨_, Lib.hid rfl⟩
 rw [HS.out] at hsm ⊢
 rw [HS.out] at Hle Hem
 rw [HL.out] at Htn hfr
 rw [HL.out] at Hok
 rw [HT.out, HN.out, HL.out] at Hnul Hfir Hle Hem
 have Hc1 := Lib.hid (Hnul.out _ Hb1.out)
 clear hd hf hs hok hA hb1 Hnul
 go_enter Try.func28, Try.ntmps28
 go_wp2_with (fail)
 obtain ⟨bx, hbx⟩ : ∃ q, Hid (w.heap.size = q) := ⟨_, Lib.hid rfl⟩
 rw [hbx.out] at HA x0 x1 x2 xl ⊢
 generalize hV : World.alloc w _ = V at HA x0 x1 x2 xl Hb1 Hc1 ⊢
 clear hV
 refine Hc1.out.mono ?_
 rintro e w2 ⟨na, nc, rfl, ho, hb⟩
 have Hn2 := Lib.hid ho.bls
 have HA2 := Lib.hid (HA.out.below hb HA.out.lt)
 have Hb2 := Lib.hid (Hb1.out.trans (hb.mono Hb1.out.size))
 clear x0 x1 x2 xl hb ho Hc1
 have HAd := Lib.hid (HA2.out.below (Below.refl _ w2).drew HA2.out.lt)
 have Hnd := Lib.hid (Vs.grown Hn2.out (Below.refl _ w2).drew)
 have Hbd := Lib.hid Hb2.out.drew
 have Hfi := Lib.hid (Hfir.out w2.drew Hbd.out)
 have HS0 : Hid (w2.drew.cell? ⟨bx, 0, none⟩ = some (.slice xta T xtc) ∧ w2.drew.cell? ⟨bx, 1, none⟩ = some (.slice xna N xnc) ∧ w2.drew.cell? ⟨bx, 2, none⟩ = some (.slice xaa L xac)) := Lib.hid ⟨HAd.out.cell 0, HAd.out.cell 1, HAd.out.cell 2⟩
 clear Hfir
 go_wp2_with (fail)
 refine wp_region_held_drew (S := fun w' => w'.cell? ⟨bx, 0, none⟩ = some (.slice xta T xtc) ∧ w'.cell? ⟨bx, 1, none⟩ = some (.slice xna N xnc) ∧ w'.cell? ⟨bx, 2, none⟩ = some (.slice xaa L xac)) (by kernel_rfl) ?_ (fun hHeld => ?_)
 ·exact HS0.out
 refine wpAnyH_take (i := 0) (v := ?_) (iatLS iatZS) (by kernel_rfl) (by kernel_rfl) (by kernel_rfl) (fun _ _ _ h => h) (Or.inl ⟨by rfl, ?_⟩) (by assumption) ?_
 rotate_left
 ·intro w hSw
  try dsimp only at hSw
  go_simp
  all_goals with_reducible rfl
 try simp only [Act.put, List.setIfInBounds_toArray, List.set_cons_zero, List.set_cons_succ]
 refine wpAnyH_take (i := 1) (v := ?_) (iatLS (iatSS iatZS)) (by kernel_rfl) (by kernel_rfl) (by kernel_rfl) (fun _ _ _ h => h) (Or.inl ⟨by rfl, ?_⟩) (by assumption) ?_
 rotate_left
 ·intro w hSw
  try dsimp only at hSw
  go_simp
  all_goals with_reducible rfl
 try simp only [Act.put, List.setIfInBounds_toArray, List.set_cons_zero, List.set_cons_succ]
 refine wpAnyH_take (i := 2) (v := ?_) (iatLS (iatSS (iatSS iatZS))) (by kernel_rfl) (by kernel_rfl) (by kernel_rfl) (fun _ _ _ h => h) (Or.inl ⟨by rfl, ?_⟩) (by assumption) ?_
 rotate_left
 ·intro w hSw
  try dsimp only at hSw
  go_simp
  all_goals with_reducible rfl
 try simp only [Act.put, List.setIfInBounds_toArray, List.set_cons_zero, List.set_cons_succ]
 refine wpAnyH_take (i := 3) (v := ?_) (iatLS (iatSS (iatSS (iatSS iatZS)))) (by kernel_rfl) (by kernel_rfl) (by kernel_rfl) (fun _ _ _ h => h) (Or.inl ⟨by rfl, ?_⟩) (by assumption) ?_
 rotate_left
 ·intro w hSw
  try dsimp only at hSw
  go_simp
  all_goals with_reducible rfl
 try simp only [Act.put, List.setIfInBounds_toArray, List.set_cons_zero, List.set_cons_succ]
 refine wpAnyH_take (i := 6) (v := ?_) (iatLS (iatSS (iatSS (iatSS (iatSS (iatSS (iatSS iatZS))))))) (by kernel_rfl) (by kernel_rfl) (by kernel_rfl) (fun _ _ _ h => h) (Or.inl ⟨by rfl, ?_⟩) (by assumption) ?_
 rotate_left
 ·intro w hSw
  try dsimp only at hSw
  go_simp
  all_goals with_reducible rfl
 try simp only [Act.put, List.setIfInBounds_toArray, List.set_cons_zero, List.set_cons_succ]
 refine wpAnyH_take (i := 7) (v := ?_) (iatLS (iatSS (iatSS (iatSS (iatSS (iatSS (iatSS (iatSS iatZS)))))))) (by kernel_rfl) (by kernel_rfl) (by kernel_rfl) (fun _ _ _ h => h) (Or.inl ⟨by rfl, ?_⟩) (by assumption) ?_
 rotate_left
 ·intro w hSw
  try dsimp only at hSw
  go_simp
  all_goals with_reducible rfl
 try simp only [Act.put, List.setIfInBounds_toArray, List.set_cons_zero, List.set_cons_succ]
 refine wpAnyH_take (i := 8) (v := ?_) (iatLS (iatSS (iatSS (iatSS (iatSS (iatSS (iatSS (iatSS (iatSS iatZS))))))))) (by kernel_rfl) (by kernel_rfl) (by kernel_rfl) (fun _ _ _ h => h) (Or.inl ⟨by rfl, ?_⟩) (by assumption) ?_
 rotate_left
 ·intro w hSw
  try dsimp only at hSw
  go_simp
  all_goals with_reducible rfl
 try simp only [Act.put, List.setIfInBounds_toArray, List.set_cons_zero, List.set_cons_succ]
 refine wpAnyH_ready (rs := [4]) (by kernel_rfl) (by simp) ?_
 refine AllReadyH.cons (iatLS (iatSS (iatSS (iatSS (iatSS iatZS))))) (fun K hK => ?_) AllReadyH.nil
 go_simp
 (with_reducible refine Hfi.out.mono ?_)
 rintro e8 W4 ⟨fa, fc, ds, rfl, hdl, hfal, hri, hb4⟩
 have HA4 := Lib.hid (HAd.out.below hb4 HAd.out.lt)
 have Hn4 := Lib.hid (Vs.grown Hnd.out hb4)
 have Hb4 := Lib.hid (Hbd.out.trans (hb4.mono Hbd.out.size))
 have HS4 : Hid (W4.cell? ⟨bx, 0, none⟩ = some (.slice xta T xtc) ∧ W4.cell? ⟨bx, 1, none⟩ = some (.slice xna N xnc) ∧ W4.cell? ⟨bx, 2, none⟩ = some (.slice xaa L xac)) := Lib.hid ⟨HA4.out.cell 0, HA4.out.cell 1, HA4.out.cell 2⟩
 have Hl := Lib.hid (Hle.out na nc f fa fc ds (fun r t => r < L ∧ TokP al f [-1 - (r : Int)] t) W4 Hb4.out Hn4.out hfal hdl (fun r h => ris_or (hri r h) (fun t => ⟨fun h2 => ⟨by omega, h2⟩, fun h2 => h2.2⟩)) (fun r t h => Htn.out r h.1 t h.2))
 rw [hdl] at Hl
 clear hdl hfal hri hb4
 try dsimp only
 refine hK.out _ _ ?_ (fun hHeld => ?_)
 ·exact HS4.out
 clear hK K
 try simp only [Act.put, List.setIfInBounds_toArray, List.set_cons_zero, List.set_cons_succ]
 refine wpAnyH_ready (rs := [5]) (by kernel_rfl) (by simp) ?_
 refine AllReadyH.cons (iatLS (iatSS (iatSS (iatSS (iatSS (iatSS iatZS)))))) (fun K hK => ?_) AllReadyH.nil
 go_simp
 (with_reducible refine Hl.out.mono ?_)
 rintro e8 W5 ⟨la, lc, l, rfl, hli, hlf, hlr, hb5⟩
 have Hlf : Hid (FrB w.heap.size la) := Lib.hid (fun b off e => Nat.le_trans Hb4.out.size (hlf b off e))
 clear hlf
 have Hli := Lib.hid hli
 have Hlr := Lib.hid hlr
 have HA5 := Lib.hid (HA4.out.below hb5 HA4.out.lt)
 have Hn5 := Lib.hid (Vs.grown Hn4.out hb5)
 have Hb5 := Lib.hid (Hb4.out.trans (hb5.mono Hb4.out.size))
 have HS5 : Hid (W5.cell? ⟨bx, 0, none⟩ = some (.slice xta T xtc) ∧ W5.cell? ⟨bx, 1, none⟩ = some (.slice xna N xnc) ∧ W5.cell? ⟨bx, 2, none⟩ = some (.slice xaa L xac)) := Lib.hid ⟨HA5.out.cell 0, HA5.out.cell 1, HA5.out.cell 2⟩
 have He := Lib.hid (Hem.out na nc f W5 Hb5.out Hn5.out)
 obtain ⟨LL, hLL⟩ : ∃ q, Hid (l.length = q) := ⟨_, Lib.hid rfl⟩
 rw [hLL.out]
 clear hli hlr hb5
 try dsimp only
 refine hK.out _ _ ?_ (fun hHeld => ?_)
 ·exact HS5.out
 clear hK K
 try simp only [Act.put, List.setIfInBounds_toArray, List.set_cons_zero, List.set_cons_succ]
 refine wpAnyH_ready (rs := [9]) (by kernel_rfl) (by simp) ?_
 refine AllReadyH.cons (iatLS (iatSS (iatSS (iatSS (iatSS (iatSS (iatSS (iatSS (iatSS (iatSS iatZS)))))))))) (fun K hK => ?_) AllReadyH.nil
 go_simp
 (with_reducible refine He.out.mono ?_)
 rintro e8 W6 ⟨rfl, hb6⟩
 have Hli6 := Lib.hid (Hli.out.grown hb6)
 have HA6 := Lib.hid (HA5.out.below hb6 HA5.out.lt)
 have Hb6 := Lib.hid (Hb5.out.trans (hb6.mono Hb5.out.size))
 have HS6 : Hid (W6.cell? ⟨bx, 0, none⟩ = some (.slice xta T xtc) ∧ W6.cell? ⟨bx, 1, none⟩ = some (.slice xna N xnc) ∧ W6.cell? ⟨bx, 2, none⟩ = some (.slice xaa L xac)) := Lib.hid ⟨HA6.out.cell 0, HA6.out.cell 1, HA6.out.cell 2⟩
 clear hb6
 try dsimp only
 refine hK.out _ _ ?_ (fun hHeld => ?_)
 ·exact HS6.out
 clear hK K
 try simp only [Act.put, List.setIfInBounds_toArray, List.set_cons_zero, List.set_cons_succ]
 refine wpAnyH_take (i := 10) (v := ?_) (iatLS (iatSS (iatSS (iatSS (iatSS (iatSS (iatSS (iatSS (iatSS (iatSS (iatSS iatZS))))))))))) (by kernel_rfl) (by kernel_rfl) (by kernel_rfl) (fun _ _ _ h => h) (Or.inl ⟨by rfl, ?_⟩) (by assumption) ?_
 rotate_left
 ·intro w hSw
  try dsimp only at hSw
  go_simp
  all_goals with_reducible rfl
 try simp only [Act.put, List.setIfInBounds_toArray, List.set_cons_zero, List.set_cons_succ]
 refine wpAnyH_take (i := 11) (v := ?_) (iatLS (iatSS (iatSS (iatSS (iatSS (iatSS (iatSS (iatSS (iatSS (iatSS (iatSS (iatSS iatZS)))))))))))) (by kernel_rfl) (by kernel_rfl) (by kernel_rfl) (fun _ _ _ h => h) (Or.inl ⟨by rfl, ?_⟩) (by assumption) ?_
 rotate_left
 ·intro w hSw
  try dsimp only at hSw
  go_simp
  all_goals with_reducible rfl
 try simp only [Act.put, List.setIfInBounds_toArray, List.set_cons_zero, List.set_cons_succ]
 refine wpAnyH_done (by kernel_rfl) ?_ _
 have Hfin : Hid (∃ a c, ∃ l' : List Int, Ending.returned (.tuple #[.slice la LL lc, .bool (emp f s)]) = .returned (.tuple #[.slice a l'.length c, .bool (emp f s)]) ∧ Ints W6 a c l' ∧ FrB w.heap.size a ∧ Ris l' (TokP al f (ahd f s)) ∧ Below w.heap.size w W6) := Lib.hid ⟨la, lc, l, by rw [hLL.out], Hli6.out, Hlf.out, ris_or Hlr.out (fun t => (show ldP _ f s t ↔ ldP (fun r t => TokP al f [-1 - (r : Int)] t) f s t from ⟨ldP_mono (fun r t h => h.2), fun h => (by obtain ⟨y, hy, h1 | ⟨h0, h1⟩⟩ := h; exact ⟨y, hy, .inl h1⟩; exact ⟨y, hy, .inr ⟨h0, by have := (Hok.out y (ahd_sub hy)).1; unfold ruL; omega, h1⟩⟩)⟩).trans ld_tok), Hb6.out⟩
 go_wp2_with (fail)
 exact bodyPost_ret (v := .tuple #[.slice la LL lc, .bool (emp f s)]) (by simp [results, Try.results28, go_sem]; try first | rfl | assumption | omega) rfl Hfin.out
end Go.Proofs.Ytldmgifphkpdlaa
