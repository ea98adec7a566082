/- The row TableTextbook in its second form: for every grammar by numbers whose reading is of bulk at most 1048576: the law answers true and changes nothing that was there. -/
/- Texts joined: Qw Kk PTt. -/
import Derived.Test.YtldmgifphkpdlaaRVAz
import Derived.Test.YtldmgifphkpdlaaRVAi
import Derived.Test.YtldmgifphkpdlaaRVAa
set_option linter.unusedVariables false
set_option linter.unusedSimpArgs false
namespace Go.Proofs.Ytldmgifphkpdlaa
open Go.RowKit Go.Maps
attribute [local go_sem] Oper.semAt_some
set_option maxRecDepth 100000 in
set_option maxHeartbeats 16000000 in
theorem lawTextbook_any (d : CfD) (w : World) (hd : CfAt w d) (h1 : ∀ t ∈ d.toks, t.size ≤ maxLen) (h2 : ∀ t ∈ d.names, t.size ≤ maxLen) (h3 : ∀ r ∈ d.alts, ∀ a ∈ r.ds, ∀ x ∈ a.l, -9223372036854775808 ≤ x ∧ x ≤ 9223372036854775807) (hs : d.toks.length + d.names.length + szC (d.alts.map IrD.p) ≤ 1000000000000) :
 Calls Try.prog 7 #[d.v] w fun e w' => e = .returned (.bool true) ∧ Below w.heap.size w w' := by
 have HF := Lib.hid (fun W (hb : Below w.heap.size w W) => few10_any d W (hd.grown hb) h1 h2 h3 hs)
 have Hsb := Lib.hid (fun (hf : FitC d) W (hb : Below w.heap.size w W) => build_any d W (hd.grown hb) hf)
 have Hsc := Lib.hid (fun (hf : FitC d) W (hb : Below w.heap.size w W) => clashes_any d W (hd.grown hb) hf)
 have Hfo := Lib.hid (fun (hf : FitC d) W (hb : Below w.heap.size w W) => refFollow9_any d W (hd.grown hb) hf)
 have Hld := Lib.hid (fun (hf : FitC d) (s : List Int) (sa : Option Addr) (sc : Nat) W (hb : Below w.heap.size w W) (hs : Ints W sa sc s) (hok : OkL d.toks.length d.alts.length s) => refLead9_any d s sa sc W (hd.grown hb) hf hs hok)
 have Hfit : Hid (few10 d = true → FitC d) := Lib.hid few10_fit
 have Hbd := Lib.hid (fun (h : few10 d = true) (r i k : Nat) (hr : r < d.alts.length) (x y : List Int) hx hy (a b c : List Int) ha hb hc => bd_is d h (r := r) (i := i) (k := k) hr (x := x) (y := y) hx hy (a := a) (b := b) (c := c) ha hb hc)
 have Hst : Hid (∀ (r : Nat) (h : r < d.alts.length), (d.alts.map IrD.p).getD r [] = (d.alts[r]).ds.map (fun x => x.l)) := Lib.hid (fun r h => by
  rw [List.getD_eq_getElem?_getD, List.getElem?_map, List.getElem?_eq_getElem h]
  rfl)
 have Hge := Lib.hid (fun (g : Bool) (h : GdK (BdB (d.alts.map IrD.p) (nulB (d.alts.map IrD.p)) d.toks.length) (fun r => ((d.alts.map IrD.p).getD r []).length) g (d.alts.map IrD.p).length 0 0) => gd_end h)
 have Hd := Lib.hid hd
 have Hfr : Hid (FitC d → d.alts.length ≤ 60) := Lib.hid (fun h => h.r)
 have Hfm : Hid (FitC d → ∀ (r : Nat) (h : r < d.alts.length), (d.alts[r]).ds.length ≤ 30) := Lib.hid (fun h r hr => h.a _ (List.getElem_mem hr))
 have Hok : Hid (FitC d → ∀ (r : Nat) (h : r < d.alts.length), ∀ x ∈ (d.alts[r]).ds, OkL d.toks.length d.alts.length x.l) := Lib.hid (fun h r hr x hx => (h.l _ (List.getElem_mem hr) x hx).2)
 have hxm : d.alts.length ≤ d.ac ∧ d.ac ≤ 9223372036854775807 := ⟨by have := hd.alts.le; rwa [List.length_map] at this, hd.alts.max⟩
 obtain ⟨B, hB⟩ : ∃ q, Hid (few10 d = q) := ⟨_, Lib.hid rfl⟩
 rw [hB.out] at HF Hfit
 obtain ⟨xt, xta, xtc, xn, xna, xnc, xa, xaa, xac⟩ := d
 dsimp only [CfD.v] at *
 have hb1 : Below w.heap.size w (w.alloc (.cells #[.slice xta xt.length xtc, .slice xna xn.length xnc, .slice xaa xa.length xac] 25)) := (Below.refl _ w).alloc (Nat.le_refl _) _
 have hA := Blk.new w 25 #[.slice xta xt.length xtc, .slice xna xn.length xnc, .slice xaa xa.length xac]
 obtain ⟨al, hal9⟩ : ∃ q, Hid (xa.map IrD.p = q) := ⟨_, Lib.hid rfl⟩
 rw [hal9.out] at Hsb Hsc Hld Hfo Hst Hbd Hge
 have hpl : al.length = xa.length := by rw [← hal9.out]; exact List.length_map _
 obtain ⟨f, hf9⟩ : ∃ v, Hid (nulB al = v) := ⟨_, Lib.hid rfl⟩
 rw [hf9.out] at Hsb Hsc Hld Hfo Hbd Hge
 obtain ⟨BB, hBB⟩ : ∃ v, Hid (BdB al f xt.length = v) := ⟨_, Lib.hid rfl⟩
 rw [hBB.out] at Hbd Hge
 obtain ⟨ns, hns⟩ : ∃ v : Nat → Nat, Hid ((fun r => (al.getD r []).length) = v) := ⟨_, Lib.hid rfl⟩
 rw [hns.out, hpl] at Hge
 have Hnn : Hid (∀ (r : Nat) (h : r < xa.length), ns r = (xa[r]).ds.length) := Lib.hid (fun r h => by
  rw [← hns.out]
  dsimp only
  rw [Hst.out r h, List.length_map])
 obtain ⟨CL, hCL⟩ : ∃ v, Hid (allCl al f xt.length = v) := ⟨_, Lib.hid rfl⟩
 rw [hCL.out] at Hsc Hge
 clear hns hBB hf9 hal9
 obtain ⟨T, HT⟩ : ∃ q, Hid (xt.length = q) := ⟨_, Lib.hid rfl⟩
 obtain ⟨N, HN⟩ : ∃ q, Hid (xn.length = q) := ⟨_, Lib.hid rfl⟩
 obtain ⟨L, HL⟩ : ∃ q, Hid (xa.length = q) := ⟨_, Lib.hid rfl⟩
 rw [HT.out, HN.out, HL.out] at hA hb1 HF ⊢
 rw [HT.out, HN.out, HL.out] at Hsb
 rw [HN.out, HL.out] at Hsc
 rw [HT.out] at Hsc
 rw [HT.out, HN.out, HL.out] at Hfo
 rw [HT.out, HN.out, HL.out] at Hld
 rw [HL.out] at Hfr hpl hxm Hge
 rw [HT.out] at hCL Hbd
 clear hpl
 obtain ⟨Fit, hFit⟩ : ∃ v, Hid (FitC ⟨xt, xta, xtc, xn, xna, xnc, xa, xaa, xac⟩ = v) := ⟨_, Lib.hid rfl⟩
 rw [hFit.out] at Hfit Hsb Hsc Hfo Hld Hfr Hfm Hok
 have HF' : Hid (∀ W, Below w.heap.size w W → Calls Try.prog 30 #[.agg #[.slice xta T xtc, .slice xna N xnc, .slice xaa L xac]] W fun e w' => e = .returned (.bool B) ∧ Below W.heap.size W w') := HF
 have x0 := hA.cell 0
 have x1 := hA.cell 1
 have x2 := hA.cell 2
 have xl := hA.lt
 simp only [List.getElem?_cons_zero, List.getElem?_cons_succ] at x0 x1 x2
 have HA := Lib.hid hA
 have Hb1 := Lib.hid hb1
 clear hA hb1 h1 h2 h3 hs HF hd
 go_enter Try.func7, Try.ntmps7
 go_wp2_with (fail)
 obtain ⟨bx, hbx⟩ : ∃ q, Hid (w.heap.size = q) := ⟨_, Lib.hid rfl⟩
 rw [hbx.out] at HA xl x0 x1 x2 ⊢
 generalize hV : World.alloc w _ = V1 at HA x0 x1 x2 xl Hb1 ⊢
 clear hV
 refine (live10_any V1).mono ?_
 rintro e w2 ⟨rfl, hb⟩
 have HA2 := Lib.hid (HA.out.below hb HA.out.lt)
 have Hb2 := Lib.hid (Hb1.out.trans (hb.mono Hb1.out.size))
 clear x0 x1 x2 xl hb
 have x0 := HA2.out.cell 0
 have x1 := HA2.out.cell 1
 have x2 := HA2.out.cell 2
 have xl := HA2.out.lt
 simp only [List.getElem?_cons_zero, List.getElem?_cons_succ] at x0 x1 x2
 go_wp2_with (fail)
 refine (HF'.out w2 Hb2.out).mono ?_
 rintro e w3 ⟨rfl, hb⟩
 have HA3 := Lib.hid (HA2.out.below hb HA2.out.lt)
 have Hb3 := Lib.hid (Hb2.out.trans (hb.mono Hb2.out.size))
 clear x0 x1 x2 xl hb HF'
 cases B
 ·go_wp2_with (fail)
  exact bodyPost_ret (v := .bool true) (by simp [results, Try.results7, go_sem]; try first | rfl | assumption | omega) rfl ⟨rfl, Hb3.out⟩
 have hfit := Hfit.out rfl
 have Hsb2 := Lib.hid (Hsb.out hfit)
 have Hsc2 := Lib.hid (Hsc.out hfit)
 have Hfo2 := Lib.hid (Hfo.out hfit)
 have Hld2 := Lib.hid (Hld.out hfit)
 have hL60 := Hfr.out hfit
 have HMs := Lib.hid (Hfm.out hfit)
 have Hok2 := Lib.hid (Hok.out hfit)
 have Hbd2 := Lib.hid (Hbd.out hB.out)
 clear Hfr Hfm Hok Hbd
 clear Hsb Hsc Hfo Hld Hfit hfit
 have x0 := HA3.out.cell 0
 have x1 := HA3.out.cell 1
 have x2 := HA3.out.cell 2
 have xl := HA3.out.lt
 simp only [List.getElem?_cons_zero, List.getElem?_cons_succ] at x0 x1 x2
 go_wp2_with (fail)
 refine (Hfo2.out w3 Hb3.out).mono ?_
 rintro e w4 ⟨fa, fc, fs, rfl, hfl, hfal, hfris, hb⟩
 have HF4 := Lib.hid hfal
 have Hfl := Lib.hid hfl
 have Hfr4 := Lib.hid hfris
 have hfm : L ≤ fc ∧ fc ≤ 9223372036854775807 := ⟨by have := hfal.row.le; rw [List.length_map, hfl] at this; exact this, hfal.row.max⟩
 have HA4 := Lib.hid (HA3.out.below hb HA3.out.lt)
 have Hb4 := Lib.hid (Hb3.out.trans (hb.mono Hb3.out.size))
 have HD4 := Lib.hid (Hd.out.grown Hb4.out)
 clear x0 x1 x2 xl hb hfal hfris hfl Hfo2
 have x0 := HA4.out.cell 0
 have x1 := HA4.out.cell 1
 have x2 := HA4.out.cell 2
 have xl := HA4.out.lt
 simp only [List.getElem?_cons_zero, List.getElem?_cons_succ] at x0 x1 x2
 go_wp2_with (fail)
 clear x0 x1 x2 xl
 have Hg0 := Lib.hid (gd_start BB ns)
 go_loopw [5, 26] (fun gv rv wr => ∃ (r : Nat) (g : Bool), r ≤ L ∧ rv = .int .i64 (r : Int) ∧ gv = .bool g ∧ Hid (GdK BB ns g r 0 0) ∧ Below w4.heap.size w4 wr) (fun _ rv _ => L - (RowKit.intOf rv).toNat)
 case atStart => exact ⟨0, true, Nat.zero_le _, rfl, rfl, Hg0, Below.refl _ _⟩
 case round =>
  clear Hg0
  obtain ⟨r, g, hr, rfl, rfl, Hgd, hbr⟩ := hrel
  obtain ⟨U, rfl⟩ : ∃ U, U = wr := ⟨_, rfl⟩
  have HAu := Lib.hid (HA4.out.below hbr HA4.out.lt)
  have x0 := HAu.out.cell 0
  have x1 := HAu.out.cell 1
  have x2 := HAu.out.cell 2
  have xl := HAu.out.lt
  simp only [List.getElem?_cons_zero, List.getElem?_cons_succ] at x0 x1 x2
  by_cases hlt : r < L
  ·have hrI : (r : Int) < (L : Int) := by omega
   have hrI0 : (0 : Int) ≤ (r : Int) := by omega
   have hrx : r < xa.length := by rw [HL.out]; exact hlt
   have HDu := Lib.hid (HD4.out.grown hbr)
   obtain ⟨p, po, hp⟩ := HDu.out.alts.at_ r (by rw [List.length_map]; exact hrx)
   have cp := HDu.out.alts.cell p po hp r (by rw [List.length_map]; exact hrx)
   rw [List.getElem_map] at cp
   have hnm := Hnn.out r hrx
   have hm30 := HMs.out r hrx
   have hst := Hst.out r hrx
   have hme := (HDu.out.rules _ (List.getElem_mem hrx)).row
   have hme2 : (xa[r]).ds.length ≤ (xa[r]).c ∧ (xa[r]).c ≤ 9223372036854775807 := ⟨by have := hme.le; rwa [List.length_map] at this, hme.max⟩
   clear hme
   have hmem : Hid (xa[r]'hrx ∈ xa) := Lib.hid (List.getElem_mem hrx)
   have HokR0 := Lib.hid (Hok2.out r hrx)
   obtain ⟨e, he⟩ : ∃ v, Hid (xa[r]'hrx = v) := ⟨_, Lib.hid rfl⟩
   rw [he.out] at cp hnm hm30 hme2 hst HokR0
   have hblp := World.block_lt_of_cell? _ _ cp
   obtain ⟨eds, ea, ec⟩ := e
   change _ = some (Value.slice ea eds.length ec) at cp
   dsimp only at hnm hm30 hme2 hst HokR0
   have HokR : Hid (∀ x ∈ eds, OkL T L x.l) := Lib.hid (by rw [← HT.out, ← HL.out]; exact HokR0.out)
   have HstR := Lib.hid hst
   obtain ⟨M, hM⟩ : ∃ q, Hid (eds.length = q) := ⟨_, Lib.hid rfl⟩
   rw [hM.out] at cp hnm hm30 hme2
   have HnM := Lib.hid hnm
   have hrf : r < fs.length := by rw [Hfl.out]; exact hlt
   obtain ⟨y, yo, hy⟩ := HF4.out.row.at_ r (by rw [List.length_map]; exact hrf)
   have hrr := Hfr4.out r hrf
   obtain ⟨fe, hfe⟩ : ∃ v, Hid (fs[r]'hrf = v) := ⟨_, Lib.hid rfl⟩
   rw [hfe.out] at hrr
   obtain ⟨fl, fla, flc⟩ := fe
   dsimp only at hrr
   have Hrf := Lib.hid hrr
   subst hp hy
   clear hrr hst hnm HokR0 HDu
   go_wp2_with (fail)
   have Hbr := Lib.hid hbr
   clear cp hblp x0 x1 x2 xl HAu hbr
   go_loopw [5, 33] (fun gv iv wr => ∃ (i : Nat) (g : Bool), i ≤ M ∧ iv = .int .i64 (i : Int) ∧ gv = .bool g ∧ Hid (GdK BB ns g r i 0) ∧ Below w4.heap.size w4 wr) (fun _ iv _ => M - (RowKit.intOf iv).toNat)
   case atStart => exact ⟨0, g, Nat.zero_le _, rfl, rfl, Hgd, Hbr.out⟩
   case round =>
    clear Hgd Hbr
    obtain ⟨i, g, hi, rfl, rfl, Hgd, hbi⟩ := hrel
    obtain ⟨U2, rfl⟩ : ∃ U, U = wr := ⟨_, rfl⟩
    by_cases hlti : i < M
    ·have hiI : (i : Int) < (M : Int) := by omega
     have hiI0 : (0 : Int) ≤ (i : Int) := by omega
     go_wp2_with (fail)
     have Hbi := Lib.hid hbi
     clear hbi
     go_loopw [5, 38] (fun gv kv wr => ∃ (k : Nat) (g : Bool), k ≤ M ∧ kv = .int .i64 (k : Int) ∧ gv = .bool g ∧ Hid (GdK BB ns g r i k) ∧ Below w4.heap.size w4 wr) (fun _ kv _ => M - (RowKit.intOf kv).toNat)
     case atStart => exact ⟨0, g, Nat.zero_le _, rfl, rfl, Hgd, Hbi.out⟩
     case round =>
      clear Hgd Hbi
      obtain ⟨k, g, hk, rfl, rfl, Hgd, hbk⟩ := hrel
      obtain ⟨U3, rfl⟩ : ∃ U, U = wr := ⟨_, rfl⟩
      by_cases hltk : k < M
      ·have hkI : (k : Int) < (M : Int) := by omega
       have hkI0 : (0 : Int) ≤ (k : Int) := by omega
       by_cases hki : k ≤ i
       ·have hkiI : (k : Int) ≤ (i : Int) := by omega
        have Hgs := Lib.hid (gd_skip Hgd.out hki)
        clear hki
        go_wp2_with (fail)
        exact ⟨⟨k + 1, g, by omega, by go_num, rfl, Hgs, hbk⟩, by simp [RowKit.intOf]; omega⟩
       ·have hkiI : ¬ (k : Int) ≤ (i : Int) := by omega
        have hik : i < k := by omega
        have hkns : k < ns r := by rw [HnM.out]; exact hltk
        have hie : i < eds.length := by rw [hM.out]; exact hlti
        have hke : k < eds.length := by rw [hM.out]; exact hltk
        have hd9 := (Below.refl U3.heap.size U3).drew
        have hb0 := hbk.trans (hd9.mono hbk.size)
        have hoki : Hid (OkL T L (eds[i]).l) := Lib.hid (HokR.out _ (List.getElem_mem hie))
        have hokk : Hid (OkL T L (eds[k]).l) := Lib.hid (HokR.out _ (List.getElem_mem hke))
        have hxi9 : Hid ((al.getD r [])[i]? = some (eds[i]).l) := Lib.hid (by rw [HstR.out, List.getElem?_map, List.getElem?_eq_getElem hie]; rfl)
        have hxk9 : Hid ((al.getD r [])[k]? = some (eds[k]).l) := Lib.hid (by rw [HstR.out, List.getElem?_map, List.getElem?_eq_getElem hke]; rfl)
        obtain ⟨xi, hxi⟩ : ∃ v, Hid (eds[i]'hie = v) := ⟨_, Lib.hid rfl⟩
        obtain ⟨xk, hxk⟩ : ∃ v, Hid (eds[k]'hke = v) := ⟨_, Lib.hid rfl⟩
        rw [hxi.out] at hoki hxi9
        rw [hxk.out] at hokk hxk9
        obtain ⟨xil, xia, xic⟩ := xi
        obtain ⟨xkl, xka, xkc⟩ := xk
        dsimp only at hoki hokk hxi9 hxk9
        obtain ⟨XI, hXI⟩ : ∃ q, Hid (xil.length = q) := ⟨_, Lib.hid rfl⟩
        obtain ⟨XK, hXK⟩ : ∃ q, Hid (xkl.length = q) := ⟨_, Lib.hid rfl⟩
        obtain ⟨N1, hN1⟩ : ∃ q, Hid (emp f xil = q) := ⟨_, Lib.hid rfl⟩
        obtain ⟨N2, hN2⟩ : ∃ q, Hid (emp f xkl = q) := ⟨_, Lib.hid rfl⟩
        have hRz := (HD4.out.grown hb0).rules _ hmem.out
        rw [he.out] at hRz
        obtain ⟨z, zo, hz⟩ := hRz.row.at_ i (by rw [List.length_map]; exact hie)
        dsimp only at hz
        subst hz
        clear hRz
        have HA0 := Lib.hid (HA4.out.below hb0 HA4.out.lt)
        have hR0 := (HD4.out.grown hb0).rules _ hmem.out
        rw [he.out] at hR0
        have hci0 := hR0.row.cell z zo rfl i (by rw [List.length_map]; exact hie)
        have hck0 := hR0.row.cell z zo rfl k (by rw [List.length_map]; exact hke)
        rw [List.getElem_map, hxi.out] at hci0
        rw [List.getElem_map, hxk.out] at hck0
        change _ = some (Value.slice xia xil.length xic) at hci0
        change _ = some (Value.slice xka xkl.length xkc) at hck0
        rw [hXI.out] at hci0
        rw [hXK.out] at hck0
        have HS0 : Hid (U3.drew.cell? ⟨bx, 0, none⟩ = some (.slice xta T xtc) ∧ U3.drew.cell? ⟨bx, 1, none⟩ = some (.slice xna N xnc) ∧ U3.drew.cell? ⟨bx, 2, none⟩ = some (.slice (some ⟨p, po, none⟩) L xac) ∧ U3.drew.cell? ⟨z, zo + i, none⟩ = some (.slice xia XI xic) ∧ U3.drew.cell? ⟨z, zo + k, none⟩ = some (.slice xka XK xkc)) := Lib.hid ⟨HA0.out.cell 0, HA0.out.cell 1, HA0.out.cell 2, hci0, hck0⟩
        have hii := hR0.nms _ (List.getElem_mem hie)
        rw [hxi.out] at hii
        dsimp only at hii
        have H16 := Lib.hid (Hld2.out xil xia xic U3.drew (Hb4.out.trans (hb0.mono Hb4.out.size)) hii hoki.out)
        rw [hN1.out, hXI.out] at H16
        clear hii hR0 hci0 hck0 hd9 hbk hki
        go_wp2_with (fail)
        refine wp_region_held_drew (S := fun w' => w'.cell? ⟨bx, 0, none⟩ = some (.slice xta T xtc) ∧ w'.cell? ⟨bx, 1, none⟩ = some (.slice xna N xnc) ∧ w'.cell? ⟨bx, 2, none⟩ = some (.slice (some ⟨p, po, none⟩) L xac) ∧ w'.cell? ⟨z, zo + i, none⟩ = some (.slice xia XI xic) ∧ w'.cell? ⟨z, zo + k, none⟩ = some (.slice xka XK xkc)) (by kernel_rfl) ?_ (fun hHeld => ?_)
        ·exact HS0.out
        refine wpAnyH_take (i := 0) (v := ?_) (iatLS iatZS) (by kernel_rfl) (by kernel_rfl) (by kernel_rfl) (fun _ _ _ h => h) (Or.inl ⟨by rfl, ?_⟩) (by assumption) ?_
        rotate_left
        ·intro w hSw
         try dsimp only at hSw
         go_simp
         all_goals with_reducible rfl
        try simp only [Act.put, List.setIfInBounds_toArray, List.set_cons_zero, List.set_cons_succ]
        refine wpAnyH_take (i := 1) (v := ?_) (iatLS (iatSS iatZS)) (by kernel_rfl) (by kernel_rfl) (by kernel_rfl) (fun _ _ _ h => h) (Or.inl ⟨by rfl, ?_⟩) (by assumption) ?_
        rotate_left
        ·intro w hSw
         try dsimp only at hSw
         go_simp
         all_goals with_reducible rfl
        try simp only [Act.put, List.setIfInBounds_toArray, List.set_cons_zero, List.set_cons_succ]
        refine wpAnyH_take (i := 2) (v := ?_) (iatLS (iatSS (iatSS iatZS))) (by kernel_rfl) (by kernel_rfl) (by kernel_rfl) (fun _ _ _ h => h) (Or.inl ⟨by rfl, ?_⟩) (by assumption) ?_
        rotate_left
        ·intro w hSw
         try dsimp only at hSw
         go_simp
         all_goals with_reducible rfl
        try simp only [Act.put, List.setIfInBounds_toArray, List.set_cons_zero, List.set_cons_succ]
        refine wpAnyH_take (i := 3) (v := ?_) (iatLS (iatSS (iatSS (iatSS iatZS)))) (by kernel_rfl) (by kernel_rfl) (by kernel_rfl) (fun _ _ _ h => h) (Or.inl ⟨by rfl, ?_⟩) (by assumption) ?_
        rotate_left
        ·intro w hSw
         try dsimp only at hSw
         go_simp
         all_goals with_reducible rfl
        try simp only [Act.put, List.setIfInBounds_toArray, List.set_cons_zero, List.set_cons_succ]
        refine wpAnyH_take (i := 4) (v := ?_) (iatLS (iatSS (iatSS (iatSS (iatSS iatZS))))) (by kernel_rfl) (by kernel_rfl) (by kernel_rfl) (fun _ _ _ h => h) (Or.inl ⟨by rfl, ?_⟩) (by assumption) ?_
        rotate_left
        ·intro w hSw
         try dsimp only at hSw
         go_simp
         all_goals with_reducible rfl
        try simp only [Act.put, List.setIfInBounds_toArray, List.set_cons_zero, List.set_cons_succ]
        refine wpAnyH_ready (rs := [5]) (by kernel_rfl) (by simp) ?_
        refine AllReadyH.cons (iatLS (iatSS (iatSS (iatSS (iatSS (iatSS iatZS)))))) (fun K hK => ?_) AllReadyH.nil
        go_simp
        (with_reducible refine H16.out.mono ?_)
        rintro e8 W5 ⟨aa, ac, ll, rfl, hai, har, hb⟩
        obtain ⟨W5s, hW5⟩ : ∃ W, W = W5 := ⟨_, rfl⟩
        subst hW5
        have hb5 := hb0.trans (hb.mono hb0.size)
        have HA5 := Lib.hid (HA4.out.below hb5 HA4.out.lt)
        have hR5 := (HD4.out.grown hb5).rules _ hmem.out
        rw [he.out] at hR5
        have hci5 := hR5.row.cell z zo rfl i (by rw [List.length_map]; exact hie)
        have hck5 := hR5.row.cell z zo rfl k (by rw [List.length_map]; exact hke)
        rw [List.getElem_map, hxi.out] at hci5
        rw [List.getElem_map, hxk.out] at hck5
        change _ = some (Value.slice xia xil.length xic) at hci5
        change _ = some (Value.slice xka xkl.length xkc) at hck5
        rw [hXI.out] at hci5
        rw [hXK.out] at hck5
        have HS5 : Hid (W5s.cell? ⟨bx, 0, none⟩ = some (.slice xta T xtc) ∧ W5s.cell? ⟨bx, 1, none⟩ = some (.slice xna N xnc) ∧ W5s.cell? ⟨bx, 2, none⟩ = some (.slice (some ⟨p, po, none⟩) L xac) ∧ W5s.cell? ⟨z, zo + i, none⟩ = some (.slice xia XI xic) ∧ W5s.cell? ⟨z, zo + k, none⟩ = some (.slice xka XK xkc)) := Lib.hid ⟨HA5.out.cell 0, HA5.out.cell 1, HA5.out.cell 2, hci5, hck5⟩
        have hd6 := (Below.refl W5s.heap.size W5s).drew
        have hb6 := hb5.trans (hd6.mono hb5.size)
        have Hb6 := Lib.hid hb6
        have HA6 := Lib.hid (HA4.out.below hb6 HA4.out.lt)
        have hR6 := (HD4.out.grown hb6).rules _ hmem.out
        rw [he.out] at hR6
        have hci6 := hR6.row.cell z zo rfl i (by rw [List.length_map]; exact hie)
        have hck6 := hR6.row.cell z zo rfl k (by rw [List.length_map]; exact hke)
        rw [List.getElem_map, hxi.out] at hci6
        rw [List.getElem_map, hxk.out] at hck6
        change _ = some (Value.slice xia xil.length xic) at hci6
        change _ = some (Value.slice xka xkl.length xkc) at hck6
        rw [hXI.out] at hci6
        rw [hXK.out] at hck6
        have HS6 : Hid (W5s.drew.cell? ⟨bx, 0, none⟩ = some (.slice xta T xtc) ∧ W5s.drew.cell? ⟨bx, 1, none⟩ = some (.slice xna N xnc) ∧ W5s.drew.cell? ⟨bx, 2, none⟩ = some (.slice (some ⟨p, po, none⟩) L xac) ∧ W5s.drew.cell? ⟨z, zo + i, none⟩ = some (.slice xia XI xic) ∧ W5s.drew.cell? ⟨z, zo + k, none⟩ = some (.slice xka XK xkc)) := Lib.hid ⟨HA6.out.cell 0, HA6.out.cell 1, HA6.out.cell 2, hci6, hck6⟩
        have HI6 := Lib.hid (hai.grown hd6)
        have Hra := Lib.hid har
        have hik6 := hR6.nms _ (List.getElem_mem hke)
        rw [hxk.out] at hik6
        dsimp only at hik6
        have H17 := Lib.hid (Hld2.out xkl xka xkc W5s.drew (Hb4.out.trans (hb6.mono Hb4.out.size)) hik6 hokk.out)
        rw [hN2.out, hXK.out] at H17
        obtain ⟨LL, hLL⟩ : ∃ q, Hid (ll.length = q) := ⟨_, Lib.hid rfl⟩
        clear hb hb5 hb6 hd6 hai har hR5 hR6 hci5 hck5 hci6 hck6 hik6 hb0
        try dsimp only
        refine hK.out _ _ ?_ (fun hHeld => ?_)
        ·exact HS5.out
        clear hK K
        try simp only [Act.put, List.setIfInBounds_toArray, List.set_cons_zero, List.set_cons_succ]
        refine wpAnyH_take (i := 6) (v := ?_) (iatLS (iatSS (iatSS (iatSS (iatSS (iatSS (iatSS iatZS))))))) (by kernel_rfl) (by kernel_rfl) (by kernel_rfl) (fun _ _ _ h => h) (Or.inl ⟨by rfl, ?_⟩) (by assumption) ?_
        rotate_left
        ·intro w hSw
         try dsimp only at hSw
         go_simp
         all_goals with_reducible rfl
        try simp only [Act.put, List.setIfInBounds_toArray, List.set_cons_zero, List.set_cons_succ]
        refine wpAnyH_take (i := 7) (v := ?_) (iatLS (iatSS (iatSS (iatSS (iatSS (iatSS (iatSS (iatSS iatZS)))))))) (by kernel_rfl) (by kernel_rfl) (by kernel_rfl) (fun _ _ _ h => h) (Or.inl ⟨by rfl, ?_⟩) (by assumption) ?_
        rotate_left
        ·intro w hSw
         try dsimp only at hSw
         go_simp
         all_goals with_reducible rfl
        try simp only [Act.put, List.setIfInBounds_toArray, List.set_cons_zero, List.set_cons_succ]
        refine wpAnyH_take (i := 8) (v := ?_) (iatLS (iatSS (iatSS (iatSS (iatSS (iatSS (iatSS (iatSS (iatSS iatZS))))))))) (by kernel_rfl) (by kernel_rfl) (by kernel_rfl) (fun _ _ _ h => h) (Or.inl ⟨by rfl, ?_⟩) (by assumption) ?_
        rotate_left
        ·intro w hSw
         try dsimp only at hSw
         go_simp
         all_goals with_reducible rfl
        try simp only [Act.put, List.setIfInBounds_toArray, List.set_cons_zero, List.set_cons_succ]
        refine wpAnyH_take (i := 9) (v := ?_) (iatLS (iatSS (iatSS (iatSS (iatSS (iatSS (iatSS (iatSS (iatSS (iatSS iatZS)))))))))) (by kernel_rfl) (by kernel_rfl) (by kernel_rfl) (fun _ _ _ h => h) (Or.inl ⟨by rfl, ?_⟩) (by assumption) ?_
        rotate_left
        ·intro w hSw
         try dsimp only at hSw
         go_simp
         all_goals with_reducible rfl
        try simp only [Act.put, List.setIfInBounds_toArray, List.set_cons_zero, List.set_cons_succ]
        refine wpAnyH_take (i := 10) (v := ?_) (iatLS (iatSS (iatSS (iatSS (iatSS (iatSS (iatSS (iatSS (iatSS (iatSS (iatSS iatZS))))))))))) (by kernel_rfl) (by kernel_rfl) (by kernel_rfl) (fun _ _ _ h => h) (Or.inl ⟨by rfl, ?_⟩) (by assumption) ?_
        rotate_left
        ·intro w hSw
         try dsimp only at hSw
         go_simp
         all_goals with_reducible rfl
        try simp only [Act.put, List.setIfInBounds_toArray, List.set_cons_zero, List.set_cons_succ]
        refine wpAnyH_done (by kernel_rfl) ?_ _
        go_wp2_with (fail)
        refine wp_region_held_drew (S := fun w' => w'.cell? ⟨bx, 0, none⟩ = some (.slice xta T xtc) ∧ w'.cell? ⟨bx, 1, none⟩ = some (.slice xna N xnc) ∧ w'.cell? ⟨bx, 2, none⟩ = some (.slice (some ⟨p, po, none⟩) L xac) ∧ w'.cell? ⟨z, zo + i, none⟩ = some (.slice xia XI xic) ∧ w'.cell? ⟨z, zo + k, none⟩ = some (.slice xka XK xkc)) (by kernel_rfl) ?_ (fun hHeld => ?_)
        ·exact HS6.out
        refine wpAnyH_take (i := 0) (v := ?_) (iatLS iatZS) (by kernel_rfl) (by kernel_rfl) (by kernel_rfl) (fun _ _ _ h => h) (Or.inl ⟨by rfl, ?_⟩) (by assumption) ?_
        rotate_left
        ·intro w hSw
         try dsimp only at hSw
         go_simp
         all_goals with_reducible rfl
        try simp only [Act.put, List.setIfInBounds_toArray, List.set_cons_zero, List.set_cons_succ]
        refine wpAnyH_take (i := 1) (v := ?_) (iatLS (iatSS iatZS)) (by kernel_rfl) (by kernel_rfl) (by kernel_rfl) (fun _ _ _ h => h) (Or.inl ⟨by rfl, ?_⟩) (by assumption) ?_
        rotate_left
        ·intro w hSw
         try dsimp only at hSw
         go_simp
         all_goals with_reducible rfl
        try simp only [Act.put, List.setIfInBounds_toArray, List.set_cons_zero, List.set_cons_succ]
        refine wpAnyH_take (i := 2) (v := ?_) (iatLS (iatSS (iatSS iatZS))) (by kernel_rfl) (by kernel_rfl) (by kernel_rfl) (fun _ _ _ h => h) (Or.inl ⟨by rfl, ?_⟩) (by assumption) ?_
        rotate_left
        ·intro w hSw
         try dsimp only at hSw
         go_simp
         all_goals with_reducible rfl
        try simp only [Act.put, List.setIfInBounds_toArray, List.set_cons_zero, List.set_cons_succ]
        refine wpAnyH_take (i := 3) (v := ?_) (iatLS (iatSS (iatSS (iatSS iatZS)))) (by kernel_rfl) (by kernel_rfl) (by kernel_rfl) (fun _ _ _ h => h) (Or.inl ⟨by rfl, ?_⟩) (by assumption) ?_
        rotate_left
        ·intro w hSw
         try dsimp only at hSw
         go_simp
         all_goals with_reducible rfl
        try simp only [Act.put, List.setIfInBounds_toArray, List.set_cons_zero, List.set_cons_succ]
        refine wpAnyH_take (i := 4) (v := ?_) (iatLS (iatSS (iatSS (iatSS (iatSS iatZS))))) (by kernel_rfl) (by kernel_rfl) (by kernel_rfl) (fun _ _ _ h => h) (Or.inl ⟨by rfl, ?_⟩) (by assumption) ?_
        rotate_left
        ·intro w hSw
         try dsimp only at hSw
         go_simp
         all_goals with_reducible rfl
        try simp only [Act.put, List.setIfInBounds_toArray, List.set_cons_zero, List.set_cons_succ]
        refine wpAnyH_ready (rs := [5]) (by kernel_rfl) (by simp) ?_
        refine AllReadyH.cons (iatLS (iatSS (iatSS (iatSS (iatSS (iatSS iatZS)))))) (fun K hK => ?_) AllReadyH.nil
        go_simp
        (with_reducible refine H17.out.mono ?_)
        rintro e8 W7 ⟨ba, bc, ml, rfl, hbi, hbr9, hb⟩
        obtain ⟨W7s, hW7⟩ : ∃ W, W = W7 := ⟨_, rfl⟩
        subst hW7
        have hb7 := Hb6.out.trans (hb.mono Hb6.out.size)
        have Hb7 := Lib.hid hb7
        have HA7 := Lib.hid (HA4.out.below hb7 HA4.out.lt)
        have hR7 := (HD4.out.grown hb7).rules _ hmem.out
        rw [he.out] at hR7
        have hci7 := hR7.row.cell z zo rfl i (by rw [List.length_map]; exact hie)
        have hck7 := hR7.row.cell z zo rfl k (by rw [List.length_map]; exact hke)
        rw [List.getElem_map, hxi.out] at hci7
        rw [List.getElem_map, hxk.out] at hck7
        change _ = some (Value.slice xia xil.length xic) at hci7
        change _ = some (Value.slice xka xkl.length xkc) at hck7
        rw [hXI.out] at hci7
        rw [hXK.out] at hck7
        have HS7 : Hid (W7s.cell? ⟨bx, 0, none⟩ = some (.slice xta T xtc) ∧ W7s.cell? ⟨bx, 1, none⟩ = some (.slice xna N xnc) ∧ W7s.cell? ⟨bx, 2, none⟩ = some (.slice (some ⟨p, po, none⟩) L xac) ∧ W7s.cell? ⟨z, zo + i, none⟩ = some (.slice xia XI xic) ∧ W7s.cell? ⟨z, zo + k, none⟩ = some (.slice xka XK xkc)) := Lib.hid ⟨HA7.out.cell 0, HA7.out.cell 1, HA7.out.cell 2, hci7, hck7⟩
        have HI7 := Lib.hid (HI6.out.grown hb)
        have HJ7 := Lib.hid hbi
        have hfr7 := HF4.out.grown hb7
        have cf7 := hfr7.row.cell y yo rfl r (by rw [List.length_map]; exact hrf)
        rw [List.getElem_map, hfe.out] at cf7
        change _ = some (Value.slice fla fl.length flc) at cf7
        have hfi7 := hfr7.nms _ (List.getElem_mem hrf)
        rw [hfe.out] at hfi7
        dsimp only at hfi7
        have HbB := Lib.hid (Hbd2.out r i k hrx xil xkl hxi9.out hxk9.out ll ml fl Hra.out hbr9 Hrf.out)
        rw [hN1.out, hN2.out] at HbB
        have HC1 := Lib.hid (both_any ll ml aa ba ac bc W7s HI7.out HJ7.out)
        have HC2 := Lib.hid (both_any ml fl ba fla bc flc W7s HJ7.out hfi7)
        have HC3 := Lib.hid (both_any ll fl aa fla ac flc W7s HI7.out hfi7)
        have hm7 : ll.length ≤ ac ∧ ac ≤ 9223372036854775807 := ⟨by have := HI7.out.le; rw [List.length_map] at this; exact this, HI7.out.max⟩
        have hn7 : ml.length ≤ bc ∧ bc ≤ 9223372036854775807 := ⟨by have := HJ7.out.le; rw [List.length_map] at this; exact this, HJ7.out.max⟩
        have ho7 : fl.length ≤ flc ∧ flc ≤ 9223372036854775807 := ⟨by have := hfi7.le; rw [List.length_map] at this; exact this, hfi7.max⟩
        obtain ⟨B1, hB1⟩ : ∃ q, Hid (comB ll ml = q) := ⟨_, Lib.hid rfl⟩
        obtain ⟨B2, hB2⟩ : ∃ q, Hid (comB ml fl = q) := ⟨_, Lib.hid rfl⟩
        obtain ⟨B3, hB3⟩ : ∃ q, Hid (comB ll fl = q) := ⟨_, Lib.hid rfl⟩
        rw [hB1.out] at HC1 HbB
        rw [hB2.out] at HC2 HbB
        rw [hB3.out] at HC3 HbB
        obtain ⟨LL, hLL⟩ : ∃ q, Hid (ll.length = q) := ⟨_, Lib.hid rfl⟩
        obtain ⟨ML, hML⟩ : ∃ q, Hid (ml.length = q) := ⟨_, Lib.hid rfl⟩
        obtain ⟨FL, hFL⟩ : ∃ q, Hid (fl.length = q) := ⟨_, Lib.hid rfl⟩
        rw [hLL.out] at HC1 HC3 hm7
        rw [hML.out] at HC1 HC2 hn7 ⊢
        rw [hFL.out] at HC2 HC3 cf7 ho7
        clear hb hb7 hbi hbr9 hR7 hci7 hck7 hfr7 hfi7
        try dsimp only
        refine hK.out _ _ ?_ (fun hHeld => ?_)
        ·exact HS7.out
        clear hK K
        try simp only [Act.put, List.setIfInBounds_toArray, List.set_cons_zero, List.set_cons_succ]
        refine wpAnyH_take (i := 6) (v := ?_) (iatLS (iatSS (iatSS (iatSS (iatSS (iatSS (iatSS iatZS))))))) (by kernel_rfl) (by kernel_rfl) (by kernel_rfl) (fun _ _ _ h => h) (Or.inl ⟨by rfl, ?_⟩) (by assumption) ?_
        rotate_left
        ·intro w hSw
         try dsimp only at hSw
         go_simp
         all_goals with_reducible rfl
        try simp only [Act.put, List.setIfInBounds_toArray, List.set_cons_zero, List.set_cons_succ]
        refine wpAnyH_take (i := 7) (v := ?_) (iatLS (iatSS (iatSS (iatSS (iatSS (iatSS (iatSS (iatSS iatZS)))))))) (by kernel_rfl) (by kernel_rfl) (by kernel_rfl) (fun _ _ _ h => h) (Or.inl ⟨by rfl, ?_⟩) (by assumption) ?_
        rotate_left
        ·intro w hSw
         try dsimp only at hSw
         go_simp
         all_goals with_reducible rfl
        try simp only [Act.put, List.setIfInBounds_toArray, List.set_cons_zero, List.set_cons_succ]
        refine wpAnyH_take (i := 8) (v := ?_) (iatLS (iatSS (iatSS (iatSS (iatSS (iatSS (iatSS (iatSS (iatSS iatZS))))))))) (by kernel_rfl) (by kernel_rfl) (by kernel_rfl) (fun _ _ _ h => h) (Or.inl ⟨by rfl, ?_⟩) (by assumption) ?_
        rotate_left
        ·intro w hSw
         try dsimp only at hSw
         go_simp
         all_goals with_reducible rfl
        try simp only [Act.put, List.setIfInBounds_toArray, List.set_cons_zero, List.set_cons_succ]
        refine wpAnyH_take (i := 9) (v := ?_) (iatLS (iatSS (iatSS (iatSS (iatSS (iatSS (iatSS (iatSS (iatSS (iatSS iatZS)))))))))) (by kernel_rfl) (by kernel_rfl) (by kernel_rfl) (fun _ _ _ h => h) (Or.inl ⟨by rfl, ?_⟩) (by assumption) ?_
        rotate_left
        ·intro w hSw
         try dsimp only at hSw
         go_simp
         all_goals with_reducible rfl
        try simp only [Act.put, List.setIfInBounds_toArray, List.set_cons_zero, List.set_cons_succ]
        refine wpAnyH_take (i := 10) (v := ?_) (iatLS (iatSS (iatSS (iatSS (iatSS (iatSS (iatSS (iatSS (iatSS (iatSS (iatSS iatZS))))))))))) (by kernel_rfl) (by kernel_rfl) (by kernel_rfl) (fun _ _ _ h => h) (Or.inl ⟨by rfl, ?_⟩) (by assumption) ?_
        rotate_left
        ·intro w hSw
         try dsimp only at hSw
         go_simp
         all_goals with_reducible rfl
        try simp only [Act.put, List.setIfInBounds_toArray, List.set_cons_zero, List.set_cons_succ]
        refine wpAnyH_done (by kernel_rfl) ?_ _
        rw [hLL.out]
        have hblf := World.block_lt_of_cell? _ _ cf7
        go_wp2_with (fail)
        cases B1
        ·cases N1
         ·cases N2
          ·have Hgn : Hid (GdK BB ns g r i (k + 1)) := Lib.hid (gd_good Hgd.out (by rw [HbB.out]; rfl))
           go_wp2_with (fail)
           refine HC1.out.mono ?_
           rintro e9 w9 ⟨rfl, rfl⟩
           go_wp2_with (fail)
           exact ⟨⟨k + 1, g, by omega, by go_num, rfl, Hgn, Hb7.out⟩, by simp [RowKit.intOf]; omega⟩
          ·cases B3
           ·have Hgn : Hid (GdK BB ns g r i (k + 1)) := Lib.hid (gd_good Hgd.out (by rw [HbB.out]; rfl))
            go_wp2_with (fail)
            refine HC1.out.mono ?_
            rintro e9 w9 ⟨rfl, rfl⟩
            go_wp2_with (fail)
            refine HC3.out.mono ?_
            rintro e9 w9 ⟨rfl, rfl⟩
            go_wp2_with (fail)
            exact ⟨⟨k + 1, g, by omega, by go_num, rfl, Hgn, Hb7.out⟩, by simp [RowKit.intOf]; omega⟩
           ·have Hgn : Hid (GdK BB ns false r i (k + 1)) := Lib.hid (gd_bad (by omega) hkns (by rw [HbB.out]; rfl))
            go_wp2_with (fail)
            refine HC1.out.mono ?_
            rintro e9 w9 ⟨rfl, rfl⟩
            go_wp2_with (fail)
            refine HC3.out.mono ?_
            rintro e9 w9 ⟨rfl, rfl⟩
            go_wp2_with (fail)
            exact ⟨⟨k + 1, false, by omega, by go_num, rfl, Hgn, Hb7.out⟩, by simp [RowKit.intOf]; omega⟩
         ·cases N2
          ·cases B2
           ·have Hgn : Hid (GdK BB ns g r i (k + 1)) := Lib.hid (gd_good Hgd.out (by rw [HbB.out]; rfl))
            go_wp2_with (fail)
            refine HC1.out.mono ?_
            rintro e9 w9 ⟨rfl, rfl⟩
            go_wp2_with (fail)
            refine HC2.out.mono ?_
            rintro e9 w9 ⟨rfl, rfl⟩
            go_wp2_with (fail)
            exact ⟨⟨k + 1, g, by omega, by go_num, rfl, Hgn, Hb7.out⟩, by simp [RowKit.intOf]; omega⟩
           ·have Hgn : Hid (GdK BB ns false r i (k + 1)) := Lib.hid (gd_bad (by omega) hkns (by rw [HbB.out]; rfl))
            go_wp2_with (fail)
            refine HC1.out.mono ?_
            rintro e9 w9 ⟨rfl, rfl⟩
            go_wp2_with (fail)
            refine HC2.out.mono ?_
            rintro e9 w9 ⟨rfl, rfl⟩
            go_wp2_with (fail)
            exact ⟨⟨k + 1, false, by omega, by go_num, rfl, Hgn, Hb7.out⟩, by simp [RowKit.intOf]; omega⟩
          ·have Hgn : Hid (GdK BB ns false r i (k + 1)) := Lib.hid (gd_bad (by omega) hkns (by rw [HbB.out]; rfl))
           go_wp2_with (fail)
           refine HC1.out.mono ?_
           rintro e9 w9 ⟨rfl, rfl⟩
           go_wp2_with (fail)
           exact ⟨⟨k + 1, false, by omega, by go_num, rfl, Hgn, Hb7.out⟩, by simp [RowKit.intOf]; omega⟩
        ·have Hgn : Hid (GdK BB ns false r i (k + 1)) := Lib.hid (gd_bad (by omega) hkns (by rw [HbB.out]; rfl))
         go_wp2_with (fail)
         refine HC1.out.mono ?_
         rintro e9 w9 ⟨rfl, rfl⟩
         go_wp2_with (fail)
         exact ⟨⟨k + 1, false, by omega, by go_num, rfl, Hgn, Hb7.out⟩, by simp [RowKit.intOf]; omega⟩
      ·have hke : k = M := by omega
       have hkI : ¬ (k : Int) < (M : Int) := by omega
       have Hgs : Hid (GdK BB ns g r (i + 1) 0) := Lib.hid (gd_row (by rw [HnM.out, ← hke]; exact Hgd.out))
       clear hke
       go_wp2_with (fail)
       exact ⟨⟨i + 1, g, by omega, by go_num, rfl, Hgs, hbk⟩, by simp [RowKit.intOf]; omega⟩
    ·have hie : i = M := by omega
     have hiI : ¬ (i : Int) < (M : Int) := by omega
     have Hgs : Hid (GdK BB ns g (r + 1) 0 0) := Lib.hid (gd_rule (by rw [HnM.out, ← hie]; exact Hgd.out))
     clear hie
     go_wp2_with (fail)
     exact ⟨⟨r + 1, g, by omega, by go_num, rfl, Hgs, hbi⟩, by simp [RowKit.intOf]; omega⟩
  ·have hre : r = L := by omega
   have hrI : ¬ (r : Int) < (L : Int) := by omega
   have Hg9 := Lib.hid (Hge.out g (by rw [← hre]; exact Hgd.out))
   have Hbu := Lib.hid (Hb4.out.trans (hbr.mono Hb4.out.size))
   clear hre Hgd
   go_wp2_with (fail)
   refine (Hsb2.out U Hbu.out).mono ?_
   rintro e w5 hB5
   by_cases hc : CL = []
   ·have hg : g = true := Hg9.out.2 hc
    subst hg
    rcases hB5 with ⟨h1, _⟩ | ⟨_, g2, rs, rfl, _, _, hb⟩
    ·exact absurd hc (by rw [← hCL.out]; exact h1)
    have HA5 := Lib.hid (HAu.out.below hb HAu.out.lt)
    have Hb5 := Lib.hid (Hbu.out.trans (hb.mono Hbu.out.size))
    clear x0 x1 x2 xl hb
    have x0 := HA5.out.cell 0
    have x1 := HA5.out.cell 1
    have x2 := HA5.out.cell 2
    have xl := HA5.out.lt
    simp only [List.getElem?_cons_zero, List.getElem?_cons_succ] at x0 x1 x2
    go_wp2_with (fail)
    refine (Hsc2.out w5 Hb5.out).mono ?_
    rintro e w6 ⟨ca, cc, rfl, hco, hb⟩
    have hcm := OwnCl.le hco
    have Hb6 := Lib.hid (Hb5.out.trans (hb.mono Hb5.out.size))
    clear x0 x1 x2 xl hb hco
    rw [hc] at hcm ⊢
    rw [List.length_nil] at hcm ⊢
    go_wp2_with (fail)
    exact bodyPost_ret (v := .bool true) (by simp [results, Try.results7, go_sem]; try first | rfl | assumption | omega) rfl ⟨rfl, Hb6.out⟩
   ·have hg : g = false := by
     cases e : g
     ·rfl
     ·exact absurd (Hg9.out.1 e) hc
    subst hg
    rcases hB5 with ⟨_, rfl, hb⟩ | ⟨h1, _⟩
    rotate_left
    ·exact absurd (by rw [← hCL.out]; exact h1) hc
    have HA5 := Lib.hid (HAu.out.below hb HAu.out.lt)
    have Hb5 := Lib.hid (Hbu.out.trans (hb.mono Hbu.out.size))
    clear x0 x1 x2 xl hb
    have x0 := HA5.out.cell 0
    have x1 := HA5.out.cell 1
    have x2 := HA5.out.cell 2
    have xl := HA5.out.lt
    simp only [List.getElem?_cons_zero, List.getElem?_cons_succ] at x0 x1 x2
    go_wp2_with (fail)
    refine (Hsc2.out w5 Hb5.out).mono ?_
    rintro e w6 ⟨ca, cc, rfl, hco, hb⟩
    have hcm := OwnCl.le hco
    have Hb6 := Lib.hid (Hb5.out.trans (hb.mono Hb5.out.size))
    clear x0 x1 x2 xl hb hco
    obtain ⟨cn, hcn⟩ : ∃ q, Hid (CL.length = q) := ⟨_, Lib.hid rfl⟩
    rw [hcn.out] at hcm ⊢
    have hc0 : ¬ (cn : Int) = 0 := fun e => hc (List.length_eq_zero_iff.1 (by rw [hcn.out]; omega))
    have hc1 : ((cn : Int) == 0) = false := by simp; omega
    go_wp2_with (fail)
    exact bodyPost_ret (v := .bool true) (by simp [results, Try.results7, go_sem]; try first | rfl | assumption | omega) rfl ⟨rfl, Hb6.out⟩
end Go.Proofs.Ytldmgifphkpdlaa
namespace Go.Proofs.Ytldmgifphkpdlaa
open Go.ChangeShapes Go.WideShapes Go.ChangeAt Go.RowKit
attribute [local go_sem] Oper.semAt_some
/-- What an int may be. -/
def Bd (x : Int) : Prop := -9223372036854775808 ≤ x ∧ x ≤ 9223372036854775807
theorem wf_bd {n : Int} (h : (Go.Lit.int .i64 n).wf = true) : Bd n := by
 unfold Bd
 simp [Go.Lit.wf, IntKind.min, IntKind.max, IntKind.signed, IntKind.bits] at h
 omega
theorem int_cells8 : Try.prog.cellsOf 3 = 1 := by kernel_rfl
theorem ints_cells8 : Try.prog.cellsOf 35 = 1 := by kernel_rfl
theorem intss_cells8 : Try.prog.cellsOf 32 = 1 := by kernel_rfl
theorem intsss_cells8 : Try.prog.cellsOf 23 = 1 := by kernel_rfl
theorem cfg_cells8 : Try.prog.cellsOf 25 = 3 := by kernel_rfl
def szIl (ds : List IltD) : Nat := (ds.map (fun d => d.l.length)).sum
theorem szIl_is (r : IrD) : r.ds.length + szIl r.ds = szJ r.p := by
 unfold szJ szIl IrD.p
 rw [List.length_map, List.map_map]
 rfl
set_option maxRecDepth 100000 in
theorem open_intl2 {H : Type} {enc : TypeId × Value → H} {W : World} {base : Nat} {sp : Nat → Bool} {hd : Bool} (fuel : Nat) (cs : List Value) (x : DataW H × List MemPlace) (h : DataW.trod enc Try.prog W base sp hd fuel 35 cs = some x) :
 ∃ d : IltD, cs = [.slice d.a d.l.length d.c] ∧ Ints W d.a d.c d.l ∧ (∀ n ∈ d.l, Bd n) ∧ d.l.length + 1 ≤ Rows.uptoBulk x.1 := by
 rcases DataW.trod_slice Try.underlying35 h with ⟨e3, _⟩ | ⟨a, len, cap, elems, rest, n', hn, e3, x3, hb, hle, hm, hel, hcell, _, _⟩
 ·exact ⟨⟨[], none, 0⟩, by rw [e3]; rfl, Vs.nil W, fun n h => (by cases h), by simpa using bulk_pos x.1⟩
 ·have hmax : maxLen ≤ 9223372036854775807 := by decide
  have hbk : len + 1 ≤ Rows.uptoBulk x.1 := by
   rw [x3]
   simp only [Rows.uptoBulk]
   have h1 := bulkAll_sum (elems.map (·.1))
   have h2 := sum_le8 (fun _ => 1) Rows.uptoBulk (elems.map (·.1)) (elems.map (·.1)) rfl (fun i h1 h2 => bulk_pos _)
   rw [sum_ones, List.length_map, hel] at h2
   omega
  have each : ∀ i, i < len → ∃ s : Int, W.cell? ((a.add (i * 1)).add 0) = some (.int .i64 s) ∧ Bd s := by
   intro i hi
   have hc := hcell i hi
   rw [List.getElem?_eq_getElem (by omega), int_cells8, Option.bind_eq_some_iff] at hc
   obtain ⟨cs', hcs, ht⟩ := hc
   obtain ⟨s, e0, _, ws0⟩ := DataW.trod_int Try.underlying3 ht
   have ws := wf_bd ws0
   subst e0
   exact ⟨s, (World.cells?_some hcs).2.2 0 (by omega), ws⟩
  by_cases h0 : len = 0
  ·subst h0
   exact ⟨⟨[], some a, cap⟩, by rw [e3]; rfl, ⟨by simp, (show cap ≤ 9223372036854775807 by omega), fun e => (by cases e), fun i h => by simp at h, fun b off e i h => by simp at h⟩, fun n h => (by cases h), by simpa using bulk_pos x.1⟩
  ·obtain ⟨b, off, spot⟩ := a
   have hspot : spot = none := by
    obtain ⟨s, hc, _⟩ := each 0 (by omega)
    simpa [Addr.add] using World.cell?_spot hc
   subst hspot
   have each2 : ∀ i, i < len → ∃ s : Int, W.cell? ⟨b, off + i, none⟩ = some (.int .i64 s) ∧ Bd s := by
    intro i hi
    obtain ⟨s, hc, hz⟩ := each i hi
    rw [add_plain, add_plain, Nat.mul_one, Nat.add_zero] at hc
    exact ⟨s, hc, hz⟩
   obtain ⟨l, hl1, hl2⟩ := row_of len each2
   refine ⟨⟨l, some ⟨b, off, none⟩, cap⟩, by rw [e3, hl1], ⟨by rw [List.length_map]; exact (show l.length ≤ cap by omega), (show cap ≤ 9223372036854775807 by omega), fun e => (by cases e), fun i _ => ⟨b, off, rfl⟩, fun b' off' e i hi => ?_⟩, fun n hn => ?_, by show l.length + 1 ≤ _; omega⟩
   ·cases e
    rw [List.getElem_map]
    exact (hl2 i (by rwa [List.length_map] at hi)).1
   ·obtain ⟨i, hi, rfl⟩ := List.getElem_of_mem hn
    exact (hl2 i hi).2
set_option maxRecDepth 100000 in
theorem open_intll2 {H : Type} {enc : TypeId × Value → H} {W : World} {base : Nat} {sp : Nat → Bool} {hd : Bool} (fuel : Nat) (cs : List Value) (x : DataW H × List MemPlace) (h : DataW.trod enc Try.prog W base sp hd fuel 32 cs = some x) :
 ∃ (ds : List IltD) (a : Option Addr) (c : Nat), cs = [.slice a ds.length c] ∧ AltsI W a c ds ∧ (∀ d ∈ ds, ∀ n ∈ d.l, Bd n) ∧ ds.length + szIl ds + 1 ≤ Rows.uptoBulk x.1 := by
 rcases DataW.trod_slice Try.underlying32 h with ⟨e3, _⟩ | ⟨a, len, cap, elems, rest, n', hn, e3, x3, hb, hle, hm, hel, hcell, _, _⟩
 ·exact ⟨[], none, 0, by rw [e3]; rfl, ⟨Vs.nil W, fun d h => by cases h⟩, fun d h => (by cases h), by simpa [szIl] using bulk_pos x.1⟩
 ·have hmax : maxLen ≤ 9223372036854775807 := by decide
  have each : ∀ i (hi : i < len), ∃ d : IltD, W.cell? ((a.add (i * 1)).add 0) = some d.v ∧ Ints W d.a d.c d.l ∧ (∀ n ∈ d.l, Bd n) ∧ d.l.length + 1 ≤ Rows.uptoBulk (elems[i]'(by omega)).1 := by
   intro i hi
   have hc := hcell i hi
   rw [List.getElem?_eq_getElem (by omega), ints_cells8, Option.bind_eq_some_iff] at hc
   obtain ⟨cs', hcs, ht⟩ := hc
   obtain ⟨d, rfl, hN, hz, hk⟩ := open_intl2 n' cs' _ ht
   exact ⟨d, (World.cells?_some hcs).2.2 0 (by omega), hN, hz, hk⟩
  by_cases h0 : len = 0
  ·subst h0
   exact ⟨[], some a, cap, by rw [e3]; rfl, ⟨⟨by simp, by omega, fun e => (by cases e), fun i h => by simp at h, fun b off e i h => by simp at h⟩, fun d hd => by cases hd⟩, fun d h => (by cases h), by simpa [szIl] using bulk_pos x.1⟩
  ·obtain ⟨b, off, spot⟩ := a
   have hspot : spot = none := by
    obtain ⟨s, hc, _⟩ := each 0 (by omega)
    simpa [Addr.add] using World.cell?_spot hc
   subst hspot
   obtain ⟨l, hl1, hl2, hl3⟩ := row_of2 (P := fun i (d : IltD) => W.cell? ⟨b, off + i, none⟩ = some d.v ∧ Ints W d.a d.c d.l ∧ ∀ n ∈ d.l, Bd n) (f := fun d : IltD => d.l.length + 1) (g := Rows.uptoBulk) (elems.map (·.1)) len (by rw [List.length_map, hel]) (fun i hi => by
    obtain ⟨d, hc, hN, hz, hk⟩ := each i (by rw [List.length_map] at hi; omega)
    rw [add_plain, add_plain, Nat.mul_one, Nat.add_zero] at hc
    exact ⟨d, ⟨hc, hN, hz⟩, by rw [List.getElem_map]; exact hk⟩)
   refine ⟨l, some ⟨b, off, none⟩, cap, by rw [e3, hl1], ⟨⟨by rw [List.length_map]; omega, by omega, fun e => (by cases e), fun i _ => ⟨b, off, rfl⟩, fun b' off' e i hi => ?_⟩, fun d hd => ?_⟩, fun d hd => ?_, ?_⟩
   ·cases e
    rw [List.getElem_map]
    exact (hl2 i (by rwa [List.length_map] at hi)).1
   ·obtain ⟨i, hi, rfl⟩ := List.getElem_of_mem hd
    exact (hl2 i hi).2.1
   ·obtain ⟨i, hi, rfl⟩ := List.getElem_of_mem hd
    exact (hl2 i hi).2.2
   ·rw [x3]
    simp only [Rows.uptoBulk]
    rw [bulkAll_sum (elems.map (·.1))]
    have h4 : (l.map (fun d : IltD => d.l.length + 1)).sum = l.length + szIl l := by
     clear hl1 hl2 hl3
     induction l with
     | nil => simp [szIl]
     | cons d l ih =>
      have e : szIl (d :: l) = d.l.length + szIl l := by simp [szIl]
      rw [List.map_cons, List.sum_cons, ih, e, List.length_cons]
      omega
    omega
set_option maxRecDepth 100000 in
theorem open_intlll2 {H : Type} {enc : TypeId × Value → H} {W : World} {base : Nat} {sp : Nat → Bool} {hd : Bool} (fuel : Nat) (cs : List Value) (x : DataW H × List MemPlace) (h : DataW.trod enc Try.prog W base sp hd fuel 23 cs = some x) :
 ∃ (al : List IrD) (a : Option Addr) (c : Nat), cs = [.slice a al.length c] ∧ Vs W a c (al.map IrD.v) ∧ (∀ r ∈ al, AltsI W r.a r.c r.ds) ∧ (∀ r ∈ al, ∀ d ∈ r.ds, ∀ n ∈ d.l, Bd n) ∧ al.length + szC (al.map IrD.p) + 1 ≤ Rows.uptoBulk x.1 := by
 rcases DataW.trod_slice Try.underlying23 h with ⟨e3, _⟩ | ⟨a, len, cap, elems, rest, n', hn, e3, x3, hb, hle, hm, hel, hcell, _, _⟩
 ·exact ⟨[], none, 0, by rw [e3]; rfl, Vs.nil W, fun d h => (by cases h), fun d h => (by cases h), by simpa [szC] using bulk_pos x.1⟩
 ·have hmax : maxLen ≤ 9223372036854775807 := by decide
  have each : ∀ i (hi : i < len), ∃ r : IrD, W.cell? ((a.add (i * 1)).add 0) = some r.v ∧ AltsI W r.a r.c r.ds ∧ (∀ d ∈ r.ds, ∀ n ∈ d.l, Bd n) ∧ szJ r.p + 1 ≤ Rows.uptoBulk (elems[i]'(by omega)).1 := by
   intro i hi
   have hc := hcell i hi
   rw [List.getElem?_eq_getElem (by omega), intss_cells8, Option.bind_eq_some_iff] at hc
   obtain ⟨cs', hcs, ht⟩ := hc
   obtain ⟨ds, ra, rc, rfl, hN, hz, hk⟩ := open_intll2 n' cs' _ ht
   have hk2 := szIl_is ⟨ds, ra, rc⟩
   dsimp only at hk2
   exact ⟨⟨ds, ra, rc⟩, (World.cells?_some hcs).2.2 0 (by omega), hN, hz, by omega⟩
  by_cases h0 : len = 0
  ·subst h0
   exact ⟨[], some a, cap, by rw [e3]; rfl, ⟨by simp, by omega, fun e => (by cases e), fun i h => by simp at h, fun b off e i h => by simp at h⟩, fun d h => (by cases h), fun d h => (by cases h), by simpa [szC] using bulk_pos x.1⟩
  ·obtain ⟨b, off, spot⟩ := a
   have hspot : spot = none := by
    obtain ⟨s, hc, _⟩ := each 0 (by omega)
    simpa [Addr.add] using World.cell?_spot hc
   subst hspot
   obtain ⟨l, hl1, hl2, hl3⟩ := row_of2 (P := fun i (r : IrD) => W.cell? ⟨b, off + i, none⟩ = some r.v ∧ AltsI W r.a r.c r.ds ∧ ∀ d ∈ r.ds, ∀ n ∈ d.l, Bd n) (f := fun r : IrD => szJ r.p + 1) (g := Rows.uptoBulk) (elems.map (·.1)) len (by rw [List.length_map, hel]) (fun i hi => by
    obtain ⟨d, hc, hN, hz, hk⟩ := each i (by rw [List.length_map] at hi; omega)
    rw [add_plain, add_plain, Nat.mul_one, Nat.add_zero] at hc
    exact ⟨d, ⟨hc, hN, hz⟩, by rw [List.getElem_map]; exact hk⟩)
   refine ⟨l, some ⟨b, off, none⟩, cap, by rw [e3, hl1], ⟨by rw [List.length_map]; omega, by omega, fun e => (by cases e), fun i _ => ⟨b, off, rfl⟩, fun b' off' e i hi => ?_⟩, fun d hd => ?_, fun d hd => ?_, ?_⟩
   ·cases e
    rw [List.getElem_map]
    exact (hl2 i (by rwa [List.length_map] at hi)).1
   ·obtain ⟨i, hi, rfl⟩ := List.getElem_of_mem hd
    exact (hl2 i hi).2.1
   ·obtain ⟨i, hi, rfl⟩ := List.getElem_of_mem hd
    exact (hl2 i hi).2.2
   ·rw [x3]
    simp only [Rows.uptoBulk]
    rw [bulkAll_sum (elems.map (·.1))]
    have h4 : (l.map (fun r : IrD => szJ r.p + 1)).sum = l.length + szC (l.map IrD.p) := by
     clear hl1 hl2 hl3
     induction l with
     | nil => simp [szC]
     | cons d l ih =>
      have e : szC ((d :: l).map IrD.p) = szJ d.p + szC (l.map IrD.p) := by simp [szC, szJ]
      rw [List.map_cons, List.sum_cons, ih, e, List.length_cons]
      omega
    omega
set_option maxRecDepth 100000 in
theorem open_cfg2 {H : Type} {enc : TypeId × Value → H} {W : World} {v : Value} {d : DataW H} {ps : List MemPlace} (hok : Value.okWide Try.prog W .any 0 25 v) (h : DataW.Trod enc Try.prog W 0 (fun _ => true) true 25 v d ps) :
 ∃ c : CfD, v = c.v ∧ CfAt W c ∧ (∀ t ∈ c.toks, t.size ≤ maxLen) ∧ (∀ t ∈ c.names, t.size ≤ maxLen) ∧ (∀ r ∈ c.alts, ∀ a ∈ r.ds, ∀ x ∈ a.l, Bd x) ∧ c.toks.length + c.names.length + szC (c.alts.map IrD.p) ≤ Rows.uptoBulk d := by
 obtain ⟨cs, rfl, _⟩ := okWide_struct Try.underlying25 hok
 obtain ⟨fuel, hf⟩ := h
 obtain ⟨xs, n, rfl, e9, hl, hlen, hf⟩ := DataW.trod_struct Try.underlying25 hf
 rw [cfg_cells8] at hl
 obtain ⟨v0, v1, v2, hv⟩ : ∃ v0 v1 v2, cs.toList = [v0, v1, v2] := by
  match hc : cs.toList, (show cs.toList.length = 3 from hl) with
  | [v0, v1, v2], _ => exact ⟨v0, v1, v2, rfl⟩
 obtain ⟨y0, y1, y2, rfl⟩ : ∃ y0 y1 y2, xs = [y0, y1, y2] := by
  match xs, hlen with
  | [y0, y1, y2], _ => exact ⟨y0, y1, y2, rfl⟩
 have h0 := hf 0 _ rfl
 have h1 := hf 1 _ rfl
 have h2 := hf 2 _ rfl
 rw [show (Value.agg cs).cells.toList = [v0, v1, v2] from hv] at h0 h1 h2
 simp only [strs_cells, intsss_cells8, List.drop_zero, List.drop_succ_cons, List.take_succ_cons, List.take_zero, List.getElem?_cons_zero, List.getElem?_cons_succ] at h0 h1 h2
 obtain ⟨dt, e0, hT, zT, kT⟩ := open_strl2 _ _ _ h0
 injection e0 with e0 _
 subst e0
 obtain ⟨dn, e1, hN, zN, kN⟩ := open_strl2 _ _ _ h1
 injection e1 with e1 _
 subst e1
 obtain ⟨al, aa, ac, e2, hR, hI, hB, hk⟩ := open_intlll2 _ _ _ h2
 injection e2 with e2 _
 subst e2
 have e9 := (Prod.mk.inj e9).1
 refine ⟨⟨dt.l, dt.a, dt.c, dn.l, dn.a, dn.c, al, aa, ac⟩, ?_, ⟨hT, hN, hR, hI⟩, zT, zN, hB, ?_⟩
 ·cases cs
  simp only at hv
  rw [hv]
 ·rw [e9]
  simp only [List.map_cons, List.map_nil, Rows.uptoBulk, Rows.uptoBulkAll]
  omega
end Go.Proofs.Ytldmgifphkpdlaa
namespace Go.Proofs.Ytldmgifphkpdlaa
open Go.ChangeShapes Go.WideShapes Go.ChangeAt Go.RowKit
set_option maxRecDepth 100000 in
theorem tableTextbook_contract (H : Type) (enc : TypeId × Value → H) (W : World) (args : Array Value) (ds gs : List (DataW H)) (before : List MemPlace)
 (hval : ∀ (j : Nat) t v, Try.f7.params[j]? = some t → args[j]? = some v → Value.okWide Try.prog W .any 0 t v)
 (hW : DataW.Whole enc Try.prog Try.f7.params.toList Rows.tableTextbookSpec.vars false W args.toList ds gs before) (hk : Rows.uptoSmall H (ds ++ gs) = true) :
 Calls Try.prog 7 args W fun e W' => ∃ v, e = .returned v ∧ Rows.tableTextbookSpec.post enc Try.prog Try.f7 false true false false W args v W' := by
 have hW' := hW
 obtain ⟨p, q, hA0, hV, rfl, hfz, hnd⟩ := hW
 have hA : DataW.TrodAll enc Try.prog W 0 (fun _ => true) true Try.f7.params.toList args.toList ds p := hA0
 rw [Try.params7] at hA hval
 obtain ⟨v0, d0, rfl, rfl, h0⟩ := trodAll_one hA
 have hb : Rows.uptoBulkAll ([d0] ++ gs) ≤ 1048576 := of_decide_eq_true hk
 simp only [List.cons_append, List.nil_append, Rows.uptoBulkAll] at hb
 obtain ⟨c, rfl, hc, z1, z2, z3, hz⟩ := open_cfg2 (hval 0 25 v0 rfl rfl) h0
 refine (lawTextbook_any c W hc z1 z2 z3 (by omega)).mono fun e W' ⟨he, hw⟩ => ?_
 subst he
 exact ⟨_, rfl, law_post hW' rfl rfl (by kernel_rfl) (by rw [Try.params7]; intro t ht; simp at ht; subst ht; exact ⟨by kernel_rfl, of_decide_eq_true (by kernel_rfl)⟩) hw⟩
set_option maxRecDepth 100000 in
theorem tableTextbook_lifted (os : Os) (started : os.Started) (H : Type) (enc : TypeId × Value → H) (F : Stop.Interp) :
 ReturnsInHanded {} Try.checked os 7 .any ((Rows.OpenSpec.upto Rows.tableTextbookSpec).pre6 enc Try.prog Try.f7 Rows.tableTextbookUptoRow.domain false) (((Rows.OpenSpec.upto Rows.tableTextbookSpec).at F).post enc Try.prog Try.f7 false true false false) := by
 refine returnsInHanded_of_cond (C := Try.checked) (s := Rows.OpenSpec.upto Rows.tableTextbookSpec) (k := Rows.uptoSmall) rfl Try.own started (by kernel_rfl) Try.func7
  (OpenSpec.witness (enc := enc) (C := Try.checked) (s := Rows.OpenSpec.upto Rows.tableTextbookSpec) (k := Rows.uptoSmall) rfl false ⟨#[], #[.agg #[.slice none 0 0, .slice none 0 0, .slice none 0 0]], []⟩ 8 (by kernel_rfl) (by kernel_rfl) (by kernel_rfl)
   (x := ([.agg [.nil, .nil, .nil]], [], [])) (by kernel_rfl) rfl (by kernel_rfl)) ?_
 intro W base args ds gs before hval hW _ hk _
 exact tableTextbook_contract H enc W args ds gs before hval hW hk
theorem tableTextbook_holds : Rows.TableTextbookUptoSaid :=
 OpenClaim.holds_of_cond 7 Try.f7 rfl rfl rfl rfl rfl rfl rfl ⟨rfl, rfl, rfl, rfl, rfl⟩ rfl rfl rfl rfl rfl (by kernel_rfl) Try.func7 (by kernel_rfl)
  (of_decide_eq_true (by kernel_rfl)) (by unfold Func.isWrapper; first | (rw [if_pos (by decide +kernel)]; kernel_rfl) | (rw [if_neg (by decide +kernel)]; exact ⟨rfl, rfl⟩))
  (fun os started H enc _ F => tableTextbook_lifted os started H enc F)
end Go.Proofs.Ytldmgifphkpdlaa
