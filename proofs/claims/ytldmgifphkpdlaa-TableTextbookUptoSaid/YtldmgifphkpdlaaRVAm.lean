/- Texts joined: Jf Jg Jj Jk Jh. -/
import Derived.Test.YtldmgifphkpdlaaRVAj
import Derived.Test.YtldmgifphkpdlaaRVAl
import Derived.Test.YtldmgifphkpdlaaRVAe
import Derived.Test.YtldmgifphkpdlaaRVAd
import Derived.Shelf.SlIterI.Sorted
import Derived.Test.YtldmgifphkpdlaaProg
set_option linter.unusedVariables false
set_option linter.unusedSimpArgs false
namespace Go.Proofs.Ytldmgifphkpdlaa
open Go.RowKit Go.Maps
attribute [local go_sem] Oper.semAt_some
/-- The ways of a rule, as they lie. -/
def waD (r : Nat) (e : IrD) : List (WyD Int) := e.ds.map (fun x => ⟨-1 - (r : Int), x.l, x.a, x.c⟩)
def wyD (xa : List IrD) (k : Nat) : List (WyD Int) := (List.range k).flatMap (fun r => match xa[r]? with | some e => waD r e | none => [])
theorem wyD_snoc (xa : List IrD) (k : Nat) (h : k < xa.length) : wyD xa (k + 1) = wyD xa k ++ waD k xa[k] := by
 unfold wyD
 rw [List.range_succ, List.flatMap_append, List.flatMap_singleton, List.getElem?_eq_getElem h]
theorem wyD_is (xa : List IrD) : (wyD xa xa.length).map WyD.p = nulW (xa.map IrD.p) (xa.map IrD.p).length := by
 unfold wyD nulW
 rw [List.map_flatMap, List.length_map]
 rw [List.flatMap_def, List.flatMap_def]
 congr 1
 refine List.map_congr_left (fun r hr => ?_)
 rw [List.mem_range] at hr
 rw [List.getElem?_eq_getElem hr]
 unfold wyR waD
 rw [List.getD_eq_getElem?_getD, List.getElem?_map, List.getElem?_eq_getElem hr]
 simp only [Option.map_some, Option.getD_some, IrD.p, List.map_map]
 rfl
theorem wyD_len (xa : List IrD) (h : ∀ r ∈ xa, r.ds.length ≤ 30) : ∀ k, k ≤ xa.length → (wyD xa k).length ≤ k * 30
 | 0, _ => Nat.le_refl _
 | k + 1, hk => by
  rw [wyD_snoc xa k (by omega), List.length_append]
  have h1 := wyD_len xa h k (by omega)
  have h2 := h _ (List.getElem_mem (show k < xa.length by omega))
  unfold waD
  rw [List.length_map]
  omega
theorem wyD_mem {xa : List IrD} {k : Nat} {y : WyD Int} (h : y ∈ wyD xa k) : ∃ r e, r < k ∧ xa[r]? = some e ∧ ∃ x ∈ e.ds, y = ⟨-1 - (r : Int), x.l, x.a, x.c⟩ := by
 unfold wyD at h
 obtain ⟨r, hr, h⟩ := List.mem_flatMap.1 h
 rw [List.mem_range] at hr
 cases e : xa[r]? with
 | none => rw [e] at h; cases h
 | some q =>
  rw [e] at h
  obtain ⟨x, hx, rfl⟩ := List.mem_map.1 h
  exact ⟨r, q, hr, e, x, hx, rfl⟩
theorem wf9 {x : Int} (h : -1000000 ≤ x ∧ x ≤ 1000000) : (Go.Lit.int .i64 x).wf = true := WalkArith.wf_i64 (by omega)
theorem wyD_ok {w : World} {d : CfD} (hd : CfAt w d) (hf : FitC d) (k : Nat) (hk : k ≤ d.alts.length) : ∀ y ∈ wyD d.alts k, NdOkZ w y := by
 intro y hy
 obtain ⟨r, e, hr, he, x, hx, rfl⟩ := wyD_mem hy
 have hm : e ∈ d.alts := List.mem_of_getElem? he
 have h2 := hf.l e hm x hx
 refine ⟨(hd.rules e hm).nms x hx, wf9 (by have := hf.r; dsimp only; omega), fun z hz => wf9 ?_⟩
 have := h2.2 z hz
 have := hf.r
 have := hf.t
 omega
theorem info_elB : (Try.prog.info? 4).map (fun i => (i.zero, i.size, i.bytes)) = some (some (.bool false), 1, 1) := by kernel_rfl
/-- An own row of truths. -/
abbrev OwnBl (W : World) (base : Nat) (a : Option Addr) (n c : Nat) (V : Nat → Bool) : Prop := W.ownsRow base 4 1 (.slice a n c) n ((List.range n).map (fun r => Value.bool (V r)))
theorem OwnBl.bls {W : World} {base n c : Nat} {a : Option Addr} {V : Nat → Bool} (h : OwnBl W base a n c V) : BlsF W a c n V := own_vals h (by simp)
/-- What nullable answers. -/
def NulQ (w : World) (n : Nat) (V : Nat → Bool) (e : Ending) (W' : World) : Prop := ∃ a c, e = .returned (.slice a n c) ∧ OwnBl W' w.heap.size a n c V ∧ Below w.heap.size w W'
set_option maxRecDepth 100000 in
set_option maxHeartbeats 16000000 in
theorem nullable_any (d : CfD) (w : World) (hd : CfAt w d) (hf : FitC d) :
 Calls Try.prog 52 #[d.v] w (NulQ w d.alts.length (nulB (d.alts.map IrD.p))) := by
 have hok := wyD_ok hd hf d.alts.length (Nat.le_refl _)
 have hlen := wyD_len d.alts hf.a
 have his := wyD_is d.alts
 have hpl : (d.alts.map IrD.p).length = d.alts.length := List.length_map _
 obtain ⟨xt, xta, xtc, xn, xna, xnc, xa, xaa, xac⟩ := d
 obtain ⟨hx1, hx2, hx3, hx4⟩ := hd
 obtain ⟨hf1, hf2, hf3, hf4, hf5⟩ := hf
 dsimp only [CfD.v] at *
 obtain ⟨Q, hQ⟩ : ∃ Q, Hid (NulQ w xa.length (nulB (xa.map IrD.p)) = Q) := ⟨_, Lib.hid rfl⟩
 rw [hQ.out]
 have hb1 : Below w.heap.size w (w.alloc (.cells #[.slice xta xt.length xtc, .slice xna xn.length xnc, .slice xaa xa.length xac] 25)) := (Below.refl _ w).alloc (Nat.le_refl _) _
 have hA := Blk.new w 25 #[.slice xta xt.length xtc, .slice xna xn.length xnc, .slice xaa xa.length xac]
 have hxm : xa.length ≤ xac ∧ xac ≤ 9223372036854775807 := ⟨by have := hx3.le; rwa [List.length_map] at this, hx3.max⟩
 have Hmade := Lib.hid (fun (W : World) (b0 : Nat) (a : Option Addr) (c : Nat) (h : OwnYZ W b0 a c (wyD xa xa.length)) (hb : Below w.heap.size w W) => made_anyZ w W b0 (wyD xa xa.length) a c h hok hb (by have := hlen xa.length (Nat.le_refl _); omega))
 have Hmk : Hid (∀ r : Nat, Mk ((wyD xa xa.length).map WyD.p) (-1 - (r : Int)) ↔ nulB (xa.map IrD.p) r = true) := Lib.hid (fun r => by rw [his, nulB_iff]; exact Iff.rfl)
 have Hkey : Hid (∀ x, Mk ((wyD xa xa.length).map WyD.p) x → ∃ r, r < xa.length ∧ x = -1 - (r : Int)) := Lib.hid (fun x h => by rw [his] at h; have := mk_neg h; rwa [hpl] at this)
 obtain ⟨R, hR⟩ : ∃ R : Nat → List (WyD Int), Hid (wyD xa = R) := ⟨_, Lib.hid rfl⟩
 have hR0 : Hid (R 0 = []) := Lib.hid (by rw [← hR.out]; rfl)
 have hRs : Hid (∀ k (hk : k < xa.length), R (k + 1) = R k ++ waD k xa[k]) := Lib.hid (fun k hk => by rw [← hR.out]; exact wyD_snoc xa k hk)
 have hRl : Hid (∀ k, k ≤ xa.length → (R k).length ≤ 1800) := Lib.hid (fun k hk => by rw [← hR.out]; have := hlen k hk; omega)
 rw [hR.out] at Hmade Hmk Hkey
 have HX3 := Lib.hid hx3
 have HX4 := Lib.hid hx4
 have HF4 := Lib.hid hf4
 have hNB : Hid (∀ r : Nat, xa.length ≤ r → nulB (xa.map IrD.p) r = false) := Lib.hid (fun r h => by
  cases e : nulB (xa.map IrD.p) r
  ·rfl
  ·have := nulB_lt e
   rw [hpl] at this
   omega)
 obtain ⟨NB, hNB2⟩ : ∃ q, Hid (nulB (xa.map IrD.p) = q) := ⟨_, Lib.hid rfl⟩
 rw [hNB2.out] at Hmk hQ hNB
 obtain ⟨T, HT⟩ : ∃ q, Hid (xt.length = q) := ⟨_, Lib.hid rfl⟩
 obtain ⟨N, HN⟩ : ∃ q, Hid (xn.length = q) := ⟨_, Lib.hid rfl⟩
 obtain ⟨L, HL⟩ : ∃ q, Hid (xa.length = q) := ⟨_, Lib.hid rfl⟩
 rw [HT.out, HN.out, HL.out] at hA hb1 ⊢
 rw [HL.out] at hxm hf1 hf2 Hmade Hmk Hkey hRl hQ hNB
 have HQ := Lib.hid hQ.out
 obtain ⟨base, hbase⟩ : ∃ q, Hid (w.heap.size = q) := ⟨_, Lib.hid rfl⟩
 have hbW : base ≤ w.heap.size := by rw [hbase.out]; exact Nat.le_refl _
 have hbW2 : w.heap.size ≤ base := by rw [hbase.out]; exact Nat.le_refl _
 rw [hbase.out] at hA hb1
 have HA := Lib.hid hA
 have x2 := hA.cell 2
 have xl := hA.lt
 simp only [List.getElem?_cons_zero, List.getElem?_cons_succ] at x2
 have hMade' : Hid (∀ (W : World) (b0 : Nat) (a : Option Addr) (c : Nat), OwnYZ W b0 a c (R L) → Below w.heap.size w W → Calls Try.prog 88 #[.slice a (R L).length c] W (MadeQZ W ((R L).map WyD.p))) := Hmade
 obtain ⟨iE, hiE, hzE, hsE, hbE⟩ := info_parts info_elB
 have Hmk2 := Lib.hid (fun (W : World) => run_makeSlice_full (P := Try.prog) (w := W) base 29 4 iE (.bool false) 1 Try.underlying29 hiE hzE hsE .i64 .i64 L (by omega) (by rw [hbE]; omega) (by unfold maxLen; omega))
 clear hA hx1 hx2 hx3 hx4 hf4 hf5 hok hlen his hpl hQ Hmade hiE hzE hsE hbE
 go_enter Try.func52, Try.ntmps52
 go_wp2_with (fail)
 rw [hbase.out]
 generalize hV : World.alloc w _ = V at HA x2 xl hb1 ⊢
 clear hV
 go_loopw [3, 13] (fun wv iv wr => ∃ (k n : Nat) (ya : Option Addr) (yc : Nat), k ≤ L ∧ iv = .int .i64 (k : Int) ∧ wv = .slice ya n yc ∧ Hid (n = (R k).length) ∧ Hid (OwnYZ wr base ya yc (R k)) ∧ Hid (Blk wr base 25 [.slice xta T xtc, .slice xna N xnc, .slice xaa L xac]) ∧ Below base w wr) (fun _ iv _ => L - (RowKit.intOf iv).toNat)
 case atStart => exact ⟨0, 0, none, 0, Nat.zero_le _, rfl, rfl, Lib.hid (by rw [hR0.out]; rfl), Lib.hid (by rw [hR0.out]; exact OwnYZ.nil _ _), HA, hb1⟩
 case round =>
  clear x2 xl hb1 HA
  obtain ⟨k, n, ya, yc, hk, rfl, rfl, hn, HY, HAr, hbr⟩ := hrel
  obtain ⟨U, rfl⟩ : ∃ U, U = wr := ⟨_, rfl⟩
  have hbr2 := hbr
  rw [← hbase.out] at hbr2
  have x2 := HAr.out.cell 2
  have xl := HAr.out.lt
  simp only [List.getElem?_cons_zero, List.getElem?_cons_succ] at x2
  by_cases hlt : k < L
  ·have hkI : (k : Int) < (L : Int) := by omega
   have hkI0 : (0 : Int) ≤ (k : Int) := by omega
   have hkl : k < xa.length := by rw [HL.out]; exact hlt
   have hrow := HX3.out.grown hbr2
   have hst := Lib.hid (hRs.out k hkl)
   obtain ⟨b, bo, hb⟩ := hrow.at_ k (by rw [List.length_map]; exact hkl)
   have cb := hrow.cell b bo hb k (by rw [List.length_map]; exact hkl)
   rw [List.getElem_map] at cb
   have hm : xa[k] ∈ xa := List.getElem_mem hkl
   obtain ⟨e, he⟩ : ∃ v, Hid (xa[k] = v) := ⟨_, Lib.hid rfl⟩
   rw [he.out] at cb hm hst
   have hblb := World.block_lt_of_cell? _ _ cb
   obtain ⟨ed, ea, ec⟩ := e
   change _ = some (Value.slice ea ed.length ec) at cb
   have hal : AltsI w ea ec ed := HX4.out _ hm
   have hdm : ed.length ≤ ec ∧ ec ≤ 9223372036854775807 := ⟨by have := hal.row.le; rwa [List.length_map] at this, hal.row.max⟩
   have hd30 : ed.length ≤ 30 := HF4.out _ hm
   have Hal := Lib.hid hal
   have hRk := hRl.out k (by omega)
   obtain ⟨M, hM⟩ : ∃ q, Hid (ed.length = q) := ⟨_, Lib.hid rfl⟩
   rw [hM.out] at cb hdm hd30
   subst hb
   clear hm hal hrow hbr2
   go_wp2_with (fail)
   clear cb hblb x2 xl
   go_loopw [3, 20] (fun wv jv wv2 => ∃ (j n : Nat) (ya : Option Addr) (yc : Nat), j ≤ M ∧ jv = .int .i64 (j : Int) ∧ wv = .slice ya n yc ∧ Hid (n = (R k ++ (waD k ⟨ed, ea, ec⟩).take j).length) ∧ Hid (OwnYZ wv2 base ya yc (R k ++ (waD k ⟨ed, ea, ec⟩).take j)) ∧ Hid (Blk wv2 base 25 [.slice xta T xtc, .slice xna N xnc, .slice (some ⟨b, bo, none⟩) L xac]) ∧ Below base w wv2) (fun _ jv _ => M - (RowKit.intOf jv).toNat)
   case atStart => exact ⟨0, n, ya, yc, Nat.zero_le _, rfl, rfl, Lib.hid (by rw [hn.out]; simp), Lib.hid (by simpa using HY.out), HAr, hbr⟩
   case round =>
    clear hn HY HAr hbr
    obtain ⟨j, n, ya, yc, hj, rfl, rfl, hn, HY, HAr, hbr⟩ := hrel
    obtain ⟨U2, rfl⟩ : ∃ U, U = wr := ⟨_, rfl⟩
    have hbr2 := hbr
    rw [← hbase.out] at hbr2
    by_cases hltj : j < M
    ·have hjI : (j : Int) < (M : Int) := by omega
     have hjI0 : (0 : Int) ≤ (j : Int) := by omega
     have hjl : j < ed.length := by rw [hM.out]; exact hltj
     have hrow := Hal.out.row.grown hbr2
     have hst2 : Hid (R k ++ (waD k ⟨ed, ea, ec⟩).take (j + 1) = (R k ++ (waD k ⟨ed, ea, ec⟩).take j) ++ [⟨-1 - (k : Int), ed[j].l, ed[j].a, ed[j].c⟩]) := Lib.hid (by
      unfold waD
      rw [List.take_add_one, List.append_assoc]
      congr 2
      rw [List.getElem?_map, List.getElem?_eq_getElem hjl]
      rfl)
     obtain ⟨c, co, hc⟩ := hrow.at_ j (by rw [List.length_map]; exact hjl)
     have cc := hrow.cell c co hc j (by rw [List.length_map]; exact hjl)
     rw [List.getElem_map] at cc
     obtain ⟨e, he⟩ : ∃ v, Hid (ed[j] = v) := ⟨_, Lib.hid rfl⟩
     rw [he.out] at cc hst2
     have hblc := World.block_lt_of_cell? _ _ cc
     obtain ⟨el, ela, elc⟩ := e
     change _ = some (Value.slice ela el.length elc) at cc
     dsimp only at hst2
     have hnb := Lib.hid (numberOf_any k U2 (by omega))
     have hyl : (R k ++ (waD k ⟨ed, ea, ec⟩).take j).length ≤ 2000 := by
      rw [List.length_append]
      have := List.length_take_le j (waD k ⟨ed, ea, ec⟩)
      omega
     obtain ⟨ya2, yc2, w2, hrun, ho2, hg2, hlies⟩ := OwnYZ.push HY.out (⟨-1 - (k : Int), el, ela, elc⟩ : WyD Int) 116 (by omega) (Nat.le_trans hbW hbr.size)
     rw [← hn.out] at hrun hg2
     have HY2 : Hid (OwnYZ w2 base ya2 yc2 (R k ++ (waD k ⟨ed, ea, ec⟩).take (j + 1))) := Lib.hid (by rw [hst2.out]; exact ho2)
     have hn2 : Hid (n + 1 = (R k ++ (waD k ⟨ed, ea, ec⟩).take (j + 1)).length) := Lib.hid (by rw [hst2.out, List.length_append, ← hn.out]; rfl)
     have HA2 := Lib.hid (HAr.out.kept hg2 (fun e0 => own_ne_ty HY.out HAr.out (by decide) (by rw [← hn.out]; exact e0.symm)))
     have Hb2 := Lib.hid (hbr.trans (belowAt hg2 (B := base) (fun i0 e0 => (own_typ HY.out i0 (by rw [← hn.out]; exact e0)).1) (Nat.le_trans hbW hbr.size)))
     have Hrun := Lib.hid hrun
     dsimp only at Hrun
     obtain ⟨kn, hkn⟩ : ∃ q, Hid ((-1 - (k : Int)) = q) := ⟨_, Lib.hid rfl⟩
     rw [hkn.out] at Hrun hnb
     subst hc
     clear hrun ho2 hg2 hyl hbr2 hrow hlies
     go_wp2_with (fail)
     refine hnb.out.mono ?_
     rintro e w3 ⟨rfl, rfl⟩
     go_wp2_with (at_builtin; refine wpList_append_run rfl _ _ 116 116 rfl _ _ _ _ rfl rfl Hrun.out ?_)
     exact ⟨⟨j + 1, n + 1, ya2, yc2, by omega, by go_num, rfl, hn2, HY2, HA2, Hb2.out⟩, by simp [RowKit.intOf]; omega⟩
    ·have hje : j = M := by omega
     have hjI : ¬ (j : Int) < (M : Int) := by omega
     have hen : Hid (R k ++ (waD k ⟨ed, ea, ec⟩).take j = R (k + 1)) := Lib.hid (by rw [hst.out, List.take_of_length_le (by unfold waD; rw [List.length_map, hM.out, hje]; exact Nat.le_refl _)])
     rw [hen.out] at hn HY
     clear hje hbr2
     go_wp2_with (fail)
     exact ⟨⟨k + 1, n, ya, yc, by omega, by go_num, rfl, hn, HY, HAr, hbr⟩, by simp [RowKit.intOf]; omega⟩
  ·have hke : k = L := by omega
   have hkI : ¬ (k : Int) < (L : Int) := by omega
   rw [hke] at hn HY
   obtain ⟨w3, hrun3, ho3, hg3⟩ := Hmk2.out U (Nat.le_trans hbW hbr.size)
   rw [made_fill _ rfl] at ho3
   have hob : U.heap.size < w3.heap.size := (World.ownsRow.lt ho3 U.heap.size rfl).2
   have HO3 := Lib.hid ho3
   have HY3 := Lib.hid (World.ownsRow.kept HY.out hg3 (by cases e : (Value.slice ya (R L).length yc).ownBlock <;> simp))
   have Hb3 := Lib.hid (hbr2.trans (belowAt hg3 (B := w.heap.size) (fun i e => by cases e) hbr2.size))
   have hbU : base ≤ U.heap.size := Nat.le_trans hbW hbr.size
   have Hc := Lib.hid (hMade'.out w3 base ya yc HY3.out Hb3.out)
   rw [← hn.out] at Hc
   obtain ⟨ob, hobe⟩ : ∃ q, Hid (U.heap.size = q) := ⟨_, Lib.hid rfl⟩
   rw [hobe.out] at hrun3 HO3 hob hbU
   clear hke hbr hbr2 ho3 hg3 hn HY HAr
   go_wp2_with (fail)
   refine Hc.out.mono ?_
   rintro r w4 ⟨sb, ns, MM, rfl, hs, hns, hM, hlo, hb4⟩
   have HS := Lib.hid hs
   have HM1 : Hid (∀ r : Nat, MM (-1 - (r : Int)) = NB r) := Lib.hid (fun r => by
    have h1 := (hM (-1 - (r : Int))).trans (Hmk.out r)
    cases e1 : MM (-1 - (r : Int)) <;> cases e2 : NB r <;> simp_all)
   have HM2 : Hid (∀ x, MM x = true → ∃ r, r < L ∧ x = -1 - (r : Int)) := Lib.hid (fun x h => Hkey.out x ((hM x).1 h))
   have HO4 : Hid (w4.ownsRow base 4 1 (.slice (some ⟨ob, 0, none⟩) L L) L (List.replicate L (.bool false))) := Lib.hid (World.ownsRow.kept HO3.out (below_grownBy hb4 none) (by cases e : (Value.slice (some ⟨ob, 0, none⟩) L L).ownBlock <;> simp))
   have Hb4 := Lib.hid (Hb3.out.trans (hb4.mono Hb3.out.size))
   have hob4 : ob < w4.heap.size := Nat.lt_of_lt_of_le hob hb4.size
   have hsbl : ob < sb := Nat.lt_of_lt_of_le hob hlo
   clear hs hM hb4 hob x2 xl
   go_wp2_with (at_range; refine range_setZ rfl _ rfl sb ns MM rfl HS.out ?_; intro w5 cnt5 hrg5 hg5 hs5)
   go_frame
   have HR5 := Lib.hid hrg5
   have HO5 : Hid (OwnBl w5 base (some ⟨ob, 0, none⟩) L L (fun r => MM (-1 - (r : Int)) && !MM (-1 - (r : Int)))) := Lib.hid (by
    have := World.ownsRow.kept HO4.out hg5 (by cases e : (Value.slice (some ⟨ob, 0, none⟩) L L).ownBlock <;> simp)
    rw [rng_const] at this
    unfold OwnBl
    simpa using this)
   have Hb5 := Lib.hid (Hb4.out.trans (belowAt hg5 (B := w.heap.size) (fun i e => by cases e) Hb4.out.size))
   obtain ⟨it, hit⟩ : ∃ q, Hid (w4.heap.size = q) := ⟨_, Lib.hid rfl⟩
   rw [hit.out] at HR5 hob4
   have hitb : w.heap.size ≤ it := by rw [← hit.out]; exact Hb4.out.size
   rw [hit.out]
   clear hrg5 hg5 hs5
   go_loopw [40] (fun _ wr => ∃ (left : Int → Bool) (cnt : Nat), Hid (RngZ wr sb it ns MM left cnt) ∧ Hid (OwnBl wr base (some ⟨ob, 0, none⟩) L L (fun r => MM (-1 - (r : Int)) && !left (-1 - (r : Int)))) ∧ Below w.heap.size w wr) (fun _ wr => wr.rangeLeft sb it)
   case atStart => exact ⟨MM, cnt5, HR5, HO5, Hb5.out⟩
   case round =>
    clear HR5 HO5 Hb5 HO4 HS HO3
    obtain ⟨left, cnt, HR, HO, hbr⟩ := hrel
    obtain ⟨U5, rfl⟩ : ∃ U, U = wr := ⟨_, rfl⟩
    go_wp2_with (at_next; refine next_setZ rfl _ rfl sb it ns MM left cnt rfl HR.out ?_ ?_)
    ·intro hl0
     have HOe : Hid (OwnBl U5 base (some ⟨ob, 0, none⟩) L L NB) := Lib.hid (by
      have := HO.out
      unfold OwnBl at this ⊢
      refine (congrArg (fun l => U5.ownsRow base 4 1 (.slice (some ⟨ob, 0, none⟩) L L) L l) (List.map_congr_left (fun r _ => ?_))).mp this
      dsimp only
      rw [HM1.out, hl0]
      simp)
     go_wp2_with (fail)
     first | (change Q (.returned (.slice (some ⟨ob, 0, none⟩) L L)) U5; rw [← HQ.out]; exact ⟨some ⟨ob, 0, none⟩, L, rfl, by rw [hbase.out]; exact HOe.out, hbr⟩) | exact bodyPost_ret (v := .slice (some ⟨ob, 0, none⟩) L L) (by simp [results, Try.results52, go_sem]; try first | rfl | assumption | omega) rfl (by rw [← HQ.out]; exact ⟨some ⟨ob, 0, none⟩, L, rfl, by rw [hbase.out]; exact HOe.out, hbr⟩)
    ·intro x w6 cnt6 hwf hlx hMx hrg6 hlt6 hg6 hs6 hen6
     obtain ⟨r, hr, rfl⟩ := HM2.out x hMx
     have Hru := Lib.hid (fun W => ruleOf_any (-1 - (r : Int)) W (by omega))
     rw [ruL_of] at Hru
     have hO6 := World.ownsRow.kept HO.out hg6 (.inr (fun e => by
      have e2 : ob = it := by simpa [Value.ownBlock] using e
      omega))
     have z0 := hO6.cellAt r (by rw [Nat.mul_one]; exact hr)
     rw [rng_cell _ _ hr] at z0
     have zf := own_frz (j := r) hO6
     have zl : ob < w6.heap.size := (World.ownsRow.lt hO6 ob rfl).2
     obtain ⟨hO7, hg7⟩ := hO6.stored r (.bool true)
     have HO7 : Hid (OwnBl (w6.setCell ⟨ob, r, none⟩ (.bool true)) base (some ⟨ob, 0, none⟩) L L (fun s => MM (-1 - (s : Int)) && !(left (-1 - (s : Int)) && !decide ((-1 - (s : Int)) = -1 - (r : Int))))) := Lib.hid (by
      rw [set_rng] at hO7
      unfold OwnBl
      refine (congrArg (fun l => (w6.setCell ⟨ob, r, none⟩ (.bool true)).ownsRow base 4 1 (.slice (some ⟨ob, 0, none⟩) L L) L l) (List.map_congr_left (fun s _ => ?_))).mp hO7
      dsimp only
      by_cases e : s = r
      ·subst e
       rw [if_pos rfl, hMx]
       simp
      ·have e2 : ¬ (-1 - (s : Int)) = -1 - (r : Int) := by omega
       rw [if_neg e, decide_eq_false e2]
       simp)
     have HR7 : Hid (RngZ (w6.setCell ⟨ob, r, none⟩ (.bool true)) sb it ns MM (fun z => left z && !decide (z = -1 - (r : Int))) cnt6) := Lib.hid (hrg6.kept hg7 (by simp; omega) (by simp; omega))
     have hbb := hbr.trans (belowAt hg6 (B := w.heap.size) (fun i e => by injection e with e; omega) hbr.size)
     have Hb7 := Lib.hid (hbb.trans (belowAt hg7 (B := w.heap.size) (fun i e => by injection e with e; omega) hbb.size))
     have Hlt : Hid ((w6.setCell ⟨ob, r, none⟩ (.bool true)).rangeLeft sb it < U5.rangeLeft sb it) := Lib.hid (by rw [HR7.out.left_eq, HR.out.left_eq]; exact hlt6)
     have hrI : (r : Int) < (L : Int) := by omega
     have hrI0 : (0 : Int) ≤ (r : Int) := by omega
     clear hO6 hO7 hg7 hbb hg6 hs6 hrg6 hlt6 hbr hlx hMx
     obtain ⟨x, hx⟩ : ∃ q, Hid ((-1 - (r : Int)) = q) := ⟨_, Lib.hid rfl⟩
     rw [hx.out] at hen6 Hru HO7 HR7 hwf ⊢
     go_wp2_with (fail)
     refine (Hru.out _).mono ?_
     rintro e w7 ⟨rfl, rfl⟩
     go_wp2_with (fail)
     exact ⟨⟨_, cnt6, HR7, HO7, Hb7.out⟩, Hlt.out⟩
end Go.Proofs.Ytldmgifphkpdlaa
namespace Go.Proofs.Ytldmgifphkpdlaa
open Go.RowKit Go.Maps
attribute [local go_sem] Oper.semAt_some
theorem set_grown {w : World} {b t : Nat} {cs : List Value} (h : Blk w b t cs) (j : Nat) (v : Value) : w.grownBy (w.setCell ⟨b, j, none⟩ v) (some b) := grownBy_set w _ _ _
/-- What newBeginner answers. -/
def BgnQ (w : World) (aa : Option Addr) (n ac : Nat) (V : Nat → Bool) (e : Ending) (W' : World) : Prop := ∃ na nc, e = .returned (.agg #[.slice aa n ac, .slice na n nc]) ∧ BlsF W' na nc n V ∧ Below w.heap.size w W'
set_option maxRecDepth 100000 in
set_option maxHeartbeats 16000000 in
theorem newB_any (d : CfD) (w : World) (hd : CfAt w d) (hf : FitC d) :
 Calls Try.prog 54 #[d.v] w (BgnQ w d.aa d.alts.length d.ac (nulB (d.alts.map IrD.p))) := by
 have Hnul := Lib.hid (fun W (hb : Below w.heap.size w W) => nullable_any d W (hd.grown hb) hf)
 obtain ⟨xt, xta, xtc, xn, xna, xnc, xa, xaa, xac⟩ := d
 dsimp only [CfD.v] at *
 obtain ⟨Q, hQ⟩ : ∃ Q, Hid (BgnQ w xaa xa.length xac (nulB (xa.map IrD.p)) = Q) := ⟨_, Lib.hid rfl⟩
 rw [hQ.out]
 have hb0 : Below w.heap.size w (w.alloc (.cells #[.slice xta xt.length xtc, .slice xna xn.length xnc, .slice xaa xa.length xac] 25)) := (Below.refl _ w).alloc (Nat.le_refl _) _
 have hb1 : Below w.heap.size w ((w.alloc (.cells #[.slice xta xt.length xtc, .slice xna xn.length xnc, .slice xaa xa.length xac] 25)).alloc (.cells #[.slice none 0 0, .slice none 0 0] 68)) := hb0.alloc hb0.size _
 have hA := (Blk.new w 25 #[.slice xta xt.length xtc, .slice xna xn.length xnc, .slice xaa xa.length xac]).alloc (.cells #[.slice none 0 0, .slice none 0 0] 68)
 have hR := Blk.new (w.alloc (.cells #[.slice xta xt.length xtc, .slice xna xn.length xnc, .slice xaa xa.length xac] 25)) 68 #[.slice none 0 0, .slice none 0 0]
 rw [show (w.alloc (.cells #[.slice xta xt.length xtc, .slice xna xn.length xnc, .slice xaa xa.length xac] 25)).heap.size = w.heap.size + 1 by simp] at hR
 obtain ⟨NB, hNB2⟩ : ∃ q, Hid (nulB (xa.map IrD.p) = q) := ⟨_, Lib.hid rfl⟩
 rw [hNB2.out] at hQ Hnul
 obtain ⟨T, HT⟩ : ∃ q, Hid (xt.length = q) := ⟨_, Lib.hid rfl⟩
 obtain ⟨N, HN⟩ : ∃ q, Hid (xn.length = q) := ⟨_, Lib.hid rfl⟩
 obtain ⟨L, HL⟩ : ∃ q, Hid (xa.length = q) := ⟨_, Lib.hid rfl⟩
 rw [HT.out, HN.out, HL.out] at hA hR hb1 Hnul ⊢
 rw [HL.out] at hQ
 have HQ := Lib.hid hQ.out
 obtain ⟨base, hbase⟩ : ∃ q, Hid (w.heap.size = q) := ⟨_, Lib.hid rfl⟩
 have hbW2 : w.heap.size ≤ base := by rw [hbase.out]; exact Nat.le_refl _
 obtain ⟨rb, hrb⟩ : ∃ q, Hid (base + 1 = q) := ⟨_, Lib.hid rfl⟩
 rw [hbase.out] at hA hR
 rw [hrb.out] at hR
 have hrbb : base < rb := by rw [← hrb.out]; exact Nat.lt_succ_self _
 clear hd hf hb0 hQ
 go_enter Try.func54, Try.ntmps54
 go_wp2_with (fail)
 rw [hbase.out, hrb.out]
 generalize hV : World.alloc (World.alloc w _) _ = V at hA hR hb1 ⊢
 clear hV
 have HS0 : Hid (V.drew.cell? ⟨base, 0, none⟩ = some (.slice xta T xtc) ∧ V.drew.cell? ⟨base, 1, none⟩ = some (.slice xna N xnc) ∧ V.drew.cell? ⟨base, 2, none⟩ = some (.slice xaa L xac)) := Lib.hid ⟨hA.cell 0, hA.cell 1, hA.cell 2⟩
 have HA := Lib.hid (show Blk V.drew base 25 [.slice xta T xtc, .slice xna N xnc, .slice xaa L xac] from hA)
 have HR := Lib.hid (show Blk V.drew rb 68 [.slice none 0 0, .slice none 0 0] from hR)
 have Hb1 := Lib.hid hb1.drew
 have Hc := Lib.hid (Hnul.out V.drew Hb1.out)
 clear hA hR hb1
 refine wp_region_held_drew (S := fun w' => w'.cell? ⟨base, 0, none⟩ = some (.slice xta T xtc) ∧ w'.cell? ⟨base, 1, none⟩ = some (.slice xna N xnc) ∧ w'.cell? ⟨base, 2, none⟩ = some (.slice xaa L xac)) (by kernel_rfl) ?_ (fun hHeld => ?_)
 ·exact HS0.out
 refine wpAnyH_take (i := 0) (v := ?_) (iatLS iatZS) (by kernel_rfl) (by kernel_rfl) (by kernel_rfl) (fun _ _ _ h => h) (Or.inl ⟨by rfl, ?_⟩) (by assumption) ?_
 rotate_left
 ·intro w hSw
  try dsimp only at hSw
  go_simp
  all_goals with_reducible rfl
 try simp only [Act.put, List.setIfInBounds_toArray, List.set_cons_zero, List.set_cons_succ]
 refine wpAnyH_take (i := 1) (v := ?_) (iatLS (iatSS iatZS)) (by kernel_rfl) (by kernel_rfl) (by kernel_rfl) (fun _ _ _ h => h) (Or.inl ⟨by rfl, ?_⟩) (by assumption) ?_
 rotate_left
 ·intro w hSw
  try dsimp only at hSw
  go_simp
  all_goals with_reducible rfl
 try simp only [Act.put, List.setIfInBounds_toArray, List.set_cons_zero, List.set_cons_succ]
 refine wpAnyH_take (i := 2) (v := ?_) (iatLS (iatSS (iatSS iatZS))) (by kernel_rfl) (by kernel_rfl) (by kernel_rfl) (fun _ _ _ h => h) (Or.inl ⟨by rfl, ?_⟩) (by assumption) ?_
 rotate_left
 ·intro w hSw
  try dsimp only at hSw
  go_simp
  all_goals with_reducible rfl
 try simp only [Act.put, List.setIfInBounds_toArray, List.set_cons_zero, List.set_cons_succ]
 refine wpAnyH_ready (rs := [3]) (by kernel_rfl) (by simp) ?_
 refine AllReadyH.cons (iatLS (iatSS (iatSS (iatSS iatZS)))) (fun K hK => ?_) AllReadyH.nil
 go_simp
 (with_reducible refine Hc.out.mono ?_)
 rintro e2 V2 ⟨na, nc, rfl, ho2, hb2⟩
 have HO2 := Lib.hid ho2
 have HA2 := Lib.hid (HA.out.below hb2 HA.out.lt)
 have HR2 := HR.out.below hb2 HR.out.lt
 have HS2 : Hid (V2.cell? ⟨base, 0, none⟩ = some (.slice xta T xtc) ∧ V2.cell? ⟨base, 1, none⟩ = some (.slice xna N xnc) ∧ V2.cell? ⟨base, 2, none⟩ = some (.slice xaa L xac)) := Lib.hid ⟨HA2.out.cell 0, HA2.out.cell 1, HA2.out.cell 2⟩
 have Hb2 := Lib.hid (Hb1.out.trans (hb2.mono Hb1.out.size))
 have y0 := HR2.cell 0
 have y1 := HR2.cell 1
 have yl := HR2.lt
 have yf : V2.frozen? ⟨rb, 0, none⟩ = false := HR2.frozen 0
 have yf1 : V2.frozen? ⟨rb, 1, none⟩ = false := HR2.frozen 1
 simp only [List.getElem?_cons_zero, List.getElem?_cons_succ] at y0 y1
 clear ho2 hb2
 try dsimp only
 refine hK.out _ _ ?_ (fun hHeld => ?_)
 ·exact HS2.out
 clear hK K
 try simp only [Act.put, List.setIfInBounds_toArray, List.set_cons_zero, List.set_cons_succ]
 refine wpAnyH_take (i := 4) (v := ?_) (iatLS (iatSS (iatSS (iatSS (iatSS iatZS))))) (by kernel_rfl) (by kernel_rfl) (by kernel_rfl) (fun _ _ _ h => h) (Or.inl ⟨by rfl, ?_⟩) (by assumption) ?_
 rotate_left
 ·intro w hSw
  try dsimp only at hSw
  go_simp
  all_goals with_reducible rfl
 try simp only [Act.put, List.setIfInBounds_toArray, List.set_cons_zero, List.set_cons_succ]
 refine wpAnyH_ready (rs := [5]) (by kernel_rfl) (by simp) ?_
 refine AllReadyH.cons (iatLS (iatSS (iatSS (iatSS (iatSS (iatSS iatZS)))))) (fun K hK => ?_) AllReadyH.nil
 go_simp
 have HR3 : Hid (Blk ((V2.setCell ⟨rb, 0, none⟩ (.slice xaa L xac)).setCell ⟨rb, 1, none⟩ (.slice na L nc)) rb 68 [.slice xaa L xac, .slice na L nc]) := Lib.hid ((HR2.set 0 (.slice xaa L xac)).set 1 (.slice na L nc))
 have HA3 : Hid (Blk ((V2.setCell ⟨rb, 0, none⟩ (.slice xaa L xac)).setCell ⟨rb, 1, none⟩ (.slice na L nc)) base 25 [.slice xta T xtc, .slice xna N xnc, .slice xaa L xac]) := Lib.hid ((HA2.out.setOther (by omega) _).setOther (by omega) _)
 have hg1 := set_grown HR2 0 (.slice xaa L xac)
 have hg2 := set_grown (HR2.set 0 (.slice xaa L xac)) 1 (.slice na L nc)
 have hne : (Value.slice na L nc).ownBlock ≠ some rb := fun e => by have := (World.ownsRow.lt HO2.out rb e).1; have := HR.out.lt; omega
 have HO3 : Hid (OwnBl ((V2.setCell ⟨rb, 0, none⟩ (.slice xaa L xac)).setCell ⟨rb, 1, none⟩ (.slice na L nc)) V.drew.heap.size na L nc NB) := Lib.hid (World.ownsRow.kept (World.ownsRow.kept HO2.out hg1 (.inr hne)) hg2 (.inr hne))
 have Hb3 := Lib.hid ((Hb2.out.setCell (p := ⟨rb, 0, none⟩) (by dsimp only; omega) (.slice xaa L xac)).setCell (p := ⟨rb, 1, none⟩) (by dsimp only; omega) (.slice na L nc))
 clear hg1 hg2 hne HO2 HA2 HR2 Hb2 y0 y1 yl yf yf1
 generalize hV3 : World.setCell (World.setCell V2 _ _) _ _ = V3 at HR3 HA3 HO3 Hb3 ⊢
 clear hV3
 refine hK.out _ _ ?_ (fun hHeld => ?_)
 ·exact ⟨HA3.out.cell 0, HA3.out.cell 1, HA3.out.cell 2⟩
 clear hK K
 try simp only [Act.put, List.setIfInBounds_toArray, List.set_cons_zero, List.set_cons_succ]
 refine wpAnyH_done (by kernel_rfl) ?_ _
 have y0 := HR3.out.cell 0
 have y1 := HR3.out.cell 1
 have yl := HR3.out.lt
 simp only [List.getElem?_cons_zero, List.getElem?_cons_succ] at y0 y1
 have HB := Lib.hid HO3.out.bls
 go_wp2_with (fail)
 refine bodyPost_ret (v := .agg #[.slice xaa L xac, .slice na L nc]) (by simp [results, Try.results54, go_sem, y0, y1]; try first | rfl | assumption | omega) rfl ?_
 rw [← HQ.out]
 exact ⟨na, nc, rfl, HB.out, Hb3.out⟩
end Go.Proofs.Ytldmgifphkpdlaa
namespace Go.Proofs.Ytldmgifphkpdlaa
open Go.RowKit Go.Maps
attribute [local go_sem] Oper.semAt_some
theorem RngZ.congr {W : World} {b r n cnt : Nat} {M M' left left' : Int → Bool} (h : RngZ W b r n M left cnt) (h1 : ∀ x, M x = M' x) (h2 : ∀ x, left x = left' x) : RngZ W b r n M' left' cnt := by
 obtain rfl : M = M' := funext h1
 obtain rfl : left = left' := funext h2
 exact h
theorem key_ne {x y : Int} (h : x ≠ y) : (Go.Lit.int .i64 x) ≠ .int .i64 y := fun e => h (by injection e)
section
variable {w : World} {ops : Array Oper} {rest : List Oper} {o : Oper} {a : Act} {Q : Exit → Act → World → Prop}
set_option maxRecDepth 100000 in
theorem delete_setZ (hg : o.guard = none) (m x : Operand) (hop : o.op = Op.call { callee := Callee.builtin Builtin.delete, args := #[m, x], argTypes := #[79, 3] }) (b r n : Nat) (M left : Int → Bool) (cnt : Nat)
 (hm : a.eval m = .map (some b)) (h : RngZ w b r n M left cnt) (y : Int) (hx : a.eval x = .int .i64 y) (hy : (Go.Lit.int .i64 y).wf = true)
 (hK : ∀ w' cnt', RngZ w' b r n (fun z => M z && !decide (z = y)) (fun z => left z && !decide (z = y)) cnt' → cnt' ≤ cnt → w.grownBy w' (some b) → wpList Try.prog ops Q rest (a.put o.dst (.tuple #[])) w') :
 wpList Try.prog ops Q (o :: rest) a w := by
 obtain ⟨D, lf, h1, h2, h3, h4⟩ := h
 refine wpList_delete_ranges w hg m x 79 3 hop 86 int_law Try.underlying79 unitElem b r n D lf cnt hm h1 (.int .i64 y) (.int .i64 y) hx (keyOf_int_mk Try.underlying3 hy) (fun w' cnt' h5 h6 h7 => hK w' cnt' ⟨_, _, h5, h2.del _, fun z => ?_, fun z => ?_⟩ h6 h7.grown)
 ·by_cases e : z = y
  ·subst e
   rw [has_del_same]
   simp
  ·rw [has_del_other (key_ne e), h3]
   simp [e]
 ·show (lf (.int .i64 z) && !(Go.Lit.int .i64 z).sameKey (.int .i64 y)) = _
  rw [h4]
  congr 2
  simp [Go.Lit.sameKey]
end
theorem RngZ.cnt_le {W : World} {b r n cnt : Nat} {M left : Int → Bool} (h : RngZ W b r n M left cnt) : cnt ≤ n := by
 obtain ⟨D, lf, ⟨es, clock, since, seen, c0, h1, h2, h3, h4, h5, h6, h7, _⟩, _⟩ := h
 have : (leftOf es seen).size ≤ es.size := by unfold leftOf; exact Array.size_filter_le
 omega
set_option maxRecDepth 100000 in
theorem isNeg_any (x : Int) (w : World) : Calls Try.prog 92 #[.int .i64 x, .agg #[]] w fun e w' => e = .returned (.bool (decide (x < 0))) ∧ w.grownBy w' none := by
 by_cases h : x < 0
 ·rw [decide_eq_true h]
  go_enter Try.func92, Try.ntmps92
  go_wp2_with (fail)
  exact bodyPost_ret (v := .bool true) (by simp [results, Try.results92, go_sem]; try rfl) rfl ⟨rfl, World.grownBy_alloc _ _ _⟩
 ·rw [decide_eq_false h]
  go_enter Try.func92, Try.ntmps92
  go_wp2_with (fail)
  exact bodyPost_ret (v := .bool false) (by simp [results, Try.results92, go_sem]; try rfl) rfl ⟨rfl, World.grownBy_alloc _ _ _⟩
set_option maxRecDepth 100000 in
set_option maxHeartbeats 16000000 in
theorem delNeg_any (b n : Nat) (M : Int → Bool) (w : World) (h : SetZ w b n M) :
 Calls Try.prog 91 #[.map (some b), .func (.func 92) #[] #[]] w fun e w' => e = .returned (.tuple #[]) ∧ SetZ w' b n (fun z => M z && decide (0 ≤ z)) ∧ w.grownBy w' (some b) := by
 have eg : ∀ (args : Array Value) (w : World), (callFunc 92 args).run Try.prog w = .ok (.enter 92 args) w := fun args w => by kernel_rfl
 have HEg := Lib.hid eg
 have HS := Lib.hid h
 clear eg h
 go_enter Try.func91, Try.ntmps91
 go_wp2_with (at_range; refine range_setZ rfl _ rfl b n M rfl HS.out ?_; intro w1 cnt1 hrg1 hg1 hs1)
 go_frame
 have HR1 : Hid (RngZ w1 b w.heap.size n (fun z => M z && (decide (0 ≤ z) || M z)) M cnt1) := Lib.hid (hrg1.congr (fun z => by cases M z <;> simp) (fun z => rfl))
 have Hg1 := Lib.hid hg1
 obtain ⟨it, hit⟩ : ∃ q, Hid (w.heap.size = q) := ⟨_, Lib.hid rfl⟩
 rw [hit.out] at HR1 ⊢
 have hitw : w.heap.size ≤ it := by rw [hit.out]; exact Nat.le_refl _
 clear hrg1 hg1 hs1
 go_loopw [8] (fun _ wr => ∃ (left : Int → Bool) (cnt : Nat), Hid (RngZ wr b it n (fun z => M z && (decide (0 ≤ z) || left z)) left cnt) ∧ w.grownBy wr (some b)) (fun _ wr => wr.rangeLeft b it)
 case atStart => exact ⟨M, cnt1, HR1, Hg1.out.but _⟩
 case round =>
  clear HR1 HS Hg1
  obtain ⟨left, cnt, HR, hbr⟩ := hrel
  obtain ⟨U5, rfl⟩ : ∃ U, U = wr := ⟨_, rfl⟩
  go_wp2_with (at_next; refine next_setZ rfl _ rfl b it n _ left cnt rfl HR.out ?_ ?_)
  ·intro hl0
   have HOe : Hid (SetZ U5 b n (fun z => M z && decide (0 ≤ z))) := Lib.hid (HR.out.set.congr (fun z => by rw [hl0]; simp))
   clear hl0
   go_wp2_with (fail)
   exact bodyPost_end (v := .tuple #[]) (by simp [results, Try.results91, go_sem]; try rfl) rfl ⟨rfl, HOe.out, hbr⟩
  ·intro x w6 cnt6 hwf hlx hMx hMx2 hrg6 hlt6 hg6 hs6 hen6
   have Hb6 := Lib.hid (hbr.andThen hg6 (fun j hj => by cases hj; exact .inl hitw))
   have HR6 := Lib.hid hrg6
   have hgb : w6.grownBy (w6.alloc (.cells #[] 86)) none := World.grownBy_alloc _ _ _
   have HR7 := Lib.hid (hrg6.kept hgb (by simp) (by simp))
   have Hb7 := Lib.hid (Hb6.out.andThen hgb (fun j hj => by cases hj))
   have Hl := Lib.hid (HR.out.left_eq)
   have HLt := Lib.hid hlt6
   clear hrg6 hlt6 hg6 hs6 hMx hMx2 hgb hlx
   go_wp2_with (fail)
   refine (isNeg_any x _).mono ?_
   rintro e w8 ⟨rfl, hg8⟩
   have HR8 := Lib.hid (HR7.out.kept hg8 (by simp) (by simp))
   have Hb8 := Lib.hid (Hb7.out.andThen hg8 (fun j hj => by cases hj))
   clear hg8 HR7 Hb7 HR6 Hb6
   obtain ⟨X, hX⟩ : ∃ q, Hid (decide (x < 0) = q) := ⟨_, Lib.hid rfl⟩
   rw [hX.out]
   cases X
   case false =>
    have h0 : ¬ x < 0 := of_decide_eq_false hX.out
    have HR9 : Hid (RngZ w8 b it n (fun z => M z && (decide (0 ≤ z) || (left z && !decide (z = x)))) (fun z => left z && !decide (z = x)) cnt6) := Lib.hid (HR8.out.congr (fun z => by
     by_cases e : z = x
     ·subst e
      rw [decide_eq_true (by omega : 0 ≤ z)]
      simp
     ·rw [decide_eq_false e]; simp) (fun z => rfl))
    have Hlt : Hid (w8.rangeLeft b it < U5.rangeLeft b it) := Lib.hid (by rw [HR9.out.left_eq, Hl.out]; exact HLt.out)
    clear h0
    go_wp2_with (fail)
    exact ⟨⟨_, cnt6, HR9, Hb8.out⟩, Hlt.out⟩
   case true =>
    have h0 : x < 0 := of_decide_eq_true hX.out
    have Hx0 := Lib.hid h0
    clear h0
    go_wp2_with (at_delete; refine delete_setZ rfl _ _ rfl b it n _ _ cnt6 rfl HR8.out x rfl hwf ?_; intro w9 cnt9 hrg9 hle9 hg9; go_frame)
    have HR9 : Hid (RngZ w9 b it n (fun z => M z && (decide (0 ≤ z) || (left z && !decide (z = x)))) (fun z => left z && !decide (z = x)) cnt9) := Lib.hid (hrg9.congr (fun z => by
     have := Hx0.out
     by_cases e : z = x
     ·subst e
      rw [decide_eq_false (by omega : ¬ 0 ≤ z)]
      simp
     ·rw [decide_eq_false e]; simp) (fun z => by cases left z <;> simp))
    have Hlt : Hid (w9.rangeLeft b it < U5.rangeLeft b it) := Lib.hid (by rw [HR9.out.left_eq, Hl.out]; have := HLt.out; omega)
    have Hb9 := Lib.hid (Hb8.out.andThen hg9 (fun j hj => by cases hj; exact .inr rfl))
    clear hrg9 hle9 hg9
    go_wp2_with (fail)
    exact ⟨⟨_, cnt9, HR9, Hb9.out⟩, Hlt.out⟩
set_option maxRecDepth 100000 in
set_option maxHeartbeats 16000000 in
theorem copyZ_any (bd bs nd ns : Nat) (Md Ms : Int → Bool) (w : World) (hd : SetZ w bd nd Md) (hs : SetZ w bs ns Ms) (hne : bd ≠ bs) (hroom : nd + ns ≤ 100000000000000) :
 Calls Try.prog 65 #[.map (some bd), .map (some bs)] w fun e w' => e = .returned (.tuple #[]) ∧ SetZ w' bd (nd + ns) (fun z => Md z || Ms z) ∧ w.grownBy w' (some bd) := by
 have HS := Lib.hid hs
 have HD := Lib.hid hd
 have hdl := hd.lt
 clear hs hd
 go_enter Try.func65, Try.ntmps65
 go_wp2_with (at_range; refine range_setZ rfl _ rfl bs ns Ms rfl HS.out ?_; intro w1 cnt1 hrg1 hg1 hs1)
 go_frame
 have HR1 := Lib.hid hrg1
 have HD1 : Hid (SetZ w1 bd (nd + 0) (fun z => Md z || (Ms z && !Ms z))) := Lib.hid ((HD.out.kept hg1 (by simp)).congr (fun z => by cases Ms z <;> simp))
 have Hg1 := Lib.hid hg1
 have hcl := hrg1.cnt_le
 obtain ⟨it, hit⟩ : ∃ q, Hid (w.heap.size = q) := ⟨_, Lib.hid rfl⟩
 rw [hit.out] at HR1 hdl ⊢
 have hitw : w.heap.size ≤ it := by rw [hit.out]; exact Nat.le_refl _
 clear hrg1 hg1 hs1
 go_loopw [8] (fun _ wr => ∃ (left : Int → Bool) (cnt k : Nat), k + cnt ≤ ns ∧ Hid (RngZ wr bs it ns Ms left cnt) ∧ Hid (SetZ wr bd (nd + k) (fun z => Md z || (Ms z && !left z))) ∧ w.grownBy wr (some bd)) (fun _ wr => wr.rangeLeft bs it)
 case atStart => exact ⟨Ms, cnt1, 0, by omega, HR1, HD1, Hg1.out.but _⟩
 case round =>
  clear HR1 HS Hg1 HD1 HD hcl
  obtain ⟨left, cnt, k, hkc, HR, HD, hbr⟩ := hrel
  obtain ⟨U5, rfl⟩ : ∃ U, U = wr := ⟨_, rfl⟩
  go_wp2_with (at_next; refine next_setZ rfl _ rfl bs it ns Ms left cnt rfl HR.out ?_ ?_)
  ·intro hl0
   have HOe : Hid (SetZ U5 bd (nd + ns) (fun z => Md z || Ms z)) := Lib.hid ((HD.out.mono (by omega)).congr (fun z => by rw [hl0]; simp))
   clear hl0
   go_wp2_with (fail)
   exact bodyPost_end (v := .tuple #[]) (by simp [results, Try.results65, go_sem]; try rfl) rfl ⟨rfl, HOe.out, hbr⟩
  ·intro x w6 cnt6 hwf hlx hMx hrg6 hlt6 hg6 hs6 hen6
   have Hb6 := Lib.hid (hbr.andThen hg6 (fun j hj => by cases hj; exact .inl hitw))
   have hgb : w6.grownBy (w6.alloc (.cells #[] 86)) none := World.grownBy_alloc _ _ _
   have HR7 := Lib.hid (hrg6.kept hgb (by simp) (by simp))
   have hD7 := (HD.out.kept hg6 (fun e => by injection e with e; omega)).kept hgb (by simp)
   have Hb7 := Lib.hid (Hb6.out.andThen hgb (fun j hj => by cases hj))
   obtain ⟨W8, hrun, hD8, hg8⟩ := hD7.store x hwf (by unfold maxLen; omega)
   have Hrun := Lib.hid hrun
   have HD8 : Hid (SetZ W8 bd (nd + (k + 1)) (fun z => Md z || (Ms z && !(left z && !decide (z = x))))) := Lib.hid (by
    have := hD8.congr (m' := fun z => Md z || (Ms z && !(left z && !decide (z = x)))) (fun z => by
     by_cases e : z = x
     ·subst e; rw [hMx]; simp
     ·rw [decide_eq_false e]; simp)
    rwa [Nat.add_assoc] at this)
   have HR8 := Lib.hid (HR7.out.kept hg8 (by intro e; injection e with e; exact hne e.symm) (by intro e; injection e with e; omega))
   have Hb8 := Lib.hid (Hb7.out.andThen hg8 (fun j hj => by cases hj; exact .inr rfl))
   have Hlt : Hid (W8.rangeLeft bs it < U5.rangeLeft bs it) := Lib.hid (by rw [HR8.out.left_eq, HR.out.left_eq]; exact hlt6)
   have hk6 : k + 1 + cnt6 ≤ ns := by omega
   clear hrg6 hlt6 hg6 hs6 hMx hgb hlx hD7 hD8 hg8
   go_wp2_with (fail)
   exact ⟨⟨_, cnt6, k + 1, hk6, HR8, HD8, Hb8.out⟩, Hlt.out⟩
end Go.Proofs.Ytldmgifphkpdlaa
namespace Go.Proofs.Ytldmgifphkpdlaa
open Go.RowKit Go.Maps
attribute [local go_sem] Oper.semAt_some
/-- A beginner in memory: the grammar, and which of its rules may be empty. -/
structure BgAt (W : World) (bb : Nat) (d : CfD) (na : Option Addr) (nc : Nat) (f : Nat → Bool) : Prop where
 box : Blk W bb 68 [.slice d.aa d.alts.length d.ac, .slice na d.alts.length nc]
 cfg : CfAt W d
 nul : BlsF W na nc d.alts.length f
theorem BgAt.below {W W' : World} {bb : Nat} {d : CfD} {na : Option Addr} {nc : Nat} {f : Nat → Bool} (h : BgAt W bb d na nc f) (hb : Below W.heap.size W W') : BgAt W' bb d na nc f := ⟨h.box.below hb h.box.lt, h.cfg.grown hb, h.nul.grown hb⟩
theorem ads_part9 {l m : List Int} {s : List Int × List Int} : (adsR l s).2.length ≤ s.2.length + l.length := by
 obtain ⟨t, h1, h2, h3⟩ := ads_pre l s
 have h4 := nodupLe t l h2 (fun x hx => (h3 x hx).2)
 rw [h1, List.length_append]
 omega
theorem ahd_len {f : Nat → Bool} : ∀ (s : List Int), (ahd f s).length ≤ s.length
 | [] => Nat.le_refl _
 | k :: s => by
  unfold ahd
  split
  ·rw [List.length_cons, List.length_cons]
   have := ahd_len (f := f) s
   omega
  ·simp
theorem ahd_cons (f : Nat → Bool) (k : Int) (s : List Int) : ahd f (k :: s) = if (decide (k < 0) && f (ruL k)) = true then k :: ahd f s else [k] := rfl
theorem ahd_pre {f : Nat → Bool} : ∀ (s : List Int), ahd f s = s.take (ahd f s).length
 | [] => rfl
 | k :: s => by
  by_cases h : (decide (k < 0) && f (ruL k)) = true
  ·rw [ahd_cons, if_pos h, List.length_cons, List.take_succ_cons, ← ahd_pre s]
  ·rw [ahd_cons, if_neg h]
   rfl
/-- A part of a row, from its beginning. -/
theorem vs_take {w : World} {a : Option Addr} {cap : Nat} {l : List Value} (h : Vs w a cap l) (n : Nat) : Vs w a cap (l.take n) := by
 have hl : (l.take n).length ≤ l.length := by rw [List.length_take]; omega
 refine ⟨Nat.le_trans hl h.le, h.max, h.nil_, fun i hi => h.at_ i (by omega), fun b off e i hi => ?_⟩
 rw [h.cell b off e i (by omega), List.getElem_take]
theorem ints_ahd {w : World} {a : Option Addr} {cap : Nat} {s : List Int} (h : Ints w a cap s) (f : Nat → Bool) : Ints w a cap (ahd f s) := by
 rw [ahd_pre]
 unfold Ints
 rw [List.map_take]
 exact vs_take h _
set_option maxRecDepth 100000 in
set_option maxHeartbeats 16000000 in
theorem tokNext_any (W0 W : World) (bb : Nat) (d : CfD) (na : Option Addr) (nc : Nat) (f : Nat → Bool) (n : Nat) (oa : Option Addr) (oc : Nat) (F O : List Int) (x : Int) (hB : BgAt W0 bb d na nc f) (hf : FitC d)
 (hb : Below W0.heap.size W0 W) (hx : -(d.alts.length : Int) ≤ x) (hR : RchAtZ W W0.heap.size (W0.heap.size + 1 + 1) (W0.heap.size + 1) W0.heap.size n oa oc F O) (hO : O.length ≤ 400000) (hn : n ≤ 1000000000000) :
 Calls Try.prog 90 #[.int .i64 x, addVZ (W0.heap.size + 1) (W0.heap.size + 1 + 1), .pointer (some ⟨bb, 0, none⟩)] W (NextQZ W W0.heap.size (W0.heap.size + 1 + 1) (W0.heap.size + 1) W0.heap.size n F O (StA (d.alts.map IrD.p) f) x) := by
 have hBw := hB.below hb
 obtain ⟨xt, xta, xtc, xn, xna, xnc, xa, xaa, xac⟩ := d
 have hb1 := hBw.box
 obtain ⟨hx1, hx2, hx3, hx4⟩ := hB.cfg
 obtain ⟨hf1, hf2, hf3, hf4, hf5⟩ := hf
 have hnul0 := hB.nul
 dsimp only at *
 obtain ⟨Q, hQ⟩ : ∃ Q, Hid (NextQZ W W0.heap.size (W0.heap.size + 1 + 1) (W0.heap.size + 1) W0.heap.size n F O (StA (xa.map IrD.p) f) x = Q) := ⟨_, Lib.hid rfl⟩
 rw [hQ.out]
 by_cases h0 : x < 0
 case neg =>
  have hx0 : x ≥ 0 := by omega
  have HQ := Lib.hid hQ.out
  have HN : Hid (∀ y, y ∈ ([] : List Int) ↔ StA (xa.map IrD.p) f x y) := Lib.hid (fun y => ⟨fun h => (by cases h), fun h => absurd (And.left h) h0⟩)
  have HR := Lib.hid hR
  clear hR hb1 hx1 hx2 hx3 hx4 hnul0 hBw hb hB hf4 hf5 hQ
  go_enter Try.func90, Try.ntmps90
  go_wp2_with (fail)
  first | (show Q (.returned (.tuple #[])) W; rw [← HQ.out]; exact ⟨rfl, [], n, oa, oc, HN.out, by omega, HR.out, Below.refl _ _⟩) | exact bodyPost_end (v := .tuple #[]) (by simp [results, Try.results90, go_sem]; try rfl) rfl (by rw [← HQ.out]; exact ⟨rfl, [], n, oa, oc, HN.out, by omega, HR.out, Below.refl _ _⟩)
 case pos =>
 have hrl : ruL x < xa.length := by unfold ruL; omega
 have Hru := Lib.hid (fun W => ruleOf_any x W (by omega))
 have hgd : (xa.map IrD.p).getD (ruL x) [] = xa[ruL x].p := by rw [List.getD_eq_getElem?_getD, List.getElem?_map, List.getElem?_eq_getElem hrl]; rfl
 have hm : xa[ruL x] ∈ xa := List.getElem_mem hrl
 obtain ⟨b, bo, hba⟩ := hx3.at_ (ruL x) (by rw [List.length_map]; exact hrl)
 have cb := hx3.cell b bo hba (ruL x) (by rw [List.length_map]; exact hrl)
 rw [List.getElem_map] at cb
 have hbbl := World.block_lt_of_cell? _ _ cb
 have hN0 : Hid (∀ y, StA (xa.map IrD.p) f x y ↔ ∃ a ∈ xa[ruL x].p, y ∈ ahd f a) := Lib.hid (fun y => by unfold StA; rw [hgd]; exact ⟨fun h => And.right h, fun h => And.intro h0 h⟩)
 obtain ⟨e, he⟩ : ∃ v, Hid (xa[ruL x] = v) := ⟨_, Lib.hid rfl⟩
 rw [he.out] at cb hm hN0
 obtain ⟨ed, ea, ec⟩ := e
 change _ = some (Value.slice ea ed.length ec) at cb
 have hal : AltsI W0 ea ec ed := hx4 _ hm
 have hdm : ed.length ≤ ec ∧ ec ≤ 9223372036854775807 := ⟨by have := hal.row.le; rwa [List.length_map] at this, hal.row.max⟩
 have hd30 : ed.length ≤ 30 := hf4 _ hm
 have Hd5 := Lib.hid (hf5 _ hm)
 dsimp only at Hd5
 have Hal := Lib.hid hal
 have cbw := (hb.cell (p := ⟨b, bo + ruL x, none⟩) hbbl).trans cb
 obtain ⟨R, hRd⟩ : ∃ R : Nat → List Int, Hid ((fun k => (ed.take k).flatMap (fun r => ahd f r.l)) = R) := ⟨_, Lib.hid rfl⟩
 have hR0 : Hid (R 0 = []) := Lib.hid (by rw [← hRd.out]; rfl)
 have hRe : Hid (∀ y, y ∈ R ed.length ↔ StA (xa.map IrD.p) f x y) := Lib.hid (fun y => by
  rw [← hRd.out, hN0.out]
  show y ∈ (ed.take ed.length).flatMap _ ↔ _
  rw [List.take_length, List.mem_flatMap]
  constructor
  ·rintro ⟨r, hr, hy⟩
   exact ⟨r.l, List.mem_map.2 ⟨r, hr, rfl⟩, hy⟩
  ·rintro ⟨a, ha, hy⟩
   obtain ⟨r, hr, rfl⟩ := List.mem_map.1 ha
   exact ⟨r, hr, hy⟩)
 have hRs : Hid (∀ k (hk : k < ed.length), R (k + 1) = R k ++ ahd f ed[k].l) := Lib.hid (fun k hk => by
  rw [← hRd.out]
  show (ed.take (k + 1)).flatMap _ = (ed.take k).flatMap _ ++ _
  rw [List.take_add_one, List.getElem?_eq_getElem hk, List.flatMap_append]
  simp)
 have hRl : Hid (∀ k, k ≤ ed.length → (R k).length ≤ k * 30) := Lib.hid (fun k hk => by
  induction k with
  | zero => rw [hR0.out]; simp
  | succ k ih =>
   rw [hRs.out k (by omega), List.length_append]
   have h1 := ih (by omega)
   have h2 := ahd_len (f := f) ed[k].l
   have h3 := (Hd5.out _ (List.getElem_mem (show k < ed.length by omega))).1
   omega)
 have hrI0 : (0 : Int) ≤ (ruL x : Int) := by omega
 obtain ⟨r, hr⟩ : ∃ r, Hid (ruL x = r) := ⟨_, Lib.hid rfl⟩
 rw [hr.out] at hrl cbw Hru hrI0
 obtain ⟨L, HL⟩ : ∃ q, Hid (xa.length = q) := ⟨_, Lib.hid rfl⟩
 obtain ⟨M, hM⟩ : ∃ q, Hid (ed.length = q) := ⟨_, Lib.hid rfl⟩
 rw [hM.out] at cbw hdm hd30 hRe hRl
 have hrI : (r : Int) < (L : Int) := by rw [← HL.out]; omega
 have hxm : xa.length ≤ xac ∧ xac ≤ 9223372036854775807 := ⟨by have := hx3.le; rwa [List.length_map] at this, hx3.max⟩
 have Hahd := Lib.hid (fun (s : List Int) (a : Option Addr) (cap : Nat) (W : World) (hb : Below W0.heap.size W0 W) (hs : Ints W0 a cap s) (hok : OkL xt.length xa.length s) => ahead_any xaa xa.length xac na xa.length nc f s a cap W (hnul0.grown hb) (hs.grown hb) (fun y hy => (hok y hy).1) (by omega))
 rw [HL.out] at hb1 hrl hxm hf1 hf2 Hahd
 rw [HL.out] at Hd5
 have HB1 := Lib.hid hb1
 have hbbs := hB.box.lt
 have HR0 : Hid (RchAtZ W W0.heap.size (W0.heap.size + 1 + 1) (W0.heap.size + 1) W0.heap.size n oa oc (adsR (R 0) (F, O)).1 (adsR (R 0) (F, O)).2) := Lib.hid (by rw [hR0.out]; exact hR)
 have hbW := hb.size
 have Hb := Lib.hid hb
 have HQ := Lib.hid hQ.out
 have x0 := hb1.cell 0
 have xl := hb1.lt
 simp only [List.getElem?_cons_zero] at x0
 have hbwl := Nat.lt_of_lt_of_le hbbl hbW
 have Hahd' : Hid (∀ (s : List Int) (a : Option Addr) (cap : Nat) (W : World), Below W0.heap.size W0 W → Ints W0 a cap s → OkL xt.length L s → Calls Try.prog 71 #[.agg #[.slice xaa L xac, .slice na L nc], .slice a s.length cap] W fun e w' => e = .returned (.tuple #[.slice a (ahd f s).length cap, .bool (emp f s)]) ∧ Below W.heap.size W w') := Hahd
 clear Hahd
 obtain ⟨base, hbase⟩ : ∃ q, Hid (W0.heap.size = q) := ⟨_, Lib.hid rfl⟩
 rw [hbase.out] at hbW HR0 hbbs Hahd' ⊢
 have hB0 : Hid (Below base W0 W) := Lib.hid (by rw [← hbase.out]; exact Hb.out)
 subst hba
 clear hR hb1 hx1 hx2 hx3 hx4 hnul0 hBw hb hB hf4 hf5 hQ hal hm cb hgd hbbl Hb
 have hcbl := hbwl
 go_enter Try.func90, Try.ntmps90
 go_wp2_with (fail)
 go_quiet ((go_at_call 89; exact Calls.quiet_of_same (Hru.out _)))
 have HR1 : Hid (∀ q, RchAtZ (W.drewN q) base (base + 1 + 1) (base + 1) base n oa oc (adsR (R 0) (F, O)).1 (adsR (R 0) (F, O)).2) := Lib.hid (fun q => HR0.out.below (below_dN9 (Below.refl _ _) q))
 have Hq : Hid (∀ q, Below base W (W.drewN q)) := Lib.hid (fun q => below_dN9 (Below.refl _ W) q)
 go_wp2_with (fail)
 go_loopw [18] (fun iv wr => ∃ (k n' : Nat) (a' : Option Addr) (c' : Nat), k ≤ M ∧ iv = .int .i64 (k : Int) ∧ Hid (n' ≤ n + (R k).length) ∧ Hid (RchAtZ wr base (base + 1 + 1) (base + 1) base n' a' c' (adsR (R k) (F, O)).1 (adsR (R k) (F, O)).2) ∧ Below base W wr) (fun iv _ => M - (RowKit.intOf iv).toNat)
 case atStart => exact ⟨0, n, oa, oc, Nat.zero_le _, rfl, Lib.hid (by omega), HR1.out _, Hq.out _⟩
 case round =>
  clear HR0 HR1 Hq x0 xl cbw hcbl hbwl
  obtain ⟨k, n', a', c', hk, rfl, hn', HA, hbr⟩ := hrel
  obtain ⟨U, rfl⟩ : ∃ U, U = wr := ⟨_, rfl⟩
  have hb0 : Below base W0 U := hB0.out.trans hbr
  have hb0' : Below W0.heap.size W0 U := by rw [hbase.out]; exact hb0
  by_cases hlt : k < M
  ·have hkI : (k : Int) < (M : Int) := by omega
   have hkI0 : (0 : Int) ≤ (k : Int) := by omega
   have hkl : k < ed.length := by rw [hM.out]; exact hlt
   have hst := Lib.hid (hRs.out k hkl)
   have hRk := hRl.out k (by omega)
   have hrow := Hal.out.row.grown hb0'
   obtain ⟨c, co, hc⟩ := hrow.at_ k (by rw [List.length_map]; exact hkl)
   have cc := hrow.cell c co hc k (by rw [List.length_map]; exact hkl)
   rw [List.getElem_map] at cc
   have hm : ed[k] ∈ ed := List.getElem_mem hkl
   obtain ⟨e, he⟩ : ∃ v, Hid (ed[k] = v) := ⟨_, Lib.hid rfl⟩
   rw [he.out] at cc hm hst
   have hblc := World.block_lt_of_cell? _ _ cc
   obtain ⟨el, ela, elc⟩ := e
   change _ = some (Value.slice ela el.length elc) at cc
   dsimp only at hst
   have hnd : Ints W0 ela elc el := Hal.out.nms _ hm
   have hem : el.length ≤ elc ∧ elc ≤ 9223372036854775807 := ⟨by have := hnd.le; rwa [List.length_map] at this, hnd.max⟩
   obtain ⟨h30, hok⟩ := Hd5.out _ hm
   dsimp only at h30 hok
   have Hc := Lib.hid (Hahd'.out el ela elc U hb0 hnd hok)
   have HAU := HB1.out.below hbr (Nat.lt_of_lt_of_le hbbs (Nat.le_refl _))
   have x0 := HAU.cell 0
   have x1 := HAU.cell 1
   have xl := HAU.lt
   simp only [List.getElem?_cons_zero, List.getElem?_cons_succ] at x0 x1
   have Hlow : Hid (ahd f el ≠ [] → ∀ g off, ela = some ⟨g, off, none⟩ → g < base) := Lib.hid (fun hne g off e2 => by
    have hl0 : 0 < el.length := by
     cases el with
     | nil => exact absurd rfl hne
     | cons _ _ => simp
    have := hnd.cell g off e2 0 (by rw [List.length_map]; exact hl0)
    rw [← hbase.out]
    exact World.block_lt_of_cell? _ _ this)
   have hal2 := ahd_len (f := f) el
   have Hint : Hid (Ints W0 ela elc (ahd f el)) := Lib.hid (ints_ahd hnd f)
   have Hfit : Hid (∀ y ∈ ahd f el, (Go.Lit.int .i64 y).wf = true) := Lib.hid (fun y hy => wf9 (by have := hok y (ahd_sub hy); omega))
   obtain ⟨E, hE⟩ : ∃ q, Hid (el.length = q) := ⟨_, Lib.hid rfl⟩
   rw [hE.out] at cc hem Hc h30 hal2
   obtain ⟨AH, hAH⟩ : ∃ q, Hid (ahd f el = q) := ⟨_, Lib.hid rfl⟩
   rw [hAH.out] at Hc Hlow Hint Hfit hst hal2
   have Hbr := Lib.hid hbr
   have Hb0 := Lib.hid hb0'
   have hUb := Nat.le_trans hbW hbr.size
   subst hc
   clear hm hnd hok hrow HAU hbr hb0 hb0'
   go_wp2_with (fail)
   refine Hc.out.mono ?_
   rintro e w3 ⟨rfl, hb3⟩
   have HA3 := Lib.hid (HA.out.below hb3)
   have Hb3 := Lib.hid (Hbr.out.trans (hb3.mono hUb))
   have Hw3 := Lib.hid (Hb0.out.trans (hb3.mono Hb0.out.size))
   have hU3 := Nat.le_trans hUb hb3.size
   clear hb3 x0 x1 xl cc hblc Hc
   have Hadd : Hid (Calls Try.prog 97 #[.slice ela AH.length elc, .pointer (some ⟨base + 1, 0, none⟩), .pointer (some ⟨base + 1 + 1, 0, none⟩)] w3 (AddQZ w3 base (base + 1 + 1) (base + 1) base n' (adsR (R k) (F, O)).1 (adsR (R k) (F, O)).2 AH)) := Lib.hid (by
    by_cases hz : AH = []
    ·subst hz
     refine (addNil_any ela elc (base + 1) (base + 1 + 1) w3).mono ?_
     rintro e w4 ⟨rfl, rfl⟩
     exact ⟨rfl, n', a', c', Nat.le_refl _, HA3.out, Below.refl _ _⟩
    ·refine addR_anyZ w3 base (base + 1 + 1) (base + 1) base n' a' c' _ _ AH ela elc HA3.out (Hint.out.grown Hw3.out) (fun g off e2 => ?_) Hfit.out ?_ ?_ hU3
     ·have hg := Hlow.out hz g off e2
      have hlo := HA3.out.lo
      refine ⟨by omega, by omega, Nat.lt_of_lt_of_le hg hU3, fun e3 => ?_⟩
      have := (World.ownsRow.lt HA3.out.own g e3).1
      omega
     ·have h1 := ads_part9 (l := R k) (m := []) (s := (F, O))
      dsimp only at h1
      omega
     ·have := hn'.out
      omega)
   obtain ⟨AL, hAL⟩ : ∃ q, Hid (AH.length = q) := ⟨_, Lib.hid rfl⟩
   rw [hAL.out] at Hadd ⊢
   obtain ⟨EF, hEF⟩ : ∃ q, Hid (emp f el = q) := ⟨_, Lib.hid rfl⟩
   rw [hEF.out]
   go_wp2_with (fail)
   refine Hadd.out.mono ?_
   rintro e w5 ⟨rfl, n5, a5, c5, hn5, hR5, hb5⟩
   have HR5 : Hid (RchAtZ w5 base (base + 1 + 1) (base + 1) base n5 a5 c5 (adsR (R (k + 1)) (F, O)).1 (adsR (R (k + 1)) (F, O)).2) := Lib.hid (by rw [hst.out, ads_app]; exact hR5)
   have Hb5 := Lib.hid (Hb3.out.trans hb5)
   have Hn5 : Hid (n5 ≤ n + (R (k + 1)).length) := Lib.hid (by rw [hst.out, List.length_append]; have := hn'.out; omega)
   clear hR5 hb5 hn5
   go_wp2_with (fail)
   exact ⟨⟨k + 1, n5, a5, c5, by omega, by go_num, Hn5, HR5, Hb5.out⟩, by simp [RowKit.intOf]; omega⟩
  ·have hke : k = M := by omega
   have hkI : ¬ (k : Int) < (M : Int) := by omega
   have hRM := hRl.out k (by omega)
   rw [hke] at hn' HA hRM
   clear hke hb0 hb0'
   have Hfin : Hid (Q (.returned (.tuple #[])) U) := Lib.hid (by rw [← HQ.out]; exact ⟨rfl, R M, n', a', c', hRe.out, by have h1 := hn'.out; omega, by rw [hbase.out]; exact HA.out, by rw [hbase.out]; exact hbr⟩)
   go_wp2_with (fail)
   first | exact Hfin.out | exact bodyPost_end (v := .tuple #[]) (by simp [results, Try.results90, go_sem]; try rfl) rfl Hfin.out
end Go.Proofs.Ytldmgifphkpdlaa
namespace Go.Proofs
open Go.Shelf
def Try.keysZ_ren : Go.Shelf.Ren := ⟨fun | 7 => 96 | 10 => 116 | n => n, fun | 23 => 79 | 26 => 3 | 3 => 86 | 28 => 125 | 0 => 0 | 27 => 124 | 33 => 80 | 4 => 4 | n => n, fun | n => n⟩
theorem Try.keysZ : Go.Proofs.SlLaysZI.n7 Try.prog Try.keysZ_ren := {
 mixed := by kernel_rfl
 f7 := ⟨Try.f96.name, by decide, Try.func96.trans (congrArg some (by kernel_rfl))⟩
 f10 := ⟨Try.f116.name, by decide, Try.func116.trans (congrArg some (by kernel_rfl))⟩
 t0 := Try.underlying0
 a0 := Try.isAgg0
 z0 := Try.sizeOf0
 v0 := Try.zeroValue0
 t4 := Try.underlying4
 a4 := Try.isAgg4
 z4 := Try.sizeOf4
 v4 := Try.zeroValue4
 t23 := Try.underlying79
 a23 := Try.isAgg79
 z23 := Try.sizeOf79
 v23 := Try.zeroValue79
 t26 := Try.underlying3
 a26 := Try.isAgg3
 z26 := Try.sizeOf3
 v26 := Try.zeroValue3
 t27 := Try.underlying124
 a27 := Try.isAgg124
 z27 := Try.sizeOf124
 v27 := Try.zeroValue124
 t28 := Try.underlying125
 a28 := Try.isAgg125
 z28 := Try.sizeOf125
 v28 := Try.zeroValue125
 t33 := Try.underlying80
 a33 := Try.isAgg80
 z33 := Try.sizeOf80
 v33 := Try.zeroValue80 }
def Try.sortedZ_ren : Go.Shelf.Ren := ⟨fun | 6 => 95 | 8 => 115 | 9 => 100 | 11 => 129 | 13 => 121 | 12 => 120 | 23 => 139 | 24 => 140 | 14 => 130 | 15 => 131 | 16 => 132 | 17 => 133 | 18 => 134 | 19 => 135 | 20 => 136 | 21 => 137 | 22 => 138 | 25 => 144 | 26 => 145 | 27 => 146 | 28 => 147 | 29 => 148 | 30 => 149 | 31 => 154 | n => n, fun | 26 => 3 | 28 => 125 | 24 => 35 | 0 => 0 | 3 => 3 | 37 => 127 | 48 => 157 | 50 => 160 | 4 => 4 | 40 => 173 | 39 => 172 | 45 => 178 | 5 => 5 | 9 => 9 | 51 => 184 | 55 => 188 | 57 => 193 | 58 => 194 | 33 => 80 | n => n, fun | n => n⟩
theorem Try.sortedZ : Go.Proofs.SlLaysZI.n6 Try.prog Try.sortedZ_ren := {
 mixed := by kernel_rfl
 f6 := ⟨Try.f95.name, by decide, Try.func95.trans (congrArg some (by kernel_rfl))⟩
 f8 := ⟨Try.f115.name, by decide, Try.func115.trans (congrArg some (by kernel_rfl))⟩
 f11 := ⟨Try.f129.name, by decide, Try.func129.trans (congrArg some (by kernel_rfl))⟩
 t0 := Try.underlying0
 a0 := Try.isAgg0
 z0 := Try.sizeOf0
 v0 := Try.zeroValue0
 t24 := Try.underlying35
 a24 := Try.isAgg35
 z24 := Try.sizeOf35
 v24 := Try.zeroValue35
 t26 := Try.underlying3
 a26 := Try.isAgg3
 z26 := Try.sizeOf3
 v26 := Try.zeroValue3
 t28 := Try.underlying125
 a28 := Try.isAgg125
 z28 := Try.sizeOf125
 v28 := Try.zeroValue125
 i26 := by kernel_rfl }
end Go.Proofs
