/- Texts joined: Kf Kh Ki Kj Jv Jw Jx Jz Jy We Wa Wb Jo Ju Jp Jq Jr Js Jt. -/
import Derived.Test.YthogiakfbgehnaaREAh
import Derived.Test.YthogiakfbgehnaaREAg
import Derived.Shelf.Bits.Mul64
import Derived.Test.YthogiakfbgehnaaProg
import Derived.Laws.CopyRow
import Derived.Test.YthogiakfbgehnaaREAf
import Derived.Test.YthogiakfbgehnaaREAa
import Derived.OrdersHeld
import Derived.Deep.RegionHeld
set_option linter.unusedVariables false
set_option linter.unusedSimpArgs false
namespace Go.Proofs.Ythogiakfbgehnaa
open Go.RowKit Go.Maps

attribute [local go_sem] Oper.semAt_some

end Go.Proofs.Ythogiakfbgehnaa

namespace Go.Proofs.Ythogiakfbgehnaa
open Go.RowKit

attribute [local go_sem] Oper.semAt_some

/-- How great a rule by numbers is. -/
def szJ (r : List (List Int)) : Nat := r.length + (r.map List.length).sum
theorem szJ_take (r : List (List Int)) (i : Nat) (h : i < r.length) : szJ (r.take (i + 1)) = szJ (r.take i) + (1 + r[i].length) := by
  unfold szJ
  rw [List.take_add_one, List.getElem?_eq_getElem h, List.map_append, List.sum_append_nat, List.length_append]
  simp
  omega
theorem szJ_le (r : List (List Int)) (i : Nat) : szJ (r.take i) ≤ szJ r := by
  have h : szJ r = szJ (r.take i) + szJ (r.drop i) := by
    unfold szJ
    conv => lhs; rw [← List.take_append_drop i r]
    rw [List.map_append, List.sum_append_nat, List.length_append]
    omega
  omega
theorem szC_take (al : List (List (List Int))) (k : Nat) (h : k < al.length) : szC (al.take (k + 1)) = szC (al.take k) + szJ al[k] := by
  unfold szC szJ
  rw [List.take_add_one, List.getElem?_eq_getElem h, List.map_append, List.sum_append_nat]
  simp
theorem szC_le (al : List (List (List Int))) (k : Nat) : szC (al.take k) ≤ szC al := by
  have h : szC al = szC (al.take k) + szC (al.drop k) := by
    unfold szC
    conv => lhs; rw [← List.take_append_drop k al]
    rw [List.map_append, List.sum_append_nat]
  omega

end Go.Proofs.Ythogiakfbgehnaa

namespace Go.Proofs.Ythogiakfbgehnaa
open Go.RowKit Go.Maps

attribute [local go_sem] Oper.semAt_some

/-- Whether all numbers of an alternative may be; of a rule. -/
def aOk (t n : Nat) (a : IltD) : Bool := a.l.all (okN t n)
def rOk (t n : Nat) (r : IrD) : Bool := r.ds.all (aOk t n)
theorem nums_ok (d : CfD) : numsB d.p = d.alts.all (rOk d.toks.length d.names.length) := by
  unfold numsB CfD.p
  dsimp only
  rw [List.all_map]
  congr 1
  funext r
  show r.p.all _ = r.ds.all _
  unfold IrD.p
  rw [List.all_map]
  rfl

set_option maxRecDepth 100000 in
set_option maxHeartbeats 16000000 in
theorem refBack_any (d : CfD) (w : World) (hd : CfAt w d) (hs : d.toks.length ≤ 1000000 ∧ d.names.length ≤ 1000000 ∧ ∀ r ∈ d.alts, r.ds.length ≤ 1000000 ∧ ∀ a ∈ r.ds, a.l.length ≤ 1000000)
    (hw : ∀ r ∈ d.alts, ∀ a ∈ r.ds, ∀ x ∈ a.l, -9223372036854775808 ≤ x ∧ x ≤ 9223372036854775807) :
    Calls Try.prog 99 #[d.v] w (BackQ w (backE d.p) (backG d.p)) := by
  have hnums := Lib.hid (nums_ok d)
  obtain ⟨xt, xta, xtc, xn, xna, xnc, xa, xaa, xac⟩ := d
  obtain ⟨hx1, hx2, hx3, hx4⟩ := hd
  have hP : Hid (CfD.p ⟨xt, xta, xtc, xn, xna, xnc, xa, xaa, xac⟩ = ⟨xt, xn, xa.map IrD.p⟩) := Lib.hid rfl
  dsimp only [CfD.v] at *
  have hb1 : Below w.heap.size w (w.alloc (.cells #[.slice xta xt.length xtc, .slice xna xn.length xnc, .slice xaa xa.length xac] 25)) := (Below.refl _ w).alloc (Nat.le_refl _) _
  have hA := Blk.new w 25 #[.slice xta xt.length xtc, .slice xna xn.length xnc, .slice xaa xa.length xac]
  have hb2 := hb1.trans (((Below.refl _ (w.alloc (.cells #[.slice xta xt.length xtc, .slice xna xn.length xnc, .slice xaa xa.length xac] 25))).alloc (Nat.le_refl _) (.cells #[.slice none 0 0] 124)).mono hb1.size)
  have hA2 := hA.alloc (.cells #[.slice none 0 0] 124)
  have hO := Blk.new (w.alloc (.cells #[.slice xta xt.length xtc, .slice xna xn.length xnc, .slice xaa xa.length xac] 25)) 124 #[.slice none 0 0]
  rw [show (w.alloc (.cells #[.slice xta xt.length xtc, .slice xna xn.length xnc, .slice xaa xa.length xac] 25)).heap.size = w.heap.size + 1 by simp] at hO
  have hxm : xa.length ≤ xac ∧ xac ≤ 9223372036854775807 := ⟨by have := hx3.le; rwa [List.length_map] at this, hx3.max⟩
  have hnm : xn.length ≤ xnc ∧ xnc ≤ 9223372036854775807 := ⟨by have := hx2.le; rwa [List.length_map] at this, hx2.max⟩
  have htm : xt.length ≤ xtc ∧ xtc ≤ 9223372036854775807 := ⟨by have := hx1.le; rwa [List.length_map] at this, hx1.max⟩
  rw [hP.out] at hnums ⊢
  obtain ⟨P, hPP⟩ : ∃ q, Hid ((⟨xt, xn, xa.map IrD.p⟩ : CfP) = q) := ⟨_, Lib.hid rfl⟩
  have hPt : Hid (P.toks = xt ∧ P.names = xn ∧ P.alts = xa.map IrD.p) := Lib.hid (by rw [← hPP.out]; exact ⟨rfl, rfl, rfl⟩)
  rw [hPP.out] at hnums ⊢
  obtain ⟨NB, hNB⟩ : ∃ q, Hid (numsB P = q) := ⟨_, Lib.hid rfl⟩
  rw [hNB.out] at hnums
  obtain ⟨Q, hQ⟩ : ∃ Q, Hid (BackQ w (backE P) (backG P) = Q) := ⟨_, Lib.hid rfl⟩
  rw [hQ.out]
  obtain ⟨T1, HT1⟩ : ∃ L, Hid (xt.length = L) := ⟨_, Lib.hid rfl⟩
  obtain ⟨N1, HN1⟩ : ∃ L, Hid (xn.length = L) := ⟨_, Lib.hid rfl⟩
  obtain ⟨L, HL⟩ : ∃ L, Hid (xa.length = L) := ⟨_, Lib.hid rfl⟩
  rw [HT1.out, HN1.out, HL.out] at hA hb1 hb2 hA2 hO ⊢
  rw [HT1.out, HN1.out] at hnums
  rw [HN1.out] at hnm
  rw [HT1.out] at htm
  rw [HL.out] at hxm
  rw [HT1.out, HN1.out] at hs
  have HX1 := Lib.hid hx1
  have HX2 := Lib.hid hx2
  have HX3 := Lib.hid hx3
  have HX4 := Lib.hid hx4
  have Hs := Lib.hid hs.2.2
  have Hw := Lib.hid hw
  have hs1 := hs.1
  have hs2 := hs.2.1
  have HA := Lib.hid hA2
  have HO := Lib.hid hO
  have Hb2 := Lib.hid hb2
  have x0 := hA2.cell 0
  have x1 := hA2.cell 1
  have x2 := hA2.cell 2
  have xl := hA2.lt
  have o0 := hO.cell 0
  have ol := hO.lt
  have of_ := hO.frozen 0
  simp only [List.getElem?_cons_zero, List.getElem?_cons_succ] at x0 x1 x2 o0
  obtain ⟨bx, hbx⟩ : ∃ q, Hid (w.heap.size = q) := ⟨_, Lib.hid rfl⟩
  have hbW : bx ≤ w.heap.size := by rw [hbx.out]; exact Nat.le_refl _
  have hlo : w.heap.size ≤ bx + 1 := by rw [hbx.out]; omega
  clear hA hb1 hA2 hO hb2 hx1 hx2 hx3 hx4 hs hw
  by_cases h1 : N1 = L
  case neg =>
    have hEE : Hid (backE P = 1) := Lib.hid (by unfold backE; exact if_neg (by rw [hPt.out.2.1, hPt.out.2.2, List.length_map, HN1.out, HL.out]; exact h1))
    have hne : ((N1 : Int) != (L : Int)) = true := by rw [bne_iff_ne]; omega
    have HN := Lib.hid h1
    clear h1
    go_enter Try.func99, Try.ntmps99
    go_wp2_with (fail)
    rw [hbx.out] at HO ol ⊢
    generalize hV : World.alloc (World.alloc w _) _ = V at HO Hb2 ⊢
    have hR := HO.out
    have hBB := Hb2.out
    have y0 := hR.cell 0
    simp only [List.getElem?_cons_zero] at y0
    refine bodyPost_ret (v := .tuple #[.agg #[.slice none 0 0], .int .i64 1]) (by simp [results, Try.results99, go_sem, y0]; try first | rfl | assumption | omega) rfl ?_
    rw [← hQ.out, hEE.out]
    exact ⟨[], none, 0, rfl, Rls.nil _, by rw [if_neg (by decide)]; rfl, hBB⟩
  case pos =>
  subst h1
  have heq : ((N1 : Int) != (N1 : Int)) = false := by simp
  have hE1 : Hid (NB = false → backE P = 1) := Lib.hid (fun h => by unfold backE; rw [hNB.out, h]; split <;> rfl)
  have hE0' : Hid (NB = true → backE P = 0) := Lib.hid (fun h => by unfold backE; rw [hNB.out, if_pos (by rw [hPt.out.2.1, hPt.out.2.2, List.length_map, HN1.out, HL.out]), if_pos h])
  go_enter Try.func99, Try.ntmps99
  go_wp2_with (fail)
  rw [hbx.out] at HA HO ⊢
  have hsz3 : (World.alloc (World.alloc w (.cells #[.slice xta T1 xtc, .slice xna N1 xnc, .slice xaa N1 xac] 25)) (.cells #[.slice none 0 0] 124)).heap.size = bx + 1 + 1 := by simp [hbx.out]
  generalize hV : World.alloc (World.alloc w _) _ = w3 at HA HO Hb2 hsz3 ⊢
  clear hV x0 x1 x2 xl o0 ol of_
  have HA3 := HA
  have HO3 := HO
  have Hb3 := Hb2
  clear HA HO Hb2
  have hg1 : Below w3.heap.size w3 (w3.alloc (.cells #[.slice none 0 0] 124)) := (Below.refl _ w3).alloc (Nat.le_refl _) _
  have HK : Hid (BkSt w3 (w3.alloc (.cells #[.slice none 0 0] 124)) w3.heap.size P 0 none 0 []) := Lib.hid ⟨Blk.new w3 124 #[.slice none 0 0], World.ownsRow_nil _ _ _ 2, rfl, fun r h => (by cases h), by unfold grP; simp [backR], hg1⟩
  have x2 := HA3.out.cell 2
  have xl := HA3.out.lt
  simp only [List.getElem?_cons_zero, List.getElem?_cons_succ] at x2
  have hrb : bx + 1 < w3.heap.size := HO3.out.lt
  clear hg1
  go_wp2_with (fail)
  obtain ⟨cb, hcb⟩ : ∃ q, Hid (w3.heap.size = q) := ⟨_, Lib.hid rfl⟩
  try rw [show bx + 1 + 1 = cb from hsz3.symm.trans hcb.out]
  rw [hcb.out] at HK hrb
  try rw [hcb.out]
  generalize hW : World.alloc w3 _ = V4 at HK ⊢
  clear hW x2 xl
  have hwc : w.heap.size ≤ cb := by rw [← hcb.out]; exact Hb3.out.size
  go_loopw [24] (fun iv wr => ∃ (k : Nat) (ga : Option Addr) (gc : Nat) (rs : List RlD), k ≤ N1 ∧ iv = .int .i64 (k : Int) ∧ Hid (BkSt w3 wr cb P k ga gc rs) ∧ Hid (NB = (xa.drop k).all (rOk T1 N1))) (fun iv _ => N1 - (intOf iv).toNat)
  case atStart => exact ⟨0, none, 0, [], Nat.zero_le _, rfl, HK, hnums⟩
  case round =>
    clear HK hnums
    obtain ⟨k, ga, gc, rs, hk, rfl, HS, HB0⟩ := hrel
    have hfr : Below w.heap.size w wr := Hb3.out.trans (HS.out.frm.mono hwc)
    have hf9 : Below w3.heap.size w3 wr := by have := HS.out.frm; rw [← hcb.out] at this; exact this
    by_cases hlt : k < N1
    · have hkI : (k : Int) < (N1 : Int) := by omega
      have hkI0 : (0 : Int) ≤ (k : Int) := by omega
      have hkl : k < xa.length := by rw [HL.out]; exact hlt
      have hkn : k < xn.length := by rw [HN1.out]; exact hlt
      obtain ⟨b, off, rfl⟩ := HX3.out.at_ k (by rw [List.length_map]; exact hkl)
      have c0 := (HX3.out.grown hfr).cell b off rfl k (by rw [List.length_map]; exact hkl)
      obtain ⟨b2, off2, rfl⟩ := HX2.out.at_ k (by rw [List.length_map]; exact hkn)
      have n0 := (HX2.out.grown hfr).cell b2 off2 rfl k (by rw [List.length_map]; exact hkn)
      rw [List.getElem_map] at c0 n0
      have hm : xa[k] ∈ xa := List.getElem_mem hkl
      have hst : Hid (backR P.toks P.names (P.names.take (k + 1)) (P.alts.take (k + 1)) = backR P.toks P.names (P.names.take k) (P.alts.take k) ++ [(xn[k], xa[k].p.map (fun x => x.map (nmP xt xn)))]) := Lib.hid (by
        have h1 := backR_take xt xn xn (xa.map IrD.p) k hkn (by rw [List.length_map]; exact hkl)
        rw [List.getElem_map] at h1
        rw [hPt.out.1, hPt.out.2.1, hPt.out.2.2]
        exact h1)
      have hdr : Hid (xa.drop k = xa[k] :: xa.drop (k + 1)) := Lib.hid (List.drop_eq_getElem_cons hkl)
      obtain ⟨e, he⟩ : ∃ v, Hid (xa[k] = v) := ⟨_, Lib.hid rfl⟩
      obtain ⟨nm, hnme⟩ : ∃ v, Hid (xn[k] = v) := ⟨_, Lib.hid rfl⟩
      rw [he.out] at c0 hm hst hdr
      rw [hnme.out] at n0 hst
      have hsz := Hs.out e hm
      have hal := HX4.out e hm
      have hwe := Hw.out e hm
      obtain ⟨ed, ea, ec⟩ := e
      change _ = some (Value.slice ea ed.length ec) at c0
      dsimp only at hsz hal hwe
      obtain ⟨RK, hRK⟩ : ∃ q, Hid ((xa.drop (k + 1)).all (rOk T1 N1) = q) := ⟨_, Lib.hid rfl⟩
      have HB1 : Hid (NB = (ed.all (aOk T1 N1) && RK)) := Lib.hid (by rw [HB0.out, hdr.out, List.all_cons, hRK.out]; rfl)
      have hstp : Hid ((⟨ed, ea, ec⟩ : IrD).p.map (fun x => x.map (nmP xt xn)) = ed.map (fun a => a.l.map (nmP xt xn))) := Lib.hid (by simp [IrD.p, List.map_map])
      rw [hstp.out] at hst
      have Hst := Lib.hid hst
      have hbl := World.block_lt_of_cell? wr _ c0
      have hbl2 := World.block_lt_of_cell? wr _ n0
      have hem : ed.length ≤ ec ∧ ec ≤ 9223372036854775807 := ⟨by have := hal.row.le; rwa [List.length_map] at this, hal.row.max⟩
      obtain ⟨ED, hED⟩ : ∃ q, Hid (ed.length = q) := ⟨_, Lib.hid rfl⟩
      rw [hED.out] at c0 hsz hem
      have hszE := hsz.1
      have Hsz := Lib.hid hsz.2
      have Hal := Lib.hid hal
      have Hwe := Lib.hid hwe
      have hAw := HA3.out.below hf9 HA3.out.lt
      have x1 := hAw.cell 1
      have xl := hAw.lt
      simp only [List.getElem?_cons_zero, List.getElem?_cons_succ] at x1
      have Hfr := Lib.hid hfr
      have Hf9 := Lib.hid hf9
      have hc3 : cb ≤ wr.heap.size := by rw [← hcb.out]; exact hf9.size
      have hgV : Below wr.heap.size wr (wr.alloc (.cells #[.string nm, .slice none 0 0] 177)) := (Below.refl _ wr).alloc (Nat.le_refl _) _
      have HBx := Lib.hid (Blk.new wr 177 #[.string nm, .slice none 0 0])
      clear hm hal hsz hwe hAw hst hfr hf9 HB0
      go_wp2_with (fail)
      clear c0 n0 hbl hbl2 x1 xl
      obtain ⟨W0, rfl⟩ : ∃ W0, W0 = wr := ⟨_, rfl⟩
      obtain ⟨rb, hrbe⟩ : ∃ q, Hid (W0.heap.size = q) := ⟨_, Lib.hid rfl⟩
      rw [hrbe.out] at HBx hgV hc3 ⊢
      generalize hV : World.alloc W0 _ = V0 at HBx hgV ⊢
      clear hV
      go_loopw [37] (fun iv wr => ∃ (j : Nat) (a2 : Option Addr) (c2 : Nat) (ds2 : List AltD), j ≤ ED ∧ iv = .int .i64 (j : Int) ∧ Hid (Blk wr rb 177 [.string nm, .slice a2 j c2]) ∧ Hid (ds2.length = j) ∧ Hid (OwnXS wr rb a2 c2 ds2) ∧ Hid (ds2.map AltD.l = (ed.take j).map (fun a => a.l.map (nmP xt xn))) ∧ Hid (NB = ((ed.drop j).all (aOk T1 N1) && RK)) ∧ Below rb W0 wr) (fun iv _ => ED - (intOf iv).toNat)
      case atStart => exact ⟨0, none, 0, [], Nat.zero_le _, rfl, HBx, Lib.hid rfl, Lib.hid ⟨World.ownsRow_nil _ _ _ 1, fun d h => by cases h⟩, Lib.hid rfl, HB1, hgV⟩
      case round =>
        clear HBx hgV HB1
        obtain ⟨j, a2, c2, ds2, hj, rfl, HBx, Hd2, HX, Hm2, HB1, hbr⟩ := hrel
        have hbr' : Below W0.heap.size W0 wr := by rw [hrbe.out]; exact hbr
        have hrw : rb ≤ wr.heap.size := by rw [← hrbe.out]; exact hbr.size
        have hfr2 : Below w.heap.size w wr := Hfr.out.trans (hbr'.mono Hfr.out.size)
        have hf92 : Below w3.heap.size w3 wr := Hf9.out.trans (hbr'.mono Hf9.out.size)
        by_cases hlt2 : j < ED
        · have hjI : (j : Int) < (ED : Int) := by omega
          have hjI0 : (0 : Int) ≤ (j : Int) := by omega
          have hje : j < ed.length := by rw [hED.out]; exact hlt2
          have hAw := Hal.out.grown hfr2
          obtain ⟨b3, o3, rfl⟩ := hAw.row.at_ j (by rw [List.length_map]; exact hje)
          have f0 := hAw.row.cell b3 o3 rfl j (by rw [List.length_map]; exact hje)
          rw [List.getElem_map] at f0
          have hu := hAw.nms _ (List.getElem_mem hje)
          have hNu := Hsz.out _ (List.getElem_mem hje)
          have hwu := Hwe.out _ (List.getElem_mem hje)
          have hst2 : Hid ((ed.take (j + 1)).map (fun a => a.l.map (nmP xt xn)) = (ed.take j).map (fun a => a.l.map (nmP xt xn)) ++ [ed[j].l.map (nmP xt xn)]) := Lib.hid (by rw [List.take_add_one, List.getElem?_eq_getElem hje, List.map_append]; rfl)
          have hdr2 : Hid (ed.drop j = ed[j] :: ed.drop (j + 1)) := Lib.hid (List.drop_eq_getElem_cons hje)
          obtain ⟨u, hud⟩ : ∃ v, Hid (ed[j] = v) := ⟨_, Lib.hid rfl⟩
          rw [hud.out] at f0 hu hNu hst2 hwu hdr2
          unfold IltD.v at f0
          obtain ⟨ul, ua, uc⟩ := u
          dsimp only at f0 hu hNu hst2 hwu
          obtain ⟨N, hN⟩ : ∃ q, Hid (ul.length = q) := ⟨_, Lib.hid rfl⟩
          rw [hN.out] at f0 hNu
          obtain ⟨RJ, hRJ⟩ : ∃ q, Hid (((ed.drop (j + 1)).all (aOk T1 N1) && RK) = q) := ⟨_, Lib.hid rfl⟩
          have HB2 : Hid (NB = (ul.all (okN T1 N1) && RJ)) := Lib.hid (by rw [HB1.out, hdr2.out, List.all_cons, Bool.and_assoc, hRJ.out]; rfl)
          have HU := Lib.hid hu
          have Hwu := Lib.hid hwu
          have hbl := World.block_lt_of_cell? wr _ f0
          clear hu hwu hAw HB1
          go_wp2_with (fail)
          clear f0 hbl
          obtain ⟨V2, rfl⟩ : ∃ V2, V2 = wr := ⟨_, rfl⟩
          have HAw := Lib.hid (HA3.out.below hf92 HA3.out.lt)
          have HOw := Lib.hid (HO3.out.below hf92 HO3.out.lt)
          have HTw := Lib.hid (HX1.out.grown hfr2)
          have HNw := Lib.hid (HX2.out.grown hfr2)
          have Hfr2 := Lib.hid hfr2
          clear hfr2 hf92 hbr'
          obtain ⟨g2, hg2⟩ : ∃ q, Hid (V2.heap.size = q) := ⟨_, Lib.hid rfl⟩
          go_loopw [10, 43] (fun s iv wr => ∃ (i : Nat) (a3 : Option Addr) (c3 : Nat), i ≤ N ∧ iv = .int .i64 (i : Int) ∧ s = .slice a3 i c3 ∧ Hid (wr.ownsRow g2 9 1 (.slice a3 i c3) i ((ul.take i).map (fun x => Value.string (nmP xt xn x)))) ∧ Hid (NB = ((ul.drop i).all (okN T1 N1) && RJ)) ∧ Below g2 V2 wr) (fun _ iv _ => N - (intOf iv).toNat)
          case atStart => exact ⟨0, none, 0, Nat.zero_le _, rfl, rfl, Lib.hid (World.ownsRow_nil _ _ _ 1), HB2, Below.refl _ V2⟩
          case round =>
            clear HB2
            obtain ⟨i, a3, c3, hi, rfl, rfl, HO3r, HB3, hbi⟩ := hrel
            have hbi' : Below V2.heap.size V2 wr := by rw [hg2.out]; exact hbi
            have hg2w : g2 ≤ wr.heap.size := by rw [← hg2.out]; exact hbi.size
            by_cases hlt3 : i < N
            · have hiI : (i : Int) < (N : Int) := by omega
              have hiI0 : (0 : Int) ≤ (i : Int) := by omega
              have hil : i < ul.length := by rw [hN.out]; exact hlt3
              have hUw := HU.out.grown hbi'
              obtain ⟨b4, o4, rfl⟩ := hUw.at_ i (by rw [List.length_map]; exact hil)
              have m0 := hUw.cell b4 o4 rfl i (by rw [List.length_map]; exact hil)
              rw [List.getElem_map] at m0
              have hwx := Hwu.out _ (List.getElem_mem hil)
              have htk : Hid ((ul.take (i + 1)).map (fun x => Value.string (nmP xt xn x)) = (ul.take i).map (fun x => Value.string (nmP xt xn x)) ++ [.string (nmP xt xn ul[i])]) := Lib.hid (by rw [List.take_add_one, List.getElem?_eq_getElem hil, List.map_append]; rfl)
              have hdr3 : Hid (ul.drop i = ul[i] :: ul.drop (i + 1)) := Lib.hid (List.drop_eq_getElem_cons hil)
              obtain ⟨y, hy⟩ : ∃ v, Hid (ul[i] = v) := ⟨_, Lib.hid rfl⟩
              rw [hy.out] at m0 hwx htk hdr3
              have HB4 : Hid (NB = (okN T1 N1 y && ((ul.drop (i + 1)).all (okN T1 N1) && RJ))) := Lib.hid (by rw [HB3.out, hdr3.out, List.all_cons, Bool.and_assoc])
              have hbl := World.block_lt_of_cell? wr _ m0
              have hAi := HAw.out.below hbi' HAw.out.lt
              have hOi := HOw.out.below hbi' HOw.out.lt
              have HOi := Lib.hid hOi
              have Hfi := Lib.hid (Hfr2.out.trans (hbi'.mono Hfr2.out.size))
              have HTi := Lib.hid (HTw.out.grown hbi')
              have HNi := Lib.hid (HNw.out.grown hbi')
              have x0 := hAi.cell 0
              have x1 := hAi.cell 1
              have xl := hAi.lt
              have o0 := hOi.cell 0
              have ol := hOi.lt
              have of_ := hOi.frozen 0
              simp only [List.getElem?_cons_zero, List.getElem?_cons_succ] at x0 x1 o0
              clear hAi hOi hUw HB3 hdr3
              by_cases hok : okN T1 N1 y = true
              · obtain ⟨hok1, hok2⟩ := okN_iff.1 hok
                have HB5 : Hid (NB = ((ul.drop (i + 1)).all (okN T1 N1) && RJ)) := Lib.hid (by rw [HB4.out, hok]; rfl)
                obtain ⟨sv, hsv⟩ : ∃ v, Hid (nmP xt xn y = v) := ⟨_, Lib.hid rfl⟩
                rw [hsv.out] at htk
                obtain ⟨a4, c4, w5, hrun, ho4, hg4⟩ := run_pushV wr 22 22 9 (.string ⟨#[]⟩) 1 16 Try.underlying22 info_str rfl (by decide) (by decide) [.string sv] rfl (by simp [Value.oneCell']) HO3r.out (by omega) hg2w
                have hb5 := Lib.hid (hbi.trans (belowAt hg4 (B := g2) (fun g e => (own_typ HO3r.out g e).1) hg2w))
                have HO4 : Hid (w5.ownsRow g2 9 1 (.slice a4 (i + 1) c4) (i + 1) ((ul.take (i + 1)).map (fun x => Value.string (nmP xt xn x)))) := Lib.hid (by rw [htk.out]; exact ho4)
                have Hrun := Lib.hid hrun
                clear ho4 hg4 htk HO3r hrun hbi' HB4 hok
                by_cases hneg : y < 0
                · obtain ⟨m, hm⟩ : ∃ m : Nat, y = -1 - (m : Int) := ⟨(-1 - y).toNat, by omega⟩
                  have hml : m < xn.length := by rw [HN1.out]; omega
                  have hmx : m < N1 := by omega
                  obtain ⟨b5, o5, h5⟩ := HNi.out.at_ m (by rw [List.length_map]; exact hml)
                  have s0 := HNi.out.cell b5 o5 h5 m (by rw [List.length_map]; exact hml)
                  injection h5 with h5
                  injection h5 with h5a h5b
                  subst h5a
                  subst h5b
                  rw [List.getElem_map] at s0
                  have hv : xn[m] = sv := by
                    rw [← hsv.out]
                    unfold nmP
                    rw [if_pos hneg, show (-1 - y).toNat = m by omega, List.getD_eq_getElem?_getD, List.getElem?_eq_getElem hml]
                    rfl
                  rw [hv] at s0
                  have hbl5 := World.block_lt_of_cell? wr _ s0
                  have e2 : (m : Int) < (N1 : Int) := by omega
                  have e3 : (0 : Int) ≤ (m : Int) := by omega
                  have hn0 : ¬ (0 : Int) ≤ y := by omega
                  subst hm
                  have e4 : IntKind.i64.wrap (-1 - (-1 - (m : Int))) = (m : Int) := by rw [show (-1 : Int) - (-1 - (m : Int)) = (m : Int) by omega]; exact IntWalk.i64_in _ (by omega)
                  clear hsv hv hml hy
                  go_wp2_with (at_builtin; refine wpList_append_run rfl _ _ 22 22 rfl _ _ _ _ rfl rfl Hrun.out ?_)
                  exact ⟨⟨i + 1, a4, c4, by omega, by go_num, rfl, HO4, HB5, hb5.out⟩, by simp [intOf]; omega⟩
                · obtain ⟨m, rfl⟩ : ∃ m : Nat, y = (m : Int) := ⟨y.toNat, by omega⟩
                  have hml : m < xt.length := by rw [HT1.out]; omega
                  obtain ⟨b5, o5, h5⟩ := HTi.out.at_ m (by rw [List.length_map]; exact hml)
                  subst h5
                  have s0 := HTi.out.cell b5 o5 rfl m (by rw [List.length_map]; exact hml)
                  rw [List.getElem_map] at s0
                  have hv : xt[m] = sv := by
                    rw [← hsv.out]
                    unfold nmP
                    rw [if_neg hneg, Int.toNat_natCast, List.getD_eq_getElem?_getD, List.getElem?_eq_getElem hml]
                    rfl
                  rw [hv] at s0
                  have hbl5 := World.block_lt_of_cell? wr _ s0
                  have e2 : (m : Int) < (T1 : Int) := by omega
                  have e3 : (0 : Int) ≤ (m : Int) := by omega
                  clear hsv hv hml hy hneg
                  go_wp2_with (at_builtin; refine wpList_append_run rfl _ _ 22 22 rfl _ _ _ _ rfl rfl Hrun.out ?_)
                  exact ⟨⟨i + 1, a4, c4, by omega, by go_num, rfl, HO4, HB5, hb5.out⟩, by simp [intOf]; omega⟩
              · have hbad : Hid (backE P = 1) := Lib.hid (hE1.out (by rw [HB4.out, Bool.eq_false_iff.2 hok]; rfl))
                have hEE := hbad
                have hno : ¬ (-(N1 : Int) ≤ y ∧ y < (T1 : Int)) := fun h => hok (okN_iff.2 h)
                clear HB4 htk HO3r hbi' hok hbad
                by_cases hneg : y < 0
                · have e1 : ¬ (-1 - y : Int) < (N1 : Int) := by omega
                  have hn0 : ¬ (0 : Int) ≤ y := by omega
                  have e4 : IntKind.i64.wrap (-1 - y) = -1 - y := IntWalk.i64_in _ (by omega)
                  go_wp2_with (fail)
                  have hR := HOi.out.set 0 (.slice none 0 0)
                  have hBB : Below w.heap.size w (wr.setCell ⟨bx + 1, 0, none⟩ (.slice none 0 0)) := Hfi.out.setCell hlo _
                  generalize hW : World.setCell wr _ _ = W9 at hR hBB ⊢
                  simp only [List.set_cons_zero] at hR
                  have y0 := hR.cell 0
                  simp only [List.getElem?_cons_zero] at y0
                  refine bodyPost_ret (v := .tuple #[.agg #[.slice none 0 0], .int .i64 1]) (by simp [results, Try.results99, go_sem, y0]; try first | rfl | assumption | omega) rfl ?_
                  rw [← hQ.out, hEE.out]
                  exact ⟨[], none, 0, rfl, Rls.nil _, by rw [if_neg (by decide)]; rfl, hBB⟩
                · have hn0 : (0 : Int) ≤ y := by omega
                  have e1 : ¬ y < (T1 : Int) := by omega
                  go_wp2_with (fail)
                  have hR := HOi.out.set 0 (.slice none 0 0)
                  have hBB : Below w.heap.size w (wr.setCell ⟨bx + 1, 0, none⟩ (.slice none 0 0)) := Hfi.out.setCell hlo _
                  generalize hW : World.setCell wr _ _ = W9 at hR hBB ⊢
                  simp only [List.set_cons_zero] at hR
                  have y0 := hR.cell 0
                  simp only [List.getElem?_cons_zero] at y0
                  refine bodyPost_ret (v := .tuple #[.agg #[.slice none 0 0], .int .i64 1]) (by simp [results, Try.results99, go_sem, y0]; try first | rfl | assumption | omega) rfl ?_
                  rw [← hQ.out, hEE.out]
                  exact ⟨[], none, 0, rfl, Rls.nil _, by rw [if_neg (by decide)]; rfl, hBB⟩
            · obtain rfl : i = N := by omega
              have hiI : ¬ (i : Int) < (i : Int) := by omega
              have hul : ul.take i = ul := List.take_of_length_le (by rw [hN.out]; exact Nat.le_refl _)
              have HB5 : Hid (NB = ((ed.drop (j + 1)).all (aOk T1 N1) && RK)) := Lib.hid (by rw [HB3.out, List.drop_eq_nil_of_le (by rw [hN.out]; exact Nat.le_refl _), hRJ.out]; rfl)
              have HXw := HX.out.below hbi'
              have hBw := HBx.out.below hbi' HBx.out.lt
              have hrg : rb ≤ g2 := by rw [← hg2.out]; exact hrw
              have hout := HXw.out
              rw [Hd2.out] at hout
              obtain ⟨a4, c4, w5, hrun, ho4, hg4⟩ := run_pushV wr 175 175 22 (.slice none 0 0) 1 24 Try.underlying175 info_rowS rfl (by decide) (by decide) [.slice a3 i c3] rfl (by simp [Value.oneCell']) hout (by omega) (Nat.le_trans hrg hg2w)
              have rowA : ∀ g, (Value.slice a2 j c2).ownBlock = some g → ∃ cur t fr, wr.heap[g]? = some (.cells cur t fr) ∧ t = 22 := fun g h1 => (by obtain ⟨_, cur, h2⟩ := own_typ hout g h1; exact ⟨cur, _, _, h2, rfl⟩)
              have hnew := own_kept_ty (own_mono HO3r.out hrg) hg4 (fun g h1 => by obtain ⟨cur, t, fr, h2, rfl⟩ := rowA g h1; exact ⟨cur, _, fr, h2, by decide⟩)
              have hold := fun d hd => own_kept_ty (HXw.ins d hd) hg4 (fun g h1 => by obtain ⟨cur, t, fr, h2, rfl⟩ := rowA g h1; exact ⟨cur, _, fr, h2, by decide⟩)
              have hB5 := hBw.kept hg4 (fun h1 => own_ne_ty hout hBw (by decide) h1.symm)
              have hgS := grownBy_set w5 rb 1 (.slice a4 (j + 1) c4)
              have boxS : ∀ g, some rb = some g → ∃ cur t fr, w5.heap[g]? = some (.cells cur t fr) ∧ t = 177 := fun g h1 => (by injection h1 with h1; subst h1; exact ⟨_, _, _, hB5, rfl⟩)
              have hB6 := hB5.set 1 (.slice a4 (j + 1) c4)
              simp only [List.set_cons_zero, List.set_cons_succ] at hB6
              have ho5 := own_kept_ty ho4 hgS (fun g h1 => by obtain ⟨cur, t, fr, h2, rfl⟩ := boxS g h1; exact ⟨cur, _, fr, h2, by decide⟩)
              have hnew5 := own_kept_ty hnew hgS (fun g h1 => by obtain ⟨cur, t, fr, h2, rfl⟩ := boxS g h1; exact ⟨cur, _, fr, h2, by decide⟩)
              have hold5 := fun d hd => own_kept_ty (hold d hd) hgS (fun g h1 => by obtain ⟨cur, t, fr, h2, rfl⟩ := boxS g h1; exact ⟨cur, _, fr, h2, by decide⟩)
              have HX2 : Hid (OwnXS (w5.setCell ⟨rb, 1, none⟩ (.slice a4 (j + 1) c4)) rb a4 c4 (ds2 ++ [⟨ul.map (nmP xt xn), a3, c3⟩])) := Lib.hid ⟨by
                rw [List.length_append, Hd2.out, List.map_append]
                show World.ownsRow _ rb 22 1 (.slice a4 (j + 1) c4) (j + 1) (ds2.map AltD.v ++ [.slice a3 (ul.map (nmP xt xn)).length c3])
                rw [List.length_map, hN.out]
                exact ho5, fun d hd => by
                rcases List.mem_append.1 hd with hd | hd
                · exact hold5 d hd
                · rw [List.mem_singleton] at hd
                  subst hd
                  dsimp only
                  rw [List.length_map, hN.out, List.map_map]
                  rw [hul] at hnew5
                  exact hnew5⟩
              have hb5 := Lib.hid ((hbr.trans ((hbi'.mono hrw).trans (belowAt hg4 (B := rb) (fun g e => (own_typ hout g e).1) (Nat.le_trans hrg hg2w)))).trans (belowAt hgS (B := rb) (fun g e => by injection e with e; omega) (Nat.le_trans (Nat.le_trans hrg hg2w) hg4.size)))
              have Hm3 : Hid ((ds2 ++ [(⟨ul.map (nmP xt xn), a3, c3⟩ : AltD)]).map AltD.l = (ed.take (j + 1)).map (fun a => a.l.map (nmP xt xn))) := Lib.hid (by rw [List.map_append, Hm2.out, hst2.out]; rfl)
              have Hd3 : Hid ((ds2 ++ [(⟨ul.map (nmP xt xn), a3, c3⟩ : AltD)]).length = j + 1) := Lib.hid (by rw [List.length_append, Hd2.out]; rfl)
              have HB6 := Lib.hid hB6
              have Hrun := Lib.hid hrun
              have q1 := hBw.cell 1
              have ql := hBw.lt
              have p1 := hB5.cell 1
              have pl := hB5.lt
              have pf := hB5.frozen 1
              simp only [List.getElem?_cons_zero, List.getElem?_cons_succ] at q1 p1
              clear hrun hout rowA hnew hold ho4 hg4 HXw hul hbi' hBw hB5 hgS boxS hB6 ho5 hnew5 hold5
              go_wp2_with (at_builtin; refine wpList_append_run rfl _ _ 175 175 rfl _ _ _ _ rfl rfl Hrun.out ?_)
              exact ⟨⟨j + 1, a4, c4, _, by omega, by go_num, HB6, Hd3, HX2, Hm3, HB5, hb5.out⟩, by simp [intOf]; omega⟩
        · obtain rfl : j = ED := by omega
          have hjI : ¬ (j : Int) < (j : Int) := by omega
          have hds : ed.take j = ed := List.take_of_length_le (by rw [hED.out]; exact Nat.le_refl _)
          have HB5 : Hid (NB = (xa.drop (k + 1)).all (rOk T1 N1)) := Lib.hid (by rw [HB1.out, List.drop_eq_nil_of_le (by rw [hED.out]; exact Nat.le_refl _), hRK.out]; rfl)
          have hc4 := Nat.le_trans hc3 hrw
          have hC4 := HS.out.box.below hbr' HS.out.box.lt
          have hR4 : OwnR wr cb ga gc rs := World.ownsRow.kept HS.out.row (below_grownBy hbr' none) (by cases e : (Value.slice ga rs.length gc).ownBlock <;> simp)
          have hX4 := fun x hx => (HS.out.ins x hx).below hbr'
          have hc0 : cb ≤ W0.heap.size := by rw [hrbe.out]; exact hc3
          have hF4 := HS.out.frm.trans (hbr'.mono hc0)
          have hx4m := HX.out.mono hc3
          obtain ⟨ga2, gc2, W5, hrun5, hr5, hg5, _⟩ := OwnR.push8 hR4 ⟨nm, ds2, a2, c2⟩ 122 (by rw [HS.out.len]; omega) hc4
          dsimp only at hrun5
          rw [Hd2.out, HS.out.len] at hrun5
          have rowA : ∀ g, (Value.slice ga rs.length gc).ownBlock = some g → ∃ cur t fr, wr.heap[g]? = some (.cells cur t fr) ∧ t = 177 := fun g h1 => (by obtain ⟨_, cur, h2⟩ := own_typ hR4 g h1; exact ⟨cur, _, _, h2, rfl⟩)
          have hC5 := hC4.kept hg5 (fun h1 => own_ne_ty hR4 hC4 (by decide) h1.symm)
          have hX5 := fun x hx => (hX4 x hx).kept hg5 (fun g h1 => by obtain ⟨cur, t, fr, h2, rfl⟩ := rowA g h1; exact ⟨cur, _, fr, h2, by decide, by decide⟩)
          have hx5 := hx4m.kept hg5 (fun g h1 => by obtain ⟨cur, t, fr, h2, rfl⟩ := rowA g h1; exact ⟨cur, _, fr, h2, by decide, by decide⟩)
          have hF5 := hF4.trans (belowAt hg5 (B := cb) (fun g h1 => (own_typ hR4 g h1).1) hc4)
          have hc5 := Nat.le_trans hc4 hg5.size
          have hgS := grownBy_set W5 cb 0 (.slice ga2 (k + 1) gc2)
          have boxS : ∀ g, some cb = some g → ∃ cur t fr, W5.heap[g]? = some (.cells cur t fr) ∧ t = 124 := fun g h1 => (by injection h1 with h1; subst h1; exact ⟨_, _, _, hC5, rfl⟩)
          have hC6 := hC5.set 0 (.slice ga2 (k + 1) gc2)
          simp only [List.set_cons_zero, List.set_cons_succ] at hC6
          have hr6 := own_kept_ty hr5 hgS (fun g h1 => by obtain ⟨cur, t, fr, h2, rfl⟩ := boxS g h1; exact ⟨cur, _, fr, h2, by decide⟩)
          have hX6 := fun x hx => (hX5 x hx).kept hgS (fun g h1 => by obtain ⟨cur, t, fr, h2, rfl⟩ := boxS g h1; exact ⟨cur, _, fr, h2, by decide, by decide⟩)
          have hx6 := hx5.kept hgS (fun g h1 => by obtain ⟨cur, t, fr, h2, rfl⟩ := boxS g h1; exact ⟨cur, _, fr, h2, by decide, by decide⟩)
          have hF6 := hF5.trans (belowAt hgS (B := cb) (fun g h1 => by injection h1 with h1; omega) hc5)
          have HNb : Hid (BkSt w3 (W5.setCell ⟨cb, 0, none⟩ (.slice ga2 (k + 1) gc2)) cb P (k + 1) ga2 gc2 (rs ++ [⟨nm, ds2, a2, c2⟩])) := Lib.hid ⟨hC6, hr6, (by rw [List.length_append, HS.out.len]; rfl), (fun x hx => by rcases List.mem_append.1 hx with hx | hx; exact hX6 x hx; rw [List.mem_singleton] at hx; subst hx; exact hx6),
            (by rw [Hst.out, ← HS.out.is_, ← hds, ← Hm2.out]; unfold grP; rw [List.map_append]; rfl), hF6⟩
          have q2 := hC4.cell 0
          have q2l := hC4.lt
          have q5 := hC5.cell 0
          have q5l := hC5.lt
          have q5f := hC5.frozen 0
          have t0 := HBx.out.cell 0
          have t1 := HBx.out.cell 1
          have tl := HBx.out.lt
          simp only [List.getElem?_cons_zero, List.getElem?_cons_succ] at q2 q5 t0 t1
          have Hrun := Lib.hid hrun5
          clear hrun5 hr5 hg5 rowA hC5 hX5 hx5 hgS boxS hC6 hr6 hX6 hx6 hF6 hC4 hR4 hX4 hF4 hx4m hF5 hc5 hbr' hds hfr2 hf92
          go_wp2_with (at_builtin; refine wpList_append_run rfl _ _ 122 122 rfl _ _ _ _ rfl rfl Hrun.out ?_)
          exact ⟨⟨k + 1, ga2, gc2, _, by omega, by go_num, HNb, HB5⟩, by simp [intOf]; omega⟩
    · obtain rfl : k = N1 := by omega
      have hkI : ¬ (k : Int) < (k : Int) := by omega
      have hE0 : Hid (backE P = 0) := Lib.hid (hE0'.out (by rw [HB0.out, List.drop_eq_nil_of_le (by rw [HL.out]; exact Nat.le_refl _)]; rfl))
      have s0 := HS.out.box.cell 0
      have sl := HS.out.box.lt
      have hR9 := HO3.out.below hf9 HO3.out.lt
      have r0 := hR9.cell 0
      have rl := hR9.lt
      have rf0 := hR9.frozen 0
      simp only [List.getElem?_cons_zero, List.getElem?_cons_succ] at s0 r0
      have gS : wr.grownBy (wr.setCell ⟨bx + 1, 0, none⟩ (.slice ga k gc)) (some (bx + 1)) := grownBy_set wr _ _ _
      have hO := hR9.set 0 (.slice ga k gc)
      simp only [List.set_cons_zero] at hO
      have boxT : ∀ g, some (bx + 1) = some g → ∃ cur t fr, wr.heap[g]? = some (.cells cur t fr) ∧ t = 124 := fun g h1 => by injection h1 with h1; subst h1; exact ⟨_, _, _, hR9, rfl⟩
      have hr5 := own_kept_ty HS.out.row gS (fun g h1 => by obtain ⟨cur, t, fr, h2, rfl⟩ := boxT g h1; exact ⟨cur, _, fr, h2, by decide⟩)
      have hx5 := fun x hx => (HS.out.ins x hx).kept gS (fun g h1 => by obtain ⟨cur, t, fr, h2, rfl⟩ := boxT g h1; exact ⟨cur, _, fr, h2, by decide, by decide⟩)
      have hbF : Below w.heap.size w (wr.setCell ⟨bx + 1, 0, none⟩ (.slice ga k gc)) := hfr.trans (belowAt gS (fun g h1 => by injection h1 with h1; omega) hfr.size)
      have HO := Lib.hid hO
      have HB := Lib.hid hbF
      have HR5 : Hid (OwnR (wr.setCell ⟨bx + 1, 0, none⟩ (.slice ga k gc)) cb ga gc rs) := Lib.hid hr5
      have HX5 := Lib.hid hx5
      clear gS hO boxT hr5 hx5 hbF hR9
      go_wp2_with (fail)
      generalize hW : World.setCell wr _ _ = W9 at HO HB HR5 HX5 ⊢
      have y0 := HO.out.cell 0
      simp only [List.getElem?_cons_zero] at y0
      refine bodyPost_ret (v := .tuple #[.agg #[.slice ga k gc], .int .i64 0]) (by simp [results, Try.results99, go_sem, y0]; try first | rfl | assumption | omega) rfl ?_
      rw [← hQ.out, hE0.out]
      refine ⟨rs, ga, gc, by rw [HS.out.len], ⟨HR5.out.le8.1, HR5.out.le8.2, fun e => ?_, fun i hi => ?_, fun b off e i hi => ?_, fun r hr => (HX5.out r hr).alts⟩, ?_, HB.out⟩
      · have h1 := HR5.out.le8.1
        subst e
        rcases HR5.out.2 with ⟨e1, _⟩ | ⟨g, cp, cur, e1, _⟩
        · simp only [Value.slice.injEq] at e1
          exact e1.2.2
        · cases e1
      · obtain ⟨g, h1, _⟩ := HR5.out.at8 i hi
        exact ⟨g, 0, h1⟩
      · obtain ⟨g, h1, _, _, h2, h3⟩ := HR5.out.at8 i hi
        rw [h1] at e
        cases e
        rw [Nat.zero_add]
        exact ⟨h2, h3⟩
      · rw [if_pos rfl, HS.out.is_, List.take_of_length_le (by rw [hPt.out.2.1, HN1.out]; exact Nat.le_refl _), List.take_of_length_le (by rw [hPt.out.2.2, List.length_map, HL.out]; exact Nat.le_refl _)]
        rfl
end Go.Proofs.Ythogiakfbgehnaa

namespace Go.Proofs.Ythogiakfbgehnaa
open Go.RowKit Go.Maps

attribute [local go_sem] Oper.semAt_some

set_option maxRecDepth 100000 in
set_option maxHeartbeats 4000000 in
theorem refValid_any (d : CfD) (w : World) (hd : CfAt w d) (hs : FewC d) (hw : ∀ r ∈ d.alts, ∀ a ∈ r.ds, ∀ x ∈ a.l, -9223372036854775808 ≤ x ∧ x ≤ 9223372036854775807) :
    Calls Try.prog 56 #[d.v] w fun e w' => e = .returned (.int .i64 (validE d.p)) ∧ Below w.heap.size w w' := by
  have hat := hd
  have hf1 := hs.few
  have hf2 := hs.toks
  have hf3 := hs.names
  have hhs := hs.hs
  obtain ⟨R, hR⟩ : ∃ R, Hid (validE d.p = R) := ⟨_, Lib.hid rfl⟩
  rw [hR.out]
  have Hbk := Lib.hid (fun W (hb : Below w.heap.size w W) => refBack_any d W (hat.grown hb) hhs hw)
  have Hnu := Lib.hid (fun (W : World) (rs : List RlD) (a : Option Addr) (c : Nat) (hb : Below w.heap.size w W) (h : Rls W a c rs) (hg : grP rs = backG d.p) => refNumber_any rs a c d.toks d.ta d.tc W h (hat.toks.grown hb) (by
    obtain ⟨h1, h2⟩ := back_sz d.toks d.names d.names (d.alts.map IrD.p) rs hg
    omega))
  have hE0 : Hid (backE d.p ≠ 0 → R = 80) := Lib.hid (fun h => by rw [← hR.out]; unfold validE; exact if_neg h)
  have hE1 : Hid (∀ rs, grP rs = backG d.p → backE d.p = 0 → R = if numE rs d.toks = 0 then 0 else 80) := Lib.hid (fun rs h h2 => by
    rw [← hR.out]
    unfold validE
    rw [if_pos h2, numE_congr (h.trans (grP_can _).symm)]
    rfl)
  have hBN : Hid (∀ rs, grP rs = backG d.p → backE d.p = 0 → numE rs d.toks = 0 → numC rs d.toks = d.p) := Lib.hid (fun rs h h2 h3 => by
    have e : grP rs = grP (can (backG d.p)) := h.trans (grP_can _).symm
    rw [numE_congr e] at h3
    rw [numC_congr e]
    exact back_num h2 h3)
  have Hsm := Lib.hid (fun (W : World) (d5 : CfD) (hb : Below w.heap.size w W) (h : CfAt W d5) => same8_any d d5 W (hat.grown hb) h)
  dsimp only [CfD.v] at Hbk Hsm ⊢
  obtain ⟨T1, HT1⟩ : ∃ L, Hid (d.toks.length = L) := ⟨_, Lib.hid rfl⟩
  obtain ⟨N1, HN1⟩ : ∃ L, Hid (d.names.length = L) := ⟨_, Lib.hid rfl⟩
  obtain ⟨L1, HL1⟩ : ∃ L, Hid (d.alts.length = L) := ⟨_, Lib.hid rfl⟩
  rw [HT1.out, HN1.out, HL1.out] at Hbk Hsm ⊢
  rw [HT1.out] at Hnu
  have Hbk' : Hid (∀ W, Below w.heap.size w W → Calls Try.prog 99 #[.agg #[.slice d.ta T1 d.tc, .slice d.na N1 d.nc, .slice d.aa L1 d.ac]] W (BackQ W (backE d.p) (backG d.p))) := Hbk
  have Hnu' : Hid (∀ (W : World) (rs : List RlD) (a : Option Addr) (c : Nat), Below w.heap.size w W → Rls W a c rs → grP rs = backG d.p → Calls Try.prog 100 #[.agg #[.slice a rs.length c], .slice d.ta T1 d.tc] W (NumQ W (numE rs d.toks) (numC rs d.toks))) := Hnu
  have hb1 : Below w.heap.size w (w.alloc (.cells #[.slice d.ta T1 d.tc, .slice d.na N1 d.nc, .slice d.aa L1 d.ac] 25)) := (Below.refl _ w).alloc (Nat.le_refl _) _
  have hA := Blk.new w 25 #[.slice d.ta T1 d.tc, .slice d.na N1 d.nc, .slice d.aa L1 d.ac]
  have x0 := hA.cell 0
  have x1 := hA.cell 1
  have x2 := hA.cell 2
  have xl := hA.lt
  simp only [List.getElem?_cons_zero, List.getElem?_cons_succ] at x0 x1 x2
  have HA := Lib.hid hA
  have Hb1 := Lib.hid hb1
  obtain ⟨bx, hbx⟩ : ∃ q, Hid (w.heap.size = q) := ⟨_, Lib.hid rfl⟩
  have Hc1 := Lib.hid (Hbk'.out _ Hb1.out)
  obtain ⟨BE, hBE⟩ : ∃ q, Hid (backE d.p = q) := ⟨_, Lib.hid rfl⟩
  rw [hBE.out] at Hc1 hE0 hE1 hBN
  have Hsm' : Hid (∀ (W : World) (d5 : CfD), Below w.heap.size w W → CfAt W d5 → Calls Try.prog 101 #[.agg #[.slice d.ta T1 d.tc, .slice d.na N1 d.nc, .slice d.aa L1 d.ac], .agg #[.slice d5.ta d5.toks.length d5.tc, .slice d5.na d5.names.length d5.nc, .slice d5.aa d5.alts.length d5.ac]] W fun e w' => e = .returned (.bool (decide (d.p = d5.p))) ∧ Below W.heap.size W w') := Hsm
  clear Hsm
  clear Hbk Hnu hA hb1 hd hat hf1 hf2 hf3 hhs hs hw
  go_enter Try.func56, Try.ntmps56
  go_wp2_with (fail)
  rw [hbx.out] at HA x0 x1 x2 xl ⊢
  generalize hV : World.alloc w _ = V at HA Hb1 x0 x1 x2 xl Hc1 ⊢
  clear hV
  refine Hc1.out.mono ?_
  clear Hc1
  rintro e w3 ⟨rs, ga, gc, rfl, hrl, hgr, hb3⟩
  have hg4 : Below w3.heap.size w3 (w3.alloc (.cells #[.slice ga rs.length gc] 124)) := (Below.refl _ w3).alloc (Nat.le_refl _) _
  have hG4 := Blk.new w3 124 #[.slice ga rs.length gc]
  have hr4 := hrl.grown hg4
  have hb4 := hb3.trans (hg4.mono hb3.size)
  have HA4 := Lib.hid (HA.out.below hb4 HA.out.lt)
  have Hb4 := Lib.hid (Hb1.out.trans (hb4.mono Hb1.out.size))
  have Hgr := Lib.hid hgr
  by_cases h0 : BE = 0
  case neg =>
    have hF : Hid (R = 80) := Lib.hid (hE0.out h0)
    have hne : (BE != 0) = true := by rw [bne_iff_ne]; exact h0
    clear h0 hgr hrl hg4 hG4 hr4 hb4 hb3 HA Hb1 x0 x1 x2 xl
    go_wp2_with (fail)
    exact bodyPost_ret (v := .int .i64 80) (by simp [results, Try.results56, go_sem]; try first | rfl | assumption | omega) rfl ⟨by rw [hF.out], Hb4.out⟩
  case pos =>
  have hne : (BE != 0) = false := by rw [h0]; rfl
  rw [if_pos h0] at hgr
  have hBr : Hid (numE rs d.toks = 0 → numC rs d.toks = d.p) := Lib.hid (hBN.out rs hgr h0)
  have hEr : Hid (R = if numE rs d.toks = 0 then 0 else 80) := Lib.hid (hE1.out rs hgr h0)
  have Hc2 := Lib.hid (Hnu'.out _ rs ga gc Hb4.out hr4 hgr)
  obtain ⟨NE, hNE⟩ : ∃ q, Hid (numE rs d.toks = q) := ⟨_, Lib.hid rfl⟩
  rw [hNE.out] at Hc2
  obtain ⟨RL, hRL⟩ : ∃ q, Hid (rs.length = q) := ⟨_, Lib.hid rfl⟩
  rw [hRL.out] at hG4 HA4 Hb4 Hc2 ⊢
  have y0 := hG4.cell 0
  have yl := hG4.lt
  have z0 := HA4.out.cell 0
  have zl := HA4.out.lt
  simp only [List.getElem?_cons_zero, List.getElem?_cons_succ] at y0 z0
  have Hh0 := Lib.hid h0
  clear h0 hgr hrl hg4 hG4 hr4 hb4 hb3 HA Hb1 x0 x1 x2 xl Hgr
  go_wp2_with (fail)
  refine Hc2.out.mono ?_
  clear Hc2
  rintro e w5 ⟨d5, rfl, hd5, hp5, hb5⟩
  have Hb5 := Lib.hid (Hb4.out.trans (hb5.mono Hb4.out.size))
  have HA5 := Lib.hid (HA4.out.below hb5 HA4.out.lt)
  have hg6 : Below w5.heap.size w5 (w5.alloc (.cells #[.slice d5.ta d5.toks.length d5.tc, .slice d5.na d5.names.length d5.nc, .slice d5.aa d5.alts.length d5.ac] 25)) := (Below.refl _ w5).alloc (Nat.le_refl _) _
  have hE6 := Blk.new w5 25 #[.slice d5.ta d5.toks.length d5.tc, .slice d5.na d5.names.length d5.nc, .slice d5.aa d5.alts.length d5.ac]
  have Hb6 := Lib.hid (Hb5.out.trans (hg6.mono Hb5.out.size))
  have HA6 := Lib.hid (HA5.out.below hg6 HA5.out.lt)
  clear hb5 y0 yl z0 zl
  by_cases h1 : NE = 0
  · have hT : Hid (R = 0) := Lib.hid (by rw [hEr.out, hNE.out, if_pos h1])
    have hne2 : (NE != 0) = false := by rw [h1]; rfl
    rw [if_pos h1] at hp5
    have hpe : d.p = d5.p := ((hp5.trans (hBr.out (hNE.out.trans h1)))).symm
    have Hc3 := Lib.hid (Hsm'.out _ d5 Hb6.out (hd5.grown hg6))
    rw [decide_eq_true hpe] at Hc3
    have x0 := HA6.out.cell 0
    have x1 := HA6.out.cell 1
    have x2 := HA6.out.cell 2
    have xl := HA6.out.lt
    have e0 := hE6.cell 0
    have e1 := hE6.cell 1
    have e2 := hE6.cell 2
    have el := hE6.lt
    simp only [List.getElem?_cons_zero, List.getElem?_cons_succ] at x0 x1 x2 e0 e1 e2
    have Hh1 := Lib.hid h1
    clear h1 hp5 hpe hd5 hg6 hE6
    go_wp2_with (fail)
    refine Hc3.out.mono ?_
    rintro e w7 ⟨rfl, hb7⟩
    have Hb7 := Lib.hid (Hb6.out.trans (hb7.mono Hb6.out.size))
    clear hb7 x0 x1 x2 xl e0 e1 e2 el Hc3
    go_wp2_with (fail)
    exact bodyPost_ret (v := .int .i64 0) (by simp [results, Try.results56, go_sem]; try first | rfl | assumption | omega) rfl ⟨by rw [hT.out], Hb7.out⟩
  · have hT : Hid (R = 80) := Lib.hid (by rw [hEr.out, hNE.out, if_neg h1])
    have hne2 : (NE != 0) = true := by rw [bne_iff_ne]; exact h1
    clear h1 hp5 hd5 hg6 hE6
    go_wp2_with (fail)
    exact bodyPost_ret (v := .int .i64 80) (by simp [results, Try.results56, go_sem]; try first | rfl | assumption | omega) rfl ⟨by rw [hT.out], Hb6.out⟩
end Go.Proofs.Ythogiakfbgehnaa

namespace Go.Proofs
open Go.Shelf
end Go.Proofs

namespace Go.Proofs.Ythogiakfbgehnaa
open Go.RowKit Go.Maps

attribute [local go_sem] Oper.semAt_some

end Go.Proofs.Ythogiakfbgehnaa

namespace Go.Proofs.Ythogiakfbgehnaa
open Go.RowKit Go.Maps

attribute [local go_sem] Oper.semAt_some

/-- What numbers come to. -/
def shS (V : Nat → Int) : Nat → Nat
  | 0 => 0
  | n + 1 => shS V n + (V n).toNat
theorem shS_congr {V W : Nat → Int} : ∀ {n : Nat}, (∀ r, r < n → V r = W r) → shS V n = shS W n
  | 0, _ => rfl
  | n + 1, h => by rw [shS, shS, shS_congr (fun r hr => h r (by omega)), h n (by omega)]
theorem shS_put {V : Nat → Int} {x : Int} {k : Nat} (h0 : 0 ≤ x) (hx : x < V k) : ∀ {n : Nat}, k < n → shS (fun s => if s = k then x else V s) n < shS V n
  | n + 1, h => by
    rw [shS, shS]
    by_cases e : k = n
    · subst e
      rw [if_pos rfl, shS_congr (V := fun s => if s = k then x else V s) (W := V) (fun r hr => if_neg (by omega))]
      omega
    · rw [if_neg (fun h => e h.symm)]
      have := shS_put h0 hx (n := n) (by omega)
      omega
/-- Where a round over rules and alternatives stands. -/
def ShK (al : List (List (List Int))) (V0 V : Nat → Int) (b : Bool) (n k j : Nat) : Prop :=
  (b = true ∧ shS V n < shS V0 n) ∨ (b = false ∧ V = V0 ∧ (∀ r, r < k → ∀ a ∈ al.getD r [], V0 r ≤ lenP V0 a) ∧ ∀ a ∈ (al.getD k []).take j, V0 k ≤ lenP V0 a)
theorem ShK.put {al : List (List (List Int))} {V0 V : Nat → Int} {b : Bool} {n k j : Nat} (h : ShK al V0 V b n k j) (hk : k < n) {x : Int} (h0 : 0 ≤ x) (hx : x < V k) : ShK al V0 (fun s => if s = k then x else V s) true n k (j + 1) := by
  have h1 := shS_put h0 hx hk
  rcases h with ⟨_, h⟩ | ⟨_, rfl, _⟩
  · exact .inl ⟨rfl, by omega⟩
  · exact .inl ⟨rfl, h1⟩
theorem ShK.row {al : List (List (List Int))} {V0 V : Nat → Int} {b : Bool} {n k j : Nat} (h : ShK al V0 V b n k j) (hj : (al.getD k []).length ≤ j) : ShK al V0 V b n (k + 1) 0 := by
  rcases h with h | ⟨hb, rfl, h1, h2⟩
  · exact .inl h
  · refine .inr ⟨hb, rfl, fun r hr a ha => ?_, fun a ha => by simp at ha⟩
    by_cases e : r = k
    · subst e
      exact h2 a (by rwa [List.take_of_length_le hj])
    · exact h1 r (by omega) a ha
end Go.Proofs.Ythogiakfbgehnaa

namespace Go.Proofs.Ythogiakfbgehnaa
open Go.RowKit

end Go.Proofs.Ythogiakfbgehnaa

namespace Go.Proofs.Ythogiakfbgehnaa
open Go.RowKit

attribute [local go_sem] Oper.semAt_some

set_option maxRecDepth 100000 in
set_option maxHeartbeats 4000000 in
theorem refFewM_any (m9 : Nat) (hm9 : m9 ≤ 1000) (d : CfD) (w : World) (hd : CfAt w d) (hs : d.toks.length + d.names.length + szC (d.alts.map IrD.p) ≤ 1000000000000) :
    Calls Try.prog 50 #[d.v, .int .i64 (m9 : Int)] w fun e w' => e = .returned (.bool (decide (d.toks.length + d.names.length + szC (d.alts.map IrD.p) ≤ m9))) ∧ Below w.heap.size w w' := by
  obtain ⟨toks, dta, dtc, names, dna, dnc, al, daa, dac⟩ := d
  dsimp only [CfD.v] at hs ⊢
  have hA0 := Blk.new w 25 #[.slice dta toks.length dtc, .slice dna names.length dnc, .slice daa al.length dac]
  have hb0 : Below w.heap.size w (w.alloc (.cells #[.slice dta toks.length dtc, .slice dna names.length dnc, .slice daa al.length dac] 25)) := (Below.refl _ w).alloc (Nat.le_refl _) _
  have hRow := Lib.hid (hd.alts.grown hb0)
  have hRul := Lib.hid (fun r hr => (hd.rules r hr).grown hb0)
  have ham : al.length ≤ dac ∧ dac ≤ 9223372036854775807 := ⟨by have := hd.alts.le; rwa [List.length_map] at this, hd.alts.max⟩
  obtain ⟨S, hS⟩ : ∃ q, Hid (szC (al.map IrD.p) = q) := ⟨_, Lib.hid rfl⟩
  obtain ⟨R, hR⟩ : ∃ R : Nat → Nat, Hid ((fun k => szC ((al.map IrD.p).take k)) = R) := ⟨_, Lib.hid rfl⟩
  have hR0 : Hid (R 0 = 0) := Lib.hid (by rw [← hR.out]; rfl)
  have hRl : Hid (∀ k, R k ≤ S) := Lib.hid (fun k => by rw [← hR.out, ← hS.out]; exact szC_le _ k)
  have hRe : Hid (R al.length = S) := Lib.hid (by rw [← hR.out, ← hS.out]; show szC (List.take al.length (al.map IrD.p)) = _; rw [List.take_of_length_le (by simp)])
  have hRs : Hid (∀ k (h : k < al.length), R (k + 1) = R k + szJ al[k].p) := Lib.hid (fun k h => by
    rw [← hR.out]
    have := szC_take (al.map IrD.p) k (by simpa using h)
    rw [List.getElem_map] at this
    exact this)
  rw [hS.out] at hs ⊢
  obtain ⟨M, hM⟩ : ∃ q, Hid (toks.length = q) := ⟨_, Lib.hid rfl⟩
  obtain ⟨N, hN⟩ : ∃ q, Hid (names.length = q) := ⟨_, Lib.hid rfl⟩
  obtain ⟨A, hA⟩ : ∃ q, Hid (al.length = q) := ⟨_, Lib.hid rfl⟩
  rw [hM.out, hN.out, hA.out] at hA0 hb0 hRow hRul ⊢
  rw [hM.out, hN.out] at hs
  rw [hA.out] at ham hRe
  obtain ⟨B, hB⟩ : ∃ q, Hid (decide (M + N + S ≤ m9) = q) := ⟨_, Lib.hid rfl⟩
  rw [hB.out]
  have y0 := hA0.cell 0
  have y1 := hA0.cell 1
  have y2 := hA0.cell 2
  have yl := hA0.lt
  simp only [List.getElem?_cons_zero, List.getElem?_cons_succ] at y0 y1 y2
  clear hd hA0
  go_enter Try.func50, Try.ntmps50
  go_wp2_with (fail)
  generalize hV : World.alloc w _ = W at hRow hRul hb0 y0 y1 y2 yl ⊢
  clear hV y0 y1 y2 yl
  go_loopw [5, 20] (fun s iv wr => ∃ (k n : Nat), k ≤ A ∧ iv = .int .i64 (k : Int) ∧ s = .int .i64 (n : Int) ∧ Hid (n = M + N + R k) ∧ wr = W) (fun _ iv _ => A - (RowKit.intOf iv).toNat)
  case atStart => exact ⟨0, M + N, Nat.zero_le _, rfl, by go_num, Lib.hid (by rw [hR0.out]; rfl), rfl⟩
  case round =>
    obtain ⟨k, n, hk, rfl, rfl, Hn, hwr⟩ := hrel
    subst hwr
    have hnl : n ≤ 1000000000000 := by have := Hn.out; have := hRl.out k; omega
    by_cases hlt : k < A
    · have hkI : (k : Int) < (A : Int) := by omega
      have hkI0 : (0 : Int) ≤ (k : Int) := by omega
      have hka : k < al.length := by rw [hA.out]; exact hlt
      obtain ⟨b2, o2, rfl⟩ := hRow.out.at_ k (by rw [List.length_map]; exact hka)
      have d0 := hRow.out.cell b2 o2 rfl k (by rw [List.length_map]; exact hka)
      rw [List.getElem_map] at d0
      have hIq := hRul.out _ (List.getElem_mem hka)
      have hst := hRs.out k hka
      obtain ⟨q, hq⟩ : ∃ v, Hid (al[k] = v) := ⟨_, Lib.hid rfl⟩
      rw [hq.out] at d0 hIq hst
      unfold IrD.v at d0
      obtain ⟨qds, qa, qc⟩ := q
      dsimp only at d0 hIq hst
      obtain ⟨E, hE⟩ : ∃ q, Hid (qds.length = q) := ⟨_, Lib.hid rfl⟩
      rw [hE.out] at d0
      have hem : E ≤ qc ∧ qc ≤ 9223372036854775807 := ⟨by have := hIq.row.le; rwa [List.length_map, hE.out] at this, hIq.row.max⟩
      obtain ⟨J, hJ⟩ : ∃ J : Nat → Nat, Hid ((fun j => n + szJ ((IrD.p ⟨qds, qa, qc⟩).take j)) = J) := ⟨_, Lib.hid rfl⟩
      have hJ0 : Hid (J 0 = n) := Lib.hid (by rw [← hJ.out]; rfl)
      have hpl : (IrD.p ⟨qds, qa, qc⟩).length = qds.length := by unfold IrD.p; simp
      have hJe : Hid (J E = M + N + R (k + 1)) := Lib.hid (by rw [← hJ.out]; show n + szJ (List.take E (IrD.p ⟨qds, qa, qc⟩)) = _; rw [List.take_of_length_le (by rw [hpl, hE.out]; exact Nat.le_refl _), hst, Hn.out]; omega)
      have hJl : Hid (∀ j, J j ≤ M + N + S) := Lib.hid (fun j => by
        have h1 := szJ_le (IrD.p ⟨qds, qa, qc⟩) j
        have h2 := hRl.out (k + 1)
        have h3 := Hn.out
        rw [← hJ.out]
        show n + szJ ((IrD.p ⟨qds, qa, qc⟩).take j) ≤ _
        omega)
      have hJs : Hid (∀ j (h : j < qds.length), J (j + 1) = J j + (1 + qds[j].l.length)) := Lib.hid (fun j h => by
        rw [← hJ.out]
        have h1 := szJ_take (IrD.p ⟨qds, qa, qc⟩) j (by rw [hpl]; exact h)
        have h2 : (IrD.p ⟨qds, qa, qc⟩)[j]'(by rw [hpl]; exact h) = qds[j].l := by simp [IrD.p]
        rw [h2] at h1
        show n + szJ ((IrD.p ⟨qds, qa, qc⟩).take (j + 1)) = n + szJ ((IrD.p ⟨qds, qa, qc⟩).take j) + (1 + qds[j].l.length)
        omega)
      have HI := Lib.hid hIq
      have hbl := World.block_lt_of_cell? _ _ d0
      clear hIq hst hpl
      go_wp2_with (fail)
      clear d0 hbl
      obtain ⟨W8, rfl⟩ : ∃ W8, W8 = wr := ⟨_, rfl⟩
      go_loopw [5, 26] (fun s iv wr => ∃ (j m : Nat), j ≤ E ∧ iv = .int .i64 (j : Int) ∧ s = .int .i64 (m : Int) ∧ Hid (m = J j) ∧ wr = W8) (fun _ iv _ => E - (RowKit.intOf iv).toNat)
      case atStart => exact ⟨0, n, Nat.zero_le _, rfl, rfl, Lib.hid hJ0.out.symm, rfl⟩
      case round =>
        obtain ⟨j, m, hj, rfl, rfl, Hm, hwr⟩ := hrel
        subst hwr
        have hml : m ≤ 1000000000000 := by have := Hm.out; have := hJl.out j; omega
        by_cases hlt2 : j < E
        · have hjI : (j : Int) < (E : Int) := by omega
          have hjI0 : (0 : Int) ≤ (j : Int) := by omega
          have hje : j < qds.length := by rw [hE.out]; exact hlt2
          obtain ⟨b4, o4, rfl⟩ := HI.out.row.at_ j (by rw [List.length_map]; exact hje)
          have f0 := HI.out.row.cell b4 o4 rfl j (by rw [List.length_map]; exact hje)
          rw [List.getElem_map] at f0
          have hst := hJs.out j hje
          have hjb := hJl.out (j + 1)
          unfold IltD.v at f0
          obtain ⟨u, hu⟩ : ∃ q, Hid (qds[j].l.length = q) := ⟨_, Lib.hid rfl⟩
          rw [hu.out] at f0 hst
          generalize qds[j].a = ua at f0
          generalize qds[j].c = uc at f0
          have hbl := World.block_lt_of_cell? _ _ f0
          have hmu : m + (1 + u) ≤ M + N + S := by rw [hst, ← Hm.out] at hjb; exact hjb
          have Hst : Hid (m + (1 + u) = J (j + 1)) := Lib.hid (by rw [hst, Hm.out])
          clear hst hjb
          by_cases hbig : m9 < m + (1 + u)
          · have hbI : (m9 : Int) < (m : Int) + (1 + (u : Int)) := by omega
            have hBf : Hid (B = false) := Lib.hid (by rw [← hB.out, decide_eq_false_iff_not]; omega)
            go_wp2_with (fail)
            exact bodyPost_ret (v := .bool false) (by simp [results, Try.results50, go_sem]; try first | rfl | assumption | omega) rfl ⟨by rw [hBf.out], hb0⟩
          · have hbI : ¬ (m9 : Int) < (m : Int) + (1 + (u : Int)) := by omega
            go_wp2_with (fail)
            exact ⟨⟨j + 1, m + (1 + u), by omega, by go_num, by go_num, Hst, by first | rfl | trivial⟩, by simp [RowKit.intOf]; omega⟩
        · obtain rfl : j = E := by omega
          have hjI : ¬ (j : Int) < (j : Int) := by omega
          go_wp2_with (fail)
          exact ⟨⟨k + 1, m, by omega, by go_num, rfl, Lib.hid (by rw [Hm.out, hJe.out]), by first | rfl | trivial⟩, by simp [RowKit.intOf]; omega⟩
    · obtain rfl : k = A := by omega
      have hkI : ¬ (k : Int) < (k : Int) := by omega
      have hT : Hid (B = decide (n ≤ m9)) := Lib.hid (by rw [← hB.out, Hn.out, hRe.out])
      by_cases hle : n ≤ m9
      · have hI : (n : Int) ≤ m9 := by omega
        have hBt : Hid (B = true) := Lib.hid (by rw [hT.out, decide_eq_true hle])
        go_wp2_with (fail)
        exact bodyPost_ret (v := .bool true) (by simp [results, Try.results50, go_sem]; try first | rfl | assumption | omega) rfl ⟨by rw [hBt.out], hb0⟩
      · have hI : ¬ (n : Int) ≤ m9 := by omega
        have hBt : Hid (B = false) := Lib.hid (by rw [hT.out, decide_eq_false hle])
        go_wp2_with (fail)
        exact bodyPost_ret (v := .bool false) (by simp [results, Try.results50, go_sem]; try first | rfl | assumption | omega) rfl ⟨by rw [hBt.out], hb0⟩
end Go.Proofs.Ythogiakfbgehnaa

namespace Go.Proofs.Ythogiakfbgehnaa
open Go.RowKit Go.Maps

attribute [local go_sem] Oper.semAt_some

end Go.Proofs.Ythogiakfbgehnaa

namespace Go.Proofs.Ythogiakfbgehnaa
open Go.RowKit Go.Maps

attribute [local go_sem] Oper.semAt_some

end Go.Proofs.Ythogiakfbgehnaa

namespace Go.Proofs.Ythogiakfbgehnaa

end Go.Proofs.Ythogiakfbgehnaa

namespace Go.Proofs.Ythogiakfbgehnaa
open Go.RowKit Go.Maps

attribute [local go_sem] Oper.semAt_some

end Go.Proofs.Ythogiakfbgehnaa

namespace Go.Proofs.Ythogiakfbgehnaa
open Go.RowKit Go.Maps

end Go.Proofs.Ythogiakfbgehnaa

namespace Go.Proofs.Ythogiakfbgehnaa
open Go.RowKit Go.Maps

attribute [local go_sem] Oper.semAt_some

end Go.Proofs.Ythogiakfbgehnaa

namespace Go.Proofs.Ythogiakfbgehnaa
open Go.RowKit Go.Maps

attribute [local go_sem] Oper.semAt_some

end Go.Proofs.Ythogiakfbgehnaa

namespace Go.Proofs.Ythogiakfbgehnaa
open Go.RowKit Go.Maps

attribute [local go_sem] Oper.semAt_some

end Go.Proofs.Ythogiakfbgehnaa

namespace Go.Proofs.Ythogiakfbgehnaa
open Go.RowKit Go.Maps

attribute [local go_sem] Oper.semAt_some

end Go.Proofs.Ythogiakfbgehnaa

namespace Go.Proofs.Ythogiakfbgehnaa
open Go.RowKit Go.Maps

attribute [local go_sem] Oper.semAt_some

end Go.Proofs.Ythogiakfbgehnaa

