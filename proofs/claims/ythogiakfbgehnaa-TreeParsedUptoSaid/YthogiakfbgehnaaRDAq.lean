/- Texts joined: Qo Qp. -/
import Derived.Test.YthogiakfbgehnaaRDAp
set_option linter.unusedVariables false
set_option linter.unusedSimpArgs false
namespace Go.Proofs.Ythogiakfbgehnaa
open Go.RowKit Go.Maps
attribute [local go_sem] Oper.semAt_some
/-- The pairs that one is the first of, so far. -/
def innL (p : Nat → Bool) (n a m : Nat) : List (Nat × Nat) := if p a = true then ((((List.range n).drop (a + 1)).take m).filter p).map (fun b => (a, b)) else []
theorem innL_snoc {p : Nat → Bool} {n a m : Nat} (h : a + 1 + m < n) : innL p n a (m + 1) = innL p n a m ++ (if (p a && p (a + 1 + m)) = true then [(a, a + 1 + m)] else []) := by
 unfold innL
 cases e : p a
 ·simp
 ·rw [List.take_add_one, List.getElem?_drop, List.getElem?_range h]
  simp only [if_true, Bool.true_and, Option.toList_some]
  rw [List.filter_append, List.map_append]
  congr 1
  cases e2 : p (a + 1 + m) <;> simp [e2]
theorem innL_end {p : Nat → Bool} {n a : Nat} (h : a < n) : innL p n a (n - (a + 1)) = prAt p (List.range n) a := by
 unfold innL prAt
 have e : (List.range n).getD a 0 = a := by rw [List.getD_eq_getElem?_getD, List.getElem?_range h]; rfl
 rw [e, List.take_of_length_le (by rw [List.length_drop, List.length_range]; exact Nat.le_refl _)]
theorem innL_len (p : Nat → Bool) (n a m : Nat) : (innL p n a m).length ≤ n := by
 unfold innL
 split
 ·rw [List.length_map]
  have h1 := List.length_filter_le p (((List.range n).drop (a + 1)).take m)
  rw [List.length_take, List.length_drop, List.length_range] at h1
  omega
 ·simp
set_option maxRecDepth 100000 in
set_option maxHeartbeats 16000000 in
theorem refClashes_any (d : CfD) (w : World) (hd : CfAt w d) (hf : FitC d) :
 Calls Try.prog 37 #[d.v] w (ClsQ w (allCl (d.alts.map IrD.p) (nulB (d.alts.map IrD.p)) d.toks.length)) := by
 have hr60 := hf.r
 have ht60 := hf.t
 have hpl : (d.alts.map IrD.p).length = d.alts.length := List.length_map _
 have hns30 : ∀ r, ((d.alts.map IrD.p).getD r []).length ≤ 30 := fun r => by
  by_cases h : r < d.alts.length
  ·rw [List.getD_eq_getElem?_getD, List.getElem?_map, List.getElem?_eq_getElem h]
   show (IrD.p (d.alts[r])).length ≤ 30
   unfold IrD.p
   rw [List.length_map]
   exact hf.a _ (List.getElem_mem h)
  ·rw [List.getD_eq_getElem?_getD, List.getElem?_eq_none (by rw [hpl]; omega)]; simp
 have Hall0 := Lib.hid (fun W (hb : Below w.heap.size w W) => all10_any d W (hd.grown hb) hf)
 obtain ⟨al, hal9⟩ : ∃ q, Hid (d.alts.map IrD.p = q) := ⟨_, Lib.hid rfl⟩
 rw [hal9.out] at Hall0 hns30 hpl ⊢
 obtain ⟨f, hf9⟩ : ∃ q, Hid (nulB al = q) := ⟨_, Lib.hid rfl⟩
 rw [hf9.out] at Hall0 ⊢
 obtain ⟨P, hP⟩ : ∃ q : Nat → Nat → Nat → Bool, Hid ((fun (r t j : Nat) => takB al f d.toks.length r (t : Int) j) = q) := ⟨_, Lib.hid rfl⟩
 have HP : Hid (∀ (r t j : Nat), takB al f d.toks.length r (t : Int) j = P r t j) := Lib.hid (fun r t j => congrFun (congrFun (congrFun hP.out r) t) j)
 obtain ⟨ns, hns9⟩ : ∃ q : Nat → Nat, Hid ((fun r => (al.getD r []).length) = q) := ⟨_, Lib.hid rfl⟩
 have hNs : Hid (∀ r, ns r ≤ 30) := Lib.hid (fun r => by rw [← hns9.out]; exact hns30 r)
 obtain ⟨PP, hPP⟩ : ∃ q : Nat → Nat → Int → Prop, Hid ((fun (r i : Nat) => PrdP al f d.toks.length (r : Int) (i : Int)) = q) := ⟨_, Lib.hid rfl⟩
 have HPP : Hid (∀ (r i t : Nat), PP r i (t : Int) ↔ P r t i = true) := Lib.hid (fun r i t => by
  rw [← hPP.out, ← HP.out]
  show PrdP al f d.toks.length (r : Int) (i : Int) (t : Int) ↔ _
  unfold PrdP
  rw [Int.toNat_natCast, Int.toNat_natCast]
  constructor
  ·exact fun h => h.2.2
  ·exact fun h => ⟨by omega, by omega, h⟩)
 rw [hns9.out, hPP.out] at Hall0
 have Hall := Lib.hid (fun W (hb : Below w.heap.size w W) => Hall0.out W hb)
 obtain ⟨Q, hQ⟩ : ∃ Q : Ending → World → Prop, Hid (ClsQ w (allCl al f d.toks.length) = Q) := ⟨_, Lib.hid rfl⟩
 rw [hQ.out]
 have HQ : Hid (∀ W a c l, l = clS P ns (d.toks.length + 1) d.alts.length → OwnCl W w.heap.size a c l → Below w.heap.size w W → Q (.returned (.slice a l.length c)) W) := Lib.hid (fun W a c l h1 h2 h3 => by
  rw [← hQ.out]
  have e : l = allCl al f d.toks.length := by
   rw [h1]
   unfold allCl
   rw [hP.out, hns9.out, hpl]
  subst e
  exact ⟨a, c, rfl, h2, h3⟩)
 have hxm : d.alts.length ≤ d.ac ∧ d.ac ≤ 9223372036854775807 := ⟨by have := hd.alts.le; rwa [List.length_map] at this, hd.alts.max⟩
 have htm : d.toks.length ≤ d.tc ∧ d.tc ≤ 9223372036854775807 := ⟨by have := hd.toks.le; rwa [List.length_map] at this, hd.toks.max⟩
 clear hQ hpl hd hf hP hns9 hns30 hPP Hall0
 obtain ⟨DD, hDD⟩ : ∃ q, Hid (d = q) := ⟨_, Lib.hid rfl⟩
 have hv : d.v = .agg #[.slice d.ta d.toks.length d.tc, .slice d.na d.names.length d.nc, .slice d.aa d.alts.length d.ac] := rfl
 rw [hv] at Hall ⊢
 have hb1 : Below w.heap.size w (w.alloc (.cells #[.slice d.ta d.toks.length d.tc, .slice d.na d.names.length d.nc, .slice d.aa d.alts.length d.ac] 25)) := (Below.refl _ w).alloc (Nat.le_refl _) _
 have hA := Blk.new w 25 #[.slice d.ta d.toks.length d.tc, .slice d.na d.names.length d.nc, .slice d.aa d.alts.length d.ac]
 obtain ⟨T, HT⟩ : ∃ q, Hid (d.toks.length = q) := ⟨_, Lib.hid rfl⟩
 obtain ⟨N, HN⟩ : ∃ q, Hid (d.names.length = q) := ⟨_, Lib.hid rfl⟩
 obtain ⟨L, HL⟩ : ∃ q, Hid (d.alts.length = q) := ⟨_, Lib.hid rfl⟩
 obtain ⟨xta, Hxta⟩ : ∃ q, Hid (d.ta = q) := ⟨_, Lib.hid rfl⟩
 obtain ⟨xtc, Hxtc⟩ : ∃ q, Hid (d.tc = q) := ⟨_, Lib.hid rfl⟩
 obtain ⟨xna, Hxna⟩ : ∃ q, Hid (d.na = q) := ⟨_, Lib.hid rfl⟩
 obtain ⟨xnc, Hxnc⟩ : ∃ q, Hid (d.nc = q) := ⟨_, Lib.hid rfl⟩
 obtain ⟨xaa, Hxaa⟩ : ∃ q, Hid (d.aa = q) := ⟨_, Lib.hid rfl⟩
 obtain ⟨xac, Hxac⟩ : ∃ q, Hid (d.ac = q) := ⟨_, Lib.hid rfl⟩
 rw [HT.out, HN.out, HL.out, Hxta.out, Hxtc.out, Hxna.out, Hxnc.out, Hxaa.out, Hxac.out] at hA hb1 Hall ⊢
 rw [HL.out, Hxac.out] at hxm
 rw [HT.out, HL.out] at HQ
 rw [HT.out] at ht60
 rw [HT.out, Hxtc.out] at htm
 rw [HL.out] at hr60
 have x0 := hA.cell 0
 have x1 := hA.cell 1
 have x2 := hA.cell 2
 have xl := hA.lt
 simp only [List.getElem?_cons_zero, List.getElem?_cons_succ] at x0 x1 x2
 have HA := Lib.hid hA
 have Hb1 := Lib.hid hb1
 clear hA hb1 hv hDD
 go_enter Try.func37, Try.ntmps37
 go_wp2_with (fail)
 obtain ⟨bx, hbx⟩ : ∃ q, Hid (w.heap.size = q) := ⟨_, Lib.hid rfl⟩
 rw [hbx.out] at HA x0 x1 x2 xl ⊢
 generalize hV : World.alloc w _ = V1 at HA x0 x1 x2 xl Hb1 ⊢
 clear hV
 refine (Hall.out V1 Hb1.out).mono ?_
 rintro e V3 ⟨ia, ic, irs, rfl, hil, hiv, hia, hic, hb⟩
 have Hiv := Lib.hid hiv
 have Hia := Lib.hid hia
 have Hic := Lib.hid hic
 have Hil := Lib.hid hil
 have HA3 := Lib.hid (HA.out.below hb HA.out.lt)
 have Hb3 := Lib.hid (Hb1.out.trans (hb.mono Hb1.out.size))
 obtain ⟨base, hbase⟩ : ∃ q, Hid (V3.heap.size = q) := ⟨_, Lib.hid rfl⟩
 have hbb : bx < base := by rw [← hbase.out]; exact HA3.out.lt
 have hwb : w.heap.size ≤ base := by rw [← hbase.out]; exact Hb3.out.size
 have hbV : V3.heap.size = base := hbase.out
 have hic2 : L ≤ ic ∧ ic ≤ 9223372036854775807 := ⟨by have := hiv.le; rw [List.length_map, hil] at this; exact this, hiv.max⟩
 rw [hil]
 clear x0 x1 x2 xl hb hiv hia hic hil
 go_wp2_with (fail)
 go_loopw [3, 12] (fun sv kv wr => ∃ (k : Nat) (a : Option Addr) (c : Nat) (l : List Cl4), k ≤ L ∧ kv = .int .i64 (k : Int) ∧ sv = .slice a l.length c ∧ Hid (l = clS P ns (T + 1) k) ∧ Hid (OwnCl wr base a c l) ∧ Below base V3 wr) (fun _ kv _ => L - (RowKit.intOf kv).toNat)
 case atStart => exact ⟨0, none, 0, [], Nat.zero_le _, rfl, rfl, Lib.hid rfl, Lib.hid (OwnCl.nil _ _), Below.refl _ _⟩
 case round =>
  obtain ⟨k, a, c, l, hk, rfl, rfl, Hl, HO, hbr⟩ := hrel
  obtain ⟨U, rfl⟩ : ∃ U, U = wr := ⟨_, rfl⟩
  have hlm := HO.out.le
  by_cases hlt : k < L
  ·have hkI : (k : Int) < (L : Int) := by omega
   have hkI0 : (0 : Int) ≤ (k : Int) := by omega
   have hki : k < irs.length := by rw [Hil.out]; exact hlt
   have hbr3 : Below V3.heap.size V3 U := by rw [hbV]; exact hbr
   have hrow := Hiv.out.grown hbr3
   obtain ⟨b, bo, hb⟩ := hrow.at_ k (by rw [List.length_map]; exact hki)
   have cb := hrow.cell b bo hb k (by rw [List.length_map]; exact hki)
   rw [List.getElem_map] at cb
   have hal := Hia.out _ (List.getElem_mem hki)
   obtain ⟨hn, hri⟩ := Hic.out k hki
   obtain ⟨e, he⟩ : ∃ v, Hid (irs[k] = v) := ⟨_, Lib.hid rfl⟩
   have hri2 : ∀ i (h2 : i < e.ds.length), Ris e.ds[i].l (PP k i) := by have := he.out; subst this; exact hri
   rw [he.out] at cb hal hn
   obtain ⟨ed, ea, ec⟩ := e
   change _ = some (Value.slice ea ed.length ec) at cb
   dsimp only at hal hn hri2
   have hdm : ed.length ≤ ec ∧ ec ≤ 9223372036854775807 := ⟨by have := hal.row.le; rwa [List.length_map] at this, hal.row.max⟩
   have Hal := Lib.hid hal
   have Hri := Lib.hid hri2
   have hM30 : ed.length ≤ 30 := by rw [hn]; exact hNs.out k
   obtain ⟨M, hM⟩ : ∃ q, Hid (ed.length = q) := ⟨_, Lib.hid rfl⟩
   rw [hM.out] at cb hdm hM30
   have HnM : Hid (ns k = M) := Lib.hid (by rw [← hn, hM.out])
   have hblb := World.block_lt_of_cell? _ _ cb
   obtain ⟨ln, hln⟩ : ∃ q, Hid (l.length = q) := ⟨_, Lib.hid rfl⟩
   rw [hln.out] at hlm ⊢
   subst hb
   clear hrow hal hn hri hri2 hbr3
   go_wp2_with (fail)
   rw [← hln.out]
   clear hln hlm cb hblb
   obtain ⟨A1, hA1⟩ : ∃ q, Hid (clS P ns (T + 1) k = q) := ⟨_, Lib.hid rfl⟩
   rw [hA1.out] at Hl
   go_loopw [3, 6] (fun sv tv wr => ∃ (t : Nat) (a : Option Addr) (c : Nat) (l : List Cl4), t ≤ T + 1 ∧ tv = .int .i64 (t : Int) ∧ sv = .slice a l.length c ∧ Hid (l = A1 ++ clR (P k) M k t) ∧ Hid (OwnCl wr base a c l) ∧ Below base V3 wr) (fun _ tv _ => T + 1 - (RowKit.intOf tv).toNat)
   case atStart => exact ⟨0, a, c, l, Nat.zero_le _, rfl, rfl, Lib.hid (by rw [Hl.out]; simp [clR]), HO, hbr⟩
   case round =>
    clear Hl HO hbr
    obtain ⟨t, a, c, l, ht, rfl, rfl, Hl, HO, hbr⟩ := hrel
    obtain ⟨U2, rfl⟩ : ∃ U, U = wr := ⟨_, rfl⟩
    have hlm := HO.out.le
    have HAu := Lib.hid (HA3.out.below hbr hbb)
    have x0 := HAu.out.cell 0
    have xl := HAu.out.lt
    simp only [List.getElem?_cons_zero, List.getElem?_cons_succ] at x0
    by_cases hltt : t < T + 1
    ·have htI : (t : Int) ≤ (T : Int) := by omega
     have htI2 : (t : Int) + 1 ≤ 100 := by omega
     obtain ⟨A2, hA2⟩ : ∃ q, Hid (A1 ++ clR (P k) M k t = q) := ⟨_, Lib.hid rfl⟩
     have HA2 : Hid (A2.length ≤ 3500000) := Lib.hid (by
      rw [← hA2.out, ← hA1.out, List.length_append]
      have h1 := clS_len P ns (T + 1) 900 (fun r => by have := Nat.mul_le_mul (hNs.out r) (hNs.out r); omega) k
      have h2 := clR_len (P k) M k t
      have h3 := Nat.mul_le_mul hM30 hM30
      have h4 : k * ((T + 1) * 900) ≤ 60 * (61 * 900) := Nat.mul_le_mul (by omega) (Nat.mul_le_mul (by omega) (Nat.le_refl _))
      have h5 : t * (M * M) ≤ 61 * 900 := Nat.mul_le_mul (by omega) h3
      omega)
     rw [hA2.out] at Hl
     obtain ⟨ln, hln⟩ : ∃ q, Hid (l.length = q) := ⟨_, Lib.hid rfl⟩
     rw [hln.out] at hlm ⊢
     go_wp2_with (fail)
     rw [← hln.out]
     clear hln hlm x0 xl HAu
     go_loopw [3, 26] (fun sv iv wr => ∃ (i : Nat) (a : Option Addr) (c : Nat) (l : List Cl4), i ≤ M ∧ iv = .int .i64 (i : Int) ∧ sv = .slice a l.length c ∧ Hid (l = A2 ++ (prTo (P k t) (List.range M) i).map (fun x => (k, t, x.1, x.2))) ∧ Hid (OwnCl wr base a c l) ∧ Below base V3 wr) (fun _ iv _ => M - (RowKit.intOf iv).toNat)
     case atStart => exact ⟨0, a, c, l, Nat.zero_le _, rfl, rfl, Lib.hid (by rw [Hl.out]; simp [prTo]), HO, hbr⟩
     case round =>
      clear Hl HO hbr
      obtain ⟨i, a, c, l, hi, rfl, rfl, Hl, HO, hbr⟩ := hrel
      obtain ⟨U3, rfl⟩ : ∃ U, U = wr := ⟨_, rfl⟩
      have hlm := HO.out.le
      by_cases hlti : i < M
      ·have hiI : (i : Int) < (M : Int) := by omega
       have hiI0 : (0 : Int) ≤ (i : Int) := by omega
       have hw1 : IntKind.i64.wrap ((i : Int) + 1) = (i : Int) + 1 := IntWalk.i64_in _ (by omega)
       obtain ⟨A3, hA3⟩ : ∃ q, Hid (A2 ++ (prTo (P k t) (List.range M) i).map (fun x => (k, t, x.1, x.2)) = q) := ⟨_, Lib.hid rfl⟩
       have HA3' : Hid (A3.length ≤ 3600000) := Lib.hid (by
        rw [← hA3.out, List.length_append, List.length_map]
        have h1 := HA2.out
        have h2 := prTo_len (P k t) (List.range M) i
        rw [List.length_range] at h2
        have h3 : i * M ≤ 30 * 30 := Nat.mul_le_mul (by omega) hM30
        omega)
       rw [hA3.out] at Hl
       obtain ⟨ln, hln⟩ : ∃ q, Hid (l.length = q) := ⟨_, Lib.hid rfl⟩
       rw [hln.out] at hlm ⊢
       go_wp2_with (fail)
       rw [← hln.out]
       clear hln hlm
       go_loopw [3, 8] (fun sv jv wr => ∃ (m : Nat) (a : Option Addr) (c : Nat) (l : List Cl4), i + 1 + m ≤ M ∧ jv = .int .i64 ((i + 1 + m : Nat) : Int) ∧ sv = .slice a l.length c ∧ Hid (l = A3 ++ (innL (P k t) M i m).map (fun x => (k, t, x.1, x.2))) ∧ Hid (OwnCl wr base a c l) ∧ Below base V3 wr) (fun _ jv _ => M - (RowKit.intOf jv).toNat)
       case atStart => exact ⟨0, a, c, l, by omega, by go_num, rfl, Lib.hid (by rw [Hl.out]; simp [innL]), HO, hbr⟩
       case round =>
        clear Hl HO hbr
        obtain ⟨m, a, c, l, hm, rfl, rfl, Hl, HO, hbr⟩ := hrel
        obtain ⟨U4, rfl⟩ : ∃ U, U = wr := ⟨_, rfl⟩
        have hlm := HO.out.le
        obtain ⟨j, hj⟩ : ∃ q, Hid (i + 1 + m = q) := ⟨_, Lib.hid rfl⟩
        rw [hj.out] at hm ⊢
        have hij : i < j := by rw [← hj.out]; omega
        by_cases hltj : j < M
        ·have hjI : (j : Int) < (M : Int) := by omega
         have hjI0 : (0 : Int) ≤ (j : Int) := by omega
         have hbr3 : Below V3.heap.size V3 U4 := by rw [hbV]; exact hbr
         have hag := Hal.out.grown hbr3
         have hie : i < ed.length := by rw [hM.out]; exact hlti
         have hje : j < ed.length := by rw [hM.out]; exact hltj
         obtain ⟨q, qo, hq⟩ := hag.row.at_ i (by rw [List.length_map]; exact hie)
         have ci := hag.row.cell q qo hq i (by rw [List.length_map]; exact hie)
         have cj := hag.row.cell q qo hq j (by rw [List.length_map]; exact hje)
         rw [List.getElem_map] at ci cj
         have hii := hag.nms _ (List.getElem_mem hie)
         have hij2 := hag.nms _ (List.getElem_mem hje)
         have hdi : decide ((t : Int) ∈ ed[i].l) = P k t i := by
          have h1 := (Hri.out i hie).mem (t : Int)
          have h2 := HPP.out k i t
          cases e : P k t i
          ·rw [decide_eq_false_iff_not, h1, h2, e]; simp
          ·rw [decide_eq_true_iff, h1, h2, e]
         have hdj : decide ((t : Int) ∈ ed[j].l) = P k t j := by
          have h1 := (Hri.out j hje).mem (t : Int)
          have h2 := HPP.out k j t
          cases e : P k t j
          ·rw [decide_eq_false_iff_not, h1, h2, e]; simp
          ·rw [decide_eq_true_iff, h1, h2, e]
         obtain ⟨xi, hxi⟩ : ∃ v, Hid (ed[i] = v) := ⟨_, Lib.hid rfl⟩
         obtain ⟨xj, hxj⟩ : ∃ v, Hid (ed[j] = v) := ⟨_, Lib.hid rfl⟩
         rw [hxi.out] at ci hii hdi
         rw [hxj.out] at cj hij2 hdj
         obtain ⟨xil, xia, xic⟩ := xi
         obtain ⟨xjl, xja, xjc⟩ := xj
         change _ = some (Value.slice xia xil.length xic) at ci
         change _ = some (Value.slice xja xjl.length xjc) at cj
         dsimp only at hii hij2 hdi hdj
         have Hi1 := Lib.hid (in9_any xil xia xic (t : Int) U4 hii)
         have Hj1 := Lib.hid (in9_any xjl xja xjc (t : Int) U4 hij2)
         rw [hdi] at Hi1
         rw [hdj] at Hj1
         obtain ⟨XI, hXI⟩ : ∃ q, Hid (xil.length = q) := ⟨_, Lib.hid rfl⟩
         obtain ⟨XJ, hXJ⟩ : ∃ q, Hid (xjl.length = q) := ⟨_, Lib.hid rfl⟩
         rw [hXI.out] at ci Hi1
         rw [hXJ.out] at cj Hj1
         have hbli := World.block_lt_of_cell? _ _ ci
         have Hsn := Lib.hid (innL_snoc (p := P k t) (n := M) (a := i) (m := m) (by rw [hj.out]; exact hltj))
         rw [hj.out] at Hsn
         have Hlen := Lib.hid (show l.length ≤ 4000000 from by
          rw [Hl.out, List.length_append, List.length_map]
          have h1 := HA3'.out
          have h2 := innL_len (P k t) M i m
          omega)
         have hbn : base ≤ U4.heap.size := by have := hbr.size; omega
         obtain ⟨a2, c2, w6, hrun, ho2, hb6, _⟩ := HO.out.push (k, t, i, j) 45 (by have := Hlen.out; omega) hbn
         dsimp only at hrun
         have HO2 := Lib.hid ho2
         have Hb2 := Lib.hid (hbr.trans hb6)
         have Hln : Hid ((l ++ [(k, t, i, j)]).length = l.length + 1) := Lib.hid (by simp)
         obtain ⟨L2, hL2⟩ : ∃ q, Hid (l ++ [(k, t, i, j)] = q) := ⟨_, Lib.hid rfl⟩
         have Hl2 : Hid (P k t i = true → P k t j = true → L2 = A3 ++ (innL (P k t) M i (m + 1)).map (fun x => (k, t, x.1, x.2))) := Lib.hid (fun h1 h2 => by
          rw [← hL2.out, Hsn.out, h1, h2, Hl.out]
          simp)
         have Hl3 : Hid (¬ (P k t i = true ∧ P k t j = true) → l = A3 ++ (innL (P k t) M i (m + 1)).map (fun x => (k, t, x.1, x.2))) := Lib.hid (fun h => by
          have e : (P k t i && P k t j) = false := by
           cases h1 : P k t i <;> cases h2 : P k t j <;> simp_all
          rw [Hsn.out, e, Hl.out]
          simp)
         rw [hL2.out] at HO2 Hln
         obtain ⟨ln, hln⟩ : ∃ q, Hid (l.length = q) := ⟨_, Lib.hid rfl⟩
         rw [hln.out] at hrun hlm Hln ⊢
         have Hrun := Lib.hid hrun
         obtain ⟨B1, hB1⟩ : ∃ q, Hid (P k t i = q) := ⟨_, Lib.hid rfl⟩
         obtain ⟨B2, hB2⟩ : ∃ q, Hid (P k t j = q) := ⟨_, Lib.hid rfl⟩
         rw [hB1.out] at Hi1 Hl2 Hl3
         rw [hB2.out] at Hj1 Hl2 Hl3
         have hjw : (j : Int) + 1 = ((i + 1 + (m + 1) : Nat) : Int) := by have := hj.out; omega
         have Hjw := Lib.hid hjw
         subst hq
         clear hrun ho2 hb6 hdi hdj hii hij2 hag hbr3 hL2 hjw
         go_wp2_with (fail)
         refine Hi1.out.mono ?_
         rintro e7 w7 ⟨rfl, rfl⟩
         cases B1
         ·have Hl4 := Lib.hid (Hl3.out (by simp))
          go_wp2_with (fail)
          exact ⟨⟨m + 1, a, c, l, by have := hj.out; omega, by rw [← Hjw.out], by rw [hln.out], Hl4, HO, hbr⟩, by simp [RowKit.intOf]; omega⟩
         ·go_wp2_with (fail)
          refine Hj1.out.mono ?_
          rintro e7 w7 ⟨rfl, rfl⟩
          cases B2
          ·have Hl4 := Lib.hid (Hl3.out (by simp))
           go_wp2_with (fail)
           exact ⟨⟨m + 1, a, c, l, by have := hj.out; omega, by rw [← Hjw.out], by rw [hln.out], Hl4, HO, hbr⟩, by simp [RowKit.intOf]; omega⟩
          ·have Hl4 := Lib.hid (Hl2.out (by simp) (by simp))
           go_wp2_with (at_builtin; refine wpList_append_run rfl _ _ 45 45 rfl _ _ _ _ rfl rfl Hrun.out ?_)
           exact ⟨⟨m + 1, a2, c2, L2, by have := hj.out; omega, by rw [← Hjw.out], by rw [Hln.out], Hl4, HO2, Hb2.out⟩, by simp [RowKit.intOf]; omega⟩
        ·have hjM : j = M := by omega
         have hjI : ¬ (j : Int) < (M : Int) := by omega
         have Hl2 : Hid (l = A2 ++ (prTo (P k t) (List.range M) (i + 1)).map (fun x => (k, t, x.1, x.2))) := Lib.hid (by
          have e : m = M - (i + 1) := by have := hj.out; omega
          rw [Hl.out, ← hA3.out, prTo_snoc, List.map_append, ← List.append_assoc, e, innL_end hlti])
         clear hjM
         go_wp2_with (fail)
         first | exact ⟨⟨i + 1, a, c, l, by omega, by go_num, rfl, Hl2, HO, hbr⟩, by simp [RowKit.intOf]; omega⟩ | fail "E2"
      ·have hie : i = M := by omega
       have hiI : ¬ (i : Int) < (M : Int) := by omega
       have Hl2 : Hid (l = A1 ++ clR (P k) M k (t + 1)) := Lib.hid (by
        have e9 := prTo_is (P k t) (List.range M)
        rw [List.length_range] at e9
        rw [Hl.out, clR_snoc, ← List.append_assoc, hA2.out, hie, e9]
        rfl)
       clear hie
       go_wp2_with (fail)
       exact ⟨⟨t + 1, a, c, l, by omega, by go_num, rfl, Hl2, HO, hbr⟩, by simp [RowKit.intOf]; omega⟩
    ·have hte : t = T + 1 := by omega
     have htI : ¬ (t : Int) ≤ (T : Int) := by omega
     have Hl2 : Hid (l = clS P ns (T + 1) (k + 1)) := Lib.hid (by rw [Hl.out, clS_snoc, hA1.out, hte, HnM.out])
     clear hte
     go_wp2_with (fail)
     exact ⟨⟨k + 1, a, c, l, by omega, by go_num, rfl, Hl2, HO, hbr⟩, by simp [RowKit.intOf]; omega⟩
  ·have hke : k = L := by omega
   have hkI : ¬ (k : Int) < (L : Int) := by omega
   have hbr3 : Below V3.heap.size V3 U := by rw [hbV]; exact hbr
   have Hfin := Lib.hid (HQ.out U a c l (by rw [Hl.out, hke]) (own_mono HO.out hwb) (Hb3.out.trans (hbr3.mono Hb3.out.size)))
   obtain ⟨ln, hln⟩ : ∃ q, Hid (l.length = q) := ⟨_, Lib.hid rfl⟩
   rw [hln.out] at hlm Hfin ⊢
   clear hke hbr3
   go_wp2_with (fail)
   first | exact Hfin.out | exact bodyPost_ret (v := .slice a ln c) (by simp [results, Try.results37, go_sem]; try first | rfl | assumption | omega) rfl Hfin.out
end Go.Proofs.Ythogiakfbgehnaa
namespace Go.Proofs.Ythogiakfbgehnaa
open Go.RowKit Go.Maps
attribute [local go_sem] Oper.semAt_some
/-- What the reference's Build answers. -/
def BldR (w : World) (al : List (List (List Int))) (f : Nat → Bool) (T : Nat) (e : Ending) (W' : World) : Prop :=
 (allCl al f T ≠ [] ∧ e = .returned (.tuple #[.slice none 0 0, .int .i64 100]) ∧ Below w.heap.size w W') ∨
 (allCl al f T = [] ∧ ∃ oa oc, ∃ rs : List IltD, e = .returned (.tuple #[.slice oa rs.length oc, .int .i64 0]) ∧ rs.length = al.length ∧ AltsI W' oa oc rs ∧ (∀ r, r < al.length → rowL rs r = rowT (fun t j => takB al f T r (t : Int) j) (al.getD r []).length (T + 1)) ∧ Below w.heap.size w W')
set_option maxRecDepth 100000 in
set_option maxHeartbeats 16000000 in
theorem refBuild_any10 (d : CfD) (w : World) (hd : CfAt w d) (hf : FitC d) :
 Calls Try.prog 34 #[d.v] w (BldR w (d.alts.map IrD.p) (nulB (d.alts.map IrD.p)) d.toks.length) := by
 have hr60 := hf.r
 have ht60 := hf.t
 have hpl : (d.alts.map IrD.p).length = d.alts.length := List.length_map _
 have hns30 : ∀ r, ((d.alts.map IrD.p).getD r []).length ≤ 30 := fun r => by
  by_cases h : r < d.alts.length
  ·rw [List.getD_eq_getElem?_getD, List.getElem?_map, List.getElem?_eq_getElem h]
   show (IrD.p (d.alts[r])).length ≤ 30
   unfold IrD.p
   rw [List.length_map]
   exact hf.a _ (List.getElem_mem h)
  ·rw [List.getD_eq_getElem?_getD, List.getElem?_eq_none (by rw [hpl]; omega)]; simp
 have Hcl := Lib.hid (fun W (hb : Below w.heap.size w W) => refClashes_any d W (hd.grown hb) hf)
 have Hall0 := Lib.hid (fun W (hb : Below w.heap.size w W) => all10_any d W (hd.grown hb) hf)
 obtain ⟨al, hal9⟩ : ∃ q, Hid (d.alts.map IrD.p = q) := ⟨_, Lib.hid rfl⟩
 rw [hal9.out] at Hall0 Hcl hns30 hpl ⊢
 obtain ⟨f, hf9⟩ : ∃ q, Hid (nulB al = q) := ⟨_, Lib.hid rfl⟩
 rw [hf9.out] at Hall0 Hcl ⊢
 obtain ⟨P, hP⟩ : ∃ q : Nat → Nat → Nat → Bool, Hid ((fun (r t j : Nat) => takB al f d.toks.length r (t : Int) j) = q) := ⟨_, Lib.hid rfl⟩
 have HP : Hid (∀ (r t j : Nat), takB al f d.toks.length r (t : Int) j = P r t j) := Lib.hid (fun r t j => congrFun (congrFun (congrFun hP.out r) t) j)
 obtain ⟨ns, hns9⟩ : ∃ q : Nat → Nat, Hid ((fun r => (al.getD r []).length) = q) := ⟨_, Lib.hid rfl⟩
 have hNs : Hid (∀ r, ns r ≤ 30) := Lib.hid (fun r => by rw [← hns9.out]; exact hns30 r)
 obtain ⟨PP, hPP⟩ : ∃ q : Nat → Nat → Int → Prop, Hid ((fun (r i : Nat) => PrdP al f d.toks.length (r : Int) (i : Int)) = q) := ⟨_, Lib.hid rfl⟩
 have HPP : Hid (∀ (r i t : Nat), PP r i (t : Int) ↔ P r t i = true) := Lib.hid (fun r i t => by
  rw [← hPP.out, ← HP.out]
  show PrdP al f d.toks.length (r : Int) (i : Int) (t : Int) ↔ _
  unfold PrdP
  rw [Int.toNat_natCast, Int.toNat_natCast]
  constructor
  ·exact fun h => h.2.2
  ·exact fun h => ⟨by omega, by omega, h⟩)
 rw [hns9.out, hPP.out] at Hall0
 have Hall := Lib.hid (fun W (hb : Below w.heap.size w W) => Hall0.out W hb)
 obtain ⟨Q, hQ⟩ : ∃ Q : Ending → World → Prop, Hid (BldR w al f d.toks.length = Q) := ⟨_, Lib.hid rfl⟩
 rw [hQ.out]
 have hcl : allCl al f d.toks.length = clS P ns (d.toks.length + 1) d.alts.length := by unfold allCl; rw [hP.out, hns9.out, hpl]
 have HNO0 : allCl al f d.toks.length = [] → ∀ r, r < d.alts.length → ∀ t, t < d.toks.length + 1 → ((List.range (ns r)).filter (P r t)).length ≤ 1 := fun h => by
  rw [hcl] at h
  exact clS_nil.1 h
 have HQ10 : allCl al f d.toks.length ≠ [] → ∀ W, Below w.heap.size w W → Q (.returned (.tuple #[.slice none 0 0, .int .i64 100])) W := fun h W hb => by
  rw [← hQ.out]
  exact .inl ⟨h, rfl, hb⟩
 have HQ20 : allCl al f d.toks.length = [] → ∀ W oa oc (rs : List IltD), rs.length = d.alts.length → AltsI W oa oc rs → (∀ r, r < d.alts.length → rowL rs r = rowT (P r) (ns r) (d.toks.length + 1)) → Below w.heap.size w W → Q (.returned (.tuple #[.slice oa rs.length oc, .int .i64 0])) W := fun h W oa oc rs h1 h2 h3 h4 => by
  rw [← hQ.out]
  refine .inr ⟨h, oa, oc, rs, rfl, by rw [h1, hpl], h2, fun r hr => ?_, h4⟩
  rw [h3 r (by rw [← hpl]; exact hr), ← hns9.out]
  congr 1
  funext t j
  exact (HP.out r t j).symm
 obtain ⟨CL, hCL⟩ : ∃ q, Hid (allCl al f d.toks.length = q) := ⟨_, Lib.hid rfl⟩
 rw [hCL.out] at HNO0 HQ10 HQ20 Hcl
 have HNO := Lib.hid HNO0
 have HQ1 := Lib.hid HQ10
 have HQ2 := Lib.hid HQ20
 clear HNO0 HQ10 HQ20
 have hxm : d.alts.length ≤ d.ac ∧ d.ac ≤ 9223372036854775807 := ⟨by have := hd.alts.le; rwa [List.length_map] at this, hd.alts.max⟩
 have htm : d.toks.length ≤ d.tc ∧ d.tc ≤ 9223372036854775807 := ⟨by have := hd.toks.le; rwa [List.length_map] at this, hd.toks.max⟩
 clear hQ hpl hd hf hP hns9 hns30 hPP Hall0 hcl
 obtain ⟨DD, hDD⟩ : ∃ q, Hid (d = q) := ⟨_, Lib.hid rfl⟩
 have hv : d.v = .agg #[.slice d.ta d.toks.length d.tc, .slice d.na d.names.length d.nc, .slice d.aa d.alts.length d.ac] := rfl
 rw [hv] at Hall Hcl ⊢
 have hb1 : Below w.heap.size w (w.alloc (.cells #[.slice d.ta d.toks.length d.tc, .slice d.na d.names.length d.nc, .slice d.aa d.alts.length d.ac] 25)) := (Below.refl _ w).alloc (Nat.le_refl _) _
 have hA := Blk.new w 25 #[.slice d.ta d.toks.length d.tc, .slice d.na d.names.length d.nc, .slice d.aa d.alts.length d.ac]
 obtain ⟨T, HT⟩ : ∃ q, Hid (d.toks.length = q) := ⟨_, Lib.hid rfl⟩
 obtain ⟨N, HN⟩ : ∃ q, Hid (d.names.length = q) := ⟨_, Lib.hid rfl⟩
 obtain ⟨L, HL⟩ : ∃ q, Hid (d.alts.length = q) := ⟨_, Lib.hid rfl⟩
 obtain ⟨xta, Hxta⟩ : ∃ q, Hid (d.ta = q) := ⟨_, Lib.hid rfl⟩
 obtain ⟨xtc, Hxtc⟩ : ∃ q, Hid (d.tc = q) := ⟨_, Lib.hid rfl⟩
 obtain ⟨xna, Hxna⟩ : ∃ q, Hid (d.na = q) := ⟨_, Lib.hid rfl⟩
 obtain ⟨xnc, Hxnc⟩ : ∃ q, Hid (d.nc = q) := ⟨_, Lib.hid rfl⟩
 obtain ⟨xaa, Hxaa⟩ : ∃ q, Hid (d.aa = q) := ⟨_, Lib.hid rfl⟩
 obtain ⟨xac, Hxac⟩ : ∃ q, Hid (d.ac = q) := ⟨_, Lib.hid rfl⟩
 rw [HT.out, HN.out, HL.out, Hxta.out, Hxtc.out, Hxna.out, Hxnc.out, Hxaa.out, Hxac.out] at hA hb1 Hall Hcl ⊢
 rw [HL.out, Hxac.out] at hxm
 rw [HT.out] at ht60
 rw [HT.out, Hxtc.out] at htm
 rw [HL.out] at hr60
 have x0 := hA.cell 0
 have x1 := hA.cell 1
 have x2 := hA.cell 2
 have xl := hA.lt
 simp only [List.getElem?_cons_zero, List.getElem?_cons_succ] at x0 x1 x2
 have HA := Lib.hid hA
 have Hb1 := Lib.hid hb1
 clear hA hb1 hv hDD
 go_enter Try.func34, Try.ntmps34
 go_wp2_with (fail)
 obtain ⟨bx, hbx⟩ : ∃ q, Hid (w.heap.size = q) := ⟨_, Lib.hid rfl⟩
 rw [hbx.out] at HA x0 x1 x2 xl ⊢
 generalize hV : World.alloc w _ = V1 at HA x0 x1 x2 xl Hb1 ⊢
 clear hV
 refine (Hcl.out V1 Hb1.out).mono ?_
 rintro e V2 ⟨ca, cc, rfl, hco, hb⟩
 have hcm := OwnCl.le hco
 have HA2 := Lib.hid (HA.out.below hb HA.out.lt)
 have Hb2 := Lib.hid (Hb1.out.trans (hb.mono Hb1.out.size))
 obtain ⟨CLl, hCLl⟩ : ∃ q, Hid (CL.length = q) := ⟨_, Lib.hid rfl⟩
 rw [hCLl.out] at hcm ⊢
 clear x0 x1 x2 xl hb hco
 by_cases hc0 : 0 < CLl
 ·have hcI : (0 : Int) < (CLl : Int) := by omega
  have hcI2 : (CLl : Int) > 0 := hcI
  have Hfin := Lib.hid (HQ1.out (fun e => by rw [← hCLl.out, e] at hc0; simp at hc0) V2 Hb2.out)
  go_wp2_with (fail)
  first | exact Hfin.out | exact bodyPost_ret (v := .tuple #[.slice none 0 0, .int .i64 100]) (by simp [results, Try.results34, go_sem]; try first | rfl | assumption | omega) rfl Hfin.out
 have hcI : ¬ (0 : Int) < (CLl : Int) := by omega
 have hcI2 : ¬ (CLl : Int) > 0 := hcI
 have hcz : CLl = 0 := by omega
 have Hno := Lib.hid (HNO.out (List.length_eq_zero_iff.1 (by rw [hCLl.out]; exact hcz)))
 have HQ3 := Lib.hid (HQ2.out (List.length_eq_zero_iff.1 (by rw [hCLl.out]; exact hcz)))
 rw [HT.out, HL.out] at Hno
 clear hcz HQ1 HQ2 HNO
 have x0 := HA2.out.cell 0
 have x1 := HA2.out.cell 1
 have x2 := HA2.out.cell 2
 have xl := HA2.out.lt
 simp only [List.getElem?_cons_zero, List.getElem?_cons_succ] at x0 x1 x2
 go_wp2_with (fail)
 refine (Hall.out V2 Hb2.out).mono ?_
 rintro e V3 ⟨ia, ic, irs, rfl, hil, hiv, hia, hic, hb⟩
 have Hiv := Lib.hid hiv
 have Hia := Lib.hid hia
 have Hic := Lib.hid hic
 have Hil := Lib.hid hil
 have HA3 := Lib.hid (HA2.out.below hb HA2.out.lt)
 have Hb3 := Lib.hid (Hb2.out.trans (hb.mono Hb2.out.size))
 obtain ⟨base, hbase⟩ : ∃ q, Hid (V3.heap.size = q) := ⟨_, Lib.hid rfl⟩
 have hbb : bx < base := by rw [← hbase.out]; exact HA3.out.lt
 have hwb : w.heap.size ≤ base := by rw [← hbase.out]; exact Hb3.out.size
 have hbV : V3.heap.size = base := hbase.out
 have hic2 : L ≤ ic ∧ ic ≤ 9223372036854775807 := ⟨by have := hiv.le; rw [List.length_map, hil] at this; exact this, hiv.max⟩
 rw [hil]
 clear x0 x1 x2 xl hb hiv hia hic hil
 go_wp2_with (fail)
 go_loopw [4, 19] (fun sv kv wr => ∃ (k : Nat) (oa : Option Addr) (oc : Nat) (rs : List IltD), k ≤ L ∧ kv = .int .i64 (k : Int) ∧ sv = .slice oa rs.length oc ∧ Hid (rs.length = k) ∧ Hid (wr.ownsRow base 35 1 (.slice oa rs.length oc) rs.length (rs.map IltD.v)) ∧ Hid (∀ x ∈ rs, OwnKZ wr base x.a x.c x.l) ∧ Hid (∀ r (h : r < rs.length), rs[r].l = rowT (P r) (ns r) (T + 1)) ∧ Below base V3 wr) (fun _ kv _ => L - (RowKit.intOf kv).toNat)
 case atStart => exact ⟨0, none, 0, [], Nat.zero_le _, rfl, rfl, Lib.hid rfl, Lib.hid (World.ownsRow_nil _ _ _ 1), Lib.hid (fun e he => by cases he), Lib.hid (fun r h => by cases h), Below.refl _ _⟩
 case round =>
  obtain ⟨k, oa, oc, rs, hk, rfl, rfl, Hkl, HO, HE, HC, hbr⟩ := hrel
  obtain ⟨U, rfl⟩ : ∃ U, U = wr := ⟨_, rfl⟩
  have hvs := own_vals HO.out (by rw [List.length_map])
  have hom : rs.length ≤ oc ∧ oc ≤ 9223372036854775807 := ⟨by have := hvs.le; rwa [List.length_map] at this, hvs.max⟩
  have hbr3 : Below V3.heap.size V3 U := by rw [hbV]; exact hbr
  by_cases hlt : k < L
  ·have hkI : (k : Int) < (L : Int) := by omega
   have hkI0 : (0 : Int) ≤ (k : Int) := by omega
   have hki : k < irs.length := by rw [Hil.out]; exact hlt
   have hrow := Hiv.out.grown hbr3
   obtain ⟨b, bo, hb⟩ := hrow.at_ k (by rw [List.length_map]; exact hki)
   have cb := hrow.cell b bo hb k (by rw [List.length_map]; exact hki)
   rw [List.getElem_map] at cb
   have hal := Hia.out _ (List.getElem_mem hki)
   obtain ⟨hn, hri⟩ := Hic.out k hki
   obtain ⟨e, he⟩ : ∃ v, Hid (irs[k] = v) := ⟨_, Lib.hid rfl⟩
   have hri2 : ∀ i (h2 : i < e.ds.length), Ris e.ds[i].l (PP k i) := by have := he.out; subst this; exact hri
   rw [he.out] at cb hal hn
   obtain ⟨ed, ea, ec⟩ := e
   change _ = some (Value.slice ea ed.length ec) at cb
   dsimp only at hal hn hri2
   have hdm : ed.length ≤ ec ∧ ec ≤ 9223372036854775807 := ⟨by have := hal.row.le; rwa [List.length_map] at this, hal.row.max⟩
   have Hal := Lib.hid hal
   have Hri := Lib.hid hri2
   have hM30 : ed.length ≤ 30 := by rw [hn]; exact hNs.out k
   obtain ⟨M, hM⟩ : ∃ q, Hid (ed.length = q) := ⟨_, Lib.hid rfl⟩
   rw [hM.out] at cb hdm hM30
   have HnM : Hid (ns k = M) := Lib.hid (by rw [← hn, hM.out])
   have hblb := World.block_lt_of_cell? _ _ cb
   obtain ⟨on, hon⟩ : ∃ q, Hid (rs.length = q) := ⟨_, Lib.hid rfl⟩
   rw [hon.out] at hom ⊢
   have hbn : base ≤ U.heap.size := by have := hbr.size; omega
   subst hb
   clear hrow hal hn hri hri2 hbr3 hvs
   go_wp2_with (fail)
   clear cb hblb
   obtain ⟨H0, hH0⟩ : ∃ q, Hid (U.heap.size = q) := ⟨_, Lib.hid rfl⟩
   have hHb : base ≤ H0 := by rw [← hH0.out]; exact hbn
   have Hr0 : Hid (Below H0 U U) := Lib.hid (Below.refl _ _)
   go_loopw [7, 8] (fun sv tv wr => ∃ (t : Nat) (ra : Option Addr) (rc : Nat) (row : List Int), t ≤ T + 1 ∧ tv = .int .i64 (t : Int) ∧ sv = .slice ra row.length rc ∧ Hid (row = rowT (P k) M t) ∧ Hid (OwnKZ wr H0 ra rc row) ∧ Below H0 U wr) (fun _ tv _ => T + 1 - (RowKit.intOf tv).toNat)
   case atStart => exact ⟨0, none, 0, [], Nat.zero_le _, rfl, rfl, Lib.hid rfl, Lib.hid (OwnKZ.nil _ _), Hr0.out⟩
   case round =>
    clear Hr0
    obtain ⟨t, ra, rc, row, ht, rfl, rfl, Hrow, Ho, hrr⟩ := hrel
    obtain ⟨U2, rfl⟩ : ∃ U, U = wr := ⟨_, rfl⟩
    have hrrU : Below U.heap.size U U2 := by rw [hH0.out]; exact hrr
    have hlm := OwnKZ.le Ho.out
    have hbn2 : H0 ≤ U2.heap.size := by have := hrr.size; have := hH0.out; omega
    have hb2 : Below base V3 U2 := hbr.trans (hrr.mono hHb)
    have HAu := Lib.hid (HA3.out.below hb2 hbb)
    have x0 := HAu.out.cell 0
    have xl := HAu.out.lt
    simp only [List.getElem?_cons_zero, List.getElem?_cons_succ] at x0
    have hrl : row.length = t := by rw [Hrow.out, rowT_len]
    have Hrl := Lib.hid hrl
    rw [hrl] at hlm
    rw [hrl]
    clear hrl
    by_cases hltt : t < T + 1
    ·have htI : (t : Int) ≤ (T : Int) := by omega
     have htI2 : (t : Int) + 1 ≤ 100 := by omega
     have hb23 : Below V3.heap.size V3 U2 := by rw [hbV]; exact hb2
     have hag := Hal.out.grown hb23
     have Hag := Lib.hid hag
     have hno := Hno.out k hlt t hltt
     rw [HnM.out] at hno
     have Hol := Lib.hid (only_last (p := P k t) (n := M) hno)
     clear hag hno hb23
     go_wp2_with (fail)
     clear x0 xl HAu
     go_loopw [9, 32] (fun nv iv wr => ∃ (i : Nat), i ≤ M ∧ iv = .int .i64 (i : Int) ∧ nv = .int .i64 (lastF (P k t) i) ∧ wr = U2) (fun _ iv _ => M - (RowKit.intOf iv).toNat)
     case atStart => exact ⟨0, Nat.zero_le _, rfl, rfl, rfl⟩
     case round =>
      obtain ⟨i, hi, rfl, rfl, hwr⟩ := hrel
      subst hwr
      obtain ⟨U3, rfl⟩ : ∃ U, U = wr := ⟨_, rfl⟩
      by_cases hlti : i < M
      ·have hiI : (i : Int) < (M : Int) := by omega
       have hiI0 : (0 : Int) ≤ (i : Int) := by omega
       have hie : i < ed.length := by rw [hM.out]; exact hlti
       obtain ⟨q, qo, hq⟩ := Hag.out.row.at_ i (by rw [List.length_map]; exact hie)
       have ci := Hag.out.row.cell q qo hq i (by rw [List.length_map]; exact hie)
       rw [List.getElem_map] at ci
       have hii := Hag.out.nms _ (List.getElem_mem hie)
       have hdi : decide ((t : Int) ∈ ed[i].l) = P k t i := by
        have h1 := (Hri.out i hie).mem (t : Int)
        have h2 := HPP.out k i t
        cases e : P k t i
        ·rw [decide_eq_false_iff_not, h1, h2, e]; simp
        ·rw [decide_eq_true_iff, h1, h2, e]
       obtain ⟨xi, hxi⟩ : ∃ v, Hid (ed[i] = v) := ⟨_, Lib.hid rfl⟩
       rw [hxi.out] at ci hii hdi
       obtain ⟨xil, xia, xic⟩ := xi
       change _ = some (Value.slice xia xil.length xic) at ci
       dsimp only at hii hdi
       have Hi1 := Lib.hid (in9_any xil xia xic (t : Int) U3 hii)
       rw [hdi] at Hi1
       obtain ⟨XI, hXI⟩ : ∃ q, Hid (xil.length = q) := ⟨_, Lib.hid rfl⟩
       rw [hXI.out] at ci Hi1
       have hbli := World.block_lt_of_cell? _ _ ci
       have Hls : Hid (lastF (P k t) (i + 1) = if P k t i = true then (i : Int) else lastF (P k t) i) := Lib.hid rfl
       obtain ⟨B1, hB1⟩ : ∃ q, Hid (P k t i = q) := ⟨_, Lib.hid rfl⟩
       rw [hB1.out] at Hi1 Hls
       obtain ⟨n1, hn1⟩ : ∃ q, Hid (lastF (P k t) i = q) := ⟨_, Lib.hid rfl⟩
       rw [hn1.out] at Hls ⊢
       subst hq
       clear hii hdi
       go_wp2_with (fail)
       refine Hi1.out.mono ?_
       rintro e7 w7 ⟨rfl, rfl⟩
       cases B1
       ·have Hl2 : Hid (n1 = lastF (P k t) (i + 1)) := Lib.hid (by rw [Hls.out]; simp)
        go_wp2_with (fail)
        exact ⟨⟨i + 1, by omega, by go_num, by rw [← Hl2.out], by first | rfl | trivial⟩, by simp [RowKit.intOf]; omega⟩
       ·have Hl2 : Hid ((i : Int) = lastF (P k t) (i + 1)) := Lib.hid (by rw [Hls.out]; simp)
        go_wp2_with (fail)
        exact ⟨⟨i + 1, by omega, by go_num, by rw [← Hl2.out], by first | rfl | trivial⟩, by simp [RowKit.intOf]; omega⟩
      ·have hie : i = M := by omega
       have hiI : ¬ (i : Int) < (M : Int) := by omega
       have hlast : lastF (P k t) i = onlyL ((List.range M).filter (P k t)) := by rw [hie, Hol.out]
       rw [hlast]
       obtain ⟨a2, c2, w6, hrun, ho2, hg6, _⟩ := OwnKZ.push Ho.out (onlyL ((List.range M).filter (P k t))) 35 (by have := Hrl.out; omega) hbn2
       have HO2 := Lib.hid ho2
       have hrow2 : row ++ [onlyL ((List.range M).filter (P k t))] = rowT (P k) M (t + 1) := by rw [rowT_snoc, Hrow.out]
       rw [hrow2] at HO2
       have Hb6 : Hid (Below H0 U w6) := Lib.hid (hrr.trans (belowAt hg6 (fun q hq => (World.ownsRow.lt Ho.out q hq).1) hbn2))
       have Hl6 : Hid ((rowT (P k) M (t + 1)).length = t + 1) := Lib.hid (rowT_len _ _ _)
       obtain ⟨oF, hoF⟩ : ∃ q, Hid (onlyL ((List.range M).filter (P k t)) = q) := ⟨_, Lib.hid rfl⟩
       rw [hoF.out, Hrl.out] at hrun
       rw [hoF.out]
       have Hrun := Lib.hid hrun
       clear hie hlast hrun ho2 hg6 hrow2
       go_wp2_with (at_builtin; refine wpList_append_run rfl _ _ 35 35 rfl _ _ _ _ rfl rfl Hrun.out ?_)
       exact ⟨⟨t + 1, a2, c2, rowT (P k) M (t + 1), by omega, by go_num, by rw [Hl6.out], Lib.hid rfl, HO2, Hb6.out⟩, by simp [RowKit.intOf]; omega⟩
    ·have hte : t = T + 1 := by omega
     have htI : ¬ (t : Int) ≤ (T : Int) := by omega
     have hO2 := World.ownsRow.kept HO.out (below_grownBy hrrU none) (by cases e : (Value.slice oa rs.length oc).ownBlock <;> simp)
     have hE2 : ∀ x ∈ rs, OwnKZ U2 base x.a x.c x.l := fun x hx => World.ownsRow.kept (HE.out x hx) (below_grownBy hrrU none) (by cases e0 : (Value.slice x.a x.l.length x.c).ownBlock <;> simp)
     have hbn3 : base ≤ U2.heap.size := Nat.le_trans hHb hbn2
     obtain ⟨oa2, oc2, w6, hrun, ho6, hg6, _⟩ := own_push1 32 32 35 (.slice none 0 0) 24 Try.underlying32 info_rowI rfl (by decide) (.slice ra row.length rc) rfl hO2 (by have := Hkl.out; omega) hbn3
     have hty : ∀ q, (Value.slice oa rs.length oc).ownBlock = some q → ∃ cur t' fr, U2.heap[q]? = some (.cells cur t' fr) ∧ 3 ≠ t' := fun q hq => by
      obtain ⟨cur, hc⟩ := own_heap hO2 hq
      exact ⟨cur, _, _, hc, by decide⟩
     have HE6 : Hid (∀ x ∈ rs ++ [(⟨row, ra, rc⟩ : IltD)], OwnKZ w6 base x.a x.c x.l) := Lib.hid (fun x hx => by
      rcases List.mem_append.1 hx with hx | hx
      ·exact own_kept_ty (hE2 x hx) hg6 hty
      ·rw [List.mem_singleton] at hx
       subst hx
       exact own_kept_ty (own_mono Ho.out hHb) hg6 hty)
     have Hln : (rs ++ [(⟨row, ra, rc⟩ : IltD)]).length = rs.length + 1 := by simp
     have HO6 : Hid (w6.ownsRow base 35 1 (.slice oa2 (rs.length + 1) oc2) (rs.length + 1) ((rs ++ [(⟨row, ra, rc⟩ : IltD)]).map IltD.v)) := Lib.hid (by rw [List.map_append]; exact ho6)
     have HC6 : Hid (∀ r (h : r < (rs ++ [(⟨row, ra, rc⟩ : IltD)]).length), (rs ++ [(⟨row, ra, rc⟩ : IltD)])[r].l = rowT (P r) (ns r) (T + 1)) := Lib.hid (fun r h => by
      by_cases hi : r < rs.length
      ·have e9 : (rs ++ [(⟨row, ra, rc⟩ : IltD)])[r] = rs[r] := List.getElem_append_left hi
       rw [e9]
       exact HC.out r hi
      ·have : r = rs.length := by rw [Hln] at h; omega
       subst this
       have e9 : (rs ++ [(⟨row, ra, rc⟩ : IltD)])[rs.length] = ⟨row, ra, rc⟩ := by rw [List.getElem_append_right (Nat.le_refl _)]; simp
       rw [e9]
       have h9 := Hrow.out
       rw [hte, ← HnM.out, ← Hkl.out] at h9
       exact h9)
     have Hb6 : Hid (Below base V3 w6) := Lib.hid (hb2.trans (belowAt hg6 (fun q hq => (World.ownsRow.lt hO2 q hq).1) hbn3))
     obtain ⟨rs2, hrs2⟩ : ∃ q, Hid (rs ++ [(⟨row, ra, rc⟩ : IltD)] = q) := ⟨_, Lib.hid rfl⟩
     rw [hrs2.out] at HE6 Hln HO6 HC6
     rw [← Hln] at HO6 hrun
     have HLN : Hid (rs2.length = k + 1) := Lib.hid (by rw [Hln, Hkl.out])
     have Hln2 : Hid (rs2.length = on + 1) := Lib.hid (by rw [Hln, hon.out])
     rw [hon.out, Hln2.out, Hrl.out] at hrun
     have Hrun := Lib.hid hrun
     clear hte hrun ho6 hg6 hO2 hE2 hty Hln hb2 hrr hrrU
     go_wp2_with (at_builtin; refine wpList_append_run rfl _ _ 32 32 rfl _ _ _ _ rfl rfl Hrun.out ?_)
     exact ⟨⟨k + 1, oa2, oc2, rs2, by omega, by go_num, by rw [Hln2.out], HLN, HO6, HE6, HC6, Hb6.out⟩, by simp [RowKit.intOf]; omega⟩
  ·have hke : k = L := by omega
   have hkI : ¬ (k : Int) < (L : Int) := by omega
   have Hfin := Lib.hid (HQ3.out U oa oc rs (by rw [Hkl.out, hke, HL.out]) ⟨hvs, fun x hx => OwnKZ.vs (HE.out x hx)⟩ (fun r hr => by
    have h1 : r < rs.length := by rw [Hkl.out, hke, ← HL.out]; exact hr
    rw [rowL_at h1, HC.out r h1, HT.out]) (Hb3.out.trans (hbr3.mono Hb3.out.size)))
   obtain ⟨on, hon⟩ : ∃ q, Hid (rs.length = q) := ⟨_, Lib.hid rfl⟩
   rw [hon.out] at Hfin hom ⊢
   clear hke hvs hbr3
   go_wp2_with (fail)
   first | exact Hfin.out | exact bodyPost_ret (v := .tuple #[.slice oa on oc, .int .i64 0]) (by simp [results, Try.results34, go_sem]; try first | rfl | assumption | omega) rfl Hfin.out
end Go.Proofs.Ythogiakfbgehnaa
