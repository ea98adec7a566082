/- The row ParseTells in its second form: for every grammar by numbers and a list of tokens whose reading is of bulk at most 1048576: the law answers true and changes nothing that was there. -/
/- Texts joined: Fx Lf Kk Wp PLt. -/
import Derived.Test.YtfdhaochnbfndaaRBBa
import Derived.Test.YtfdhaochnbfndaaRBAy
import Derived.Test.YtfdhaochnbfndaaRBBb
import Derived.Test.YtfdhaochnbfndaaRBAr
import Derived.Test.YtfdhaochnbfndaaRBAj
import Derived.Test.YtfdhaochnbfndaaRBAa
import Derived.Test.YtfdhaochnbfndaaRBAk
set_option linter.unusedVariables false
set_option linter.unusedSimpArgs false
namespace Go.Proofs.Ytfdhaochnbfndaa
open Go.RowKit Go.Maps
attribute [local go_sem] Oper.semAt_some
theorem onlyL_rng {l : List Nat} {n : Nat} (h : ∀ i ∈ l, i < n) : -1 ≤ onlyL l ∧ onlyL l ≤ (n : Int) := by
 cases l with
 | nil => exact ⟨by show (-1 : Int) ≤ -1; omega, by show (-1 : Int) ≤ _; omega⟩
 | cons a l =>
  have := h a (List.mem_cons_self ..)
  show -1 ≤ (a : Int) ∧ (a : Int) ≤ (n : Int)
  omega
theorem rowT_rng {p : Nat → Nat → Bool} {n T : Nat} {x : Int} (h : x ∈ rowT p n T) : -1 ≤ x ∧ x ≤ (n : Int) := by
 unfold rowT at h
 obtain ⟨t, _, rfl⟩ := List.mem_map.1 h
 exact onlyL_rng (fun i hi => List.mem_range.1 (List.mem_filter.1 hi).1)
theorem prf_of {W : World} {d : CfD} (hf : FitC d) (hd : CfAt W d) {oa ka : Option Addr} {oc kc : Nat} {rs : List IltD} {toks : List Int} (hr : AltsI W oa oc rs) (hl : rs.length = (d.alts.map IrD.p).length)
 (hrow : ∀ r, r < (d.alts.map IrD.p).length → rowL rs r = rowT (fun t j => takB (d.alts.map IrD.p) (nulB (d.alts.map IrD.p)) d.toks.length r (t : Int) j) ((d.alts.map IrD.p).getD r []).length (d.toks.length + 1)) (hk : Ints W ka kc toks) : PrF W d oa oc rs ka kc toks := by
 refine ⟨hd, hr, hk, fun r hr a ha x hx => ?_, fun t ht x hx => ?_, fun r hr a ha => ⟨(hf.l r hr a ha).1, fun x hx => ?_⟩⟩
 ·have h1 := (hf.l r hr a ha).2 x hx
  have h2 := hf.t
  have h3 := hf.r
  omega
 ·obtain ⟨i, hi, e⟩ := List.getElem_of_mem ht
  have e2 : rowL rs i = t.l := by
   unfold rowL
   rw [List.getD_eq_getElem?_getD, List.getElem?_map, List.getElem?_eq_getElem hi, e]
   rfl
  rw [← e2, hrow i (by omega)] at hx
  have h1 := rowT_rng hx
  have h2 : ((d.alts.map IrD.p).getD i []).length ≤ 30 := by
   have hia : i < d.alts.length := by rw [hl, List.length_map] at hi; exact hi
   rw [List.getD_eq_getElem?_getD, List.getElem?_map, List.getElem?_eq_getElem hia]
   show (d.alts[i].ds.map _).length ≤ 30
   rw [List.length_map]
   exact hf.a _ (List.getElem_mem hia)
  omega
 ·have h1 := (hf.l r hr a ha).2 x hx
  have h3 := hf.r
  omega
end Go.Proofs.Ytfdhaochnbfndaa
namespace Go.Proofs.Ytfdhaochnbfndaa
open Go.RowKit Go.Maps
attribute [local go_sem] Oper.semAt_some
set_option maxRecDepth 100000 in
set_option maxHeartbeats 16000000 in
theorem lawTells11_any (d : CfD) (ka : Option Addr) (kc : Nat) (toks : List Int) (w : World) (hd : CfAt w d) (h1 : ∀ t ∈ d.toks, t.size ≤ maxLen) (h2 : ∀ t ∈ d.names, t.size ≤ maxLen) (h3 : ∀ r ∈ d.alts, ∀ a ∈ r.ds, ∀ x ∈ a.l, -9223372036854775808 ≤ x ∧ x ≤ 9223372036854775807) (hs : d.toks.length + d.names.length + szC (d.alts.map IrD.p) ≤ 1000000000000) (hk : Ints w ka kc toks) :
 Calls Try.prog 7 #[d.v, .slice ka toks.length kc] w fun e w' => e = .returned (.bool true) ∧ Below w.heap.size w w' := by
 have HTb := Lib.hid (fun W (hb : Below w.heap.size w W) => tables_any d W (hd.grown hb) h1 h2 h3 hs)
 have Hd := Lib.hid hd
 have Hk := Lib.hid hk
 have hkm : toks.length ≤ kc ∧ kc ≤ 9223372036854775807 := ⟨by have := hk.le; rwa [List.length_map] at this, hk.max⟩
 have hb1 : Below w.heap.size w (w.alloc (.cells #[.slice d.ta d.toks.length d.tc, .slice d.na d.names.length d.nc, .slice d.aa d.alts.length d.ac] 25)) := (Below.refl _ w).alloc (Nat.le_refl _) _
 have hA := Blk.new w 25 #[.slice d.ta d.toks.length d.tc, .slice d.na d.names.length d.nc, .slice d.aa d.alts.length d.ac]
 obtain ⟨xta, hxta⟩ : ∃ q, Hid (d.ta = q) := ⟨_, Lib.hid rfl⟩
 obtain ⟨xna, hxna⟩ : ∃ q, Hid (d.na = q) := ⟨_, Lib.hid rfl⟩
 obtain ⟨xaa, hxaa⟩ : ∃ q, Hid (d.aa = q) := ⟨_, Lib.hid rfl⟩
 obtain ⟨xtc, hxtc⟩ : ∃ q, Hid (d.tc = q) := ⟨_, Lib.hid rfl⟩
 obtain ⟨xnc, hxnc⟩ : ∃ q, Hid (d.nc = q) := ⟨_, Lib.hid rfl⟩
 obtain ⟨xac, hxac⟩ : ∃ q, Hid (d.ac = q) := ⟨_, Lib.hid rfl⟩
 obtain ⟨T, HT⟩ : ∃ q, Hid (d.toks.length = q) := ⟨_, Lib.hid rfl⟩
 obtain ⟨N, HN⟩ : ∃ q, Hid (d.names.length = q) := ⟨_, Lib.hid rfl⟩
 obtain ⟨L, HL⟩ : ∃ q, Hid (d.alts.length = q) := ⟨_, Lib.hid rfl⟩
 have hdv : d.v = .agg #[.slice xta T xtc, .slice xna N xnc, .slice xaa L xac] := by unfold CfD.v; rw [hxta.out, hxna.out, hxaa.out, hxtc.out, hxnc.out, hxac.out, HT.out, HN.out, HL.out]
 rw [hdv]
 rw [hxta.out, hxna.out, hxaa.out, hxtc.out, hxnc.out, hxac.out, HT.out, HN.out, HL.out] at hA hb1
 rw [hdv] at HTb
 have Hdv := Lib.hid hdv
 have x0 := hA.cell 0
 have x1 := hA.cell 1
 have x2 := hA.cell 2
 have xl := hA.lt
 simp only [List.getElem?_cons_zero, List.getElem?_cons_succ] at x0 x1 x2
 have HA := Lib.hid hA
 have Hb1 := Lib.hid hb1
 clear hA hb1 h1 h2 h3 hs hd hdv hxta hxna hxaa hxtc hxnc hxac
 go_enter Try.func7, Try.ntmps7
 go_wp2_with (fail)
 obtain ⟨bx, hbx⟩ : ∃ q, Hid (w.heap.size = q) := ⟨_, Lib.hid rfl⟩
 rw [hbx.out] at HA xl x0 x1 x2 ⊢
 generalize hV : World.alloc w _ = V1 at HA x0 x1 x2 xl Hb1 ⊢
 clear hV
 refine (live11_any V1).mono ?_
 rintro e w2 ⟨rfl, hb⟩
 have HA2 := Lib.hid (HA.out.below hb HA.out.lt)
 have Hb2 := Lib.hid (Hb1.out.trans (hb.mono Hb1.out.size))
 clear x0 x1 x2 xl hb
 have x0 := HA2.out.cell 0
 have x1 := HA2.out.cell 1
 have x2 := HA2.out.cell 2
 have xl := HA2.out.lt
 simp only [List.getElem?_cons_zero, List.getElem?_cons_succ] at x0 x1 x2
 go_wp2_with (fail)
 refine (HTb.out w2 Hb2.out).mono ?_
 intro e w3 hB
 obtain ⟨hb, hB⟩ := hB
 have HA3 := Lib.hid (HA2.out.below hb HA2.out.lt)
 have Hb3 := Lib.hid (Hb2.out.trans (hb.mono Hb2.out.size))
 clear x0 x1 x2 xl hb HTb
 rcases hB with rfl | ⟨hfw, hcl, oa, oc, rs, rfl, hrl, hra, hrow⟩
 ·go_wp2_with (fail)
  exact bodyPost_ret (v := .bool true) (by simp [results, Try.results7, go_sem]; try first | rfl | assumption | omega) rfl ⟨rfl, Hb3.out⟩
 have hrm : rs.length ≤ oc ∧ oc ≤ 9223372036854775807 := ⟨by have := hra.row.le; rwa [List.length_map] at this, hra.row.max⟩
 have hfit := few10_fit hfw
 have hbo : ∀ W, Below w3.heap.size w3 W → ∀ ka kc toks, Ints W ka kc toks → PrF W d oa oc rs ka kc toks := fun W hb ka kc toks hi => prf_of hfit (Hd.out.grown (Hb3.out.trans (hb.mono Hb3.out.size))) (hra.grown hb) hrl hrow hi
 have Hpf := Lib.hid hbo
 have HT60 : Hid (d.toks.length ≤ 60) := Lib.hid hfit.t
 obtain ⟨KL, HK⟩ : ∃ q, Hid (toks.length = q) := ⟨_, Lib.hid rfl⟩
 obtain ⟨rn, hrn⟩ : ∃ q, Hid (rs.length = q) := ⟨_, Lib.hid rfl⟩
 rw [HK.out] at hkm
 rw [hrn.out] at hrm
 rw [HK.out, hrn.out]
 have Hk3 := Lib.hid (Hk.out.grown Hb3.out)
 clear hbo hrl hra hrow hfit hcl hfw
 by_cases hK100 : 100 < KL
 ·have hKI : (100 : Int) < (KL : Int) := by omega
  go_wp2_with (fail)
  exact bodyPost_ret (v := .bool true) (by simp [results, Try.results7, go_sem]; try first | rfl | assumption | omega) rfl ⟨rfl, Hb3.out⟩
 have hKI : ¬ (100 : Int) < (KL : Int) := by omega
 have x0 := HA3.out.cell 0
 have x1 := HA3.out.cell 1
 have x2 := HA3.out.cell 2
 have xl := HA3.out.lt
 simp only [List.getElem?_cons_zero, List.getElem?_cons_succ] at x0 x1 x2
 obtain ⟨r1, hr1⟩ : ∃ q, Hid (psParse (gOf d rs toks) = q) := ⟨_, Lib.hid rfl⟩
 obtain ⟨WL, hWL⟩ : ∃ q, Hid (wantP (gOf d rs toks) = q) := ⟨_, Lib.hid rfl⟩
 obtain ⟨WN, HWN⟩ : ∃ q, Hid (WL.length = q) := ⟨_, Lib.hid rfl⟩
 have Hp1 : Hid (∀ W, Below w3.heap.size w3 W → Calls Try.prog 41 #[.agg #[.slice xta T xtc, .slice xna N xnc, .slice xaa L xac], .slice oa rn oc, .slice ka KL kc] W (TreQ W r1)) := Lib.hid (fun W hb => by
  have := pparse_any d oa oc rs ka kc toks W (Hpf.out W hb ka kc toks (Hk3.out.grown hb))
  rwa [hr1.out, Hdv.out, hrn.out, HK.out] at this)
 have Hp2 : Hid (∀ W, Below w3.heap.size w3 W → Calls Try.prog 42 #[.agg #[.slice xta T xtc, .slice xna N xnc, .slice xaa L xac], .slice oa rn oc, .slice ka KL kc] W (TreQ W r1)) := Lib.hid (fun W hb => by
  have := rparse_any11 d oa oc rs ka kc toks W (Hpf.out W hb ka kc toks (Hk3.out.grown hb))
  rwa [hr1.out, Hdv.out, hrn.out, HK.out] at this)
 have Hw1 : Hid (∀ W, Below w3.heap.size w3 W → Calls Try.prog 44 #[.agg #[.slice xta T xtc, .slice xna N xnc, .slice xaa L xac], .slice oa rn oc, .slice ka KL kc] W (fun e W' => ∃ oa oc, e = .returned (.slice oa WN oc) ∧ Ints W' oa oc WL ∧ Below W.heap.size W W')) := Lib.hid (fun W hb => by
  have := wanted_any d oa oc rs ka kc toks W (Hpf.out W hb ka kc toks (Hk3.out.grown hb)) (by have := HT60.out; omega) (by have := HK.out; omega)
  rwa [hWL.out, HWN.out, Hdv.out, hrn.out, HK.out] at this)
 have Hw2 : Hid (∀ W, Below w3.heap.size w3 W → Calls Try.prog 45 #[.agg #[.slice xta T xtc, .slice xna N xnc, .slice xaa L xac], .slice oa rn oc, .slice ka KL kc] W (fun e W' => ∃ oa oc, e = .returned (.slice oa WN oc) ∧ Ints W' oa oc WL ∧ Below W.heap.size W W')) := Lib.hid (fun W hb => by
  have := rwanted_any d oa oc rs ka kc toks W (Hpf.out W hb ka kc toks (Hk3.out.grown hb)) (by have := HT60.out; omega) (by have := HK.out; omega)
  rwa [hWL.out, HWN.out, Hdv.out, hrn.out, HK.out] at this)
 clear Hpf HT60
 go_wp2_with (fail)
 refine (Hp1.out w3 (Below.refl _ _)).mono ?_
 intro e4 w4 hT
 have hb := hT.1
 obtain ⟨tk, ti, ta, tga, tn, tgc, p1, y1, rfl, hX⟩ := tre_box hT
 have HX := Lib.hid hX
 have HA4 := Lib.hid (HA3.out.below hb HA3.out.lt)
 have Hb4 := Lib.hid (Hb3.out.trans (hb.mono Hb3.out.size))
 have Hq4 := Lib.hid hb
 clear x0 x1 x2 xl hb hT hX Hp1
 have x0 := HA4.out.cell 0
 have x1 := HA4.out.cell 1
 have x2 := HA4.out.cell 2
 have xl := HA4.out.lt
 simp only [List.getElem?_cons_zero, List.getElem?_cons_succ] at x0 x1 x2
 go_wp2_with (fail)
 have hb : Below w4.heap.size w4 (w4.alloc (.cells #[.int .i64 tk, .int .i64 ti, .int .i64 ta, .slice tga tn tgc] 51)) := (Below.refl _ _).alloc (Nat.le_refl _) _
 have hN := HX.out.2 _ w4.heap.size hb (Blk.new w4 51 #[.int .i64 tk, .int .i64 ti, .int .i64 ta, .slice tga tn tgc])
 obtain ⟨nb1, hnb1⟩ : ∃ q, Hid (w4.heap.size = q) := ⟨_, Lib.hid rfl⟩
 clear x0 x1 x2 xl
 generalize hV : World.alloc w4 _ = w5 at hb hN ⊢
 have HA5 := Lib.hid (HA4.out.below hb HA4.out.lt)
 have Hb5 := Lib.hid (Hb4.out.trans (hb.mono Hb4.out.size))
 have Hq5 := Lib.hid (Hq4.out.trans (hb.mono Hq4.out.size))
 rw [hnb1.out] at hN ⊢
 have HB1 := Lib.hid hN
 clear hV hb hN HX hnb1
 refine (Hp2.out w5 Hq5.out).mono ?_
 intro e6 w6 hT
 have hb := hT.1
 obtain ⟨tk2, ti2, ta2, tga2, tn2, tgc2, p2, y2, rfl, hX⟩ := tre_box hT
 have HX := Lib.hid hX
 have HA6 := Lib.hid (HA5.out.below hb HA5.out.lt)
 have Hb6 := Lib.hid (Hb5.out.trans (hb.mono Hb5.out.size))
 have Hq6 := Lib.hid (Hq5.out.trans (hb.mono Hq5.out.size))
 have HB1b := Lib.hid (HB1.out.grown hb)
 clear hb hT hX Hp2 HB1
 go_upto_region 7 with fail
 have hb : Below w6.heap.size w6 (w6.alloc (.cells #[.int .i64 tk2, .int .i64 ti2, .int .i64 ta2, .slice tga2 tn2 tgc2] 51)) := (Below.refl _ _).alloc (Nat.le_refl _) _
 have hN := HX.out.2 _ w6.heap.size hb (Blk.new w6 51 #[.int .i64 tk2, .int .i64 ti2, .int .i64 ta2, .slice tga2 tn2 tgc2])
 obtain ⟨nb2, hnb2⟩ : ∃ q, Hid (w6.heap.size = q) := ⟨_, Lib.hid rfl⟩
 generalize hV : World.alloc w6 _ = w7 at hb hN ⊢
 have HA7 := Lib.hid (HA6.out.below hb HA6.out.lt)
 have Hb7 := Lib.hid (Hb6.out.trans (hb.mono Hb6.out.size))
 have Hq7 := Lib.hid (Hq6.out.trans (hb.mono Hq6.out.size))
 rw [hnb2.out] at hN ⊢
 obtain ⟨rfl, rfl, ⟨sk, si, sh⟩, f, sa, sb, sc, sd, hn1, hn2, ht1, ht2⟩ := box_two (HB1b.out.grown hb) hN
 clear hV hb hN HX hnb2 HB1b
 have Hsm0 : Hid (∀ W, Below w7.heap.size w7 W → Calls Try.prog 43 #[treV ⟨sk, si, sh⟩ sa f.len sc, treV ⟨sk, si, sh⟩ sb f.len sd] W fun e w' => e = .returned (.bool true) ∧ Below W.heap.size W w') := Lib.hid (fun W hb => by
  have := refSameT_any (f.size + 1) ⟨sk, si, sh⟩ ⟨sk, si, sh⟩ f f sa sb sc sd W _ _ (Nat.lt_succ_self _) (ht1.grown hb) (ht2.grown hb)
  rwa [hdT_self, sameT_self] at this)
 obtain ⟨sn, hsn⟩ : ∃ q, Hid (f.len = q) := ⟨_, Lib.hid rfl⟩
 rw [hsn.out] at hn1 hn2 Hsm0
 have Hsm : Hid (∀ W, Below w7.heap.size w7 W → Calls Try.prog 43 #[.agg #[.int .i64 sk, .int .i64 si, .int .i64 sh, .slice sa sn sc], .agg #[.int .i64 sk, .int .i64 si, .int .i64 sh, .slice sb sn sd]] W fun e w' => e = .returned (.bool true) ∧ Below W.heap.size W w') := Hsm0
 have HN1 := Lib.hid hn1
 have HN2 := Lib.hid hn2
 have Hwp : Hid (∀ W, Below w7.heap.size w7 W → _) := Lib.hid (fun W hb => Hw1.out W (Hq7.out.trans (hb.mono Hq7.out.size)))
 have Hwr : Hid (∀ W, Below w7.heap.size w7 W → _) := Lib.hid (fun W hb => Hw2.out W (Hq7.out.trans (hb.mono Hq7.out.size)))
 clear hn1 hn2 ht1 ht2 Hsm0 hsn Hw1 Hw2
 have HB0 := Lib.hid ((Below.refl w7.heap.size w7).drew)
 have HS0 : Hid ((w7.drew).cell? ⟨bx, 0, none⟩ = some (.slice xta T xtc) ∧ (w7.drew).cell? ⟨bx, 1, none⟩ = some (.slice xna N xnc) ∧ (w7.drew).cell? ⟨bx, 2, none⟩ = some (.slice xaa L xac) ∧ (w7.drew).cell? ⟨nb1, 0, none⟩ = some (.int .i64 sk) ∧ (w7.drew).cell? ⟨nb1, 1, none⟩ = some (.int .i64 si) ∧ (w7.drew).cell? ⟨nb1, 2, none⟩ = some (.int .i64 sh) ∧ (w7.drew).cell? ⟨nb1, 3, none⟩ = some (.slice sa sn sc) ∧ (w7.drew).cell? ⟨nb2, 0, none⟩ = some (.int .i64 sk) ∧ (w7.drew).cell? ⟨nb2, 1, none⟩ = some (.int .i64 si) ∧ (w7.drew).cell? ⟨nb2, 2, none⟩ = some (.int .i64 sh) ∧ (w7.drew).cell? ⟨nb2, 3, none⟩ = some (.slice sb sn sd)) := Lib.hid (⟨(HA7.out.below HB0.out HA7.out.lt).cell 0, (HA7.out.below HB0.out HA7.out.lt).cell 1, (HA7.out.below HB0.out HA7.out.lt).cell 2, (HN1.out.below HB0.out HN1.out.lt).cell 0, (HN1.out.below HB0.out HN1.out.lt).cell 1, (HN1.out.below HB0.out HN1.out.lt).cell 2, (HN1.out.below HB0.out HN1.out.lt).cell 3, (HN2.out.below HB0.out HN2.out.lt).cell 0, (HN2.out.below HB0.out HN2.out.lt).cell 1, (HN2.out.below HB0.out HN2.out.lt).cell 2, (HN2.out.below HB0.out HN2.out.lt).cell 3⟩)
 refine wp_region_held_drew (S := fun w' => w'.cell? ⟨bx, 0, none⟩ = some (.slice xta T xtc) ∧ w'.cell? ⟨bx, 1, none⟩ = some (.slice xna N xnc) ∧ w'.cell? ⟨bx, 2, none⟩ = some (.slice xaa L xac) ∧ w'.cell? ⟨nb1, 0, none⟩ = some (.int .i64 sk) ∧ w'.cell? ⟨nb1, 1, none⟩ = some (.int .i64 si) ∧ w'.cell? ⟨nb1, 2, none⟩ = some (.int .i64 sh) ∧ w'.cell? ⟨nb1, 3, none⟩ = some (.slice sa sn sc) ∧ w'.cell? ⟨nb2, 0, none⟩ = some (.int .i64 sk) ∧ w'.cell? ⟨nb2, 1, none⟩ = some (.int .i64 si) ∧ w'.cell? ⟨nb2, 2, none⟩ = some (.int .i64 sh) ∧ w'.cell? ⟨nb2, 3, none⟩ = some (.slice sb sn sd)) (by kernel_rfl) ?_ (fun hHeld => ?_)
 ·exact HS0.out
 generalize World.drew w7 = K0 at HB0 HS0 hHeld ⊢
 refine wpAnyH_take (i := 0) (v := ?_) (iatLS iatZS) (by kernel_rfl) (by kernel_rfl) (by kernel_rfl) (fun _ _ _ h => h) (Or.inl ⟨by rfl, ?_⟩) (by assumption) ?_
 rotate_left
 ·intro w hSw
  try dsimp only at hSw
  go_simp
  all_goals with_reducible rfl
 try simp only [Act.put, List.setIfInBounds_toArray, List.set_cons_zero, List.set_cons_succ]
 refine wpAnyH_take (i := 1) (v := ?_) (iatLS (iatSS iatZS)) (by kernel_rfl) (by kernel_rfl) (by kernel_rfl) (fun _ _ _ h => h) (Or.inl ⟨by rfl, ?_⟩) (by assumption) ?_
 rotate_left
 ·intro w hSw
  try dsimp only at hSw
  go_simp
  all_goals with_reducible rfl
 try simp only [Act.put, List.setIfInBounds_toArray, List.set_cons_zero, List.set_cons_succ]
 refine wpAnyH_take (i := 2) (v := ?_) (iatLS (iatSS (iatSS iatZS))) (by kernel_rfl) (by kernel_rfl) (by kernel_rfl) (fun _ _ _ h => h) (Or.inl ⟨by rfl, ?_⟩) (by assumption) ?_
 rotate_left
 ·intro w hSw
  try dsimp only at hSw
  go_simp
  all_goals with_reducible rfl
 try simp only [Act.put, List.setIfInBounds_toArray, List.set_cons_zero, List.set_cons_succ]
 refine wpAnyH_take (i := 3) (v := ?_) (iatLS (iatSS (iatSS (iatSS iatZS)))) (by kernel_rfl) (by kernel_rfl) (by kernel_rfl) (fun _ _ _ h => h) (Or.inl ⟨by rfl, ?_⟩) (by assumption) ?_
 rotate_left
 ·intro w hSw
  try dsimp only at hSw
  go_simp
  all_goals with_reducible rfl
 try simp only [Act.put, List.setIfInBounds_toArray, List.set_cons_zero, List.set_cons_succ]
 refine wpAnyH_ready (rs := [4]) (by kernel_rfl) (by simp) ?_
 refine AllReadyH.cons (iatLS (iatSS (iatSS (iatSS (iatSS iatZS))))) (fun K hK => ?_) AllReadyH.nil
 go_simp
 (with_reducible refine (Hsm.out K0 HB0.out).mono ?_)
 rintro e8 K1 ⟨rfl, hb⟩
 have HB1 := Lib.hid (HB0.out.trans (hb.mono HB0.out.size))
 have HS1 : Hid (K1.cell? ⟨bx, 0, none⟩ = some (.slice xta T xtc) ∧ K1.cell? ⟨bx, 1, none⟩ = some (.slice xna N xnc) ∧ K1.cell? ⟨bx, 2, none⟩ = some (.slice xaa L xac) ∧ K1.cell? ⟨nb1, 0, none⟩ = some (.int .i64 sk) ∧ K1.cell? ⟨nb1, 1, none⟩ = some (.int .i64 si) ∧ K1.cell? ⟨nb1, 2, none⟩ = some (.int .i64 sh) ∧ K1.cell? ⟨nb1, 3, none⟩ = some (.slice sa sn sc) ∧ K1.cell? ⟨nb2, 0, none⟩ = some (.int .i64 sk) ∧ K1.cell? ⟨nb2, 1, none⟩ = some (.int .i64 si) ∧ K1.cell? ⟨nb2, 2, none⟩ = some (.int .i64 sh) ∧ K1.cell? ⟨nb2, 3, none⟩ = some (.slice sb sn sd)) := Lib.hid (⟨(HA7.out.below HB1.out HA7.out.lt).cell 0, (HA7.out.below HB1.out HA7.out.lt).cell 1, (HA7.out.below HB1.out HA7.out.lt).cell 2, (HN1.out.below HB1.out HN1.out.lt).cell 0, (HN1.out.below HB1.out HN1.out.lt).cell 1, (HN1.out.below HB1.out HN1.out.lt).cell 2, (HN1.out.below HB1.out HN1.out.lt).cell 3, (HN2.out.below HB1.out HN2.out.lt).cell 0, (HN2.out.below HB1.out HN2.out.lt).cell 1, (HN2.out.below HB1.out HN2.out.lt).cell 2, (HN2.out.below HB1.out HN2.out.lt).cell 3⟩)
 clear hb
 try dsimp only
 refine hK.out _ _ ?_ (fun hHeld => ?_)
 ·exact HS1.out
 clear hK K
 try simp only [Act.put, List.setIfInBounds_toArray, List.set_cons_zero, List.set_cons_succ]
 refine wpAnyH_take (i := 5) (v := ?_) (iatLS (iatSS (iatSS (iatSS (iatSS (iatSS iatZS)))))) (by kernel_rfl) (by kernel_rfl) (by kernel_rfl) (fun _ _ _ h => h) (Or.inl ⟨by rfl, ?_⟩) (by assumption) ?_
 rotate_left
 ·intro w hSw
  try dsimp only at hSw
  go_simp
  all_goals with_reducible rfl
 try simp only [Act.put, List.setIfInBounds_toArray, List.set_cons_zero, List.set_cons_succ]
 refine wpAnyH_take (i := 6) (v := ?_) (iatLS (iatSS (iatSS (iatSS (iatSS (iatSS (iatSS iatZS))))))) (by kernel_rfl) (by kernel_rfl) (by kernel_rfl) (fun _ _ _ h => h) (Or.inl ⟨by rfl, ?_⟩) (by assumption) ?_
 rotate_left
 ·intro w hSw
  try dsimp only at hSw
  go_simp
  all_goals with_reducible rfl
 try simp only [Act.put, List.setIfInBounds_toArray, List.set_cons_zero, List.set_cons_succ]
 refine wpAnyH_take (i := 7) (v := ?_) (iatLS (iatSS (iatSS (iatSS (iatSS (iatSS (iatSS (iatSS iatZS)))))))) (by kernel_rfl) (by kernel_rfl) (by kernel_rfl) (fun _ _ _ h => h) (Or.inl ⟨by rfl, ?_⟩) (by assumption) ?_
 rotate_left
 ·intro w hSw
  try dsimp only at hSw
  go_simp
  all_goals with_reducible rfl
 try simp only [Act.put, List.setIfInBounds_toArray, List.set_cons_zero, List.set_cons_succ]
 refine wpAnyH_take (i := 8) (v := ?_) (iatLS (iatSS (iatSS (iatSS (iatSS (iatSS (iatSS (iatSS (iatSS iatZS))))))))) (by kernel_rfl) (by kernel_rfl) (by kernel_rfl) (fun _ _ _ h => h) (Or.inl ⟨by rfl, ?_⟩) (by assumption) ?_
 rotate_left
 ·intro w hSw
  try dsimp only at hSw
  go_simp
  all_goals with_reducible rfl
 try simp only [Act.put, List.setIfInBounds_toArray, List.set_cons_zero, List.set_cons_succ]
 refine wpAnyH_take (i := 9) (v := ?_) (iatLS (iatSS (iatSS (iatSS (iatSS (iatSS (iatSS (iatSS (iatSS (iatSS iatZS)))))))))) (by kernel_rfl) (by kernel_rfl) (by kernel_rfl) (fun _ _ _ h => h) (Or.inl ⟨by rfl, ?_⟩) (by assumption) ?_
 rotate_left
 ·intro w hSw
  try dsimp only at hSw
  go_simp
  all_goals with_reducible rfl
 try simp only [Act.put, List.setIfInBounds_toArray, List.set_cons_zero, List.set_cons_succ]
 refine wpAnyH_take (i := 10) (v := ?_) (iatLS (iatSS (iatSS (iatSS (iatSS (iatSS (iatSS (iatSS (iatSS (iatSS (iatSS iatZS))))))))))) (by kernel_rfl) (by kernel_rfl) (by kernel_rfl) (fun _ _ _ h => h) (Or.inl ⟨by rfl, ?_⟩) (by assumption) ?_
 rotate_left
 ·intro w hSw
  try dsimp only at hSw
  go_simp
  all_goals with_reducible rfl
 try simp only [Act.put, List.setIfInBounds_toArray, List.set_cons_zero, List.set_cons_succ]
 refine wpAnyH_take (i := 11) (v := ?_) (iatLS (iatSS (iatSS (iatSS (iatSS (iatSS (iatSS (iatSS (iatSS (iatSS (iatSS (iatSS iatZS)))))))))))) (by kernel_rfl) (by kernel_rfl) (by kernel_rfl) (fun _ _ _ h => h) (Or.inl ⟨by rfl, ?_⟩) (by assumption) ?_
 rotate_left
 ·intro w hSw
  try dsimp only at hSw
  go_simp
  all_goals with_reducible rfl
 try simp only [Act.put, List.setIfInBounds_toArray, List.set_cons_zero, List.set_cons_succ]
 refine wpAnyH_take (i := 12) (v := ?_) (iatLS (iatSS (iatSS (iatSS (iatSS (iatSS (iatSS (iatSS (iatSS (iatSS (iatSS (iatSS (iatSS iatZS))))))))))))) (by kernel_rfl) (by kernel_rfl) (by kernel_rfl) (fun _ _ _ h => h) (Or.inl ⟨by rfl, ?_⟩) (by assumption) ?_
 rotate_left
 ·intro w hSw
  try dsimp only at hSw
  go_simp
  all_goals with_reducible rfl
 try simp only [Act.put, List.setIfInBounds_toArray, List.set_cons_zero, List.set_cons_succ]
 refine wpAnyH_take (i := 13) (v := ?_) (iatLS (iatSS (iatSS (iatSS (iatSS (iatSS (iatSS (iatSS (iatSS (iatSS (iatSS (iatSS (iatSS (iatSS iatZS)))))))))))))) (by kernel_rfl) (by kernel_rfl) (by kernel_rfl) (fun _ _ _ h => h) (Or.inl ⟨by rfl, ?_⟩) (by assumption) ?_
 rotate_left
 ·intro w hSw
  try dsimp only at hSw
  go_simp
  all_goals with_reducible rfl
 try simp only [Act.put, List.setIfInBounds_toArray, List.set_cons_zero, List.set_cons_succ]
 refine wpAnyH_take (i := 14) (v := ?_) (iatLS (iatSS (iatSS (iatSS (iatSS (iatSS (iatSS (iatSS (iatSS (iatSS (iatSS (iatSS (iatSS (iatSS (iatSS iatZS))))))))))))))) (by kernel_rfl) (by kernel_rfl) (by kernel_rfl) (fun _ _ _ h => h) (Or.inl ⟨by rfl, ?_⟩) (by assumption) ?_
 rotate_left
 ·intro w hSw
  try dsimp only at hSw
  go_simp
  all_goals with_reducible rfl
 try simp only [Act.put, List.setIfInBounds_toArray, List.set_cons_zero, List.set_cons_succ]
 refine wpAnyH_take (i := 15) (v := ?_) (iatLS (iatSS (iatSS (iatSS (iatSS (iatSS (iatSS (iatSS (iatSS (iatSS (iatSS (iatSS (iatSS (iatSS (iatSS (iatSS iatZS)))))))))))))))) (by kernel_rfl) (by kernel_rfl) (by kernel_rfl) (fun _ _ _ h => h) (Or.inl ⟨by rfl, ?_⟩) (by assumption) ?_
 rotate_left
 ·intro w hSw
  try dsimp only at hSw
  go_simp
  all_goals with_reducible rfl
 try simp only [Act.put, List.setIfInBounds_toArray, List.set_cons_zero, List.set_cons_succ]
 refine wpAnyH_take (i := 16) (v := ?_) (iatLS (iatSS (iatSS (iatSS (iatSS (iatSS (iatSS (iatSS (iatSS (iatSS (iatSS (iatSS (iatSS (iatSS (iatSS (iatSS (iatSS iatZS))))))))))))))))) (by kernel_rfl) (by kernel_rfl) (by kernel_rfl) (fun _ _ _ h => h) (Or.inl ⟨by rfl, ?_⟩) (by assumption) ?_
 rotate_left
 ·intro w hSw
  try dsimp only at hSw
  go_simp
  all_goals with_reducible rfl
 try simp only [Act.put, List.setIfInBounds_toArray, List.set_cons_zero, List.set_cons_succ]
 refine wpAnyH_take (i := 17) (v := ?_) (iatLS (iatSS (iatSS (iatSS (iatSS (iatSS (iatSS (iatSS (iatSS (iatSS (iatSS (iatSS (iatSS (iatSS (iatSS (iatSS (iatSS (iatSS iatZS)))))))))))))))))) (by kernel_rfl) (by kernel_rfl) (by kernel_rfl) (fun _ _ _ h => h) (Or.inl ⟨by rfl, ?_⟩) (by assumption) ?_
 rotate_left
 ·intro w hSw
  try dsimp only at hSw
  go_simp
  all_goals with_reducible rfl
 try simp only [Act.put, List.setIfInBounds_toArray, List.set_cons_zero, List.set_cons_succ]
 refine wpAnyH_take (i := 18) (v := ?_) (iatLS (iatSS (iatSS (iatSS (iatSS (iatSS (iatSS (iatSS (iatSS (iatSS (iatSS (iatSS (iatSS (iatSS (iatSS (iatSS (iatSS (iatSS (iatSS iatZS))))))))))))))))))) (by kernel_rfl) (by kernel_rfl) (by kernel_rfl) (fun _ _ _ h => h) (Or.inl ⟨by rfl, ?_⟩) (by assumption) ?_
 rotate_left
 ·intro w hSw
  try dsimp only at hSw
  go_simp
  all_goals with_reducible rfl
 try simp only [Act.put, List.setIfInBounds_toArray, List.set_cons_zero, List.set_cons_succ]
 refine wpAnyH_take (i := 19) (v := ?_) (iatLS (iatSS (iatSS (iatSS (iatSS (iatSS (iatSS (iatSS (iatSS (iatSS (iatSS (iatSS (iatSS (iatSS (iatSS (iatSS (iatSS (iatSS (iatSS (iatSS iatZS)))))))))))))))))))) (by kernel_rfl) (by kernel_rfl) (by kernel_rfl) (fun _ _ _ h => h) (Or.inl ⟨by rfl, ?_⟩) (by assumption) ?_
 rotate_left
 ·intro w hSw
  try dsimp only at hSw
  go_simp
  all_goals with_reducible rfl
 try simp only [Act.put, List.setIfInBounds_toArray, List.set_cons_zero, List.set_cons_succ]
 refine wpAnyH_take (i := 21) (v := ?_) (iatLS (iatSS (iatSS (iatSS (iatSS (iatSS (iatSS (iatSS (iatSS (iatSS (iatSS (iatSS (iatSS (iatSS (iatSS (iatSS (iatSS (iatSS (iatSS (iatSS (iatSS (iatSS iatZS)))))))))))))))))))))) (by kernel_rfl) (by kernel_rfl) (by kernel_rfl) (fun _ _ _ h => h) (Or.inl ⟨by rfl, ?_⟩) (by assumption) ?_
 rotate_left
 ·intro w hSw
  try dsimp only at hSw
  go_simp
  all_goals with_reducible rfl
 try simp only [Act.put, List.setIfInBounds_toArray, List.set_cons_zero, List.set_cons_succ]
 refine wpAnyH_take (i := 22) (v := ?_) (iatLS (iatSS (iatSS (iatSS (iatSS (iatSS (iatSS (iatSS (iatSS (iatSS (iatSS (iatSS (iatSS (iatSS (iatSS (iatSS (iatSS (iatSS (iatSS (iatSS (iatSS (iatSS (iatSS iatZS))))))))))))))))))))))) (by kernel_rfl) (by kernel_rfl) (by kernel_rfl) (fun _ _ _ h => h) (Or.inl ⟨by rfl, ?_⟩) (by assumption) ?_
 rotate_left
 ·intro w hSw
  try dsimp only at hSw
  go_simp
  all_goals with_reducible rfl
 try simp only [Act.put, List.setIfInBounds_toArray, List.set_cons_zero, List.set_cons_succ]
 refine wpAnyH_take (i := 23) (v := ?_) (iatLS (iatSS (iatSS (iatSS (iatSS (iatSS (iatSS (iatSS (iatSS (iatSS (iatSS (iatSS (iatSS (iatSS (iatSS (iatSS (iatSS (iatSS (iatSS (iatSS (iatSS (iatSS (iatSS (iatSS iatZS)))))))))))))))))))))))) (by kernel_rfl) (by kernel_rfl) (by kernel_rfl) (fun _ _ _ h => h) (Or.inl ⟨by rfl, ?_⟩) (by assumption) ?_
 rotate_left
 ·intro w hSw
  try dsimp only at hSw
  go_simp
  all_goals with_reducible rfl
 try simp only [Act.put, List.setIfInBounds_toArray, List.set_cons_zero, List.set_cons_succ]
 refine wpAnyH_ready (rs := [20]) (by kernel_rfl) (by simp) ?_
 refine AllReadyH.cons (iatLS (iatSS (iatSS (iatSS (iatSS (iatSS (iatSS (iatSS (iatSS (iatSS (iatSS (iatSS (iatSS (iatSS (iatSS (iatSS (iatSS (iatSS (iatSS (iatSS (iatSS iatZS))))))))))))))))))))) (fun K hK => ?_) AllReadyH.nil
 go_simp
 (with_reducible refine (Hwp.out K1 HB1.out).mono ?_)
 rintro e8 K2 ⟨qa, qc, rfl, hi, hb⟩
 have HB2 := Lib.hid (HB1.out.trans (hb.mono HB1.out.size))
 have HS2 : Hid (K2.cell? ⟨bx, 0, none⟩ = some (.slice xta T xtc) ∧ K2.cell? ⟨bx, 1, none⟩ = some (.slice xna N xnc) ∧ K2.cell? ⟨bx, 2, none⟩ = some (.slice xaa L xac) ∧ K2.cell? ⟨nb1, 0, none⟩ = some (.int .i64 sk) ∧ K2.cell? ⟨nb1, 1, none⟩ = some (.int .i64 si) ∧ K2.cell? ⟨nb1, 2, none⟩ = some (.int .i64 sh) ∧ K2.cell? ⟨nb1, 3, none⟩ = some (.slice sa sn sc) ∧ K2.cell? ⟨nb2, 0, none⟩ = some (.int .i64 sk) ∧ K2.cell? ⟨nb2, 1, none⟩ = some (.int .i64 si) ∧ K2.cell? ⟨nb2, 2, none⟩ = some (.int .i64 sh) ∧ K2.cell? ⟨nb2, 3, none⟩ = some (.slice sb sn sd)) := Lib.hid (⟨(HA7.out.below HB2.out HA7.out.lt).cell 0, (HA7.out.below HB2.out HA7.out.lt).cell 1, (HA7.out.below HB2.out HA7.out.lt).cell 2, (HN1.out.below HB2.out HN1.out.lt).cell 0, (HN1.out.below HB2.out HN1.out.lt).cell 1, (HN1.out.below HB2.out HN1.out.lt).cell 2, (HN1.out.below HB2.out HN1.out.lt).cell 3, (HN2.out.below HB2.out HN2.out.lt).cell 0, (HN2.out.below HB2.out HN2.out.lt).cell 1, (HN2.out.below HB2.out HN2.out.lt).cell 2, (HN2.out.below HB2.out HN2.out.lt).cell 3⟩)
 have HP2 := Lib.hid hi
 clear hb hi
 try dsimp only
 refine hK.out _ _ ?_ (fun hHeld => ?_)
 ·exact HS2.out
 clear hK K
 try simp only [Act.put, List.setIfInBounds_toArray, List.set_cons_zero, List.set_cons_succ]
 refine wpAnyH_ready (rs := [24]) (by kernel_rfl) (by simp) ?_
 refine AllReadyH.cons (iatLS (iatSS (iatSS (iatSS (iatSS (iatSS (iatSS (iatSS (iatSS (iatSS (iatSS (iatSS (iatSS (iatSS (iatSS (iatSS (iatSS (iatSS (iatSS (iatSS (iatSS (iatSS (iatSS (iatSS (iatSS iatZS))))))))))))))))))))))))) (fun K hK => ?_) AllReadyH.nil
 go_simp
 (with_reducible refine (Hwr.out K2 HB2.out).mono ?_)
 rintro e8 K3 ⟨ra, rc, rfl, hi, hb⟩
 have HB3 := Lib.hid (HB2.out.trans (hb.mono HB2.out.size))
 have HS3 : Hid (K3.cell? ⟨bx, 0, none⟩ = some (.slice xta T xtc) ∧ K3.cell? ⟨bx, 1, none⟩ = some (.slice xna N xnc) ∧ K3.cell? ⟨bx, 2, none⟩ = some (.slice xaa L xac) ∧ K3.cell? ⟨nb1, 0, none⟩ = some (.int .i64 sk) ∧ K3.cell? ⟨nb1, 1, none⟩ = some (.int .i64 si) ∧ K3.cell? ⟨nb1, 2, none⟩ = some (.int .i64 sh) ∧ K3.cell? ⟨nb1, 3, none⟩ = some (.slice sa sn sc) ∧ K3.cell? ⟨nb2, 0, none⟩ = some (.int .i64 sk) ∧ K3.cell? ⟨nb2, 1, none⟩ = some (.int .i64 si) ∧ K3.cell? ⟨nb2, 2, none⟩ = some (.int .i64 sh) ∧ K3.cell? ⟨nb2, 3, none⟩ = some (.slice sb sn sd)) := Lib.hid (⟨(HA7.out.below HB3.out HA7.out.lt).cell 0, (HA7.out.below HB3.out HA7.out.lt).cell 1, (HA7.out.below HB3.out HA7.out.lt).cell 2, (HN1.out.below HB3.out HN1.out.lt).cell 0, (HN1.out.below HB3.out HN1.out.lt).cell 1, (HN1.out.below HB3.out HN1.out.lt).cell 2, (HN1.out.below HB3.out HN1.out.lt).cell 3, (HN2.out.below HB3.out HN2.out.lt).cell 0, (HN2.out.below HB3.out HN2.out.lt).cell 1, (HN2.out.below HB3.out HN2.out.lt).cell 2, (HN2.out.below HB3.out HN2.out.lt).cell 3⟩)
 have HR3 := Lib.hid hi
 have HP3 := Lib.hid (HP2.out.grown hb)
 clear hb hi
 try dsimp only
 refine hK.out _ _ ?_ (fun hHeld => ?_)
 ·exact HS3.out
 clear hK K
 try simp only [Act.put, List.setIfInBounds_toArray, List.set_cons_zero, List.set_cons_succ]
 refine wpAnyH_ready (rs := [25]) (by kernel_rfl) (by simp) ?_
 refine AllReadyH.cons (iatLS (iatSS (iatSS (iatSS (iatSS (iatSS (iatSS (iatSS (iatSS (iatSS (iatSS (iatSS (iatSS (iatSS (iatSS (iatSS (iatSS (iatSS (iatSS (iatSS (iatSS (iatSS (iatSS (iatSS (iatSS (iatSS iatZS)))))))))))))))))))))))))) (fun K hK => ?_) AllReadyH.nil
 go_simp
 have Hs9 := sameInts8_any qa ra qc rc _ _ K3 HP3.out HR3.out
 rw [decide_eq_true rfl, HWN.out] at Hs9
 (with_reducible refine Hs9.mono ?_)
 rintro e8 K4 ⟨rfl, hb⟩
 have HB4 := Lib.hid (HB3.out.trans (hb.mono HB3.out.size))
 have HS4 : Hid (K4.cell? ⟨bx, 0, none⟩ = some (.slice xta T xtc) ∧ K4.cell? ⟨bx, 1, none⟩ = some (.slice xna N xnc) ∧ K4.cell? ⟨bx, 2, none⟩ = some (.slice xaa L xac) ∧ K4.cell? ⟨nb1, 0, none⟩ = some (.int .i64 sk) ∧ K4.cell? ⟨nb1, 1, none⟩ = some (.int .i64 si) ∧ K4.cell? ⟨nb1, 2, none⟩ = some (.int .i64 sh) ∧ K4.cell? ⟨nb1, 3, none⟩ = some (.slice sa sn sc) ∧ K4.cell? ⟨nb2, 0, none⟩ = some (.int .i64 sk) ∧ K4.cell? ⟨nb2, 1, none⟩ = some (.int .i64 si) ∧ K4.cell? ⟨nb2, 2, none⟩ = some (.int .i64 sh) ∧ K4.cell? ⟨nb2, 3, none⟩ = some (.slice sb sn sd)) := Lib.hid (⟨(HA7.out.below HB4.out HA7.out.lt).cell 0, (HA7.out.below HB4.out HA7.out.lt).cell 1, (HA7.out.below HB4.out HA7.out.lt).cell 2, (HN1.out.below HB4.out HN1.out.lt).cell 0, (HN1.out.below HB4.out HN1.out.lt).cell 1, (HN1.out.below HB4.out HN1.out.lt).cell 2, (HN1.out.below HB4.out HN1.out.lt).cell 3, (HN2.out.below HB4.out HN2.out.lt).cell 0, (HN2.out.below HB4.out HN2.out.lt).cell 1, (HN2.out.below HB4.out HN2.out.lt).cell 2, (HN2.out.below HB4.out HN2.out.lt).cell 3⟩)
 clear hb Hs9
 try dsimp only
 refine hK.out _ _ ?_ (fun hHeld => ?_)
 ·exact HS4.out
 clear hK K
 try simp only [Act.put, List.setIfInBounds_toArray, List.set_cons_zero, List.set_cons_succ]
 refine wpAnyH_take (i := 26) (v := ?_) (iatLS (iatSS (iatSS (iatSS (iatSS (iatSS (iatSS (iatSS (iatSS (iatSS (iatSS (iatSS (iatSS (iatSS (iatSS (iatSS (iatSS (iatSS (iatSS (iatSS (iatSS (iatSS (iatSS (iatSS (iatSS (iatSS (iatSS iatZS))))))))))))))))))))))))))) (by kernel_rfl) (by kernel_rfl) (by kernel_rfl) (fun _ _ _ h => h) (Or.inl ⟨by rfl, ?_⟩) (by assumption) ?_
 rotate_left
 ·intro w hSw
  try dsimp only at hSw
  go_simp
  all_goals with_reducible rfl
 try simp only [Act.put, List.setIfInBounds_toArray, List.set_cons_zero, List.set_cons_succ]
 refine wpAnyH_take (i := 27) (v := ?_) (iatLS (iatSS (iatSS (iatSS (iatSS (iatSS (iatSS (iatSS (iatSS (iatSS (iatSS (iatSS (iatSS (iatSS (iatSS (iatSS (iatSS (iatSS (iatSS (iatSS (iatSS (iatSS (iatSS (iatSS (iatSS (iatSS (iatSS (iatSS iatZS)))))))))))))))))))))))))))) (by kernel_rfl) (by kernel_rfl) (by kernel_rfl) (fun _ _ _ h => h) (Or.inl ⟨by rfl, ?_⟩) (by assumption) ?_
 rotate_left
 ·intro w hSw
  try dsimp only at hSw
  go_simp
  all_goals with_reducible rfl
 try simp only [Act.put, List.setIfInBounds_toArray, List.set_cons_zero, List.set_cons_succ]
 refine wpAnyH_done (by kernel_rfl) ?_ _
 go_wp2_with (fail)
 exact bodyPost_ret (v := .bool true) (by simp [results, Try.results7, go_sem]; try first | rfl | assumption | omega) rfl ⟨rfl, Hb7.out.trans (HB4.out.mono Hb7.out.size)⟩
end Go.Proofs.Ytfdhaochnbfndaa
namespace Go.Proofs.Ytfdhaochnbfndaa
open Go.ChangeShapes Go.WideShapes Go.ChangeAt Go.RowKit
attribute [local go_sem] Oper.semAt_some
/-- What an int may be. -/
def Bd (x : Int) : Prop := -9223372036854775808 ≤ x ∧ x ≤ 9223372036854775807
theorem wf_bd {n : Int} (h : (Go.Lit.int .i64 n).wf = true) : Bd n := by
 unfold Bd
 simp [Go.Lit.wf, IntKind.min, IntKind.max, IntKind.signed, IntKind.bits] at h
 omega
theorem int_cells8 : Try.prog.cellsOf 3 = 1 := by kernel_rfl
theorem ints_cells8 : Try.prog.cellsOf 35 = 1 := by kernel_rfl
theorem intss_cells8 : Try.prog.cellsOf 32 = 1 := by kernel_rfl
theorem intsss_cells8 : Try.prog.cellsOf 23 = 1 := by kernel_rfl
theorem cfg_cells8 : Try.prog.cellsOf 25 = 3 := by kernel_rfl
def szIl (ds : List IltD) : Nat := (ds.map (fun d => d.l.length)).sum
theorem szIl_is (r : IrD) : r.ds.length + szIl r.ds = szJ r.p := by
 unfold szJ szIl IrD.p
 rw [List.length_map, List.map_map]
 rfl
set_option maxRecDepth 100000 in
theorem open_intl2 {H : Type} {enc : TypeId × Value → H} {W : World} {base : Nat} {sp : Nat → Bool} {hd : Bool} (fuel : Nat) (cs : List Value) (x : DataW H × List MemPlace) (h : DataW.trod enc Try.prog W base sp hd fuel 35 cs = some x) :
 ∃ d : IltD, cs = [.slice d.a d.l.length d.c] ∧ Ints W d.a d.c d.l ∧ (∀ n ∈ d.l, Bd n) ∧ d.l.length + 1 ≤ Rows.uptoBulk x.1 := by
 rcases DataW.trod_slice Try.underlying35 h with ⟨e3, _⟩ | ⟨a, len, cap, elems, rest, n', hn, e3, x3, hb, hle, hm, hel, hcell, _, _⟩
 ·exact ⟨⟨[], none, 0⟩, by rw [e3]; rfl, Vs.nil W, fun n h => (by cases h), by simpa using bulk_pos x.1⟩
 ·have hmax : maxLen ≤ 9223372036854775807 := by decide
  have hbk : len + 1 ≤ Rows.uptoBulk x.1 := by
   rw [x3]
   simp only [Rows.uptoBulk]
   have h1 := bulkAll_sum (elems.map (·.1))
   have h2 := sum_le8 (fun _ => 1) Rows.uptoBulk (elems.map (·.1)) (elems.map (·.1)) rfl (fun i h1 h2 => bulk_pos _)
   rw [sum_ones, List.length_map, hel] at h2
   omega
  have each : ∀ i, i < len → ∃ s : Int, W.cell? ((a.add (i * 1)).add 0) = some (.int .i64 s) ∧ Bd s := by
   intro i hi
   have hc := hcell i hi
   rw [List.getElem?_eq_getElem (by omega), int_cells8, Option.bind_eq_some_iff] at hc
   obtain ⟨cs', hcs, ht⟩ := hc
   obtain ⟨s, e0, _, ws0⟩ := DataW.trod_int Try.underlying3 ht
   have ws := wf_bd ws0
   subst e0
   exact ⟨s, (World.cells?_some hcs).2.2 0 (by omega), ws⟩
  by_cases h0 : len = 0
  ·subst h0
   exact ⟨⟨[], some a, cap⟩, by rw [e3]; rfl, ⟨by simp, (show cap ≤ 9223372036854775807 by omega), fun e => (by cases e), fun i h => by simp at h, fun b off e i h => by simp at h⟩, fun n h => (by cases h), by simpa using bulk_pos x.1⟩
  ·obtain ⟨b, off, spot⟩ := a
   have hspot : spot = none := by
    obtain ⟨s, hc, _⟩ := each 0 (by omega)
    simpa [Addr.add] using World.cell?_spot hc
   subst hspot
   have each2 : ∀ i, i < len → ∃ s : Int, W.cell? ⟨b, off + i, none⟩ = some (.int .i64 s) ∧ Bd s := by
    intro i hi
    obtain ⟨s, hc, hz⟩ := each i hi
    rw [add_plain, add_plain, Nat.mul_one, Nat.add_zero] at hc
    exact ⟨s, hc, hz⟩
   obtain ⟨l, hl1, hl2⟩ := row_of len each2
   refine ⟨⟨l, some ⟨b, off, none⟩, cap⟩, by rw [e3, hl1], ⟨by rw [List.length_map]; exact (show l.length ≤ cap by omega), (show cap ≤ 9223372036854775807 by omega), fun e => (by cases e), fun i _ => ⟨b, off, rfl⟩, fun b' off' e i hi => ?_⟩, fun n hn => ?_, by show l.length + 1 ≤ _; omega⟩
   ·cases e
    rw [List.getElem_map]
    exact (hl2 i (by rwa [List.length_map] at hi)).1
   ·obtain ⟨i, hi, rfl⟩ := List.getElem_of_mem hn
    exact (hl2 i hi).2
set_option maxRecDepth 100000 in
theorem open_intll2 {H : Type} {enc : TypeId × Value → H} {W : World} {base : Nat} {sp : Nat → Bool} {hd : Bool} (fuel : Nat) (cs : List Value) (x : DataW H × List MemPlace) (h : DataW.trod enc Try.prog W base sp hd fuel 32 cs = some x) :
 ∃ (ds : List IltD) (a : Option Addr) (c : Nat), cs = [.slice a ds.length c] ∧ AltsI W a c ds ∧ (∀ d ∈ ds, ∀ n ∈ d.l, Bd n) ∧ ds.length + szIl ds + 1 ≤ Rows.uptoBulk x.1 := by
 rcases DataW.trod_slice Try.underlying32 h with ⟨e3, _⟩ | ⟨a, len, cap, elems, rest, n', hn, e3, x3, hb, hle, hm, hel, hcell, _, _⟩
 ·exact ⟨[], none, 0, by rw [e3]; rfl, ⟨Vs.nil W, fun d h => by cases h⟩, fun d h => (by cases h), by simpa [szIl] using bulk_pos x.1⟩
 ·have hmax : maxLen ≤ 9223372036854775807 := by decide
  have each : ∀ i (hi : i < len), ∃ d : IltD, W.cell? ((a.add (i * 1)).add 0) = some d.v ∧ Ints W d.a d.c d.l ∧ (∀ n ∈ d.l, Bd n) ∧ d.l.length + 1 ≤ Rows.uptoBulk (elems[i]'(by omega)).1 := by
   intro i hi
   have hc := hcell i hi
   rw [List.getElem?_eq_getElem (by omega), ints_cells8, Option.bind_eq_some_iff] at hc
   obtain ⟨cs', hcs, ht⟩ := hc
   obtain ⟨d, rfl, hN, hz, hk⟩ := open_intl2 n' cs' _ ht
   exact ⟨d, (World.cells?_some hcs).2.2 0 (by omega), hN, hz, hk⟩
  by_cases h0 : len = 0
  ·subst h0
   exact ⟨[], some a, cap, by rw [e3]; rfl, ⟨⟨by simp, by omega, fun e => (by cases e), fun i h => by simp at h, fun b off e i h => by simp at h⟩, fun d hd => by cases hd⟩, fun d h => (by cases h), by simpa [szIl] using bulk_pos x.1⟩
  ·obtain ⟨b, off, spot⟩ := a
   have hspot : spot = none := by
    obtain ⟨s, hc, _⟩ := each 0 (by omega)
    simpa [Addr.add] using World.cell?_spot hc
   subst hspot
   obtain ⟨l, hl1, hl2, hl3⟩ := row_of2 (P := fun i (d : IltD) => W.cell? ⟨b, off + i, none⟩ = some d.v ∧ Ints W d.a d.c d.l ∧ ∀ n ∈ d.l, Bd n) (f := fun d : IltD => d.l.length + 1) (g := Rows.uptoBulk) (elems.map (·.1)) len (by rw [List.length_map, hel]) (fun i hi => by
    obtain ⟨d, hc, hN, hz, hk⟩ := each i (by rw [List.length_map] at hi; omega)
    rw [add_plain, add_plain, Nat.mul_one, Nat.add_zero] at hc
    exact ⟨d, ⟨hc, hN, hz⟩, by rw [List.getElem_map]; exact hk⟩)
   refine ⟨l, some ⟨b, off, none⟩, cap, by rw [e3, hl1], ⟨⟨by rw [List.length_map]; omega, by omega, fun e => (by cases e), fun i _ => ⟨b, off, rfl⟩, fun b' off' e i hi => ?_⟩, fun d hd => ?_⟩, fun d hd => ?_, ?_⟩
   ·cases e
    rw [List.getElem_map]
    exact (hl2 i (by rwa [List.length_map] at hi)).1
   ·obtain ⟨i, hi, rfl⟩ := List.getElem_of_mem hd
    exact (hl2 i hi).2.1
   ·obtain ⟨i, hi, rfl⟩ := List.getElem_of_mem hd
    exact (hl2 i hi).2.2
   ·rw [x3]
    simp only [Rows.uptoBulk]
    rw [bulkAll_sum (elems.map (·.1))]
    have h4 : (l.map (fun d : IltD => d.l.length + 1)).sum = l.length + szIl l := by
     clear hl1 hl2 hl3
     induction l with
     | nil => simp [szIl]
     | cons d l ih =>
      have e : szIl (d :: l) = d.l.length + szIl l := by simp [szIl]
      rw [List.map_cons, List.sum_cons, ih, e, List.length_cons]
      omega
    omega
set_option maxRecDepth 100000 in
theorem open_intlll2 {H : Type} {enc : TypeId × Value → H} {W : World} {base : Nat} {sp : Nat → Bool} {hd : Bool} (fuel : Nat) (cs : List Value) (x : DataW H × List MemPlace) (h : DataW.trod enc Try.prog W base sp hd fuel 23 cs = some x) :
 ∃ (al : List IrD) (a : Option Addr) (c : Nat), cs = [.slice a al.length c] ∧ Vs W a c (al.map IrD.v) ∧ (∀ r ∈ al, AltsI W r.a r.c r.ds) ∧ (∀ r ∈ al, ∀ d ∈ r.ds, ∀ n ∈ d.l, Bd n) ∧ al.length + szC (al.map IrD.p) + 1 ≤ Rows.uptoBulk x.1 := by
 rcases DataW.trod_slice Try.underlying23 h with ⟨e3, _⟩ | ⟨a, len, cap, elems, rest, n', hn, e3, x3, hb, hle, hm, hel, hcell, _, _⟩
 ·exact ⟨[], none, 0, by rw [e3]; rfl, Vs.nil W, fun d h => (by cases h), fun d h => (by cases h), by simpa [szC] using bulk_pos x.1⟩
 ·have hmax : maxLen ≤ 9223372036854775807 := by decide
  have each : ∀ i (hi : i < len), ∃ r : IrD, W.cell? ((a.add (i * 1)).add 0) = some r.v ∧ AltsI W r.a r.c r.ds ∧ (∀ d ∈ r.ds, ∀ n ∈ d.l, Bd n) ∧ szJ r.p + 1 ≤ Rows.uptoBulk (elems[i]'(by omega)).1 := by
   intro i hi
   have hc := hcell i hi
   rw [List.getElem?_eq_getElem (by omega), intss_cells8, Option.bind_eq_some_iff] at hc
   obtain ⟨cs', hcs, ht⟩ := hc
   obtain ⟨ds, ra, rc, rfl, hN, hz, hk⟩ := open_intll2 n' cs' _ ht
   have hk2 := szIl_is ⟨ds, ra, rc⟩
   dsimp only at hk2
   exact ⟨⟨ds, ra, rc⟩, (World.cells?_some hcs).2.2 0 (by omega), hN, hz, by omega⟩
  by_cases h0 : len = 0
  ·subst h0
   exact ⟨[], some a, cap, by rw [e3]; rfl, ⟨by simp, by omega, fun e => (by cases e), fun i h => by simp at h, fun b off e i h => by simp at h⟩, fun d h => (by cases h), fun d h => (by cases h), by simpa [szC] using bulk_pos x.1⟩
  ·obtain ⟨b, off, spot⟩ := a
   have hspot : spot = none := by
    obtain ⟨s, hc, _⟩ := each 0 (by omega)
    simpa [Addr.add] using World.cell?_spot hc
   subst hspot
   obtain ⟨l, hl1, hl2, hl3⟩ := row_of2 (P := fun i (r : IrD) => W.cell? ⟨b, off + i, none⟩ = some r.v ∧ AltsI W r.a r.c r.ds ∧ ∀ d ∈ r.ds, ∀ n ∈ d.l, Bd n) (f := fun r : IrD => szJ r.p + 1) (g := Rows.uptoBulk) (elems.map (·.1)) len (by rw [List.length_map, hel]) (fun i hi => by
    obtain ⟨d, hc, hN, hz, hk⟩ := each i (by rw [List.length_map] at hi; omega)
    rw [add_plain, add_plain, Nat.mul_one, Nat.add_zero] at hc
    exact ⟨d, ⟨hc, hN, hz⟩, by rw [List.getElem_map]; exact hk⟩)
   refine ⟨l, some ⟨b, off, none⟩, cap, by rw [e3, hl1], ⟨by rw [List.length_map]; omega, by omega, fun e => (by cases e), fun i _ => ⟨b, off, rfl⟩, fun b' off' e i hi => ?_⟩, fun d hd => ?_, fun d hd => ?_, ?_⟩
   ·cases e
    rw [List.getElem_map]
    exact (hl2 i (by rwa [List.length_map] at hi)).1
   ·obtain ⟨i, hi, rfl⟩ := List.getElem_of_mem hd
    exact (hl2 i hi).2.1
   ·obtain ⟨i, hi, rfl⟩ := List.getElem_of_mem hd
    exact (hl2 i hi).2.2
   ·rw [x3]
    simp only [Rows.uptoBulk]
    rw [bulkAll_sum (elems.map (·.1))]
    have h4 : (l.map (fun r : IrD => szJ r.p + 1)).sum = l.length + szC (l.map IrD.p) := by
     clear hl1 hl2 hl3
     induction l with
     | nil => simp [szC]
     | cons d l ih =>
      have e : szC ((d :: l).map IrD.p) = szJ d.p + szC (l.map IrD.p) := by simp [szC, szJ]
      rw [List.map_cons, List.sum_cons, ih, e, List.length_cons]
      omega
    omega
set_option maxRecDepth 100000 in
theorem open_cfg2 {H : Type} {enc : TypeId × Value → H} {W : World} {v : Value} {d : DataW H} {ps : List MemPlace} (hok : Value.okWide Try.prog W .any 0 25 v) (h : DataW.Trod enc Try.prog W 0 (fun _ => true) true 25 v d ps) :
 ∃ c : CfD, v = c.v ∧ CfAt W c ∧ (∀ t ∈ c.toks, t.size ≤ maxLen) ∧ (∀ t ∈ c.names, t.size ≤ maxLen) ∧ (∀ r ∈ c.alts, ∀ a ∈ r.ds, ∀ x ∈ a.l, Bd x) ∧ c.toks.length + c.names.length + szC (c.alts.map IrD.p) ≤ Rows.uptoBulk d := by
 obtain ⟨cs, rfl, _⟩ := okWide_struct Try.underlying25 hok
 obtain ⟨fuel, hf⟩ := h
 obtain ⟨xs, n, rfl, e9, hl, hlen, hf⟩ := DataW.trod_struct Try.underlying25 hf
 rw [cfg_cells8] at hl
 obtain ⟨v0, v1, v2, hv⟩ : ∃ v0 v1 v2, cs.toList = [v0, v1, v2] := by
  match hc : cs.toList, (show cs.toList.length = 3 from hl) with
  | [v0, v1, v2], _ => exact ⟨v0, v1, v2, rfl⟩
 obtain ⟨y0, y1, y2, rfl⟩ : ∃ y0 y1 y2, xs = [y0, y1, y2] := by
  match xs, hlen with
  | [y0, y1, y2], _ => exact ⟨y0, y1, y2, rfl⟩
 have h0 := hf 0 _ rfl
 have h1 := hf 1 _ rfl
 have h2 := hf 2 _ rfl
 rw [show (Value.agg cs).cells.toList = [v0, v1, v2] from hv] at h0 h1 h2
 simp only [strs_cells, intsss_cells8, List.drop_zero, List.drop_succ_cons, List.take_succ_cons, List.take_zero, List.getElem?_cons_zero, List.getElem?_cons_succ] at h0 h1 h2
 obtain ⟨dt, e0, hT, zT, kT⟩ := open_strl2 _ _ _ h0
 injection e0 with e0 _
 subst e0
 obtain ⟨dn, e1, hN, zN, kN⟩ := open_strl2 _ _ _ h1
 injection e1 with e1 _
 subst e1
 obtain ⟨al, aa, ac, e2, hR, hI, hB, hk⟩ := open_intlll2 _ _ _ h2
 injection e2 with e2 _
 subst e2
 have e9 := (Prod.mk.inj e9).1
 refine ⟨⟨dt.l, dt.a, dt.c, dn.l, dn.a, dn.c, al, aa, ac⟩, ?_, ⟨hT, hN, hR, hI⟩, zT, zN, hB, ?_⟩
 ·cases cs
  simp only at hv
  rw [hv]
 ·rw [e9]
  simp only [List.map_cons, List.map_nil, Rows.uptoBulk, Rows.uptoBulkAll]
  omega
end Go.Proofs.Ytfdhaochnbfndaa
namespace Go.Proofs.Ytfdhaochnbfndaa
open Go.ChangeShapes Go.WideShapes Go.ChangeAt Go.RowKit
set_option maxRecDepth 100000 in
theorem open_ints2 {H : Type} {enc : TypeId × Value → H} {W : World} {v : Value} {d : DataW H} {ps : List MemPlace} (hok : Value.okWide Try.prog W .any 0 35 v) (h : DataW.Trod enc Try.prog W 0 (fun _ => true) true 35 v d ps) :
 ∃ (a : Option Addr) (cap : Nat) (l : List Int), v = .slice a l.length cap ∧ Ints W a cap l ∧ (∀ n ∈ l, Bd n) := by
 obtain ⟨a0, len0, cap0, rfl⟩ := okWide_slice Try.underlying35 hok
 obtain ⟨fuel, hf⟩ := h
 obtain ⟨x, e, h1, h2, h3⟩ := open_intl2 fuel _ _ hf
 simp only [Value.cells, List.cons.injEq, and_true] at e
 exact ⟨x.a, x.c, x.l, e, h1, h2⟩
end Go.Proofs.Ytfdhaochnbfndaa
namespace Go.Proofs.Ytfdhaochnbfndaa
open Go.ChangeShapes Go.WideShapes Go.ChangeAt Go.RowKit
set_option maxRecDepth 100000 in
theorem parseTells_contract (H : Type) (enc : TypeId × Value → H) (W : World) (args : Array Value) (ds gs : List (DataW H)) (before : List MemPlace)
 (hval : ∀ (j : Nat) t v, Try.f7.params[j]? = some t → args[j]? = some v → Value.okWide Try.prog W .any 0 t v)
 (hW : DataW.Whole enc Try.prog Try.f7.params.toList Rows.parseTellsSpec.vars false W args.toList ds gs before) (hk : Rows.uptoSmall H (ds ++ gs) = true) :
 Calls Try.prog 7 args W fun e W' => ∃ v, e = .returned v ∧ Rows.parseTellsSpec.post enc Try.prog Try.f7 false true false false W args v W' := by
 have hW' := hW
 obtain ⟨p, q, hA0, hV, rfl, hfz, hnd⟩ := hW
 have hA : DataW.TrodAll enc Try.prog W 0 (fun _ => true) true Try.f7.params.toList args.toList ds p := hA0
 rw [Try.params7] at hA hval
 obtain ⟨v0, v1, d0, d1, p0, p1, rfl, rfl, rfl, h0, h1⟩ := trodAll_two hA
 have hb : Rows.uptoBulkAll ([d0, d1] ++ gs) ≤ 1048576 := of_decide_eq_true hk
 simp only [List.cons_append, List.nil_append, Rows.uptoBulkAll] at hb
 obtain ⟨c, rfl, hc, z1, z2, z3, hz⟩ := open_cfg2 (hval 0 25 v0 rfl rfl) h0
 obtain ⟨a1, c1, l1, rfl, hl1, hr1⟩ := open_ints2 (hval 1 35 v1 rfl rfl) h1
 refine (lawTells11_any c a1 c1 l1 W hc z1 z2 z3 (by omega) hl1).mono fun e W' ⟨he, hw⟩ => ?_
 subst he
 exact ⟨_, rfl, law_post hW' rfl rfl (by kernel_rfl) (by rw [Try.params7]; intro t ht; simp at ht; rcases ht with rfl | rfl <;> exact ⟨by kernel_rfl, of_decide_eq_true (by kernel_rfl)⟩) hw⟩
set_option maxRecDepth 100000 in
theorem parseTells_lifted (os : Os) (started : os.Started) (H : Type) (enc : TypeId × Value → H) (F : Stop.Interp) :
 ReturnsInHanded {} Try.checked os 7 .any ((Rows.OpenSpec.upto Rows.parseTellsSpec).pre6 enc Try.prog Try.f7 Rows.parseTellsUptoRow.domain false) (((Rows.OpenSpec.upto Rows.parseTellsSpec).at F).post enc Try.prog Try.f7 false true false false) := by
 refine returnsInHanded_of_cond (C := Try.checked) (s := Rows.OpenSpec.upto Rows.parseTellsSpec) (k := Rows.uptoSmall) rfl Try.own started (by kernel_rfl) Try.func7
  (OpenSpec.witness (enc := enc) (C := Try.checked) (s := Rows.OpenSpec.upto Rows.parseTellsSpec) (k := Rows.uptoSmall) rfl false ⟨#[], #[.agg #[.slice none 0 0, .slice none 0 0, .slice none 0 0], .slice none 0 0], []⟩ 8 (by kernel_rfl) (by kernel_rfl) (by kernel_rfl)
   (x := ([.agg [.nil, .nil, .nil], .nil], [], [])) (by kernel_rfl) rfl (by kernel_rfl)) ?_
 intro W base args ds gs before hval hW _ hk _
 exact parseTells_contract H enc W args ds gs before hval hW hk
theorem parseTells_holds : Rows.ParseTellsUptoSaid :=
 OpenClaim.holds_of_cond 7 Try.f7 rfl rfl rfl rfl rfl rfl rfl ⟨rfl, rfl, rfl, rfl, rfl⟩ rfl rfl rfl rfl rfl (by kernel_rfl) Try.func7 (by kernel_rfl)
  (of_decide_eq_true (by kernel_rfl)) (by unfold Func.isWrapper; first | (rw [if_pos (by decide +kernel)]; kernel_rfl) | (rw [if_neg (by decide +kernel)]; exact ⟨rfl, rfl⟩))
  (fun os started H enc _ F => parseTells_lifted os started H enc F)
end Go.Proofs.Ytfdhaochnbfndaa
