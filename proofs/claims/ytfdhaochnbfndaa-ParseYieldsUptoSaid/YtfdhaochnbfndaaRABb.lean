/- The row ParseYields in its second form: for every grammar by numbers and a list of tokens whose reading is of bulk at most 1048576: the law answers true and changes nothing that was there. -/
/- Texts joined: Li PLy Qr Qs Km Qt Qu Ld. -/
import Derived.Test.YtfdhaochnbfndaaRAAz
import Derived.Test.YtfdhaochnbfndaaRABa
import Derived.Test.YtfdhaochnbfndaaRAAw
import Derived.Test.YtfdhaochnbfndaaRAAq
import Derived.Test.YtfdhaochnbfndaaRAAy
import Derived.Test.YtfdhaochnbfndaaRAAk
import Derived.Test.YtfdhaochnbfndaaRAAg
import Derived.Test.YtfdhaochnbfndaaRAAh
set_option linter.unusedVariables false
set_option linter.unusedSimpArgs false
namespace Go.Proofs.Ytfdhaochnbfndaa
open Go.RowKit Go.Maps
attribute [local go_sem] Oper.semAt_some
set_option maxRecDepth 100000 in
set_option maxHeartbeats 16000000 in
theorem lawYields11_any (d : CfD) (ka : Option Addr) (kc : Nat) (toks : List Int) (w : World) (hd : CfAt w d) (h1 : ∀ t ∈ d.toks, t.size ≤ maxLen) (h2 : ∀ t ∈ d.names, t.size ≤ maxLen) (h3 : ∀ r ∈ d.alts, ∀ a ∈ r.ds, ∀ x ∈ a.l, -9223372036854775808 ≤ x ∧ x ≤ 9223372036854775807) (hs : d.toks.length + d.names.length + szC (d.alts.map IrD.p) ≤ 1000000000000) (hk : Ints w ka kc toks) :
 Calls Try.prog 8 #[d.v, .slice ka toks.length kc] w fun e w' => e = .returned (.bool true) ∧ Below w.heap.size w w' := by
 have HTb := Lib.hid (fun W (hb : Below w.heap.size w W) => tables_any d W (hd.grown hb) h1 h2 h3 hs)
 have Hd := Lib.hid hd
 have Hk := Lib.hid hk
 have hkm : toks.length ≤ kc ∧ kc ≤ 9223372036854775807 := ⟨by have := hk.le; rwa [List.length_map] at this, hk.max⟩
 have hb1 : Below w.heap.size w (w.alloc (.cells #[.slice d.ta d.toks.length d.tc, .slice d.na d.names.length d.nc, .slice d.aa d.alts.length d.ac] 25)) := (Below.refl _ w).alloc (Nat.le_refl _) _
 have hA := Blk.new w 25 #[.slice d.ta d.toks.length d.tc, .slice d.na d.names.length d.nc, .slice d.aa d.alts.length d.ac]
 obtain ⟨xta, hxta⟩ : ∃ q, Hid (d.ta = q) := ⟨_, Lib.hid rfl⟩
 obtain ⟨xna, hxna⟩ : ∃ q, Hid (d.na = q) := ⟨_, Lib.hid rfl⟩
 obtain ⟨xaa, hxaa⟩ : ∃ q, Hid (d.aa = q) := ⟨_, Lib.hid rfl⟩
 obtain ⟨xtc, hxtc⟩ : ∃ q, Hid (d.tc = q) := ⟨_, Lib.hid rfl⟩
 obtain ⟨xnc, hxnc⟩ : ∃ q, Hid (d.nc = q) := ⟨_, Lib.hid rfl⟩
 obtain ⟨xac, hxac⟩ : ∃ q, Hid (d.ac = q) := ⟨_, Lib.hid rfl⟩
 obtain ⟨T, HT⟩ : ∃ q, Hid (d.toks.length = q) := ⟨_, Lib.hid rfl⟩
 obtain ⟨N, HN⟩ : ∃ q, Hid (d.names.length = q) := ⟨_, Lib.hid rfl⟩
 obtain ⟨L, HL⟩ : ∃ q, Hid (d.alts.length = q) := ⟨_, Lib.hid rfl⟩
 have hdv : d.v = .agg #[.slice xta T xtc, .slice xna N xnc, .slice xaa L xac] := by unfold CfD.v; rw [hxta.out, hxna.out, hxaa.out, hxtc.out, hxnc.out, hxac.out, HT.out, HN.out, HL.out]
 rw [hdv]
 rw [hxta.out, hxna.out, hxaa.out, hxtc.out, hxnc.out, hxac.out, HT.out, HN.out, HL.out] at hA hb1
 rw [hdv] at HTb
 have Hdv := Lib.hid hdv
 have x0 := hA.cell 0
 have x1 := hA.cell 1
 have x2 := hA.cell 2
 have xl := hA.lt
 simp only [List.getElem?_cons_zero, List.getElem?_cons_succ] at x0 x1 x2
 have HA := Lib.hid hA
 have Hb1 := Lib.hid hb1
 clear hA hb1 h1 h2 h3 hs hd hdv hxta hxna hxaa hxtc hxnc hxac
 go_enter Try.func8, Try.ntmps8
 go_wp2_with (fail)
 obtain ⟨bx, hbx⟩ : ∃ q, Hid (w.heap.size = q) := ⟨_, Lib.hid rfl⟩
 rw [hbx.out] at HA xl x0 x1 x2 ⊢
 generalize hV : World.alloc w _ = V1 at HA x0 x1 x2 xl Hb1 ⊢
 clear hV
 refine (live11_any V1).mono ?_
 rintro e w2 ⟨rfl, hb⟩
 have HA2 := Lib.hid (HA.out.below hb HA.out.lt)
 have Hb2 := Lib.hid (Hb1.out.trans (hb.mono Hb1.out.size))
 clear x0 x1 x2 xl hb
 have x0 := HA2.out.cell 0
 have x1 := HA2.out.cell 1
 have x2 := HA2.out.cell 2
 have xl := HA2.out.lt
 simp only [List.getElem?_cons_zero, List.getElem?_cons_succ] at x0 x1 x2
 go_wp2_with (fail)
 refine (HTb.out w2 Hb2.out).mono ?_
 intro e w3 hB
 obtain ⟨hb, hB⟩ := hB
 have HA3 := Lib.hid (HA2.out.below hb HA2.out.lt)
 have Hb3 := Lib.hid (Hb2.out.trans (hb.mono Hb2.out.size))
 clear x0 x1 x2 xl hb HTb
 rcases hB with rfl | ⟨hfw, hcl, oa, oc, rs, rfl, hrl, hra, hrow⟩
 ·go_wp2_with (fail)
  exact bodyPost_ret (v := .bool true) (by simp [results, Try.results8, go_sem]; try first | rfl | assumption | omega) rfl ⟨rfl, Hb3.out⟩
 have hrm : rs.length ≤ oc ∧ oc ≤ 9223372036854775807 := ⟨by have := hra.row.le; rwa [List.length_map] at this, hra.row.max⟩
 have hfit := few10_fit hfw
 have hbo : ∀ W, Below w3.heap.size w3 W → ∀ ka kc toks, Ints W ka kc toks → PrF W d oa oc rs ka kc toks := fun W hb ka kc toks hi => prf_of hfit (Hd.out.grown (Hb3.out.trans (hb.mono Hb3.out.size))) (hra.grown hb) hrl hrow hi
 have Hpf := Lib.hid hbo
 obtain ⟨KL, HK⟩ : ∃ q, Hid (toks.length = q) := ⟨_, Lib.hid rfl⟩
 obtain ⟨rn, hrn⟩ : ∃ q, Hid (rs.length = q) := ⟨_, Lib.hid rfl⟩
 rw [HK.out] at hkm
 rw [hrn.out] at hrm
 rw [HK.out, hrn.out]
 have Hk3 := Lib.hid (Hk.out.grown Hb3.out)
 clear hbo hrl hra hrow hfit hcl hfw
 by_cases hK100 : 100 < KL
 ·have hKI : (100 : Int) < (KL : Int) := by omega
  go_wp2_with (fail)
  exact bodyPost_ret (v := .bool true) (by simp [results, Try.results8, go_sem]; try first | rfl | assumption | omega) rfl ⟨rfl, Hb3.out⟩
 have hKI : ¬ (100 : Int) < (KL : Int) := by omega
 have x0 := HA3.out.cell 0
 have x1 := HA3.out.cell 1
 have x2 := HA3.out.cell 2
 have xl := HA3.out.lt
 simp only [List.getElem?_cons_zero, List.getElem?_cons_succ] at x0 x1 x2
 have Hp1 : Hid (∀ W, Below w3.heap.size w3 W → Calls Try.prog 41 #[.agg #[.slice xta T xtc, .slice xna N xnc, .slice xaa L xac], .slice oa rn oc, .slice ka KL kc] W (TreQ W (psParse (gOf d rs toks)))) := Lib.hid (fun W hb => by
  have := pparse_any d oa oc rs ka kc toks W (Hpf.out W hb ka kc toks (Hk3.out.grown hb))
  rwa [Hdv.out, hrn.out, HK.out] at this)
 clear Hpf
 go_wp2_with (fail)
 refine (Hp1.out w3 (Below.refl _ _)).mono ?_
 intro e4 w4 hT
 obtain ⟨hb, hT⟩ := hT
 have HA4 := Lib.hid (HA3.out.below hb HA3.out.lt)
 have Hb4 := Lib.hid (Hb3.out.trans (hb.mono Hb3.out.size))
 have Hq4 := Lib.hid hb
 clear x0 x1 x2 xl hb Hp1
 cases hr1 : psParse (gOf d rs toks) with
 | bad b y =>
  rw [hr1] at hT
  subst hT
  have hy := (parse_bad hr1).2
  have hyb : (y != 0) = true := by simp [hy]
  have hF : Below w.heap.size w (w4.alloc (.cells #[.int .i64 0, .int .i64 0, .int .i64 0, .slice none 0 0] 51)) := Hb4.out.alloc Hb4.out.size _
  have HF := Lib.hid hF
  clear hF hr1
  go_wp2_with (fail)
  exact bodyPost_ret (v := .bool true) (by simp [results, Try.results8, go_sem]; try first | rfl | assumption | omega) rfl ⟨rfl, HF.out⟩
 | ok t b q =>
  rw [hr1] at hT
  obtain ⟨ga, gc, rfl, hT⟩ := hT
  obtain ⟨e1, e2, e3, e4⟩ := parse_yield hr1
  obtain ⟨tk, ti, ta, tl⟩ := t
  dsimp only at e1 hT ⊢
  subst e1
  have hY1 : y1 ⟨-1, ti, ta⟩ tl = toks := by
   have h9 : y1 ⟨-1, ti, ta⟩ tl ++ [] = toks := e2
   rwa [List.append_nil] at h9
  have hY2 : y2 ⟨-1, ti, ta⟩ tl = rngI 0 toks.length := by
   have h9 : y2 ⟨-1, ti, ta⟩ tl ++ [] = rngI 0 toks.length := e3
   rwa [List.append_nil] at h9
  obtain ⟨ks', _, hGN, _⟩ := goodF_cons (h := ⟨-1, ti, ta⟩) e4
  have HGN := Lib.hid hGN
  have HY1 := Lib.hid hY1
  have HY2 := Lib.hid hY2
  clear e2 e3 e4 hY1 hY2 hGN hr1
  obtain ⟨tn, htn⟩ : ∃ q, Hid (tl.len = q) := ⟨_, Lib.hid rfl⟩
  rw [htn.out]
  have hb : Below w4.heap.size w4 (w4.alloc (.cells #[.int .i64 (-1), .int .i64 ti, .int .i64 ta, .slice ga tn gc] 51)) := (Below.refl _ _).alloc (Nat.le_refl _) _
  have hN := Blk.new w4 51 #[.int .i64 (-1), .int .i64 ti, .int .i64 ta, .slice ga tn gc]
  have hT5 := hT.grown hb
  go_upto_region 8 with fail
  obtain ⟨nb1, hnb1⟩ : ∃ q, Hid (w4.heap.size = q) := ⟨_, Lib.hid rfl⟩
  generalize hV : World.alloc w4 _ = w5 at hb hN hT5 ⊢
  have HA5 := Lib.hid (HA4.out.below hb HA4.out.lt)
  have Hb5 := Lib.hid (Hb4.out.trans (hb.mono Hb4.out.size))
  have Hq5 := Lib.hid (Hq4.out.trans (hb.mono Hq4.out.size))
  rw [hnb1.out] at hN ⊢
  have HN5 := Lib.hid hN
  have hTb := hT5.imp (Q := fun b => b < w5.heap.size) (fun b _ h => h)
  have hy := yield_any w5.heap.size (tl.size + 1) ⟨-1, ti, ta⟩ tl ga gc w5 none 0 [] none 0 [] (Nat.lt_succ_self _) (Nat.le_refl _) hTb ⟨OwnKZ.nil _ _, OwnKZ.nil _ _, fun g e => by cases e⟩ (by rw [HY1.out, HK.out]; show 0 + KL ≤ _; omega) (by rw [HY2.out, HK.out]; unfold rngI; rw [List.length_map, List.length_range]; show 0 + (KL - 0) ≤ _; omega)
  rw [HY1.out, HY2.out, HK.out, htn.out, List.nil_append, List.nil_append, HK.out] at hy
  have hrl : (rngI 0 KL).length = KL := by unfold rngI; rw [List.length_map, List.length_range]; omega
  rw [hrl] at hy
  have Hy : Hid (Calls Try.prog 46 #[.agg #[.int .i64 (-1), .int .i64 ti, .int .i64 ta, .slice ga tn gc], .slice none 0 0, .slice none 0 0] w5 fun e W => ∃ ta' tc' ua' uc', e = .returned (.tuple #[.slice ta' KL tc', .slice ua' KL uc']) ∧ TwoR W w5.heap.size ta' tc' toks ua' uc' (rngI 0 KL) ∧ Below w5.heap.size w5 W) := Lib.hid hy
  have HT5 := Lib.hid (hT5.imp (Q := fun _ => True) (fun _ _ _ => trivial))
  have x0 := HN5.out.cell 0
  have x1 := HN5.out.cell 1
  have x2 := HN5.out.cell 2
  have x3 := HN5.out.cell 3
  have xl := HN5.out.lt
  simp only [List.getElem?_cons_zero, List.getElem?_cons_succ] at x0 x1 x2 x3
  clear hV hb hN hT5 hT hnb1 hTb hy hrl
  go_wp2_with (fail)
  refine Hy.out.mono ?_
  rintro e6 w6 ⟨ta', tc', ua', uc', rfl, hR6, hb⟩
  have HA6 := Lib.hid (HA5.out.below hb HA5.out.lt)
  have Hb6 := Lib.hid (Hb5.out.trans (hb.mono Hb5.out.size))
  have Hq6 := Lib.hid (Hq5.out.trans (hb.mono Hq5.out.size))
  have HN6 := Lib.hid (HN5.out.below hb HN5.out.lt)
  have HT6 := Lib.hid (HT5.out.grown hb)
  have HI6 := Lib.hid (OwnKZ.vs hR6.o1)
  have HJ6 := Lib.hid (OwnKZ.vs hR6.o2)
  have hm1 : KL ≤ tc' ∧ tc' ≤ 9223372036854775807 := ⟨by have := HI6.out.le; rw [List.length_map, HK.out] at this; exact this, HI6.out.max⟩
  have hrl : (rngI 0 KL).length = KL := by unfold rngI; rw [List.length_map, List.length_range]; omega
  have hm2 : KL ≤ uc' ∧ uc' ≤ 9223372036854775807 := ⟨by have := HJ6.out.le; rw [List.length_map, hrl] at this; exact this, HJ6.out.max⟩
  have Hrl := Lib.hid hrl
  clear hb hR6 Hy x0 x1 x2 x3 xl hrl
  go_wp2_with (fail)
  have HW6 : Hid (Below w6.heap.size w6 w6) := Lib.hid (Below.refl _ _)
  go_loopg [13, 14, 58] KL (fun gk _ _ iv wr => ∃ (k : Nat), Hid (gk = KL - k) ∧ k ≤ KL ∧ iv = .int .i64 (k : Int) ∧ wr = w6)
  case atStart => exact ⟨0, Lib.hid rfl, Nat.zero_le _, rfl, rfl⟩
  case round =>
   obtain ⟨k, Hgk, hk', rfl, rfl⟩ := hrel
   by_cases hlt : k < KL
   ·have hkI : (k : Int) < (KL : Int) := by omega
    have hkI0 : (0 : Int) ≤ (k : Int) := by omega
    have hkl : k < (rngI 0 KL).length := by rw [Hrl.out]; exact hlt
    obtain ⟨z, zo, hz⟩ := HJ6.out.at_ k (by rw [List.length_map]; exact hkl)
    have cz := HJ6.out.cell z zo hz k (by rw [List.length_map]; exact hkl)
    rw [List.getElem_map] at cz
    have ez : (rngI 0 KL)[k] = (k : Int) := by unfold rngI; simp
    rw [ez] at cz
    have hbz := World.block_lt_of_cell? _ _ cz
    subst hz
    go_wp2_with (fail)
    go_roundg (KL - (k + 1))
    case measure => have := Hgk.out; omega
    case rel => exact ⟨k + 1, Lib.hid rfl, by omega, by go_num, rfl⟩
   ·obtain rfl : k = KL := by omega
    have hkI : ¬ (k : Int) < (k : Int) := by omega
    have hg9 := good_any d wr (Hd.out.grown (Hb6.out)) (gOf d rs toks) rfl (tl.size + 1) ⟨-1, ti, ta⟩ tl ga gc wr (Nat.lt_succ_self _) (Below.refl _ _) HT6.out HGN.out
    rw [Hdv.out, htn.out] at hg9
    have Hg : Hid (Calls Try.prog 47 #[.agg #[.slice xta T xtc, .slice xna N xnc, .slice xaa L xac], .agg #[.int .i64 (-1), .int .i64 ti, .int .i64 ta, .slice ga tn gc]] wr fun e W => e = .returned (.bool true) ∧ Below wr.heap.size wr W) := Lib.hid hg9
    have x0 := HA6.out.cell 0
    have x1 := HA6.out.cell 1
    have x2 := HA6.out.cell 2
    have xl := HA6.out.lt
    simp only [List.getElem?_cons_zero, List.getElem?_cons_succ] at x0 x1 x2
    have n0 := HN6.out.cell 0
    have n1 := HN6.out.cell 1
    have n2 := HN6.out.cell 2
    have n3 := HN6.out.cell 3
    have nl := HN6.out.lt
    simp only [List.getElem?_cons_zero, List.getElem?_cons_succ] at n0 n1 n2 n3
    clear hg9
    go_wp2_with (fail)
    refine Hg.out.mono ?_
    rintro e7 w7 ⟨rfl, hb⟩
    have hs9 := sameInts8_any ta' ka tc' kc toks toks w7 (HI6.out.grown hb) (Hk3.out.grown (Hq6.out.trans (hb.mono Hq6.out.size)))
    rw [decide_eq_true rfl, HK.out] at hs9
    have Hs9 := Lib.hid hs9
    have Hb7 := Lib.hid (Hb6.out.trans (hb.mono Hb6.out.size))
    clear hs9 hb Hg x0 x1 x2 xl n0 n1 n2 n3 nl
    go_wp2_with (fail)
    refine Hs9.out.mono ?_
    rintro e8 w8 ⟨rfl, hb⟩
    have HF := Lib.hid (Hb7.out.trans (hb.mono Hb7.out.size))
    clear hb Hs9
    go_wp2_with (fail)
    exact bodyPost_ret (v := .bool true) (by simp [results, Try.results8, go_sem]; try first | rfl | assumption | omega) rfl ⟨rfl, HF.out⟩
end Go.Proofs.Ytfdhaochnbfndaa
namespace Go.Proofs.Ytfdhaochnbfndaa
open Go.ChangeShapes Go.WideShapes Go.ChangeAt Go.RowKit
set_option maxRecDepth 100000 in
theorem parseYields_contract (H : Type) (enc : TypeId × Value → H) (W : World) (args : Array Value) (ds gs : List (DataW H)) (before : List MemPlace)
 (hval : ∀ (j : Nat) t v, Try.f8.params[j]? = some t → args[j]? = some v → Value.okWide Try.prog W .any 0 t v)
 (hW : DataW.Whole enc Try.prog Try.f8.params.toList Rows.parseYieldsSpec.vars false W args.toList ds gs before) (hk : Rows.uptoSmall H (ds ++ gs) = true) :
 Calls Try.prog 8 args W fun e W' => ∃ v, e = .returned v ∧ Rows.parseYieldsSpec.post enc Try.prog Try.f8 false true false false W args v W' := by
 have hW' := hW
 obtain ⟨p, q, hA0, hV, rfl, hfz, hnd⟩ := hW
 have hA : DataW.TrodAll enc Try.prog W 0 (fun _ => true) true Try.f8.params.toList args.toList ds p := hA0
 rw [Try.params8] at hA hval
 obtain ⟨v0, v1, d0, d1, p0, p1, rfl, rfl, rfl, h0, h1⟩ := trodAll_two hA
 have hb : Rows.uptoBulkAll ([d0, d1] ++ gs) ≤ 1048576 := of_decide_eq_true hk
 simp only [List.cons_append, List.nil_append, Rows.uptoBulkAll] at hb
 obtain ⟨c, rfl, hc, z1, z2, z3, hz⟩ := open_cfg2 (hval 0 25 v0 rfl rfl) h0
 obtain ⟨a1, c1, l1, rfl, hl1, hr1⟩ := open_ints2 (hval 1 35 v1 rfl rfl) h1
 refine (lawYields11_any c a1 c1 l1 W hc z1 z2 z3 (by omega) hl1).mono fun e W' ⟨he, hw⟩ => ?_
 subst he
 exact ⟨_, rfl, law_post hW' rfl rfl (by kernel_rfl) (by rw [Try.params8]; intro t ht; simp at ht; rcases ht with rfl | rfl <;> exact ⟨by kernel_rfl, of_decide_eq_true (by kernel_rfl)⟩) hw⟩
set_option maxRecDepth 100000 in
theorem parseYields_lifted (os : Os) (started : os.Started) (H : Type) (enc : TypeId × Value → H) (F : Stop.Interp) :
 ReturnsInHanded {} Try.checked os 8 .any ((Rows.OpenSpec.upto Rows.parseYieldsSpec).pre6 enc Try.prog Try.f8 Rows.parseYieldsUptoRow.domain false) (((Rows.OpenSpec.upto Rows.parseYieldsSpec).at F).post enc Try.prog Try.f8 false true false false) := by
 refine returnsInHanded_of_cond (C := Try.checked) (s := Rows.OpenSpec.upto Rows.parseYieldsSpec) (k := Rows.uptoSmall) rfl Try.own started (by kernel_rfl) Try.func8
  (OpenSpec.witness (enc := enc) (C := Try.checked) (s := Rows.OpenSpec.upto Rows.parseYieldsSpec) (k := Rows.uptoSmall) rfl false ⟨#[], #[.agg #[.slice none 0 0, .slice none 0 0, .slice none 0 0], .slice none 0 0], []⟩ 8 (by kernel_rfl) (by kernel_rfl) (by kernel_rfl)
   (x := ([.agg [.nil, .nil, .nil], .nil], [], [])) (by kernel_rfl) rfl (by kernel_rfl)) ?_
 intro W base args ds gs before hval hW _ hk _
 exact parseYields_contract H enc W args ds gs before hval hW hk
theorem parseYields_holds : Rows.ParseYieldsUptoSaid :=
 OpenClaim.holds_of_cond 8 Try.f8 rfl rfl rfl rfl rfl rfl rfl ⟨rfl, rfl, rfl, rfl, rfl⟩ rfl rfl rfl rfl rfl (by kernel_rfl) Try.func8 (by kernel_rfl)
  (of_decide_eq_true (by kernel_rfl)) (by unfold Func.isWrapper; first | (rw [if_pos (by decide +kernel)]; kernel_rfl) | (rw [if_neg (by decide +kernel)]; exact ⟨rfl, rfl⟩))
  (fun os started H enc _ F => parseYields_lifted os started H enc F)
end Go.Proofs.Ytfdhaochnbfndaa
namespace Go.Proofs.Ytfdhaochnbfndaa
open Go.RowKit Go.Maps
attribute [local go_sem] Oper.semAt_some
end Go.Proofs.Ytfdhaochnbfndaa
namespace Go.Proofs.Ytfdhaochnbfndaa
open Go.RowKit Go.Maps
attribute [local go_sem] Oper.semAt_some
end Go.Proofs.Ytfdhaochnbfndaa
namespace Go.Proofs.Ytfdhaochnbfndaa
open Go.RowKit
theorem mem_lay {l : List Fl} {x f : Fl} : f ∈ layP l x ↔ f ∈ l ∨ f = x := by
 unfold layP
 split
 ·next h =>
  rw [memF_iff] at h
  exact ⟨fun h1 => .inl h1, fun h1 => h1.elim id (fun e => e ▸ h)⟩
 ·rw [List.mem_append, List.mem_singleton]
theorem mem_unkS {ts names : List ByteArray} {o : List Fl} {n : ByteArray} {f : Fl} : f ∈ unkS ts names o n ↔ f ∈ o ∨ (n ∉ names ∧ n ∉ ts ∧ f = (2, n)) := by
 have h1 : (!mem n names && !mem n ts) = true ↔ n ∉ names ∧ n ∉ ts := by
  simp only [Bool.and_eq_true, Bool.not_eq_true', Bool.eq_false_iff]
  exact and_congr (not_congr mem_iff) (not_congr mem_iff)
 unfold unkS
 split
 ·next h => rw [mem_lay]; have := h1.1 h; exact ⟨fun h => h.imp id (fun e => ⟨this.1, this.2, e⟩), fun h => h.imp id (fun e => e.2.2)⟩
 ·next h => exact ⟨fun h => .inl h, fun h2 => h2.elim id (fun e => absurd (h1.2 ⟨e.1, e.2.1⟩) h)⟩
theorem mem_unkA {ts names : List ByteArray} {f : Fl} : ∀ (l : List ByteArray) (o : List Fl), f ∈ unkA ts names l o ↔ f ∈ o ∨ ∃ n ∈ l, n ∉ names ∧ n ∉ ts ∧ f = (2, n)
 | [], o => by simp [unkA]
 | m :: l, o => by
  have h : unkA ts names (m :: l) o = unkA ts names l (unkS ts names o m) := rfl
  rw [h, mem_unkA l, mem_unkS]
  simp only [List.mem_cons, exists_eq_or_imp, or_assoc]
theorem mem_unkAs {ts names : List ByteArray} {f : Fl} : ∀ (al : List (List ByteArray)) (o : List Fl), f ∈ unkAs ts names al o ↔ f ∈ o ∨ ∃ a ∈ al, ∃ n ∈ a, n ∉ names ∧ n ∉ ts ∧ f = (2, n)
 | [], o => by simp [unkAs]
 | m :: l, o => by
  have h : unkAs ts names (m :: l) o = unkAs ts names l (unkA ts names m o) := rfl
  rw [h, mem_unkAs l, mem_unkA]
  simp only [List.mem_cons, exists_eq_or_imp, or_assoc]
theorem mem_unkP {ts names : List ByteArray} {f : Fl} : ∀ (rs : List Rl) (o : List Fl), f ∈ unkP ts names rs o ↔ f ∈ o ∨ ∃ r ∈ rs, ∃ a ∈ r.2, ∃ n ∈ a, n ∉ names ∧ n ∉ ts ∧ f = (2, n)
 | [], o => by simp [unkP]
 | m :: l, o => by
  have h : unkP ts names (m :: l) o = unkP ts names l (unkAs ts names m.2 o) := rfl
  rw [h, mem_unkP l, mem_unkAs]
  simp only [List.mem_cons, exists_eq_or_imp, or_assoc]
theorem mem_restM {kd : Int} {m : ByteArray → Bool} {f : Fl} : ∀ (l : List ByteArray) (o : List Fl), f ∈ restM kd m l o ↔ f ∈ o ∨ ∃ n ∈ l, m n = false ∧ f = (kd, n)
 | [], o => by simp [restM]
 | n :: l, o => by
  have h : restM kd m (n :: l) o = restM kd m l (if (!m n) = true then layP o (kd, n) else o) := rfl
  rw [h, mem_restM l]
  simp only [List.mem_cons, exists_eq_or_imp]
  cases hm : m n
  ·rw [if_pos (by rfl), mem_lay, or_assoc]
   simp
  ·rw [if_neg (by decide)]
   simp
theorem mem_FLW {rs : List RlD} {ts : List ByteArray} {f : Fl} : f ∈ FLW rs ts ↔ f ∈ dblN ts (rs.map RlD.n) rs.length ∨ (∃ r ∈ grP rs, ∃ a ∈ r.2, ∃ n ∈ a, n ∉ rs.map RlD.n ∧ n ∉ ts ∧ f = (2, n)) ∨ (∃ n ∈ rs.map RlD.n, fertM rs ts n = false ∧ f = (3, n)) ∨ ∃ n ∈ rs.map RlD.n, nearM rs n = false ∧ f = (4, n) := by
 unfold FLW
 rw [mem_restM, mem_restM, mem_unkP]
 simp only [or_assoc]
end Go.Proofs.Ytfdhaochnbfndaa
namespace Go.Proofs.Ytfdhaochnbfndaa
open Go.RowKit
theorem backR_mem10 {ts ns : List ByteArray} : ∀ {l : List ByteArray} {al : List (List (List Int))}, l.length = al.length → ∀ {r : Rl}, r ∈ backR ts ns l al → ∃ k, ∃ h : k < l.length, r = (l[k], (al.getD k []).map (fun x => x.map (nmP ts ns)))
 | [], [], _, r, hr => by cases hr
 | [], _ :: _, h, _, _ => by cases h
 | _ :: _, [], h, _, _ => by cases h
 | n :: l, a :: al, h, r, hr => by
  rcases List.mem_cons.1 hr with rfl | hr
  ·exact ⟨0, by simp, rfl⟩
  ·obtain ⟨k, hk, rfl⟩ := backR_mem10 (l := l) (al := al) (by simpa using h) hr
   exact ⟨k + 1, by simpa using hk, rfl⟩
/-- What a list has, if each of its numbers comes to something: it may be empty, or something stands first. -/
theorem lead_some {al : List (List (List Int))} : ∀ {a : List Int}, (∀ x ∈ a, x < 0 → nulB al (ruL x) = true ∨ ∃ t, TokP al (nulB al) [x] t) → emp (nulB al) a = true ∨ ∃ t, TokP al (nulB al) (ahd (nulB al) a) t
 | [], _ => .inl rfl
 | x :: s, h => by
  by_cases hx : (decide (x < 0) && nulB al (ruL x)) = true
  ·rcases lead_some (a := s) (fun y hy => h y (List.mem_cons_of_mem _ hy)) with h1 | ⟨t, h1⟩
   ·exact .inl (by rw [emp_cons, hx, h1]; rfl)
   ·refine .inr ⟨t, ?_⟩
    unfold ahd
    rw [if_pos hx]
    obtain ⟨y, hy, h2⟩ := tok_iff.1 h1
    exact tok_iff.2 ⟨y, List.mem_cons_of_mem _ hy, h2⟩
  ·refine .inr ?_
   unfold ahd
   rw [if_neg hx]
   by_cases h0 : x < 0
   ·rcases h x (by simp) h0 with h1 | h1
    ·rw [decide_eq_true h0, h1] at hx
     exact absurd rfl hx
    ·exact h1
   ·exact ⟨x, tok_self (by omega)⟩
theorem der_some {al : List (List (List Int))} {r : Nat} {m : Int} (h : Der al r m) : nulB al r = true ∨ ∃ t, TokP al (nulB al) [-1 - (r : Int)] t := by
 induction h with
 | @by_ r a W ha hk ih =>
  have hr : r < al.length := by
   refine Classical.byContradiction fun hn => ?_
   rw [List.getD_eq_getElem?_getD, List.getElem?_eq_none (by omega)] at ha
   cases ha
  rcases lead_some (a := a) (fun x hx h0 => by
   have := ih x hx h0
   rwa [of_ruL h0] at this) with h1 | ⟨t, h1⟩
  ·exact .inl ((nul_iff hr).2 ⟨a, ha, h1⟩)
  ·exact .inr ⟨t, tok_rule ha h1⟩
/-- What a grammar that may be has, in its own words. -/
structure MayG (ts ns : List ByteArray) (al : List (List (List Int))) : Prop where
 len : ns.length = al.length
 ok : ∀ r, ∀ a ∈ al.getD r [], ∀ x ∈ a, -(ns.length : Int) ≤ x ∧ x < (ts.length : Int)
 out : ∀ i (h : i < ns.length), ns[i] ∉ ts
 inj : ∀ i j (hi : i < ns.length) (hj : j < ns.length), ns[i] = ns[j] → i = j
 fert : ∀ n ∈ ns, Fert (backR ts ns ns al) ts n
 near : ∀ n ∈ ns, ∃ h : 0 < ns.length, Lead (backR ts ns ns al) ns[0] n
theorem may_of {d : CfD} (h : validE d.p = 0) : MayG d.toks d.names (d.alts.map IrD.p) := by
 have h0 := h
 unfold validE at h
 split at h
 ·next h1 =>
  split at h
  ·next h2 =>
   have hb := h1
   unfold backE at h1
   split at h1
   ·next h3 =>
    split at h1
    ·next h4 =>
     have e1 : d.p.alts = d.alts.map IrD.p := rfl
     have e2 : d.p.names = d.names := rfl
     have e3 : d.p.toks = d.toks := rfl
     have e4 : backG d.p = backR d.toks d.names d.names (d.alts.map IrD.p) := rfl
     rw [e1, e2] at h3
     rw [e3, e4] at h2
     have hnm : (can (backR d.toks d.names d.names (d.alts.map IrD.p))).map RlD.n = d.names := by
      rw [names_grP, grP_can, backR_fst _ _ _ _ h3]
     obtain ⟨a1, a2⟩ := num_apart2 h2
     rw [hnm] at a2
     have hfl : FLW (can (backR d.toks d.names d.names (d.alts.map IrD.p))) d.toks = [] := by
      unfold numE at h2
      split at h2
      ·split at h2
       ·split at h2
        ·next h9 => exact List.length_eq_zero_iff.1 h9
        ·cases h2
       ·next h9 => exact absurd h2 h9
      ·next h9 => exact absurd h2 h9
     have hno : ∀ f, f ∉ FLW (can (backR d.toks d.names d.names (d.alts.map IrD.p))) d.toks := fun f hf => by rw [hfl] at hf; cases hf
     refine ⟨h3, fun r a ha x hx => ?_, fun i hi => (a2 i hi).1, fun i j hi hj e => apart_inj (fun i hi => (a2 i hi).2) hi hj e, fun n hn => ?_, fun n hn => ?_⟩
     ·by_cases hr : r < (d.alts.map IrD.p).length
      ·have hm : (d.alts.map IrD.p)[r] ∈ d.p.alts := List.getElem_mem hr
       rw [List.getD_eq_getElem?_getD, List.getElem?_eq_getElem hr] at ha
       have ha : a ∈ (d.alts.map IrD.p)[r] := ha
       unfold numsB at h4
       have := List.all_eq_true.1 (List.all_eq_true.1 (List.all_eq_true.1 h4 _ hm) a ha) x hx
       exact okN_iff.1 this
      ·rw [List.getD_eq_getElem?_getD, List.getElem?_eq_none (by omega)] at ha
       cases ha
     ·have h5 : fertM (can (backR d.toks d.names d.names (d.alts.map IrD.p))) d.toks n = true := by
       cases e : fertM (can (backR d.toks d.names d.names (d.alts.map IrD.p))) d.toks n
       ·exact absurd (mem_FLW.2 (.inr (.inr (.inl ⟨n, by rw [hnm]; exact hn, e, rfl⟩)))) (hno _)
       ·rfl
      have h6 := (fertM_iff _ _ _).1 h5
      rwa [grP_can] at h6
     ·have h5 : nearM (can (backR d.toks d.names d.names (d.alts.map IrD.p))) n = true := by
       cases e : nearM (can (backR d.toks d.names d.names (d.alts.map IrD.p))) n
       ·exact absurd (mem_FLW.2 (.inr (.inr (.inr ⟨n, by rw [hnm]; exact hn, e, rfl⟩)))) (hno _)
       ·rfl
      obtain ⟨q, hq, hl⟩ := (nearM_iff _ _).1 h5
      rw [grP_can] at hl
      have hpos : 0 < d.names.length := List.length_pos_of_mem hn
      refine ⟨hpos, ?_⟩
      have e9 : ((can (backR d.toks d.names d.names (d.alts.map IrD.p))).map RlD.n).head? = some q.n := by rw [List.head?_map, hq]; rfl
      rw [hnm, List.head?_eq_getElem?, List.getElem?_eq_getElem hpos] at e9
      have e10 : d.names[0] = q.n := by simpa using e9
      rw [e10]
      exact hl
    ·cases h1
   ·cases h1
  ·cases h
 ·cases h
theorem nmP_rule {ts ns : List ByteArray} {x : Int} (h0 : x < 0) (h : ruL x < ns.length) : nmP ts ns x = ns[ruL x] := by
 unfold nmP
 rw [if_pos h0]
 show ns.getD (ruL x) _ = _
 rw [List.getD_eq_getElem?_getD, List.getElem?_eq_getElem h]
 rfl
theorem MayG.der {ts ns : List ByteArray} {al : List (List (List Int))} (h : MayG ts ns al) (k : Nat) (hk : k < ns.length) : ∃ m, Der al k m := by
 classical
 have key : ∀ s, Fert (backR ts ns ns al) ts s → ∀ k (hk : k < ns.length), s = ns[k] → ∃ m, Der al k m := by
  intro s hs
  induction hs with
  | tok ht => intro k hk e; rw [e] at ht; exact absurd ht (h.out k hk)
  | @rule r a hr ha _ ih =>
   intro k hk e
   obtain ⟨j, hj, rfl⟩ := backR_mem10 h.len hr
   dsimp only at e ha
   have := h.inj j k hj hk e
   subst this
   obtain ⟨a0, ha0, rfl⟩ := List.mem_map.1 ha
   refine ⟨_, Der.by_ (fun q => if hq : ∃ m, Der al q m then Classical.choose hq else 0) ha0 (fun x hx h0 => ?_)⟩
   have h1 := h.ok j a0 ha0 x hx
   have h2 : ruL x < ns.length := by unfold ruL; omega
   have h3 := ih (nmP ts ns x) (List.mem_map.2 ⟨x, hx, rfl⟩) (ruL x) h2 (nmP_rule h0 h2)
   rw [dif_pos h3]
   exact Classical.choose_spec h3
 exact key _ (h.fert _ (List.getElem_mem hk)) k hk rfl
theorem MayG.rest {ts ns : List ByteArray} {al : List (List (List Int))} (h : MayG ts ns al) {r : Nat} {a b : List Int} (ha : a ∈ al.getD r []) (hb : ∀ x ∈ b, x ∈ a) : emp (nulB al) b = true ∨ ∃ t, TokP al (nulB al) (ahd (nulB al) b) t :=
 lead_some (fun x hx h0 => by
  have h1 := h.ok r a ha x (hb x hx)
  obtain ⟨m, hm⟩ := h.der (ruL x) (by unfold ruL; omega)
  have := der_some hm
  rwa [of_ruL h0] at this)
theorem few10_may {d : CfD} (h : few10 d = true) : MayG d.toks d.names (d.alts.map IrD.p) := by
 unfold few10 at h
 rw [Bool.and_eq_true, decide_eq_true_eq, decide_eq_true_eq] at h
 exact may_of h.2
end Go.Proofs.Ytfdhaochnbfndaa
namespace Go.Proofs.Ytfdhaochnbfndaa
open Go.RowKit Go.Maps
attribute [local go_sem] Oper.semAt_some
theorem onlyL_iff {l : List Nat} (h : l.length ≤ 1) (i : Nat) : onlyL l = (i : Int) ↔ i ∈ l := by
 match l, h with
 | [], _ => simp [onlyL]
 | [a], _ => simp [onlyL]; omega
 | _ :: _ :: _, h => simp at h
end Go.Proofs.Ytfdhaochnbfndaa
namespace Go.Proofs.Ytfdhaochnbfndaa
open Go.RowKit Go.Maps
attribute [local go_sem] Oper.semAt_some
/-- What the steps behind stand on: a grammar that may be, with its own table. -/
structure OwnG (G : PsG) : Prop where
 row : ∀ r, r < G.al.length → G.tb.getD r [] = rowT (fun t j => takB G.al (nulB G.al) G.T r (t : Int) j) (G.al.getD r []).length (G.T + 1)
 one : allCl G.al (nulB G.al) G.T = []
 lt : ∀ r, ∀ a ∈ G.al.getD r [], ∀ t, TakP G.al (nulB G.al) G.T r a t → 0 ≤ t ∧ t ≤ (G.T : Int)
 may : ∀ r, ∀ a ∈ G.al.getD r [], ∀ x ∈ a, (x < 0 → nulB G.al (ruL x) = true ∨ ∃ t, TokP G.al (nulB G.al) [x] t) ∧ (∀ t, TokP G.al (nulB G.al) [x] t → t < (G.T : Int))
 may0 : (nulB G.al 0 = true ∨ ∃ t, TokP G.al (nulB G.al) [-1] t) ∧ (∀ t, TokP G.al (nulB G.al) [-1] t → t < (G.T : Int))
theorem tok_from {al : List (List (List Int))} {f : Nat → Bool} {x t : Int} (hx : x < 0) (h : TokP al f [x] t) : ∃ a ∈ al.getD (ruL x) [], TokP al f (ahd f a) t := by
 have key : ∀ y, Rchd [x] (StA al f) y → y = x ∨ ∃ a ∈ al.getD (ruL x) [], Rchd (ahd f a) (StA al f) y := by
  intro y hy
  induction hy with
  | base h => exact .inl (by simpa using h)
  | step _ h2 ih =>
   rcases ih with rfl | ⟨a, ha, h3⟩
   ·obtain ⟨_, a, ha, h4⟩ := h2
    exact .inr ⟨a, ha, .base h4⟩
   ·exact .inr ⟨a, ha, h3.step h2⟩
 rcases key t h.2 with rfl | ⟨a, ha, h3⟩
 ·exact absurd h.1 (by omega)
 ·exact ⟨a, ha, h.1, h3⟩
theorem getD_lt {al : List (List (List Int))} {r : Nat} {a : List Int} (h : a ∈ al.getD r []) : r < al.length := by
 refine Classical.byContradiction fun hn => ?_
 rw [List.getD_eq_getElem?_getD, List.getElem?_eq_none (by omega)] at h
 cases h
/-- The alternative that is taken is the one that is told. -/
theorem own_alt {G : PsG} (h : OwnG G) {r p : Nat} {a : List Int} (ha : a ∈ G.al.getD r []) (ht : TakP G.al (nulB G.al) G.T r a (G.next p)) : ∃ j, G.alt r p = some (j, a) := by
 have hr := getD_lt ha
 obtain ⟨h0, h1⟩ := h.lt r a ha _ ht
 obtain ⟨j, hj, he⟩ := List.mem_iff_getElem.1 ha
 obtain ⟨k, hk⟩ : ∃ k : Nat, G.next p = (k : Int) := ⟨(G.next p).toNat, by omega⟩
 rw [hk] at ht h1
 have hc : (G.tb.getD r [])[(G.next p).toNat]? = some (j : Int) := by
  rw [h.row r hr, hk, Int.toNat_natCast]
  unfold rowT
  rw [List.getElem?_map, List.getElem?_range (by omega)]
  show some _ = _
  congr 1
  rw [onlyL_iff (clS_nil.1 h.one r hr k (by omega)), List.mem_filter, List.mem_range]
  refine ⟨hj, ?_⟩
  rw [takB_at (List.getElem?_eq_getElem hj), he]
  exact ht
 refine ⟨j, ?_⟩
 rw [alt_cell hc, if_pos (by omega), Int.toNat_natCast, List.getElem?_eq_getElem hj, he]
 rfl
/-- Not refused here: it goes on, or there were too many. -/
def Up {α : Type} (p : Nat) : PsR α → Prop
 | .bad b x => x = 2 ∨ p < b
 | .ok _ b _ => p < b
def NotRef {α : Type} (p : Nat) : PsR α → Prop
 | .bad b x => x = 2 ∨ p < b
 | .ok _ b _ => p ≤ b
theorem Up.of {α : Type} {p : Nat} {r : PsR α} (h : p < r.pl) : Up p r := by
 cases r with
 | bad b x => exact .inr h
 | ok t b q => exact h
theorem Up.not {α : Type} {p : Nat} {r : PsR α} (h : Up p r) : NotRef p r := by
 cases r with
 | bad b x => exact h
 | ok t b q => exact Nat.le_of_lt h
theorem Up.bind {α β : Type} {p : Nat} {r : PsR α} {c : α → Nat → Nat → PsR β} (h : Up p r) (hc : ∀ x b q, b ≤ (c x b q).pl) : Up p (r.bind c) := by
 cases r with
 | bad b x => exact h
 | ok t b q => exact Up.of (Nat.lt_of_lt_of_le h (hc t b q))
/-- What stands behind each of them follows it; so does what follows all of them. -/
def FolK (al : List (List (List Int))) (T : Nat) (k t : Int) : Prop := k < 0 → FolP al (nulB al) T (ruL k) t
def CohP (al : List (List (List Int))) (T : Nat) (P : Int → Prop) : List Int → Prop
 | [] => True
 | x :: v => (∀ t, (TokP al (nulB al) (ahd (nulB al) v) t ∨ (emp (nulB al) v = true ∧ P t)) → FolK al T x t) ∧ CohP al T P v
theorem tok_ahd {al : List (List (List Int))} {x : Int} {v : List Int} {t : Int} : TokP al (nulB al) (ahd (nulB al) (x :: v)) t ↔ TokP al (nulB al) [x] t ∨ ((x < 0 ∧ nulB al (ruL x) = true) ∧ TokP al (nulB al) (ahd (nulB al) v) t) := by
 by_cases hx : (decide (x < 0) && nulB al (ruL x)) = true
 ·have hx2 : x < 0 ∧ nulB al (ruL x) = true := by simpa using hx
  rw [show ahd (nulB al) (x :: v) = x :: ahd (nulB al) v by rw [ahd, if_pos hx], tok_iff]
  constructor
  ·rintro ⟨y, hy, h⟩
   rcases List.mem_cons.1 hy with rfl | hy
   ·exact .inl h
   ·exact .inr ⟨hx2, tok_iff.2 ⟨y, hy, h⟩⟩
  ·rintro (h | ⟨_, h⟩)
   ·exact ⟨x, by simp, h⟩
   ·obtain ⟨y, hy, h⟩ := tok_iff.1 h
    exact ⟨y, List.mem_cons_of_mem _ hy, h⟩
 ·rw [show ahd (nulB al) (x :: v) = [x] by rw [ahd, if_neg hx]]
  constructor
  ·exact .inl
  ·rintro (h | ⟨h, _⟩)
   ·exact h
   ·exact absurd (by rw [decide_eq_true h.1, h.2]; rfl) hx
theorem tok_ahd_app {al : List (List (List Int))} : ∀ {v w : List Int} {t : Int}, TokP al (nulB al) (ahd (nulB al) (v ++ w)) t → TokP al (nulB al) (ahd (nulB al) v) t ∨ (emp (nulB al) v = true ∧ TokP al (nulB al) (ahd (nulB al) w) t)
 | [], w, t, h => .inr ⟨rfl, h⟩
 | x :: v, w, t, h => by
  rcases tok_ahd.1 h with h | ⟨hx, h⟩
  ·exact .inl (tok_ahd.2 (.inl h))
  ·rcases tok_ahd_app h with h | ⟨h1, h2⟩
   ·exact .inl (tok_ahd.2 (.inr ⟨hx, h⟩))
   ·exact .inr ⟨by rw [emp_cons, decide_eq_true hx.1, hx.2, h1]; rfl, h2⟩
theorem coh_app {al : List (List (List Int))} {T : Nat} {P : Int → Prop} {k : Int} {ks : List Int} (hk : CohP al T P (k :: ks)) : ∀ {S : List Int}, CohP al T (FolK al T k) S → CohP al T P (S ++ ks)
 | [], _ => hk.2
 | x :: v, h => by
  refine ⟨fun t ht => ?_, coh_app hk h.2⟩
  rcases ht with ht | ⟨ht, hp⟩
  ·rcases tok_ahd_app ht with ht | ⟨h1, h2⟩
   ·exact h.1 t (.inl ht)
   ·exact h.1 t (.inr ⟨h1, hk.1 t (.inl h2)⟩)
  ·have ht : emp (nulB al) (v ++ ks) = true := ht
   rw [emp_app, Bool.and_eq_true] at ht
   exact h.1 t (.inr ⟨ht.1, hk.1 t (.inr ⟨ht.2, hp⟩)⟩)
theorem coh_drop {al : List (List (List Int))} {T r : Nat} {a : List Int} (ha : a ∈ al.getD r []) : ∀ (i : Nat), CohP al T (FolP al (nulB al) T r) (a.drop (a.length - i))
 | 0 => by rw [Nat.sub_zero, List.drop_length]; exact trivial
 | i + 1 => by
  by_cases hi : i < a.length
  ·have e : a.drop (a.length - (i + 1)) = a[a.length - (i + 1)] :: a.drop (a.length - i) := by
    rw [List.drop_eq_getElem_cons (by omega)]
    congr 2
    omega
   rw [e]
   refine ⟨fun t ht hx => ?_, coh_drop ha i⟩
   have hg : a[a.length - (i + 1)]? = some (-1 - (ruL (a[a.length - (i + 1)]) : Int)) := by
    rw [List.getElem?_eq_getElem (by omega), of_ruL hx]
   have hd : a.drop (a.length - i) = a.drop (a.length - (i + 1) + 1) := by congr 1; omega
   rw [hd] at ht
   rcases ht with ht | ⟨h1, h2⟩
   ·exact fol_beh (getD_lt ha) ha hg ht
   ·exact fol_last ⟨getD_lt ha, a, ha, _, hg, h1⟩ h2
  ·rw [show a.length - (i + 1) = a.length - i by omega]
   exact coh_drop ha i
theorem coh_alt {al : List (List (List Int))} {T r : Nat} {a : List Int} (ha : a ∈ al.getD r []) : CohP al T (FolP al (nulB al) T r) a := by
 have := coh_drop (T := T) ha a.length
 rwa [Nat.sub_self, List.drop_zero] at this
theorem coh_imp {al : List (List (List Int))} {T : Nat} {P Q : Int → Prop} (h : ∀ t, Q t → P t) : ∀ {S : List Int}, CohP al T P S → CohP al T Q S
 | [], _ => trivial
 | _ :: _, hs => ⟨fun t ht => hs.1 t (ht.imp id (fun e => ⟨e.1, h t e.2⟩)), coh_imp h hs.2⟩
/-- What may be empty, and is followed by what comes next, is not refused. -/
theorem seqB {f : Int → Nat → Nat → PsR Tre} {p : Nat} {Z : Int → Prop} (hf : ∀ k q, Z k → NotRef p (f k p q)) (hu : ∀ k a n, a ≤ (f k a n).pl) : ∀ (S : List Int) (q : Nat), (∀ x ∈ S, Z x) → NotRef p (psSeq f S p q)
 | [], q, _ => Nat.le_refl _
 | x :: v, q, h => by
  rw [seq_cons]
  have h1 := hf x q (h x (by simp))
  cases e : f x p q with
  | bad b y => rw [e] at h1; exact h1
  | ok t b n =>
   rw [e] at h1
   have h1 : p ≤ b := h1
   by_cases hb : b = p
   ·subst hb
    have h2 := seqB hf hu v n (fun y hy => h y (List.mem_cons_of_mem _ hy))
    show NotRef b ((psSeq f v b n).bind fun l a n => PsR.ok (t.con l) a n)
    cases e2 : psSeq f v b n with
    | bad c y => rw [e2] at h2; exact h2
    | ok l c m => rw [e2] at h2; exact h2
   ·have h2 := seq_up hu v b n
    show NotRef p ((psSeq f v b n).bind fun l a n => PsR.ok (t.con l) a n)
    cases e2 : psSeq f v b n with
    | bad c y => rw [e2] at h2; exact .inr (Nat.lt_of_lt_of_le (by omega) h2)
    | ok l c m => rw [e2] at h2; exact Nat.le_trans h1 h2
theorem putB {G : PsG} (hG : OwnG G) (p : Nat) : ∀ (m : Nat) (k : Int) (q : Nat), (k < 0 ∧ nulB G.al (ruL k) = true ∧ FolP G.al (nulB G.al) G.T (ruL k) (G.next p)) → NotRef p (psPut G m k p q)
 | 0, k, q, _ => .inl rfl
 | m + 1, k, q, ⟨hk, hn, hF⟩ => by
  unfold psPut
  by_cases hq : q = 0
  ·rw [if_pos hq]; exact .inl rfl
  ·rw [if_neg hq, if_neg (by omega)]
   obtain ⟨a, ha, he⟩ := (nul_iff (nulB_lt hn)).1 hn
   obtain ⟨j, hj⟩ := own_alt hG ha (.inr ⟨he, hF⟩)
   rw [hj]
   dsimp only
   have h1 := seqB (Z := fun k => k < 0 ∧ nulB G.al (ruL k) = true ∧ FolP G.al (nulB G.al) G.T (ruL k) (G.next p)) (fun k q hz => putB hG p m k q hz) (put_up G m) a (q - 1) (fun x hx => by
    have h2 := emp_iff.1 he x hx
    refine ⟨h2.1, h2.2, ?_⟩
    obtain ⟨i, hi, e⟩ := List.mem_iff_getElem.1 hx
    refine fol_last ⟨getD_lt ha, a, ha, i, by rw [List.getElem?_eq_getElem hi, e, of_ruL h2.1], ?_⟩ hF
    rw [emp_iff]
    exact fun y hy => emp_iff.1 he y (List.mem_of_mem_drop hy))
   cases e : psSeq (psPut G m) a p (q - 1) with
   | bad b y => rw [e] at h1; exact h1
   | ok l b n => rw [e] at h1; exact h1
/-- What begins with the token that comes next takes it. -/
theorem seqA {G : PsG} {f : Int → Nat → Nat → PsR Tre} {p : Nat} {P : Int → Prop} (hf : ∀ k q, TokP G.al (nulB G.al) [k] (G.next p) → Up p (f k p q)) (hB : ∀ k q, (k < 0 ∧ nulB G.al (ruL k) = true ∧ FolP G.al (nulB G.al) G.T (ruL k) (G.next p)) → NotRef p (f k p q)) (hu : ∀ k a n, a ≤ (f k a n).pl) : ∀ (S : List Int) (q : Nat), CohP G.al G.T P S → TokP G.al (nulB G.al) (ahd (nulB G.al) S) (G.next p) → Up p (psSeq f S p q)
 | [], q, _, h => by
  obtain ⟨y, hy, _⟩ := tok_iff.1 h
  cases hy
 | x :: v, q, hc, h => by
  rw [seq_cons]
  have hu2 : ∀ (t : Tre) b n, b ≤ ((psSeq f v b n).bind fun l a n => PsR.ok (t.con l) a n).pl := fun t b n => by
   have h2 := seq_up hu v b n
   cases e2 : psSeq f v b n with
   | bad c y => rw [e2] at h2; exact h2
   | ok l c m => rw [e2] at h2; exact h2
  rcases tok_ahd.1 h with h | ⟨⟨hx, hn⟩, h⟩
  ·exact (hf x q h).bind hu2
  ·have h1 := hB x q ⟨hx, hn, hc.1 _ (.inl h) hx⟩
   cases e : f x p q with
   | bad b y => rw [e] at h1; exact h1
   | ok t b n =>
    rw [e] at h1
    have h1 : p ≤ b := h1
    by_cases hb : b = p
    ·subst hb
     have h2 := seqA hf hB hu v n hc.2 h
     show Up b ((psSeq f v b n).bind fun l a n => PsR.ok (t.con l) a n)
     cases e2 : psSeq f v b n with
     | bad c y => rw [e2] at h2; exact h2
     | ok l c m => rw [e2] at h2; exact h2
    ·exact Up.of (Nat.lt_of_lt_of_le (by omega) (hu2 t b n))
theorem putA {G : PsG} (hG : OwnG G) {p : Nat} (hp : p < G.toks.length) : ∀ (m : Nat) (k : Int) (q : Nat), TokP G.al (nulB G.al) [k] (G.next p) → Up p (psPut G m k p q)
 | 0, k, q, _ => .inl rfl
 | m + 1, k, q, h => by
  unfold psPut
  by_cases hq : q = 0
  ·rw [if_pos hq]; exact .inl rfl
  ·rw [if_neg hq]
   by_cases hk : 0 ≤ k
   ·have e := tok_tok hk h
    rw [next_at hp] at e
    rw [if_pos hk, if_pos (by rw [List.getElem?_eq_getElem hp, e])]
    exact Nat.lt_succ_self _
   ·rw [if_neg hk]
    obtain ⟨a, ha, ht⟩ := tok_from (by omega) h
    obtain ⟨j, hj⟩ := own_alt hG ha (.inl ht)
    rw [hj]
    dsimp only
    have h1 := seqA (G := G) (fun k q hz => putA hG hp m k q hz) (fun k q hz => putB hG p m k q hz) (put_up G m) a (q - 1) (coh_alt ha) ht
    cases e : psSeq (psPut G m) a p (q - 1) with
    | bad b y => rw [e] at h1; exact h1
    | ok l b n => rw [e] at h1; exact h1
end Go.Proofs.Ytfdhaochnbfndaa
