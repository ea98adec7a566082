/- Texts joined: Lj. -/
import Derived.Test.YtfdhaochnbfndaaRAAv
import Derived.Test.YtfdhaochnbfndaaRABc
import Derived.Test.YtfdhaochnbfndaaRAAw
import Derived.Test.YtfdhaochnbfndaaRAAq
import Derived.Test.YtfdhaochnbfndaaRAAg
import Derived.Deep.CutRange
set_option linter.unusedVariables false
set_option linter.unusedSimpArgs false
namespace Go.Proofs.Ytfdhaochnbfndaa
open Go.RowKit Go.Maps
attribute [local go_sem] Oper.semAt_some
set_option maxRecDepth 100000 in
set_option maxHeartbeats 16000000 in
theorem lawEarly11_any (d : CfD) (ka : Option Addr) (kc : Nat) (toks : List Int) (ma : Option Addr) (mc : Nat) (more : List Int) (w : World) (hd : CfAt w d) (h1 : ∀ t ∈ d.toks, t.size ≤ maxLen) (h2 : ∀ t ∈ d.names, t.size ≤ maxLen) (h3 : ∀ r ∈ d.alts, ∀ a ∈ r.ds, ∀ x ∈ a.l, -9223372036854775808 ≤ x ∧ x ≤ 9223372036854775807) (hs : d.toks.length + d.names.length + szC (d.alts.map IrD.p) ≤ 1000000000000) (hk : Ints w ka kc toks) (hm : Ints w ma mc more) :
 Calls Try.prog 9 #[d.v, .slice ka toks.length kc, .slice ma more.length mc] w fun e w' => e = .returned (.bool true) ∧ Below w.heap.size w w' := by
 have HTb := Lib.hid (fun W (hb : Below w.heap.size w W) => tables_any d W (hd.grown hb) h1 h2 h3 hs)
 have Hd := Lib.hid hd
 have Hk := Lib.hid hk
 have Hm := Lib.hid hm
 have hkm : toks.length ≤ kc ∧ kc ≤ 9223372036854775807 := ⟨by have := hk.le; rwa [List.length_map] at this, hk.max⟩
 have hmm : more.length ≤ mc ∧ mc ≤ 9223372036854775807 := ⟨by have := hm.le; rwa [List.length_map] at this, hm.max⟩
 have hb1 : Below w.heap.size w (w.alloc (.cells #[.slice d.ta d.toks.length d.tc, .slice d.na d.names.length d.nc, .slice d.aa d.alts.length d.ac] 25)) := (Below.refl _ w).alloc (Nat.le_refl _) _
 have hA := Blk.new w 25 #[.slice d.ta d.toks.length d.tc, .slice d.na d.names.length d.nc, .slice d.aa d.alts.length d.ac]
 obtain ⟨xta, hxta⟩ : ∃ q, Hid (d.ta = q) := ⟨_, Lib.hid rfl⟩
 obtain ⟨xna, hxna⟩ : ∃ q, Hid (d.na = q) := ⟨_, Lib.hid rfl⟩
 obtain ⟨xaa, hxaa⟩ : ∃ q, Hid (d.aa = q) := ⟨_, Lib.hid rfl⟩
 obtain ⟨xtc, hxtc⟩ : ∃ q, Hid (d.tc = q) := ⟨_, Lib.hid rfl⟩
 obtain ⟨xnc, hxnc⟩ : ∃ q, Hid (d.nc = q) := ⟨_, Lib.hid rfl⟩
 obtain ⟨xac, hxac⟩ : ∃ q, Hid (d.ac = q) := ⟨_, Lib.hid rfl⟩
 obtain ⟨T, HT⟩ : ∃ q, Hid (d.toks.length = q) := ⟨_, Lib.hid rfl⟩
 obtain ⟨N, HN⟩ : ∃ q, Hid (d.names.length = q) := ⟨_, Lib.hid rfl⟩
 obtain ⟨L, HL⟩ : ∃ q, Hid (d.alts.length = q) := ⟨_, Lib.hid rfl⟩
 have hdv : d.v = .agg #[.slice xta T xtc, .slice xna N xnc, .slice xaa L xac] := by unfold CfD.v; rw [hxta.out, hxna.out, hxaa.out, hxtc.out, hxnc.out, hxac.out, HT.out, HN.out, HL.out]
 rw [hdv]
 rw [hxta.out, hxna.out, hxaa.out, hxtc.out, hxnc.out, hxac.out, HT.out, HN.out, HL.out] at hA hb1
 rw [hdv] at HTb
 have Hdv := Lib.hid hdv
 have x0 := hA.cell 0
 have x1 := hA.cell 1
 have x2 := hA.cell 2
 have xl := hA.lt
 simp only [List.getElem?_cons_zero, List.getElem?_cons_succ] at x0 x1 x2
 have HA := Lib.hid hA
 have Hb1 := Lib.hid hb1
 clear hA hb1 h1 h2 h3 hs hd hdv hxta hxna hxaa hxtc hxnc hxac
 go_enter Try.func9, Try.ntmps9
 go_wp2_with (fail)
 obtain ⟨bx, hbx⟩ : ∃ q, Hid (w.heap.size = q) := ⟨_, Lib.hid rfl⟩
 rw [hbx.out] at HA xl x0 x1 x2 ⊢
 generalize hV : World.alloc w _ = V1 at HA x0 x1 x2 xl Hb1 ⊢
 clear hV
 refine (live11_any V1).mono ?_
 rintro e w2 ⟨rfl, hb⟩
 have HA2 := Lib.hid (HA.out.below hb HA.out.lt)
 have Hb2 := Lib.hid (Hb1.out.trans (hb.mono Hb1.out.size))
 clear x0 x1 x2 xl hb
 have x0 := HA2.out.cell 0
 have x1 := HA2.out.cell 1
 have x2 := HA2.out.cell 2
 have xl := HA2.out.lt
 simp only [List.getElem?_cons_zero, List.getElem?_cons_succ] at x0 x1 x2
 go_wp2_with (fail)
 refine (HTb.out w2 Hb2.out).mono ?_
 intro e w3 hB
 obtain ⟨hb, hB⟩ := hB
 have HA3 := Lib.hid (HA2.out.below hb HA2.out.lt)
 have Hb3 := Lib.hid (Hb2.out.trans (hb.mono Hb2.out.size))
 clear x0 x1 x2 xl hb HTb
 rcases hB with rfl | ⟨hfw, hcl, oa, oc, rs, rfl, hrl, hra, hrow⟩
 ·go_wp2_with (fail)
  exact bodyPost_ret (v := .bool true) (by simp [results, Try.results9, go_sem]; try first | rfl | assumption | omega) rfl ⟨rfl, Hb3.out⟩
 have hrm : rs.length ≤ oc ∧ oc ≤ 9223372036854775807 := ⟨by have := hra.row.le; rwa [List.length_map] at this, hra.row.max⟩
 have hfit := few10_fit hfw
 have hbo : ∀ W, Below w3.heap.size w3 W → ∀ ka kc toks, Ints W ka kc toks → PrF W d oa oc rs ka kc toks := fun W hb ka kc toks hi => prf_of hfit (Hd.out.grown (Hb3.out.trans (hb.mono Hb3.out.size))) (hra.grown hb) hrl hrow hi
 have Hpf := Lib.hid hbo
 have Hown := Lib.hid (own_of (toks := toks) hfw hcl hrow)
 have HT60 : Hid (d.toks.length ≤ 60) := Lib.hid hfit.t
 obtain ⟨KL, HK⟩ : ∃ q, Hid (toks.length = q) := ⟨_, Lib.hid rfl⟩
 obtain ⟨M, HM⟩ : ∃ q, Hid (more.length = q) := ⟨_, Lib.hid rfl⟩
 obtain ⟨rn, hrn⟩ : ∃ q, Hid (rs.length = q) := ⟨_, Lib.hid rfl⟩
 rw [HK.out] at hkm
 rw [HM.out] at hmm
 rw [hrn.out] at hrm
 rw [HK.out, HM.out, hrn.out]
 have Hk3 := Lib.hid (Hk.out.grown Hb3.out)
 have Hm3 := Lib.hid (Hm.out.grown Hb3.out)
 clear hbo hrl hra hrow hfit hcl hfw
 by_cases hK60 : 60 < KL
 ·have hKI : (60 : Int) < (KL : Int) := by omega
  go_wp2_with (fail)
  exact bodyPost_ret (v := .bool true) (by simp [results, Try.results9, go_sem]; try first | rfl | assumption | omega) rfl ⟨rfl, Hb3.out⟩
 have hKI : ¬ (60 : Int) < (KL : Int) := by omega
 by_cases hM60 : 60 < M
 ·have hMI : (60 : Int) < (M : Int) := by omega
  go_wp2_with (fail)
  exact bodyPost_ret (v := .bool true) (by simp [results, Try.results9, go_sem]; try first | rfl | assumption | omega) rfl ⟨rfl, Hb3.out⟩
 have hMI : ¬ (60 : Int) < (M : Int) := by omega
 obtain ⟨z1, c1, w4, hrun1, ho1, hb1⟩ := (OwnKZ.nil w3 w3.heap.size).app ka kc toks Hk3.out 35 (by show 0 + toks.length ≤ _; rw [HK.out]; omega) (Nat.le_refl _)
 rw [show ([] : List Int).length = 0 from rfl, HK.out, Nat.zero_add] at hrun1
 rw [List.nil_append] at ho1
 obtain ⟨z2, c2, w5, hrun2, ho2, hb2⟩ := OwnKZ.app ho1 ma mc more (Hm3.out.grown hb1) 35 (by rw [HK.out, HM.out]; omega) hb1.size
 rw [HK.out, HM.out] at hrun2
 have Hrun1 := Lib.hid hrun1
 have Hrun2 := Lib.hid hrun2
 have hb := hb1.trans hb2
 have HA5 := Lib.hid (HA3.out.below hb HA3.out.lt)
 have Hb5 := Lib.hid (Hb3.out.trans (hb.mono Hb3.out.size))
 have Hq5 := Lib.hid hb
 have HI5 := Lib.hid (OwnKZ.vs ho2)
 have hlen : (toks ++ more).length = KL + M := by rw [List.length_append, HK.out, HM.out]
 have Hlen := Lib.hid hlen
 have hlm : KL + M ≤ c2 ∧ c2 ≤ 9223372036854775807 := ⟨by have := HI5.out.le; rwa [List.length_map, hlen] at this, HI5.out.max⟩
 clear hrun1 hrun2 hb hb1 hb2 ho1 ho2 hlen
 go_wp2_with (first | (at_builtin; refine wpList_append_run rfl _ _ 35 35 rfl _ _ _ _ rfl rfl Hrun1.out ?_) | (at_builtin; refine wpList_append_run rfl _ _ 35 35 rfl _ _ _ _ rfl rfl Hrun2.out ?_))
 clear Hrun1 Hrun2
 go_loopg [11, 43] (KL + M) (fun gk _ iv wr => ∃ (k : Nat), Hid (gk = KL + M - k) ∧ k ≤ KL + M ∧ iv = .int .i64 (k : Int) ∧ wr = w5 ∧ Hid (firstB T ((toks ++ more).take k) = none))
 case atStart => exact ⟨0, Lib.hid rfl, Nat.zero_le _, rfl, rfl, Lib.hid rfl⟩
 case round =>
 obtain ⟨k, Hgk, hk', rfl, rfl, HFk⟩ := hrel
 have x0 := HA5.out.cell 0
 have x1 := HA5.out.cell 1
 have x2 := HA5.out.cell 2
 have xl := HA5.out.lt
 simp only [List.getElem?_cons_zero, List.getElem?_cons_succ] at x0 x1 x2
 by_cases hlt : k < KL + M
 ·have hkI : (k : Int) < (KL : Int) + (M : Int) := by omega
  have hkI0 : (0 : Int) ≤ (k : Int) := by omega
  have hkl : k < (toks ++ more).length := by rw [Hlen.out]; omega
  obtain ⟨z, zo, hz⟩ := HI5.out.at_ k (by rw [List.length_map]; exact hkl)
  have cz := HI5.out.cell z zo hz k (by rw [List.length_map]; exact hkl)
  rw [List.getElem_map] at cz
  obtain ⟨v, hv⟩ : ∃ q, Hid ((toks ++ more)[k] = q) := ⟨_, Lib.hid rfl⟩
  rw [hv.out] at cz
  have hzb := World.block_lt_of_cell? _ _ cz
  subst hz
  by_cases h0 : v < 0
  ·go_wp2_with (fail)
   exact bodyPost_ret (v := .bool true) (by simp [results, Try.results9, go_sem]; try first | rfl | assumption | omega) rfl ⟨rfl, Hb5.out⟩
  by_cases h1 : (T : Int) ≤ v
  ·go_wp2_with (fail)
   exact bodyPost_ret (v := .bool true) (by simp [results, Try.results9, go_sem]; try first | rfl | assumption | omega) rfl ⟨rfl, Hb5.out⟩
  have HFk2 : Hid (firstB T ((toks ++ more).take (k + 1)) = none) := Lib.hid (by
   rw [List.take_succ_eq_append_getElem hkl, hv.out]
   exact firstB_snoc HFk.out (by omega) (by omega))
  go_wp2_with (fail)
  go_roundg (KL + M - (k + 1))
  case measure => have := Hgk.out; omega
  case rel => exact ⟨k + 1, Lib.hid rfl, by omega, by go_num, rfl, HFk2⟩
 have hkE : k = KL + M := by omega
 have hkI : ¬ (k : Int) < (KL : Int) + (M : Int) := by omega
 have HFB : Hid (firstB (gOf d rs toks).T ((gOf d rs toks).toks ++ more) = none) := Lib.hid (by
  show firstB d.toks.length (toks ++ more) = none
  have h9 := HFk.out
  rwa [List.take_of_length_le (by rw [Hlen.out]; omega), ← HT.out] at h9)
 obtain ⟨r1, hr1⟩ : ∃ q, Hid (psParse (gOf d rs toks) = q) := ⟨_, Lib.hid rfl⟩
 obtain ⟨r2, hr2⟩ : ∃ q, Hid (psParse (gOf d rs (toks ++ more)) = q) := ⟨_, Lib.hid rfl⟩
 obtain ⟨WL, hWL⟩ : ∃ q, Hid (wantP (gOf d rs toks) = q) := ⟨_, Lib.hid rfl⟩
 obtain ⟨WN, HWN⟩ : ∃ q, Hid (WL.length = q) := ⟨_, Lib.hid rfl⟩
 have hp1 := pparse_any d oa oc rs ka kc toks wr (Hpf.out wr Hq5.out ka kc toks (Hk3.out.grown Hq5.out))
 rw [hr1.out, Hdv.out, hrn.out, HK.out] at hp1
 have Hp1 := Lib.hid hp1
 have Hw : Hid (∀ W, Below w3.heap.size w3 W → Calls Try.prog 44 #[.agg #[.slice xta T xtc, .slice xna N xnc, .slice xaa L xac], .slice oa rn oc, .slice ka KL kc] W (fun e W' => ∃ oa oc, e = .returned (.slice oa WN oc) ∧ Ints W' oa oc WL ∧ Below W.heap.size W W')) := Lib.hid (fun W hb => by
  have := wanted_any d oa oc rs ka kc toks W (Hpf.out W hb ka kc toks (Hk3.out.grown hb)) (by have := HT60.out; omega) (by have := HK.out; omega)
  rwa [hWL.out, HWN.out, Hdv.out, hrn.out, HK.out] at this)
 have Hpp : Hid (∀ W, Below w3.heap.size w3 W → ∀ ka kc, Ints W ka kc (toks ++ more) → Calls Try.prog 41 #[.agg #[.slice xta T xtc, .slice xna N xnc, .slice xaa L xac], .slice oa rn oc, .slice ka (KL + M) kc] W (TreQ W r2)) := Lib.hid (fun W hb ka kc hi => by
  have := pparse_any d oa oc rs ka kc (toks ++ more) W (Hpf.out W hb ka kc (toks ++ more) hi)
  rwa [hr2.out, Hdv.out, hrn.out, Hlen.out] at this)
 clear hp1 Hpf HT60 HFk HI5
 go_wp2_with (fail)
 refine Hp1.out.mono ?_
 intro e6 w6 hT
 have hb := hT.1
 obtain ⟨tk, ti, ta, tga, tn, tgc, p1, y1, rfl, hX⟩ := tre_box hT
 have HX := Lib.hid hX
 have HA6 := Lib.hid (HA5.out.below hb HA5.out.lt)
 have Hb6 := Lib.hid (Hb5.out.trans (hb.mono Hb5.out.size))
 have Hq6 := Lib.hid (Hq5.out.trans (hb.mono Hq5.out.size))
 clear x0 x1 x2 xl hb hT hX Hp1
 go_upto_region 12 with fail
 have hb : Below w6.heap.size w6 (w6.alloc (.cells #[.int .i64 tk, .int .i64 ti, .int .i64 ta, .slice tga tn tgc] 51)) := (Below.refl _ _).alloc (Nat.le_refl _) _
 have hN := HX.out.2 _ w6.heap.size hb (Blk.new w6 51 #[.int .i64 tk, .int .i64 ti, .int .i64 ta, .slice tga tn tgc])
 generalize hV : World.alloc w6 _ = w7 at hb hN ⊢
 have HA7 := Lib.hid (HA6.out.below hb HA6.out.lt)
 have Hb7 := Lib.hid (Hb6.out.trans (hb.mono Hb6.out.size))
 have Hq7 := Lib.hid (Hq6.out.trans (hb.mono Hq6.out.size))
 have HC1 := Lib.hid (box_vals hN)
 have Hk7 := Lib.hid (Hk3.out.grown Hq7.out)
 have Hm7 := Lib.hid (Hm3.out.grown Hq7.out)
 have Hp2 : Hid (∀ W, Below w7.heap.size w7 W → ∀ ka kc, Ints W ka kc (toks ++ more) → Calls Try.prog 41 #[.agg #[.slice xta T xtc, .slice xna N xnc, .slice xaa L xac], .slice oa rn oc, .slice ka (KL + M) kc] W (TreQ W r2)) := Lib.hid (fun W hb => Hpp.out W (Hq7.out.trans (hb.mono Hq7.out.size)))
 clear hV hb hN HX Hpp
 go_cut [15, 16, 17] from 19 (fun v15 v16 v17 wc => ∃ (nb : Nat) (p x : Int), v15 = .pointer (some ⟨nb, 0, none⟩) ∧ v16 = .int .i64 p ∧ v17 = .int .i64 x ∧ Hid (Below w7.heap.size w7 wc) ∧ Hid (BoxR wc r2 nb p x))
 case first =>
  have HB0 := Lib.hid ((Below.refl w7.heap.size w7).drew)
  have HS0 : Hid ((w7.drew).cell? ⟨bx, 0, none⟩ = some (.slice xta T xtc) ∧ (w7.drew).cell? ⟨bx, 1, none⟩ = some (.slice xna N xnc) ∧ (w7.drew).cell? ⟨bx, 2, none⟩ = some (.slice xaa L xac)) := Lib.hid (⟨(HA7.out.below HB0.out HA7.out.lt).cell 0, (HA7.out.below HB0.out HA7.out.lt).cell 1, (HA7.out.below HB0.out HA7.out.lt).cell 2⟩)
  refine wp_region_held_drew (S := fun w' => w'.cell? ⟨bx, 0, none⟩ = some (.slice xta T xtc) ∧ w'.cell? ⟨bx, 1, none⟩ = some (.slice xna N xnc) ∧ w'.cell? ⟨bx, 2, none⟩ = some (.slice xaa L xac)) (by kernel_rfl) ?_ (fun hHeld => ?_)
  ·exact HS0.out
  generalize World.drew w7 = K0 at HB0 HS0 hHeld ⊢
  refine wpAnyH_take (i := 0) (v := ?_) (iatLS iatZS) (by kernel_rfl) (by kernel_rfl) (by kernel_rfl) (fun _ _ _ h => h) (Or.inl ⟨by rfl, ?_⟩) (by assumption) ?_
  rotate_left
  ·intro w hSw
   try dsimp only at hSw
   go_simp
   all_goals with_reducible rfl
  try simp only [Act.put, List.setIfInBounds_toArray, List.set_cons_zero, List.set_cons_succ]
  refine wpAnyH_take (i := 1) (v := ?_) (iatLS (iatSS iatZS)) (by kernel_rfl) (by kernel_rfl) (by kernel_rfl) (fun _ _ _ h => h) (Or.inl ⟨by rfl, ?_⟩) (by assumption) ?_
  rotate_left
  ·intro w hSw
   try dsimp only at hSw
   go_simp
   all_goals with_reducible rfl
  try simp only [Act.put, List.setIfInBounds_toArray, List.set_cons_zero, List.set_cons_succ]
  refine wpAnyH_take (i := 2) (v := ?_) (iatLS (iatSS (iatSS iatZS))) (by kernel_rfl) (by kernel_rfl) (by kernel_rfl) (fun _ _ _ h => h) (Or.inl ⟨by rfl, ?_⟩) (by assumption) ?_
  rotate_left
  ·intro w hSw
   try dsimp only at hSw
   go_simp
   all_goals with_reducible rfl
  try simp only [Act.put, List.setIfInBounds_toArray, List.set_cons_zero, List.set_cons_succ]
  refine wpAnyH_take (i := 4) (v := ?_) (iatLS (iatSS (iatSS (iatSS (iatSS iatZS))))) (by kernel_rfl) (by kernel_rfl) (by kernel_rfl) (fun _ _ _ h => h) (Or.inl ⟨by rfl, ?_⟩) (by assumption) ?_
  rotate_left
  ·intro w hSw
   try dsimp only at hSw
   go_simp
   all_goals with_reducible rfl
  try simp only [Act.put, List.setIfInBounds_toArray, List.set_cons_zero, List.set_cons_succ]
  refine wpAnyH_ready (rs := [3, 11]) (by kernel_rfl) (by simp) ?_
  refine AllReadyH.cons (iatLS (iatSS (iatSS (iatSS iatZS)))) (fun K hK => ?_) (AllReadyH.cons (iatLS (iatSS (iatSS (iatSS (iatSS (iatSS (iatSS (iatSS (iatSS (iatSS (iatSS (iatSS iatZS)))))))))))) (fun K hK => ?_) (AllReadyH.nil))
  ·
   obtain ⟨za, zc, K1, hrun, how, hb⟩ := (OwnKZ.nil K0 K0.heap.size).app ka kc toks (Hk7.out.grown HB0.out) 35 (by show 0 + toks.length ≤ _; rw [HK.out]; omega) (Nat.le_refl _)
   rw [show ([] : List Int).length = 0 from rfl, HK.out, Nat.zero_add] at hrun
   rw [List.nil_append] at how
   have HO1 : Hid (OwnKZ K1 w7.heap.size za zc toks) := Lib.hid (own_mono how HB0.out.size)
   refine step_append_run rfl _ _ 35 35 rfl _ _ _ _ rfl rfl hrun ?_
   clear hrun how
   have HB1 := Lib.hid (HB0.out.trans (hb.mono HB0.out.size))
   have HS1 : Hid (K1.cell? ⟨bx, 0, none⟩ = some (.slice xta T xtc) ∧ K1.cell? ⟨bx, 1, none⟩ = some (.slice xna N xnc) ∧ K1.cell? ⟨bx, 2, none⟩ = some (.slice xaa L xac)) := Lib.hid (⟨(HA7.out.below HB1.out HA7.out.lt).cell 0, (HA7.out.below HB1.out HA7.out.lt).cell 1, (HA7.out.below HB1.out HA7.out.lt).cell 2⟩)
   clear hb
   try dsimp only
   refine hK.out _ _ ?_ (fun hHeld => ?_)
   ·exact HS1.out
   clear hK K
   try simp only [Act.put, List.setIfInBounds_toArray, List.set_cons_zero, List.set_cons_succ]
   refine wpAnyH_ready (rs := [5, 11]) (by kernel_rfl) (by simp) ?_
   refine AllReadyH.cons (iatLS (iatSS (iatSS (iatSS (iatSS (iatSS iatZS)))))) (fun K hK => ?_) (AllReadyH.cons (iatLS (iatSS (iatSS (iatSS (iatSS (iatSS (iatSS (iatSS (iatSS (iatSS (iatSS (iatSS iatZS)))))))))))) (fun K hK => ?_) (AllReadyH.nil))
   ·
    obtain ⟨zb, zd, K2, hrun, how, hg⟩ := HO1.out.app3 ma mc more (Hm7.out.grown HB1.out) 35 (by rw [HK.out, HM.out]; omega) HB1.out.size
    rw [HK.out, HM.out] at hrun
    rw [HK.out] at hg
    have HB2 := Lib.hid (HB1.out.grown hg HB1.out.size (fun g e => (World.ownsRow.lt HO1.out g (by rw [HK.out]; exact e)).1))
    have HJ2 : Hid (Ints K2 zb zd (toks ++ more)) := Lib.hid (OwnKZ.vs how)
    refine step_append_run rfl _ _ 35 35 rfl _ _ _ _ rfl rfl hrun ?_
    clear hrun how hg
    have hb := True.intro
    have HS2 : Hid (K2.cell? ⟨bx, 0, none⟩ = some (.slice xta T xtc) ∧ K2.cell? ⟨bx, 1, none⟩ = some (.slice xna N xnc) ∧ K2.cell? ⟨bx, 2, none⟩ = some (.slice xaa L xac)) := Lib.hid (⟨(HA7.out.below HB2.out HA7.out.lt).cell 0, (HA7.out.below HB2.out HA7.out.lt).cell 1, (HA7.out.below HB2.out HA7.out.lt).cell 2⟩)
    clear hb
    try dsimp only
    refine hK.out _ _ ?_ (fun hHeld => ?_)
    ·exact HS2.out
    clear hK K
    try simp only [Act.put, List.setIfInBounds_toArray, List.set_cons_zero, List.set_cons_succ]
    refine wpAnyH_ready (rs := [6, 11]) (by kernel_rfl) (by simp) ?_
    refine AllReadyH.cons (iatLS (iatSS (iatSS (iatSS (iatSS (iatSS (iatSS iatZS))))))) (fun K hK => ?_) (AllReadyH.cons (iatLS (iatSS (iatSS (iatSS (iatSS (iatSS (iatSS (iatSS (iatSS (iatSS (iatSS (iatSS iatZS)))))))))))) (fun K hK => ?_) (AllReadyH.nil))
    ·
     go_simp
     (with_reducible refine (Hp2.out K2 HB2.out zb zd HJ2.out).mono ?_)
     intro e9 K3 hT
     have hb := hT.1
     obtain ⟨tk, ti, ta, tga, tn, tgc, p, y, rfl, hX⟩ := tre_box hT
     have HX := Lib.hid hX
     clear hT hX
     have HB3 := Lib.hid (HB2.out.trans (hb.mono HB2.out.size))
     have HJ3 := Lib.hid (HJ2.out.grown hb)
     have HC3 := Lib.hid (Below.refl K3.heap.size K3)
     have HS3 : Hid (K3.cell? ⟨bx, 0, none⟩ = some (.slice xta T xtc) ∧ K3.cell? ⟨bx, 1, none⟩ = some (.slice xna N xnc) ∧ K3.cell? ⟨bx, 2, none⟩ = some (.slice xaa L xac)) := Lib.hid (⟨(HA7.out.below HB3.out HA7.out.lt).cell 0, (HA7.out.below HB3.out HA7.out.lt).cell 1, (HA7.out.below HB3.out HA7.out.lt).cell 2⟩)
     clear hb
     try dsimp only
     refine hK.out _ _ ?_ (fun hHeld => ?_)
     ·exact HS3.out
     clear hK K
     try simp only [Act.put, List.setIfInBounds_toArray, List.set_cons_zero, List.set_cons_succ]
     refine wpAnyH_take (i := 7) (v := ?_) (iatLS (iatSS (iatSS (iatSS (iatSS (iatSS (iatSS (iatSS iatZS)))))))) (by kernel_rfl) (by kernel_rfl) (by kernel_rfl) (fun _ _ _ h => h) (Or.inl ⟨by rfl, ?_⟩) (by assumption) ?_
     rotate_left
     ·intro w hSw
      try dsimp only at hSw
      go_simp
      all_goals with_reducible rfl
     try simp only [Act.put, List.setIfInBounds_toArray, List.set_cons_zero, List.set_cons_succ]
     refine wpAnyH_take (i := 8) (v := ?_) (iatLS (iatSS (iatSS (iatSS (iatSS (iatSS (iatSS (iatSS (iatSS iatZS))))))))) (by kernel_rfl) (by kernel_rfl) (by kernel_rfl) (fun _ _ _ h => h) (Or.inl ⟨by rfl, ?_⟩) (by assumption) ?_
     rotate_left
     ·intro w hSw
      try dsimp only at hSw
      go_simp
      all_goals with_reducible rfl
     try simp only [Act.put, List.setIfInBounds_toArray, List.set_cons_zero, List.set_cons_succ]
     refine wpAnyH_take (i := 9) (v := ?_) (iatLS (iatSS (iatSS (iatSS (iatSS (iatSS (iatSS (iatSS (iatSS (iatSS iatZS)))))))))) (by kernel_rfl) (by kernel_rfl) (by kernel_rfl) (fun _ _ _ h => h) (Or.inl ⟨by rfl, ?_⟩) (by assumption) ?_
     rotate_left
     ·intro w hSw
      try dsimp only at hSw
      go_simp
      all_goals with_reducible rfl
     try simp only [Act.put, List.setIfInBounds_toArray, List.set_cons_zero, List.set_cons_succ]
     refine wpAnyH_take (i := 10) (v := ?_) (iatLS (iatSS (iatSS (iatSS (iatSS (iatSS (iatSS (iatSS (iatSS (iatSS (iatSS iatZS))))))))))) (by kernel_rfl) (by kernel_rfl) (by kernel_rfl) (fun _ _ _ h => h) (Or.inl ⟨by rfl, ?_⟩) (by assumption) ?_
     rotate_left
     ·intro w hSw
      try dsimp only at hSw
      go_simp
      all_goals with_reducible rfl
     try simp only [Act.put, List.setIfInBounds_toArray, List.set_cons_zero, List.set_cons_succ]
     refine wpAnyH_ready (rs := [11]) (by kernel_rfl) (by simp) ?_
     refine AllReadyH.cons (iatLS (iatSS (iatSS (iatSS (iatSS (iatSS (iatSS (iatSS (iatSS (iatSS (iatSS (iatSS iatZS)))))))))))) (fun K hK => ?_) AllReadyH.nil
     go_simp
     obtain ⟨nb, hnb⟩ : ∃ q, Hid (K3.heap.size = q) := ⟨_, Lib.hid rfl⟩
     rw [hnb.out]
     generalize hW4 : World.alloc K3 _ = K4
     have hb : Below K3.heap.size K3 K4 := by rw [← hW4]; exact (Below.refl _ _).alloc (Nat.le_refl _) _
     have HN4 : Hid (Blk K4 nb 51 [.int .i64 0, .int .i64 0, .int .i64 0, .slice none 0 0]) := Lib.hid (by rw [← hW4, ← hnb.out]; exact Blk.new _ 51 #[.int .i64 0, .int .i64 0, .int .i64 0, .slice none 0 0])
     have Hnb : Hid (w7.heap.size ≤ nb) := Lib.hid (by rw [← hnb.out]; exact HB3.out.size)
     have HB4 := Lib.hid (HB3.out.trans (hb.mono HB3.out.size))
     have HC4 := Lib.hid (HC3.out.trans (hb.mono HC3.out.size))
     have Hnc : Hid (nb < K2.heap.size ∨ K3.heap.size ≤ nb) := Lib.hid (.inr (Nat.le_trans HC3.out.size (Nat.le_of_eq hnb.out)))
     have HS4 : Hid (K4.cell? ⟨bx, 0, none⟩ = some (.slice xta T xtc) ∧ K4.cell? ⟨bx, 1, none⟩ = some (.slice xna N xnc) ∧ K4.cell? ⟨bx, 2, none⟩ = some (.slice xaa L xac)) := Lib.hid (⟨(HA7.out.below HB4.out HA7.out.lt).cell 0, (HA7.out.below HB4.out HA7.out.lt).cell 1, (HA7.out.below HB4.out HA7.out.lt).cell 2⟩)
     clear hW4 hb hnb
     refine hK.out _ _ ?_ (fun hHeld => ?_)
     ·exact HS4.out
     clear hK K
     try simp only [Act.put, List.setIfInBounds_toArray, List.set_cons_zero, List.set_cons_succ]
     refine wpAnyH_ready (rs := [12]) (by kernel_rfl) (by simp) ?_
     refine AllReadyH.cons (iatLS (iatSS (iatSS (iatSS (iatSS (iatSS (iatSS (iatSS (iatSS (iatSS (iatSS (iatSS (iatSS iatZS))))))))))))) (fun K hK => ?_) AllReadyH.nil
     have n0 := HN4.out.cell 0
     have n1 := HN4.out.cell 1
     have n2 := HN4.out.cell 2
     have n3 := HN4.out.cell 3
     have f0 := HN4.out.frozen 0
     have f1 := HN4.out.frozen 1
     have f2 := HN4.out.frozen 2
     have f3 := HN4.out.frozen 3
     have nl := HN4.out.lt
     simp only [List.getElem?_cons_zero, List.getElem?_cons_succ] at n0 n1 n2 n3
     go_simp
     have HF := HX.out.1 K4 nb HC4.out Hnc.out HN4.out
     have hb9 := Below.put4 HB4.out Hnb.out (.int .i64 tk) (.int .i64 ti) (.int .i64 ta) (.slice tga tn tgc)
     generalize World.setCell _ _ _ = K5 at HF hb9 ⊢
     have HF := Lib.hid HF
     have HB5 := Lib.hid hb9
     have HS5 : Hid (K5.cell? ⟨bx, 0, none⟩ = some (.slice xta T xtc) ∧ K5.cell? ⟨bx, 1, none⟩ = some (.slice xna N xnc) ∧ K5.cell? ⟨bx, 2, none⟩ = some (.slice xaa L xac)) := Lib.hid (⟨(HA7.out.below HB5.out HA7.out.lt).cell 0, (HA7.out.below HB5.out HA7.out.lt).cell 1, (HA7.out.below HB5.out HA7.out.lt).cell 2⟩)
     clear hb9 n0 n1 n2 n3 f0 f1 f2 f3 nl
     refine hK.out _ _ ?_ (fun hHeld => ?_)
     ·exact HS5.out
     clear hK K
     try simp only [Act.put, List.setIfInBounds_toArray, List.set_cons_zero, List.set_cons_succ]
     refine wpAnyH_take (i := 13) (v := ?_) (iatLS (iatSS (iatSS (iatSS (iatSS (iatSS (iatSS (iatSS (iatSS (iatSS (iatSS (iatSS (iatSS (iatSS iatZS)))))))))))))) (by kernel_rfl) (by kernel_rfl) (by kernel_rfl) (fun _ _ _ h => h) (Or.inl ⟨by rfl, ?_⟩) (by assumption) ?_
     rotate_left
     ·intro w hSw
      try dsimp only at hSw
      go_simp
      all_goals with_reducible rfl
     try simp only [Act.put, List.setIfInBounds_toArray, List.set_cons_zero, List.set_cons_succ]
     refine wpAnyH_take (i := 14) (v := ?_) (iatLS (iatSS (iatSS (iatSS (iatSS (iatSS (iatSS (iatSS (iatSS (iatSS (iatSS (iatSS (iatSS (iatSS (iatSS iatZS))))))))))))))) (by kernel_rfl) (by kernel_rfl) (by kernel_rfl) (fun _ _ _ h => h) (Or.inl ⟨by rfl, ?_⟩) (by assumption) ?_
     rotate_left
     ·intro w hSw
      try dsimp only at hSw
      go_simp
      all_goals with_reducible rfl
     try simp only [Act.put, List.setIfInBounds_toArray, List.set_cons_zero, List.set_cons_succ]
     refine wpAnyH_done (by kernel_rfl) ?_ _
     go_wp2_with (fail)
     go_meet
     exact ⟨nb, p, y, rfl, rfl, rfl, Lib.hid HB5.out, HF⟩
    ·
     go_simp
     obtain ⟨nb, hnb⟩ : ∃ q, Hid (K2.heap.size = q) := ⟨_, Lib.hid rfl⟩
     rw [hnb.out]
     generalize hW3 : World.alloc K2 _ = K3
     have hb : Below K2.heap.size K2 K3 := by rw [← hW3]; exact (Below.refl _ _).alloc (Nat.le_refl _) _
     have HN3 : Hid (Blk K3 nb 51 [.int .i64 0, .int .i64 0, .int .i64 0, .slice none 0 0]) := Lib.hid (by rw [← hW3, ← hnb.out]; exact Blk.new _ 51 #[.int .i64 0, .int .i64 0, .int .i64 0, .slice none 0 0])
     have Hnb : Hid (w7.heap.size ≤ nb) := Lib.hid (by rw [← hnb.out]; exact HB2.out.size)
     have HB3 := Lib.hid (HB2.out.trans (hb.mono HB2.out.size))
     have HJ3 := Lib.hid (HJ2.out.grown hb)
     have HS3 : Hid (K3.cell? ⟨bx, 0, none⟩ = some (.slice xta T xtc) ∧ K3.cell? ⟨bx, 1, none⟩ = some (.slice xna N xnc) ∧ K3.cell? ⟨bx, 2, none⟩ = some (.slice xaa L xac)) := Lib.hid (⟨(HA7.out.below HB3.out HA7.out.lt).cell 0, (HA7.out.below HB3.out HA7.out.lt).cell 1, (HA7.out.below HB3.out HA7.out.lt).cell 2⟩)
     clear hW3 hb hnb
     refine hK.out _ _ ?_ (fun hHeld => ?_)
     ·exact HS3.out
     clear hK K
     try simp only [Act.put, List.setIfInBounds_toArray, List.set_cons_zero, List.set_cons_succ]
     refine wpAnyH_ready (rs := [6]) (by kernel_rfl) (by simp) ?_
     refine AllReadyH.cons (iatLS (iatSS (iatSS (iatSS (iatSS (iatSS (iatSS iatZS))))))) (fun K hK => ?_) AllReadyH.nil
     go_simp
     (with_reducible refine (Hp2.out K3 HB3.out zb zd HJ3.out).mono ?_)
     intro e9 K4 hT
     have hb := hT.1
     obtain ⟨tk, ti, ta, tga, tn, tgc, p, y, rfl, hX⟩ := tre_box hT
     have HX := Lib.hid hX
     clear hT hX
     have HB4 := Lib.hid (HB3.out.trans (hb.mono HB3.out.size))
     have HN4 := Lib.hid (HN3.out.below hb HN3.out.lt)
     have HJ4 := Lib.hid (HJ3.out.grown hb)
     have HC4 := Lib.hid (Below.refl K4.heap.size K4)
     have Hnc : Hid (nb < K3.heap.size ∨ K4.heap.size ≤ nb) := Lib.hid (.inl HN3.out.lt)
     have HS4 : Hid (K4.cell? ⟨bx, 0, none⟩ = some (.slice xta T xtc) ∧ K4.cell? ⟨bx, 1, none⟩ = some (.slice xna N xnc) ∧ K4.cell? ⟨bx, 2, none⟩ = some (.slice xaa L xac)) := Lib.hid (⟨(HA7.out.below HB4.out HA7.out.lt).cell 0, (HA7.out.below HB4.out HA7.out.lt).cell 1, (HA7.out.below HB4.out HA7.out.lt).cell 2⟩)
     clear hb
     try dsimp only
     refine hK.out _ _ ?_ (fun hHeld => ?_)
     ·exact HS4.out
     clear hK K
     try simp only [Act.put, List.setIfInBounds_toArray, List.set_cons_zero, List.set_cons_succ]
     refine wpAnyH_take (i := 7) (v := ?_) (iatLS (iatSS (iatSS (iatSS (iatSS (iatSS (iatSS (iatSS iatZS)))))))) (by kernel_rfl) (by kernel_rfl) (by kernel_rfl) (fun _ _ _ h => h) (Or.inl ⟨by rfl, ?_⟩) (by assumption) ?_
     rotate_left
     ·intro w hSw
      try dsimp only at hSw
      go_simp
      all_goals with_reducible rfl
     try simp only [Act.put, List.setIfInBounds_toArray, List.set_cons_zero, List.set_cons_succ]
     refine wpAnyH_take (i := 8) (v := ?_) (iatLS (iatSS (iatSS (iatSS (iatSS (iatSS (iatSS (iatSS (iatSS iatZS))))))))) (by kernel_rfl) (by kernel_rfl) (by kernel_rfl) (fun _ _ _ h => h) (Or.inl ⟨by rfl, ?_⟩) (by assumption) ?_
     rotate_left
     ·intro w hSw
      try dsimp only at hSw
      go_simp
      all_goals with_reducible rfl
     try simp only [Act.put, List.setIfInBounds_toArray, List.set_cons_zero, List.set_cons_succ]
     refine wpAnyH_take (i := 9) (v := ?_) (iatLS (iatSS (iatSS (iatSS (iatSS (iatSS (iatSS (iatSS (iatSS (iatSS iatZS)))))))))) (by kernel_rfl) (by kernel_rfl) (by kernel_rfl) (fun _ _ _ h => h) (Or.inl ⟨by rfl, ?_⟩) (by assumption) ?_
     rotate_left
     ·intro w hSw
      try dsimp only at hSw
      go_simp
      all_goals with_reducible rfl
     try simp only [Act.put, List.setIfInBounds_toArray, List.set_cons_zero, List.set_cons_succ]
     refine wpAnyH_take (i := 10) (v := ?_) (iatLS (iatSS (iatSS (iatSS (iatSS (iatSS (iatSS (iatSS (iatSS (iatSS (iatSS iatZS))))))))))) (by kernel_rfl) (by kernel_rfl) (by kernel_rfl) (fun _ _ _ h => h) (Or.inl ⟨by rfl, ?_⟩) (by assumption) ?_
     rotate_left
     ·intro w hSw
      try dsimp only at hSw
      go_simp
      all_goals with_reducible rfl
     try simp only [Act.put, List.setIfInBounds_toArray, List.set_cons_zero, List.set_cons_succ]
     refine wpAnyH_ready (rs := [12]) (by kernel_rfl) (by simp) ?_
     refine AllReadyH.cons (iatLS (iatSS (iatSS (iatSS (iatSS (iatSS (iatSS (iatSS (iatSS (iatSS (iatSS (iatSS (iatSS iatZS))))))))))))) (fun K hK => ?_) AllReadyH.nil
     have n0 := HN4.out.cell 0
     have n1 := HN4.out.cell 1
     have n2 := HN4.out.cell 2
     have n3 := HN4.out.cell 3
     have f0 := HN4.out.frozen 0
     have f1 := HN4.out.frozen 1
     have f2 := HN4.out.frozen 2
     have f3 := HN4.out.frozen 3
     have nl := HN4.out.lt
     simp only [List.getElem?_cons_zero, List.getElem?_cons_succ] at n0 n1 n2 n3
     go_simp
     have HF := HX.out.1 K4 nb HC4.out Hnc.out HN4.out
     have hb9 := Below.put4 HB4.out Hnb.out (.int .i64 tk) (.int .i64 ti) (.int .i64 ta) (.slice tga tn tgc)
     generalize World.setCell _ _ _ = K5 at HF hb9 ⊢
     have HF := Lib.hid HF
     have HB5 := Lib.hid hb9
     have HS5 : Hid (K5.cell? ⟨bx, 0, none⟩ = some (.slice xta T xtc) ∧ K5.cell? ⟨bx, 1, none⟩ = some (.slice xna N xnc) ∧ K5.cell? ⟨bx, 2, none⟩ = some (.slice xaa L xac)) := Lib.hid (⟨(HA7.out.below HB5.out HA7.out.lt).cell 0, (HA7.out.below HB5.out HA7.out.lt).cell 1, (HA7.out.below HB5.out HA7.out.lt).cell 2⟩)
     clear hb9 n0 n1 n2 n3 f0 f1 f2 f3 nl
     refine hK.out _ _ ?_ (fun hHeld => ?_)
     ·exact HS5.out
     clear hK K
     try simp only [Act.put, List.setIfInBounds_toArray, List.set_cons_zero, List.set_cons_succ]
     refine wpAnyH_take (i := 13) (v := ?_) (iatLS (iatSS (iatSS (iatSS (iatSS (iatSS (iatSS (iatSS (iatSS (iatSS (iatSS (iatSS (iatSS (iatSS iatZS)))))))))))))) (by kernel_rfl) (by kernel_rfl) (by kernel_rfl) (fun _ _ _ h => h) (Or.inl ⟨by rfl, ?_⟩) (by assumption) ?_
     rotate_left
     ·intro w hSw
      try dsimp only at hSw
      go_simp
      all_goals with_reducible rfl
     try simp only [Act.put, List.setIfInBounds_toArray, List.set_cons_zero, List.set_cons_succ]
     refine wpAnyH_take (i := 14) (v := ?_) (iatLS (iatSS (iatSS (iatSS (iatSS (iatSS (iatSS (iatSS (iatSS (iatSS (iatSS (iatSS (iatSS (iatSS (iatSS iatZS))))))))))))))) (by kernel_rfl) (by kernel_rfl) (by kernel_rfl) (fun _ _ _ h => h) (Or.inl ⟨by rfl, ?_⟩) (by assumption) ?_
     rotate_left
     ·intro w hSw
      try dsimp only at hSw
      go_simp
      all_goals with_reducible rfl
     try simp only [Act.put, List.setIfInBounds_toArray, List.set_cons_zero, List.set_cons_succ]
     refine wpAnyH_done (by kernel_rfl) ?_ _
     go_wp2_with (fail)
     go_meet
     exact ⟨nb, p, y, rfl, rfl, rfl, Lib.hid HB5.out, HF⟩
   ·
    go_simp
    obtain ⟨nb, hnb⟩ : ∃ q, Hid (K1.heap.size = q) := ⟨_, Lib.hid rfl⟩
    rw [hnb.out]
    generalize hW2 : World.alloc K1 _ = K2
    have hb : Below K1.heap.size K1 K2 := by rw [← hW2]; exact (Below.refl _ _).alloc (Nat.le_refl _) _
    have HN2 : Hid (Blk K2 nb 51 [.int .i64 0, .int .i64 0, .int .i64 0, .slice none 0 0]) := Lib.hid (by rw [← hW2, ← hnb.out]; exact Blk.new _ 51 #[.int .i64 0, .int .i64 0, .int .i64 0, .slice none 0 0])
    have Hnb : Hid (w7.heap.size ≤ nb) := Lib.hid (by rw [← hnb.out]; exact HB1.out.size)
    have Hne : Hid (∀ g, (Value.slice za KL zc).ownBlock = some g → g ≠ nb) := Lib.hid (fun g e => by have h9 := (World.ownsRow.lt HO1.out g (by rw [HK.out]; exact e)).2; have h8 := hnb.out; omega)
    have HB2 := Lib.hid (HB1.out.trans (hb.mono HB1.out.size))
    have HO2 := Lib.hid (HO1.out.belowZ hb)
    have HS2 : Hid (K2.cell? ⟨bx, 0, none⟩ = some (.slice xta T xtc) ∧ K2.cell? ⟨bx, 1, none⟩ = some (.slice xna N xnc) ∧ K2.cell? ⟨bx, 2, none⟩ = some (.slice xaa L xac)) := Lib.hid (⟨(HA7.out.below HB2.out HA7.out.lt).cell 0, (HA7.out.below HB2.out HA7.out.lt).cell 1, (HA7.out.below HB2.out HA7.out.lt).cell 2⟩)
    clear hW2 hb hnb
    refine hK.out _ _ ?_ (fun hHeld => ?_)
    ·exact HS2.out
    clear hK K
    try simp only [Act.put, List.setIfInBounds_toArray, List.set_cons_zero, List.set_cons_succ]
    refine wpAnyH_ready (rs := [5]) (by kernel_rfl) (by simp) ?_
    refine AllReadyH.cons (iatLS (iatSS (iatSS (iatSS (iatSS (iatSS iatZS)))))) (fun K hK => ?_) AllReadyH.nil
    obtain ⟨zb, zd, K3, hrun, how, hg⟩ := HO2.out.app3 ma mc more (Hm7.out.grown HB2.out) 35 (by rw [HK.out, HM.out]; omega) HB2.out.size
    rw [HK.out, HM.out] at hrun
    rw [HK.out] at hg
    have HB3 := Lib.hid (HB2.out.grown hg HB2.out.size (fun g e => (World.ownsRow.lt HO2.out g (by rw [HK.out]; exact e)).1))
    have HN3 : Hid (Blk K3 nb 51 [.int .i64 0, .int .i64 0, .int .i64 0, .slice none 0 0]) := Lib.hid ((hg.block nb HN2.out.lt (fun e => Hne.out nb e.symm rfl)).trans HN2.out)
    have HJ3 : Hid (Ints K3 zb zd (toks ++ more)) := Lib.hid (OwnKZ.vs how)
    refine step_append_run rfl _ _ 35 35 rfl _ _ _ _ rfl rfl hrun ?_
    clear hrun how hg
    have hb := True.intro
    have HS3 : Hid (K3.cell? ⟨bx, 0, none⟩ = some (.slice xta T xtc) ∧ K3.cell? ⟨bx, 1, none⟩ = some (.slice xna N xnc) ∧ K3.cell? ⟨bx, 2, none⟩ = some (.slice xaa L xac)) := Lib.hid (⟨(HA7.out.below HB3.out HA7.out.lt).cell 0, (HA7.out.below HB3.out HA7.out.lt).cell 1, (HA7.out.below HB3.out HA7.out.lt).cell 2⟩)
    clear hb
    try dsimp only
    refine hK.out _ _ ?_ (fun hHeld => ?_)
    ·exact HS3.out
    clear hK K
    try simp only [Act.put, List.setIfInBounds_toArray, List.set_cons_zero, List.set_cons_succ]
    refine wpAnyH_ready (rs := [6]) (by kernel_rfl) (by simp) ?_
    refine AllReadyH.cons (iatLS (iatSS (iatSS (iatSS (iatSS (iatSS (iatSS iatZS))))))) (fun K hK => ?_) AllReadyH.nil
    go_simp
    (with_reducible refine (Hp2.out K3 HB3.out zb zd HJ3.out).mono ?_)
    intro e9 K4 hT
    have hb := hT.1
    obtain ⟨tk, ti, ta, tga, tn, tgc, p, y, rfl, hX⟩ := tre_box hT
    have HX := Lib.hid hX
    clear hT hX
    have HB4 := Lib.hid (HB3.out.trans (hb.mono HB3.out.size))
    have HN4 := Lib.hid (HN3.out.below hb HN3.out.lt)
    have HJ4 := Lib.hid (HJ3.out.grown hb)
    have HC4 := Lib.hid (Below.refl K4.heap.size K4)
    have Hnc : Hid (nb < K3.heap.size ∨ K4.heap.size ≤ nb) := Lib.hid (.inl HN3.out.lt)
    have HS4 : Hid (K4.cell? ⟨bx, 0, none⟩ = some (.slice xta T xtc) ∧ K4.cell? ⟨bx, 1, none⟩ = some (.slice xna N xnc) ∧ K4.cell? ⟨bx, 2, none⟩ = some (.slice xaa L xac)) := Lib.hid (⟨(HA7.out.below HB4.out HA7.out.lt).cell 0, (HA7.out.below HB4.out HA7.out.lt).cell 1, (HA7.out.below HB4.out HA7.out.lt).cell 2⟩)
    clear hb
    try dsimp only
    refine hK.out _ _ ?_ (fun hHeld => ?_)
    ·exact HS4.out
    clear hK K
    try simp only [Act.put, List.setIfInBounds_toArray, List.set_cons_zero, List.set_cons_succ]
    refine wpAnyH_take (i := 7) (v := ?_) (iatLS (iatSS (iatSS (iatSS (iatSS (iatSS (iatSS (iatSS iatZS)))))))) (by kernel_rfl) (by kernel_rfl) (by kernel_rfl) (fun _ _ _ h => h) (Or.inl ⟨by rfl, ?_⟩) (by assumption) ?_
    rotate_left
    ·intro w hSw
     try dsimp only at hSw
     go_simp
     all_goals with_reducible rfl
    try simp only [Act.put, List.setIfInBounds_toArray, List.set_cons_zero, List.set_cons_succ]
    refine wpAnyH_take (i := 8) (v := ?_) (iatLS (iatSS (iatSS (iatSS (iatSS (iatSS (iatSS (iatSS (iatSS iatZS))))))))) (by kernel_rfl) (by kernel_rfl) (by kernel_rfl) (fun _ _ _ h => h) (Or.inl ⟨by rfl, ?_⟩) (by assumption) ?_
    rotate_left
    ·intro w hSw
     try dsimp only at hSw
     go_simp
     all_goals with_reducible rfl
    try simp only [Act.put, List.setIfInBounds_toArray, List.set_cons_zero, List.set_cons_succ]
    refine wpAnyH_take (i := 9) (v := ?_) (iatLS (iatSS (iatSS (iatSS (iatSS (iatSS (iatSS (iatSS (iatSS (iatSS iatZS)))))))))) (by kernel_rfl) (by kernel_rfl) (by kernel_rfl) (fun _ _ _ h => h) (Or.inl ⟨by rfl, ?_⟩) (by assumption) ?_
    rotate_left
    ·intro w hSw
     try dsimp only at hSw
     go_simp
     all_goals with_reducible rfl
    try simp only [Act.put, List.setIfInBounds_toArray, List.set_cons_zero, List.set_cons_succ]
    refine wpAnyH_take (i := 10) (v := ?_) (iatLS (iatSS (iatSS (iatSS (iatSS (iatSS (iatSS (iatSS (iatSS (iatSS (iatSS iatZS))))))))))) (by kernel_rfl) (by kernel_rfl) (by kernel_rfl) (fun _ _ _ h => h) (Or.inl ⟨by rfl, ?_⟩) (by assumption) ?_
    rotate_left
    ·intro w hSw
     try dsimp only at hSw
     go_simp
     all_goals with_reducible rfl
    try simp only [Act.put, List.setIfInBounds_toArray, List.set_cons_zero, List.set_cons_succ]
    refine wpAnyH_ready (rs := [12]) (by kernel_rfl) (by simp) ?_
    refine AllReadyH.cons (iatLS (iatSS (iatSS (iatSS (iatSS (iatSS (iatSS (iatSS (iatSS (iatSS (iatSS (iatSS (iatSS iatZS))))))))))))) (fun K hK => ?_) AllReadyH.nil
    have n0 := HN4.out.cell 0
    have n1 := HN4.out.cell 1
    have n2 := HN4.out.cell 2
    have n3 := HN4.out.cell 3
    have f0 := HN4.out.frozen 0
    have f1 := HN4.out.frozen 1
    have f2 := HN4.out.frozen 2
    have f3 := HN4.out.frozen 3
    have nl := HN4.out.lt
    simp only [List.getElem?_cons_zero, List.getElem?_cons_succ] at n0 n1 n2 n3
    go_simp
    have HF := HX.out.1 K4 nb HC4.out Hnc.out HN4.out
    have hb9 := Below.put4 HB4.out Hnb.out (.int .i64 tk) (.int .i64 ti) (.int .i64 ta) (.slice tga tn tgc)
    generalize World.setCell _ _ _ = K5 at HF hb9 ⊢
    have HF := Lib.hid HF
    have HB5 := Lib.hid hb9
    have HS5 : Hid (K5.cell? ⟨bx, 0, none⟩ = some (.slice xta T xtc) ∧ K5.cell? ⟨bx, 1, none⟩ = some (.slice xna N xnc) ∧ K5.cell? ⟨bx, 2, none⟩ = some (.slice xaa L xac)) := Lib.hid (⟨(HA7.out.below HB5.out HA7.out.lt).cell 0, (HA7.out.below HB5.out HA7.out.lt).cell 1, (HA7.out.below HB5.out HA7.out.lt).cell 2⟩)
    clear hb9 n0 n1 n2 n3 f0 f1 f2 f3 nl
    refine hK.out _ _ ?_ (fun hHeld => ?_)
    ·exact HS5.out
    clear hK K
    try simp only [Act.put, List.setIfInBounds_toArray, List.set_cons_zero, List.set_cons_succ]
    refine wpAnyH_take (i := 13) (v := ?_) (iatLS (iatSS (iatSS (iatSS (iatSS (iatSS (iatSS (iatSS (iatSS (iatSS (iatSS (iatSS (iatSS (iatSS iatZS)))))))))))))) (by kernel_rfl) (by kernel_rfl) (by kernel_rfl) (fun _ _ _ h => h) (Or.inl ⟨by rfl, ?_⟩) (by assumption) ?_
    rotate_left
    ·intro w hSw
     try dsimp only at hSw
     go_simp
     all_goals with_reducible rfl
    try simp only [Act.put, List.setIfInBounds_toArray, List.set_cons_zero, List.set_cons_succ]
    refine wpAnyH_take (i := 14) (v := ?_) (iatLS (iatSS (iatSS (iatSS (iatSS (iatSS (iatSS (iatSS (iatSS (iatSS (iatSS (iatSS (iatSS (iatSS (iatSS iatZS))))))))))))))) (by kernel_rfl) (by kernel_rfl) (by kernel_rfl) (fun _ _ _ h => h) (Or.inl ⟨by rfl, ?_⟩) (by assumption) ?_
    rotate_left
    ·intro w hSw
     try dsimp only at hSw
     go_simp
     all_goals with_reducible rfl
    try simp only [Act.put, List.setIfInBounds_toArray, List.set_cons_zero, List.set_cons_succ]
    refine wpAnyH_done (by kernel_rfl) ?_ _
    go_wp2_with (fail)
    go_meet
    exact ⟨nb, p, y, rfl, rfl, rfl, Lib.hid HB5.out, HF⟩
  ·
   go_simp
   obtain ⟨nb, hnb⟩ : ∃ q, Hid (K0.heap.size = q) := ⟨_, Lib.hid rfl⟩
   rw [hnb.out]
   generalize hW1 : World.alloc K0 _ = K1
   have hb : Below K0.heap.size K0 K1 := by rw [← hW1]; exact (Below.refl _ _).alloc (Nat.le_refl _) _
   have HN1 : Hid (Blk K1 nb 51 [.int .i64 0, .int .i64 0, .int .i64 0, .slice none 0 0]) := Lib.hid (by rw [← hW1, ← hnb.out]; exact Blk.new _ 51 #[.int .i64 0, .int .i64 0, .int .i64 0, .slice none 0 0])
   have Hnb : Hid (w7.heap.size ≤ nb) := Lib.hid (by rw [← hnb.out]; exact HB0.out.size)
   have HB1 := Lib.hid (HB0.out.trans (hb.mono HB0.out.size))
   have HS1 : Hid (K1.cell? ⟨bx, 0, none⟩ = some (.slice xta T xtc) ∧ K1.cell? ⟨bx, 1, none⟩ = some (.slice xna N xnc) ∧ K1.cell? ⟨bx, 2, none⟩ = some (.slice xaa L xac)) := Lib.hid (⟨(HA7.out.below HB1.out HA7.out.lt).cell 0, (HA7.out.below HB1.out HA7.out.lt).cell 1, (HA7.out.below HB1.out HA7.out.lt).cell 2⟩)
   clear hW1 hb hnb
   refine hK.out _ _ ?_ (fun hHeld => ?_)
   ·exact HS1.out
   clear hK K
   try simp only [Act.put, List.setIfInBounds_toArray, List.set_cons_zero, List.set_cons_succ]
   refine wpAnyH_ready (rs := [3]) (by kernel_rfl) (by simp) ?_
   refine AllReadyH.cons (iatLS (iatSS (iatSS (iatSS iatZS)))) (fun K hK => ?_) AllReadyH.nil
   obtain ⟨za, zc, K2, hrun, how, hb⟩ := (OwnKZ.nil K1 K1.heap.size).app ka kc toks (Hk7.out.grown HB1.out) 35 (by show 0 + toks.length ≤ _; rw [HK.out]; omega) (Nat.le_refl _)
   rw [show ([] : List Int).length = 0 from rfl, HK.out, Nat.zero_add] at hrun
   rw [List.nil_append] at how
   have Hne : Hid (∀ g, (Value.slice za KL zc).ownBlock = some g → g ≠ nb) := Lib.hid (fun g e => by have h9 := (World.ownsRow.lt how g (by rw [HK.out]; exact e)).1; have h8 := HN1.out.lt; omega)
   have HO2 : Hid (OwnKZ K2 w7.heap.size za zc toks) := Lib.hid (own_mono how HB1.out.size)
   refine step_append_run rfl _ _ 35 35 rfl _ _ _ _ rfl rfl hrun ?_
   clear hrun how
   have HB2 := Lib.hid (HB1.out.trans (hb.mono HB1.out.size))
   have HN2 := Lib.hid (HN1.out.below hb HN1.out.lt)
   have HS2 : Hid (K2.cell? ⟨bx, 0, none⟩ = some (.slice xta T xtc) ∧ K2.cell? ⟨bx, 1, none⟩ = some (.slice xna N xnc) ∧ K2.cell? ⟨bx, 2, none⟩ = some (.slice xaa L xac)) := Lib.hid (⟨(HA7.out.below HB2.out HA7.out.lt).cell 0, (HA7.out.below HB2.out HA7.out.lt).cell 1, (HA7.out.below HB2.out HA7.out.lt).cell 2⟩)
   clear hb
   try dsimp only
   refine hK.out _ _ ?_ (fun hHeld => ?_)
   ·exact HS2.out
   clear hK K
   try simp only [Act.put, List.setIfInBounds_toArray, List.set_cons_zero, List.set_cons_succ]
   refine wpAnyH_ready (rs := [5]) (by kernel_rfl) (by simp) ?_
   refine AllReadyH.cons (iatLS (iatSS (iatSS (iatSS (iatSS (iatSS iatZS)))))) (fun K hK => ?_) AllReadyH.nil
   obtain ⟨zb, zd, K3, hrun, how, hg⟩ := HO2.out.app3 ma mc more (Hm7.out.grown HB2.out) 35 (by rw [HK.out, HM.out]; omega) HB2.out.size
   rw [HK.out, HM.out] at hrun
   rw [HK.out] at hg
   have HB3 := Lib.hid (HB2.out.grown hg HB2.out.size (fun g e => (World.ownsRow.lt HO2.out g (by rw [HK.out]; exact e)).1))
   have HN3 : Hid (Blk K3 nb 51 [.int .i64 0, .int .i64 0, .int .i64 0, .slice none 0 0]) := Lib.hid ((hg.block nb HN2.out.lt (fun e => Hne.out nb e.symm rfl)).trans HN2.out)
   have HJ3 : Hid (Ints K3 zb zd (toks ++ more)) := Lib.hid (OwnKZ.vs how)
   refine step_append_run rfl _ _ 35 35 rfl _ _ _ _ rfl rfl hrun ?_
   clear hrun how hg
   have hb := True.intro
   have HS3 : Hid (K3.cell? ⟨bx, 0, none⟩ = some (.slice xta T xtc) ∧ K3.cell? ⟨bx, 1, none⟩ = some (.slice xna N xnc) ∧ K3.cell? ⟨bx, 2, none⟩ = some (.slice xaa L xac)) := Lib.hid (⟨(HA7.out.below HB3.out HA7.out.lt).cell 0, (HA7.out.below HB3.out HA7.out.lt).cell 1, (HA7.out.below HB3.out HA7.out.lt).cell 2⟩)
   clear hb
   try dsimp only
   refine hK.out _ _ ?_ (fun hHeld => ?_)
   ·exact HS3.out
   clear hK K
   try simp only [Act.put, List.setIfInBounds_toArray, List.set_cons_zero, List.set_cons_succ]
   refine wpAnyH_ready (rs := [6]) (by kernel_rfl) (by simp) ?_
   refine AllReadyH.cons (iatLS (iatSS (iatSS (iatSS (iatSS (iatSS (iatSS iatZS))))))) (fun K hK => ?_) AllReadyH.nil
   go_simp
   (with_reducible refine (Hp2.out K3 HB3.out zb zd HJ3.out).mono ?_)
   intro e9 K4 hT
   have hb := hT.1
   obtain ⟨tk, ti, ta, tga, tn, tgc, p, y, rfl, hX⟩ := tre_box hT
   have HX := Lib.hid hX
   clear hT hX
   have HB4 := Lib.hid (HB3.out.trans (hb.mono HB3.out.size))
   have HN4 := Lib.hid (HN3.out.below hb HN3.out.lt)
   have HJ4 := Lib.hid (HJ3.out.grown hb)
   have HC4 := Lib.hid (Below.refl K4.heap.size K4)
   have Hnc : Hid (nb < K3.heap.size ∨ K4.heap.size ≤ nb) := Lib.hid (.inl HN3.out.lt)
   have HS4 : Hid (K4.cell? ⟨bx, 0, none⟩ = some (.slice xta T xtc) ∧ K4.cell? ⟨bx, 1, none⟩ = some (.slice xna N xnc) ∧ K4.cell? ⟨bx, 2, none⟩ = some (.slice xaa L xac)) := Lib.hid (⟨(HA7.out.below HB4.out HA7.out.lt).cell 0, (HA7.out.below HB4.out HA7.out.lt).cell 1, (HA7.out.below HB4.out HA7.out.lt).cell 2⟩)
   clear hb
   try dsimp only
   refine hK.out _ _ ?_ (fun hHeld => ?_)
   ·exact HS4.out
   clear hK K
   try simp only [Act.put, List.setIfInBounds_toArray, List.set_cons_zero, List.set_cons_succ]
   refine wpAnyH_take (i := 7) (v := ?_) (iatLS (iatSS (iatSS (iatSS (iatSS (iatSS (iatSS (iatSS iatZS)))))))) (by kernel_rfl) (by kernel_rfl) (by kernel_rfl) (fun _ _ _ h => h) (Or.inl ⟨by rfl, ?_⟩) (by assumption) ?_
   rotate_left
   ·intro w hSw
    try dsimp only at hSw
    go_simp
    all_goals with_reducible rfl
   try simp only [Act.put, List.setIfInBounds_toArray, List.set_cons_zero, List.set_cons_succ]
   refine wpAnyH_take (i := 8) (v := ?_) (iatLS (iatSS (iatSS (iatSS (iatSS (iatSS (iatSS (iatSS (iatSS iatZS))))))))) (by kernel_rfl) (by kernel_rfl) (by kernel_rfl) (fun _ _ _ h => h) (Or.inl ⟨by rfl, ?_⟩) (by assumption) ?_
   rotate_left
   ·intro w hSw
    try dsimp only at hSw
    go_simp
    all_goals with_reducible rfl
   try simp only [Act.put, List.setIfInBounds_toArray, List.set_cons_zero, List.set_cons_succ]
   refine wpAnyH_take (i := 9) (v := ?_) (iatLS (iatSS (iatSS (iatSS (iatSS (iatSS (iatSS (iatSS (iatSS (iatSS iatZS)))))))))) (by kernel_rfl) (by kernel_rfl) (by kernel_rfl) (fun _ _ _ h => h) (Or.inl ⟨by rfl, ?_⟩) (by assumption) ?_
   rotate_left
   ·intro w hSw
    try dsimp only at hSw
    go_simp
    all_goals with_reducible rfl
   try simp only [Act.put, List.setIfInBounds_toArray, List.set_cons_zero, List.set_cons_succ]
   refine wpAnyH_take (i := 10) (v := ?_) (iatLS (iatSS (iatSS (iatSS (iatSS (iatSS (iatSS (iatSS (iatSS (iatSS (iatSS iatZS))))))))))) (by kernel_rfl) (by kernel_rfl) (by kernel_rfl) (fun _ _ _ h => h) (Or.inl ⟨by rfl, ?_⟩) (by assumption) ?_
   rotate_left
   ·intro w hSw
    try dsimp only at hSw
    go_simp
    all_goals with_reducible rfl
   try simp only [Act.put, List.setIfInBounds_toArray, List.set_cons_zero, List.set_cons_succ]
   refine wpAnyH_ready (rs := [12]) (by kernel_rfl) (by simp) ?_
   refine AllReadyH.cons (iatLS (iatSS (iatSS (iatSS (iatSS (iatSS (iatSS (iatSS (iatSS (iatSS (iatSS (iatSS (iatSS iatZS))))))))))))) (fun K hK => ?_) AllReadyH.nil
   have n0 := HN4.out.cell 0
   have n1 := HN4.out.cell 1
   have n2 := HN4.out.cell 2
   have n3 := HN4.out.cell 3
   have f0 := HN4.out.frozen 0
   have f1 := HN4.out.frozen 1
   have f2 := HN4.out.frozen 2
   have f3 := HN4.out.frozen 3
   have nl := HN4.out.lt
   simp only [List.getElem?_cons_zero, List.getElem?_cons_succ] at n0 n1 n2 n3
   go_simp
   have HF := HX.out.1 K4 nb HC4.out Hnc.out HN4.out
   have hb9 := Below.put4 HB4.out Hnb.out (.int .i64 tk) (.int .i64 ti) (.int .i64 ta) (.slice tga tn tgc)
   generalize World.setCell _ _ _ = K5 at HF hb9 ⊢
   have HF := Lib.hid HF
   have HB5 := Lib.hid hb9
   have HS5 : Hid (K5.cell? ⟨bx, 0, none⟩ = some (.slice xta T xtc) ∧ K5.cell? ⟨bx, 1, none⟩ = some (.slice xna N xnc) ∧ K5.cell? ⟨bx, 2, none⟩ = some (.slice xaa L xac)) := Lib.hid (⟨(HA7.out.below HB5.out HA7.out.lt).cell 0, (HA7.out.below HB5.out HA7.out.lt).cell 1, (HA7.out.below HB5.out HA7.out.lt).cell 2⟩)
   clear hb9 n0 n1 n2 n3 f0 f1 f2 f3 nl
   refine hK.out _ _ ?_ (fun hHeld => ?_)
   ·exact HS5.out
   clear hK K
   try simp only [Act.put, List.setIfInBounds_toArray, List.set_cons_zero, List.set_cons_succ]
   refine wpAnyH_take (i := 13) (v := ?_) (iatLS (iatSS (iatSS (iatSS (iatSS (iatSS (iatSS (iatSS (iatSS (iatSS (iatSS (iatSS (iatSS (iatSS iatZS)))))))))))))) (by kernel_rfl) (by kernel_rfl) (by kernel_rfl) (fun _ _ _ h => h) (Or.inl ⟨by rfl, ?_⟩) (by assumption) ?_
   rotate_left
   ·intro w hSw
    try dsimp only at hSw
    go_simp
    all_goals with_reducible rfl
   try simp only [Act.put, List.setIfInBounds_toArray, List.set_cons_zero, List.set_cons_succ]
   refine wpAnyH_take (i := 14) (v := ?_) (iatLS (iatSS (iatSS (iatSS (iatSS (iatSS (iatSS (iatSS (iatSS (iatSS (iatSS (iatSS (iatSS (iatSS (iatSS iatZS))))))))))))))) (by kernel_rfl) (by kernel_rfl) (by kernel_rfl) (fun _ _ _ h => h) (Or.inl ⟨by rfl, ?_⟩) (by assumption) ?_
   rotate_left
   ·intro w hSw
    try dsimp only at hSw
    go_simp
    all_goals with_reducible rfl
   try simp only [Act.put, List.setIfInBounds_toArray, List.set_cons_zero, List.set_cons_succ]
   refine wpAnyH_done (by kernel_rfl) ?_ _
   go_wp2_with (fail)
   go_meet
   exact ⟨nb, p, y, rfl, rfl, rfl, Lib.hid HB5.out, HF⟩
 case rest =>
 obtain ⟨nb2, p2, y2, rfl, rfl, rfl, hbc, hbx2⟩ := hcut
 have HC2 := Lib.hid (box_vals hbx2.out)
 have HAc := Lib.hid (HA7.out.below hbc.out HA7.out.lt)
 have Hbc := Lib.hid (Hb7.out.trans (hbc.out.mono Hb7.out.size))
 have Hqc := Lib.hid (Hq7.out.trans (hbc.out.mono Hq7.out.size))
 clear hbc hbx2 Hp2
 cases hrr : psParse (gOf d rs toks) with
 | bad b y =>
  have hc1 := HC1.out.1 b y (hr1.out.symm.trans hrr)
  obtain ⟨rfl, rfl⟩ := hc1
  have hy : y1 = 2 ∨ y1 = 110 := by
   have h9 := hrr
   rw [parse_tree (firstB_left HFB.out)] at h9
   exact tree_bad h9
  rcases hy with rfl | rfl
  ·go_wp2_with (fail)
   exact bodyPost_ret (v := .bool true) (by simp [results, Try.results9, go_sem]; try first | rfl | assumption | omega) rfl ⟨rfl, Hbc.out⟩
  ·by_cases hbK : b < KL
   ·have hbI : (b : Int) < (KL : Int) := by omega
    obtain ⟨e1, e2⟩ := early1 Hown.out HFB.out hrr (by show b < toks.length; rw [HK.out]; exact hbK)
    obtain ⟨rfl, rfl⟩ := HC2.out.1 _ _ (hr2.out.symm.trans e1)
    rw [hWL.out] at e2
    subst e2
    obtain rfl : (0 : Nat) = WN := HWN.out
    have x0 := HAc.out.cell 0
    have x1 := HAc.out.cell 1
    have x2 := HAc.out.cell 2
    have xl := HAc.out.lt
    simp only [List.getElem?_cons_zero, List.getElem?_cons_succ] at x0 x1 x2
    go_wp2_with (fail)
    refine (Hw.out wc Hqc.out).mono ?_
    rintro e9 w9 ⟨qa, qc, rfl, hi, hb⟩
    have HF := Lib.hid (Hbc.out.trans (hb.mono Hbc.out.size))
    have hqm : 0 ≤ qc ∧ qc ≤ 9223372036854775807 := ⟨Nat.zero_le _, hi.max⟩
    clear hb hi x0 x1 x2 xl
    go_wp2_with (fail)
    exact bodyPost_ret (v := .bool true) (by simp [results, Try.results9, go_sem]; try first | rfl | assumption | omega) rfl ⟨rfl, HF.out⟩
   ·have hbI : ¬ (b : Int) < (KL : Int) := by omega
    have HE := Lib.hid (early2 Hown.out (more := more) HFB.out (fun b2 y e => by rw [hrr] at e; injection e with e3 e4; subst e3 e4; exact ⟨rfl, by show toks.length ≤ b; rw [HK.out]; omega⟩))
    have HE1 := Lib.hid HE.out.1
    have HE2 : Hid (decide ((T : Int) ∈ wantP (gOf d rs toks)) = false) := Lib.hid (by
     have h9 := HE.out.2.1
     rw [show ((gOf d rs toks).T : Int) = (T : Int) by show (d.toks.length : Int) = _; rw [HT.out]] at h9
     refine decide_eq_false (fun e => ?_)
     obtain ⟨t, a, n, h8⟩ := h9.1 e
     rw [hrr] at h8
     cases h8)
    have HE3 := Lib.hid HE.out.2.2
    rw [hWL.out] at HE1 HE2 HE3
    clear HE
    by_cases hz : y2 = 2
    ·subst hz
     go_wp2_with (fail)
     exact bodyPost_ret (v := .bool true) (by simp [results, Try.results9, go_sem]; try first | rfl | assumption | omega) rfl ⟨rfl, Hbc.out⟩
    have hzb : (y2 == 2) = false := by simp [hz]
    have hWL0 : WL.length ≠ 0 := fun e => HE1.out (List.length_eq_zero_iff.1 e)
    rw [HWN.out] at hWL0
    have x0 := HAc.out.cell 0
    have x1 := HAc.out.cell 1
    have x2 := HAc.out.cell 2
    have xl := HAc.out.lt
    simp only [List.getElem?_cons_zero, List.getElem?_cons_succ] at x0 x1 x2
    go_wp2_with (fail)
    refine (Hw.out wc Hqc.out).mono ?_
    rintro e9 w9 ⟨qa, qc, rfl, hi, hb⟩
    have HA9 := Lib.hid (HAc.out.below hb HAc.out.lt)
    have Hb9 := Lib.hid (Hbc.out.trans (hb.mono Hbc.out.size))
    have Hq9 := Lib.hid (Hqc.out.trans (hb.mono Hqc.out.size))
    have HI9 := Lib.hid hi
    have hqm : WN ≤ qc ∧ qc ≤ 9223372036854775807 := ⟨by have := hi.le; rwa [List.length_map, HWN.out] at this, hi.max⟩
    clear x0 x1 x2 xl hb hi
    have x0 := HA9.out.cell 0
    have x1 := HA9.out.cell 1
    have x2 := HA9.out.cell 2
    have xl := HA9.out.lt
    simp only [List.getElem?_cons_zero, List.getElem?_cons_succ] at x0 x1 x2
    have hin := in9_any WL qa qc (T : Int) w9 HI9.out
    rw [HWN.out, HE2.out] at hin
    have Hin := Lib.hid hin
    have hWI : ¬ (WN : Int) = 0 := by omega
    have hWIb : ((WN : Int) == 0) = false := by rw [beq_eq_false_iff_ne]; exact hWI
    clear hin
    go_wp2_with (fail)
    refine Hin.out.mono ?_
    rintro e10 w10 ⟨rfl, hwe⟩
    have hb : Below w9.heap.size w9 w10 := by rw [hwe]; exact Below.refl _ _
    clear hwe
    have HI10 := Lib.hid (HI9.out.grown hb)
    have Hb10 := Lib.hid (Hb9.out.trans (hb.mono Hb9.out.size))
    have Hq10 := Lib.hid (Hq9.out.trans (hb.mono Hq9.out.size))
    clear x0 x1 x2 xl hb Hin
    by_cases hM0 : M = 0
    ·have hMJ : ((M : Int) == 0) = true := by simp [hM0]
     have hMJ2 : (M : Int) = 0 := by omega
     go_wp2_with (fail)
     exact bodyPost_ret (v := .bool true) (by simp [results, Try.results9, go_sem]; try first | rfl | assumption | omega) rfl ⟨rfl, Hb10.out⟩
    have hMJ : ((M : Int) == 0) = false := by simp [hM0]
    have hMJ2 : ¬ (M : Int) = 0 := by omega
    have hMJ3 : (0 : Int) < (M : Int) := by omega
    obtain ⟨n0, l0, hml⟩ : ∃ n l, more = n :: l := by
     cases more with
     | nil => exact absurd HM.out.symm hM0
     | cons n l => exact ⟨n, l, rfl⟩
    have hE3 := HE3.out n0 l0 hml
    have hmi := Hm3.out.grown Hq10.out
    have hml0 : 0 < (more.map (Value.int .i64)).length := by rw [List.length_map, HM.out]; omega
    obtain ⟨z, zo, hz9⟩ := hmi.at_ 0 hml0
    have cz := hmi.cell z zo hz9 0 hml0
    rw [List.getElem_map] at cz
    have ez : more[0]'(by rw [HM.out]; omega) = n0 := by simp [hml]
    rw [ez, Nat.add_zero] at cz
    have hzb := World.block_lt_of_cell? _ _ cz
    rw [hz9]
    have hin := in9_any WL qa qc n0 w10 HI10.out
    rw [HWN.out] at hin
    have Hin := Lib.hid hin
    clear hin hmi HE1 HE2 HE3
    obtain ⟨B9, hB9⟩ : ∃ b, Hid (decide (n0 ∈ WL) = b) := ⟨_, Lib.hid rfl⟩
    rw [hB9.out] at Hin
    have HE4 : Hid (B9 = false → p2 = (KL : Int) ∧ y2 = 110) := Lib.hid (fun e => by
     rcases hE3 with h9 | h9
     ·have h8 := hB9.out
      rw [e, decide_eq_true h9] at h8
      cases h8
     ·have h8 := HC2.out.1 _ _ (hr2.out.symm.trans h9)
      rwa [show (((gOf d rs toks).toks.length : Nat) : Int) = (KL : Int) by show (toks.length : Int) = _; rw [HK.out]] at h8)
    clear hE3 hB9
    cases B9
    ·obtain ⟨e1, e2⟩ := HE4.out rfl
     subst e1 e2
     clear HE4
     go_wp2_with (fail)
     refine Hin.out.mono ?_
     rintro e11 w11 ⟨rfl, hwe⟩
     have hb : Below w10.heap.size w10 w11 := by rw [hwe]; exact Below.refl _ _
     clear hwe
     have HF := Lib.hid (Hb10.out.trans (hb.mono Hb10.out.size))
     clear hb Hin
     go_wp2_with (fail)
     exact bodyPost_ret (v := .bool true) (by simp [results, Try.results9, go_sem]; try first | rfl | assumption | omega) rfl ⟨rfl, HF.out⟩
    ·clear HE4
     go_wp2_with (fail)
     refine Hin.out.mono ?_
     rintro e11 w11 ⟨rfl, hwe⟩
     have hb : Below w10.heap.size w10 w11 := by rw [hwe]; exact Below.refl _ _
     clear hwe
     have HF := Lib.hid (Hb10.out.trans (hb.mono Hb10.out.size))
     clear hb Hin
     go_wp2_with (fail)
     exact bodyPost_ret (v := .bool true) (by simp [results, Try.results9, go_sem]; try first | rfl | assumption | omega) rfl ⟨rfl, HF.out⟩
 | ok t b q =>
  obtain ⟨rfl, rfl⟩ := HC1.out.2 t b q (hr1.out.symm.trans hrr)
  have HE := Lib.hid (early2 Hown.out (more := more) HFB.out (fun b y e => by rw [hrr] at e; cases e))
  have HE1 := Lib.hid HE.out.1
  have HE2 : Hid (decide ((T : Int) ∈ wantP (gOf d rs toks)) = true) := Lib.hid (by
   have h9 := HE.out.2.1
   rw [show ((gOf d rs toks).T : Int) = (T : Int) by show (d.toks.length : Int) = _; rw [HT.out]] at h9
   exact decide_eq_true (h9.2 ⟨_, _, _, hrr⟩))
  have HE3 := Lib.hid HE.out.2.2
  rw [hWL.out] at HE1 HE2 HE3
  clear HE
  by_cases hz : y2 = 2
  ·subst hz
   go_wp2_with (fail)
   exact bodyPost_ret (v := .bool true) (by simp [results, Try.results9, go_sem]; try first | rfl | assumption | omega) rfl ⟨rfl, Hbc.out⟩
  have hzb : (y2 == 2) = false := by simp [hz]
  have hWL0 : WL.length ≠ 0 := fun e => HE1.out (List.length_eq_zero_iff.1 e)
  rw [HWN.out] at hWL0
  have x0 := HAc.out.cell 0
  have x1 := HAc.out.cell 1
  have x2 := HAc.out.cell 2
  have xl := HAc.out.lt
  simp only [List.getElem?_cons_zero, List.getElem?_cons_succ] at x0 x1 x2
  go_wp2_with (fail)
  refine (Hw.out wc Hqc.out).mono ?_
  rintro e9 w9 ⟨qa, qc, rfl, hi, hb⟩
  have HA9 := Lib.hid (HAc.out.below hb HAc.out.lt)
  have Hb9 := Lib.hid (Hbc.out.trans (hb.mono Hbc.out.size))
  have Hq9 := Lib.hid (Hqc.out.trans (hb.mono Hqc.out.size))
  have HI9 := Lib.hid hi
  have hqm : WN ≤ qc ∧ qc ≤ 9223372036854775807 := ⟨by have := hi.le; rwa [List.length_map, HWN.out] at this, hi.max⟩
  clear x0 x1 x2 xl hb hi
  have x0 := HA9.out.cell 0
  have x1 := HA9.out.cell 1
  have x2 := HA9.out.cell 2
  have xl := HA9.out.lt
  simp only [List.getElem?_cons_zero, List.getElem?_cons_succ] at x0 x1 x2
  have hin := in9_any WL qa qc (T : Int) w9 HI9.out
  rw [HWN.out, HE2.out] at hin
  have Hin := Lib.hid hin
  have hWI : ¬ (WN : Int) = 0 := by omega
  have hWIb : ((WN : Int) == 0) = false := by rw [beq_eq_false_iff_ne]; exact hWI
  clear hin
  go_wp2_with (fail)
  refine Hin.out.mono ?_
  rintro e10 w10 ⟨rfl, hwe⟩
  have hb : Below w9.heap.size w9 w10 := by rw [hwe]; exact Below.refl _ _
  clear hwe
  have HI10 := Lib.hid (HI9.out.grown hb)
  have Hb10 := Lib.hid (Hb9.out.trans (hb.mono Hb9.out.size))
  have Hq10 := Lib.hid (Hq9.out.trans (hb.mono Hq9.out.size))
  clear x0 x1 x2 xl hb Hin
  by_cases hM0 : M = 0
  ·have hMJ : ((M : Int) == 0) = true := by simp [hM0]
   have hMJ2 : (M : Int) = 0 := by omega
   go_wp2_with (fail)
   exact bodyPost_ret (v := .bool true) (by simp [results, Try.results9, go_sem]; try first | rfl | assumption | omega) rfl ⟨rfl, Hb10.out⟩
  have hMJ : ((M : Int) == 0) = false := by simp [hM0]
  have hMJ2 : ¬ (M : Int) = 0 := by omega
  have hMJ3 : (0 : Int) < (M : Int) := by omega
  obtain ⟨n0, l0, hml⟩ : ∃ n l, more = n :: l := by
   cases more with
   | nil => exact absurd HM.out.symm hM0
   | cons n l => exact ⟨n, l, rfl⟩
  have hE3 := HE3.out n0 l0 hml
  have hmi := Hm3.out.grown Hq10.out
  have hml0 : 0 < (more.map (Value.int .i64)).length := by rw [List.length_map, HM.out]; omega
  obtain ⟨z, zo, hz9⟩ := hmi.at_ 0 hml0
  have cz := hmi.cell z zo hz9 0 hml0
  rw [List.getElem_map] at cz
  have ez : more[0]'(by rw [HM.out]; omega) = n0 := by simp [hml]
  rw [ez, Nat.add_zero] at cz
  have hzb := World.block_lt_of_cell? _ _ cz
  rw [hz9]
  have hin := in9_any WL qa qc n0 w10 HI10.out
  rw [HWN.out] at hin
  have Hin := Lib.hid hin
  clear hin hmi HE1 HE2 HE3
  obtain ⟨B9, hB9⟩ : ∃ b, Hid (decide (n0 ∈ WL) = b) := ⟨_, Lib.hid rfl⟩
  rw [hB9.out] at Hin
  have HE4 : Hid (B9 = false → p2 = (KL : Int) ∧ y2 = 110) := Lib.hid (fun e => by
   rcases hE3 with h9 | h9
   ·have h8 := hB9.out
    rw [e, decide_eq_true h9] at h8
    cases h8
   ·have h8 := HC2.out.1 _ _ (hr2.out.symm.trans h9)
    rwa [show (((gOf d rs toks).toks.length : Nat) : Int) = (KL : Int) by show (toks.length : Int) = _; rw [HK.out]] at h8)
  clear hE3 hB9
  cases B9
  ·obtain ⟨e1, e2⟩ := HE4.out rfl
   subst e1 e2
   clear HE4
   go_wp2_with (fail)
   refine Hin.out.mono ?_
   rintro e11 w11 ⟨rfl, hwe⟩
   have hb : Below w10.heap.size w10 w11 := by rw [hwe]; exact Below.refl _ _
   clear hwe
   have HF := Lib.hid (Hb10.out.trans (hb.mono Hb10.out.size))
   clear hb Hin
   go_wp2_with (fail)
   exact bodyPost_ret (v := .bool true) (by simp [results, Try.results9, go_sem]; try first | rfl | assumption | omega) rfl ⟨rfl, HF.out⟩
  ·clear HE4
   go_wp2_with (fail)
   refine Hin.out.mono ?_
   rintro e11 w11 ⟨rfl, hwe⟩
   have hb : Below w10.heap.size w10 w11 := by rw [hwe]; exact Below.refl _ _
   clear hwe
   have HF := Lib.hid (Hb10.out.trans (hb.mono Hb10.out.size))
   clear hb Hin
   go_wp2_with (fail)
   exact bodyPost_ret (v := .bool true) (by simp [results, Try.results9, go_sem]; try first | rfl | assumption | omega) rfl ⟨rfl, HF.out⟩
end Go.Proofs.Ytfdhaochnbfndaa
