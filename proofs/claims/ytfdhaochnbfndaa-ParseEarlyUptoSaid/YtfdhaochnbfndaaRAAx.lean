/- Texts joined: La. -/
import Derived.Test.YtfdhaochnbfndaaRAAv
import Derived.Test.YtfdhaochnbfndaaRAAw
import Derived.Test.YtfdhaochnbfndaaRAAq
import Derived.Test.YtfdhaochnbfndaaRAAk
import Derived.Deep.CutRange
set_option linter.unusedVariables false
set_option linter.unusedSimpArgs false
namespace Go.Proofs.Ytfdhaochnbfndaa
open Go.RowKit Go.Maps
attribute [local go_sem] Oper.semAt_some
theorem tmod_rng (n : Int) {m : Nat} (hm : 0 < m) : -(m : Int) < n.tmod m ∧ n.tmod m < m := by
 by_cases h : 0 ≤ n
 ·rw [Int.tmod_eq_emod_of_nonneg h]
  have h1 := Int.emod_nonneg n (show (m : Int) ≠ 0 by omega)
  have h2 := Int.emod_lt_of_pos n (show (0 : Int) < m by omega)
  omega
 ·have h0 : n.tmod m = -((-n).tmod m) := by rw [Int.neg_tmod]; omega
  rw [h0, Int.tmod_eq_emod_of_nonneg (by omega)]
  have h1 := Int.emod_nonneg (-n) (show (m : Int) ≠ 0 by omega)
  have h2 := Int.emod_lt_of_pos (-n) (show (0 : Int) < m by omega)
  omega
theorem tmod_nat {n : Int} {m : Nat} (hm : 0 < m) (h : 0 ≤ n) : ∃ i : Nat, i < m ∧ n.tmod m = (i : Int) := by
 rw [Int.tmod_eq_emod_of_nonneg h]
 have h1 := Int.emod_nonneg n (show (m : Int) ≠ 0 by omega)
 have h2 := Int.emod_lt_of_pos n (show (0 : Int) < m by omega)
 exact ⟨(n % m).toNat, by omega, by omega⟩
set_option maxRecDepth 100000 in
set_option maxHeartbeats 16000000 in
theorem lawSteps_any (d : CfD) (ka : Option Addr) (kc : Nat) (toks : List Int) (at0 : Int) (w : World) (hd : CfAt w d) (h1 : ∀ t ∈ d.toks, t.size ≤ maxLen) (h2 : ∀ t ∈ d.names, t.size ≤ maxLen) (h3 : ∀ r ∈ d.alts, ∀ a ∈ r.ds, ∀ x ∈ a.l, -9223372036854775808 ≤ x ∧ x ≤ 9223372036854775807) (hs : d.toks.length + d.names.length + szC (d.alts.map IrD.p) ≤ 1000000000000) (hk : Ints w ka kc toks) :
 Calls Try.prog 10 #[d.v, .slice ka toks.length kc, .int .i64 at0] w fun e w' => e = .returned (.bool true) ∧ Below w.heap.size w w' := by
 have HTb := Lib.hid (fun W (hb : Below w.heap.size w W) => tables_any d W (hd.grown hb) h1 h2 h3 hs)
 have Hd := Lib.hid hd
 have Hk := Lib.hid hk
 have hkm : toks.length ≤ kc ∧ kc ≤ 9223372036854775807 := ⟨by have := hk.le; rwa [List.length_map] at this, hk.max⟩
 have hb1 : Below w.heap.size w (w.alloc (.cells #[.slice d.ta d.toks.length d.tc, .slice d.na d.names.length d.nc, .slice d.aa d.alts.length d.ac] 25)) := (Below.refl _ w).alloc (Nat.le_refl _) _
 have hA := Blk.new w 25 #[.slice d.ta d.toks.length d.tc, .slice d.na d.names.length d.nc, .slice d.aa d.alts.length d.ac]
 obtain ⟨xta, hxta⟩ : ∃ q, Hid (d.ta = q) := ⟨_, Lib.hid rfl⟩
 obtain ⟨xna, hxna⟩ : ∃ q, Hid (d.na = q) := ⟨_, Lib.hid rfl⟩
 obtain ⟨xaa, hxaa⟩ : ∃ q, Hid (d.aa = q) := ⟨_, Lib.hid rfl⟩
 obtain ⟨xtc, hxtc⟩ : ∃ q, Hid (d.tc = q) := ⟨_, Lib.hid rfl⟩
 obtain ⟨xnc, hxnc⟩ : ∃ q, Hid (d.nc = q) := ⟨_, Lib.hid rfl⟩
 obtain ⟨xac, hxac⟩ : ∃ q, Hid (d.ac = q) := ⟨_, Lib.hid rfl⟩
 obtain ⟨T, HT⟩ : ∃ q, Hid (d.toks.length = q) := ⟨_, Lib.hid rfl⟩
 obtain ⟨N, HN⟩ : ∃ q, Hid (d.names.length = q) := ⟨_, Lib.hid rfl⟩
 obtain ⟨L, HL⟩ : ∃ q, Hid (d.alts.length = q) := ⟨_, Lib.hid rfl⟩
 have hdv : d.v = .agg #[.slice xta T xtc, .slice xna N xnc, .slice xaa L xac] := by unfold CfD.v; rw [hxta.out, hxna.out, hxaa.out, hxtc.out, hxnc.out, hxac.out, HT.out, HN.out, HL.out]
 rw [hdv]
 rw [hxta.out, hxna.out, hxaa.out, hxtc.out, hxnc.out, hxac.out, HT.out, HN.out, HL.out] at hA hb1
 rw [hdv] at HTb
 have Hdv := Lib.hid hdv
 have x0 := hA.cell 0
 have x1 := hA.cell 1
 have x2 := hA.cell 2
 have xl := hA.lt
 simp only [List.getElem?_cons_zero, List.getElem?_cons_succ] at x0 x1 x2
 have HA := Lib.hid hA
 have Hb1 := Lib.hid hb1
 clear hA hb1 h1 h2 h3 hs hd hdv hxta hxna hxaa hxtc hxnc hxac
 go_enter Try.func10, Try.ntmps10
 go_wp2_with (fail)
 obtain ⟨bx, hbx⟩ : ∃ q, Hid (w.heap.size = q) := ⟨_, Lib.hid rfl⟩
 rw [hbx.out] at HA xl x0 x1 x2 ⊢
 generalize hV : World.alloc w _ = V1 at HA x0 x1 x2 xl Hb1 ⊢
 clear hV
 refine (live11_any V1).mono ?_
 rintro e w2 ⟨rfl, hb⟩
 have HA2 := Lib.hid (HA.out.below hb HA.out.lt)
 have Hb2 := Lib.hid (Hb1.out.trans (hb.mono Hb1.out.size))
 clear x0 x1 x2 xl hb
 have x0 := HA2.out.cell 0
 have x1 := HA2.out.cell 1
 have x2 := HA2.out.cell 2
 have xl := HA2.out.lt
 simp only [List.getElem?_cons_zero, List.getElem?_cons_succ] at x0 x1 x2
 go_wp2_with (fail)
 refine (HTb.out w2 Hb2.out).mono ?_
 intro e w3 hB
 obtain ⟨hb, hB⟩ := hB
 have HA3 := Lib.hid (HA2.out.below hb HA2.out.lt)
 have Hb3 := Lib.hid (Hb2.out.trans (hb.mono Hb2.out.size))
 clear x0 x1 x2 xl hb HTb
 rcases hB with rfl | ⟨hfw, hcl, oa, oc, rs, rfl, hrl, hra, hrow⟩
 ·go_wp2_with (fail)
  exact bodyPost_ret (v := .bool true) (by simp [results, Try.results10, go_sem]; try first | rfl | assumption | omega) rfl ⟨rfl, Hb3.out⟩
 have hrm : rs.length ≤ oc ∧ oc ≤ 9223372036854775807 := ⟨by have := hra.row.le; rwa [List.length_map] at this, hra.row.max⟩
 have hfit := few10_fit hfw
 have hbo : ∀ W, Below w3.heap.size w3 W → ∀ ka kc toks, Ints W ka kc toks → PrF W d oa oc rs ka kc toks := fun W hb ka kc toks hi => prf_of hfit (Hd.out.grown (Hb3.out.trans (hb.mono Hb3.out.size))) (hra.grown hb) hrl hrow hi
 have Hpf := Lib.hid hbo
 obtain ⟨KL, HK⟩ : ∃ q, Hid (toks.length = q) := ⟨_, Lib.hid rfl⟩
 obtain ⟨rn, hrn⟩ : ∃ q, Hid (rs.length = q) := ⟨_, Lib.hid rfl⟩
 rw [HK.out] at hkm
 rw [hrn.out] at hrm
 rw [HK.out, hrn.out]
 have Hk3 := Lib.hid (Hk.out.grown Hb3.out)
 clear hbo hrl hra hrow hfit hcl hfw
 by_cases hK60 : 60 < KL
 ·have hKI : (60 : Int) < (KL : Int) := by omega
  go_wp2_with (fail)
  exact bodyPost_ret (v := .bool true) (by simp [results, Try.results10, go_sem]; try first | rfl | assumption | omega) rfl ⟨rfl, Hb3.out⟩
 by_cases hK0 : KL = 0
 ·have hKI : ¬ (60 : Int) < (KL : Int) := by omega
  have hKI0 : ((KL : Int) == 0) = true := by simp [hK0]
  go_wp2_with (fail)
  exact bodyPost_ret (v := .bool true) (by simp [results, Try.results10, go_sem]; try first | rfl | assumption | omega) rfl ⟨rfl, Hb3.out⟩
 have hKI : ¬ (60 : Int) < (KL : Int) := by omega
 have hKI0 : ((KL : Int) == 0) = false := by simp [hK0]
 have hmr := tmod_rng at0 (show 0 < KL by omega)
 obtain ⟨i, hiK, hie⟩ := tmod_nat (n := at0.tmod (KL : Int) + (KL : Int)) (m := KL) (by omega) (by omega)
 have hwr : wrap64 (at0.tmod (KL : Int) + (KL : Int)) = at0.tmod (KL : Int) + (KL : Int) := by unfold wrap64; omega
 have x0 := HA3.out.cell 0
 have x1 := HA3.out.cell 1
 have x2 := HA3.out.cell 2
 have xl := HA3.out.lt
 simp only [List.getElem?_cons_zero, List.getElem?_cons_succ] at x0 x1 x2
 obtain ⟨r1, hr1⟩ : ∃ q, Hid (psParse (gOf d rs toks) = q) := ⟨_, Lib.hid rfl⟩
 obtain ⟨r3, hr3⟩ : ∃ q, Hid (psParse (gOf d rs (toks.take i)) = q) := ⟨_, Lib.hid rfl⟩
 have hx3 : ∀ b y, r3 = .bad b y → y = 110 → b ≤ i := fun b y e e2 => by
  subst e2
  have := parse_in (hr3.out.trans e)
  have h9 : (gOf d rs (toks.take i)).toks.length ≤ i := by show (toks.take i).length ≤ i; rw [List.length_take]; exact Nat.min_le_left _ _
  omega
 have hx1 : ∀ b y, r1 = .bad b y → y = 110 → b < i → r3 = .bad b 110 := fun b y e e2 hb => by
  subst e2
  rw [← hr3.out]
  exact parse_cut (G := gOf d rs toks) (i := i) (by show i ≤ toks.length; rw [HK.out]; omega) hb (hr1.out.trans e)
 have Hx3 := Lib.hid hx3
 have Hx1 := Lib.hid hx1
 have Hp1 : Hid (∀ W, Below w3.heap.size w3 W → ∀ ka kc, Ints W ka kc toks → Calls Try.prog 41 #[.agg #[.slice xta T xtc, .slice xna N xnc, .slice xaa L xac], .slice oa rn oc, .slice ka KL kc] W (TreQ W r1)) := Lib.hid (fun W hb ka kc hi => by
  have := pparse_any d oa oc rs ka kc toks W (Hpf.out W hb ka kc toks hi)
  rwa [hr1.out, Hdv.out, hrn.out, HK.out] at this)
 have Hp3 : Hid (∀ W, Below w3.heap.size w3 W → ∀ ka kc, Ints W ka kc (toks.take i) → Calls Try.prog 41 #[.agg #[.slice xta T xtc, .slice xna N xnc, .slice xaa L xac], .slice oa rn oc, .slice ka i kc] W (TreQ W r3)) := Lib.hid (fun W hb ka kc hi => by
  have := pparse_any d oa oc rs ka kc (toks.take i) W (Hpf.out W hb ka kc (toks.take i) hi)
  rwa [hr3.out, Hdv.out, hrn.out, List.length_take, HK.out, Nat.min_eq_left (Nat.le_of_lt hiK)] at this)
 clear hx3 hx1 Hpf
 go_upto_region 6 with fail
 clear hwr hie hmr
 go_wp2_with (fail)
 refine (Hp1.out w3 (Below.refl _ _) ka kc Hk3.out).mono ?_
 intro e4 w4 hT
 have hb := hT.1
 obtain ⟨tk, ti, ta, tga, tn, tgc, p1, y1, rfl, hX⟩ := tre_box hT
 have HX := Lib.hid hX
 have HA4 := Lib.hid (HA3.out.below hb HA3.out.lt)
 have Hb4 := Lib.hid (Hb3.out.trans (hb.mono Hb3.out.size))
 have Hq4 := Lib.hid hb
 clear x0 x1 x2 xl hb hT hX
 go_upto_region 7 with fail
 have hb : Below w4.heap.size w4 (w4.alloc (.cells #[.int .i64 tk, .int .i64 ti, .int .i64 ta, .slice tga tn tgc] 51)) := (Below.refl _ _).alloc (Nat.le_refl _) _
 have hN := HX.out.2 _ w4.heap.size hb (Blk.new w4 51 #[.int .i64 tk, .int .i64 ti, .int .i64 ta, .slice tga tn tgc])
 obtain ⟨nb1, hnb1⟩ : ∃ q, Hid (w4.heap.size = q) := ⟨_, Lib.hid rfl⟩
 generalize hV : World.alloc w4 _ = w5 at hb hN ⊢
 have HA5 := Lib.hid (HA4.out.below hb HA4.out.lt)
 have Hb5 := Lib.hid (Hb4.out.trans (hb.mono Hb4.out.size))
 have Hq5 := Lib.hid (Hq4.out.trans (hb.mono Hq4.out.size))
 rw [hnb1.out] at hN ⊢
 have HB1 := Lib.hid hN
 clear hV hb hN HX hnb1
 go_cut [14, 15, 16] from 20 (fun v14 v15 v16 wc => ∃ (nb : Nat) (p x : Int), v14 = .pointer (some ⟨nb, 0, none⟩) ∧ v15 = .int .i64 p ∧ v16 = .int .i64 x ∧ Hid (Below w5.heap.size w5 wc ∧ BoxR wc r1 nb p x))
 case first =>
  have HB0 := Lib.hid ((Below.refl w5.heap.size w5).drew)
  have HS0 : Hid ((w5.drew).cell? ⟨bx, 0, none⟩ = some (.slice xta T xtc) ∧ (w5.drew).cell? ⟨bx, 1, none⟩ = some (.slice xna N xnc) ∧ (w5.drew).cell? ⟨bx, 2, none⟩ = some (.slice xaa L xac)) := Lib.hid (⟨(HA5.out.below HB0.out HA5.out.lt).cell 0, (HA5.out.below HB0.out HA5.out.lt).cell 1, (HA5.out.below HB0.out HA5.out.lt).cell 2⟩)
  refine wp_region_held_drew (S := fun w' => w'.cell? ⟨bx, 0, none⟩ = some (.slice xta T xtc) ∧ w'.cell? ⟨bx, 1, none⟩ = some (.slice xna N xnc) ∧ w'.cell? ⟨bx, 2, none⟩ = some (.slice xaa L xac)) (by kernel_rfl) ?_ (fun hHeld => ?_)
  ·exact HS0.out
  generalize World.drew w5 = K0 at HB0 HS0 hHeld ⊢
  refine wpAnyH_take (i := 0) (v := ?_) (iatLS iatZS) (by kernel_rfl) (by kernel_rfl) (by kernel_rfl) (fun _ _ _ h => h) (Or.inl ⟨by rfl, ?_⟩) (by assumption) ?_
  rotate_left
  ·intro w hSw
   try dsimp only at hSw
   go_simp
   all_goals with_reducible rfl
  try simp only [Act.put, List.setIfInBounds_toArray, List.set_cons_zero, List.set_cons_succ]
  refine wpAnyH_take (i := 1) (v := ?_) (iatLS (iatSS iatZS)) (by kernel_rfl) (by kernel_rfl) (by kernel_rfl) (fun _ _ _ h => h) (Or.inl ⟨by rfl, ?_⟩) (by assumption) ?_
  rotate_left
  ·intro w hSw
   try dsimp only at hSw
   go_simp
   all_goals with_reducible rfl
  try simp only [Act.put, List.setIfInBounds_toArray, List.set_cons_zero, List.set_cons_succ]
  refine wpAnyH_take (i := 2) (v := ?_) (iatLS (iatSS (iatSS iatZS))) (by kernel_rfl) (by kernel_rfl) (by kernel_rfl) (fun _ _ _ h => h) (Or.inl ⟨by rfl, ?_⟩) (by assumption) ?_
  rotate_left
  ·intro w hSw
   try dsimp only at hSw
   go_simp
   all_goals with_reducible rfl
  try simp only [Act.put, List.setIfInBounds_toArray, List.set_cons_zero, List.set_cons_succ]
  refine wpAnyH_ready (rs := [3, 9]) (by kernel_rfl) (by simp) ?_
  refine AllReadyH.cons (iatLS (iatSS (iatSS (iatSS iatZS)))) (fun K hK => ?_) (AllReadyH.cons (iatLS (iatSS (iatSS (iatSS (iatSS (iatSS (iatSS (iatSS (iatSS (iatSS iatZS)))))))))) (fun K hK => ?_) (AllReadyH.nil))
  ·
   obtain ⟨za, zc, K1, hrun, how, hb⟩ := (OwnKZ.nil K0 K0.heap.size).app ka kc toks (Hk3.out.grown (Hq5.out.trans (HB0.out.mono Hq5.out.size))) 35 (by show 0 + toks.length ≤ _; rw [HK.out]; omega) (Nat.le_refl _)
   rw [show ([] : List Int).length = 0 from rfl, HK.out] at hrun
   rw [List.nil_append] at how
   have HO1 : Hid (Ints K1 za zc toks) := Lib.hid (OwnKZ.vs how)
   refine step_append_run rfl _ _ 35 35 rfl _ _ _ _ rfl rfl hrun ?_
   have HB1 := Lib.hid (HB0.out.trans (hb.mono HB0.out.size))
   have HS1 : Hid (K1.cell? ⟨bx, 0, none⟩ = some (.slice xta T xtc) ∧ K1.cell? ⟨bx, 1, none⟩ = some (.slice xna N xnc) ∧ K1.cell? ⟨bx, 2, none⟩ = some (.slice xaa L xac)) := Lib.hid (⟨(HA5.out.below HB1.out HA5.out.lt).cell 0, (HA5.out.below HB1.out HA5.out.lt).cell 1, (HA5.out.below HB1.out HA5.out.lt).cell 2⟩)
   clear hb
   try dsimp only
   refine hK.out _ _ ?_ (fun hHeld => ?_)
   ·exact HS1.out
   clear hK K
   try simp only [Act.put, List.setIfInBounds_toArray, List.set_cons_zero, List.set_cons_succ]
   refine wpAnyH_ready (rs := [4, 9]) (by kernel_rfl) (by simp) ?_
   refine AllReadyH.cons (iatLS (iatSS (iatSS (iatSS (iatSS iatZS))))) (fun K hK => ?_) (AllReadyH.cons (iatLS (iatSS (iatSS (iatSS (iatSS (iatSS (iatSS (iatSS (iatSS (iatSS iatZS)))))))))) (fun K hK => ?_) (AllReadyH.nil))
   ·
    go_simp
    (with_reducible refine (Hp1.out K1 (Hq5.out.trans (HB1.out.mono Hq5.out.size)) za zc HO1.out).mono ?_)
    intro e9 K2 hT
    have hb := hT.1
    obtain ⟨tk, ti, ta, tga, tn, tgc, p, x, rfl, hX⟩ := tre_box hT
    have HX := Lib.hid hX
    clear hT hX
    have HO2 := Lib.hid (HO1.out.grown hb)
    have HB2 := Lib.hid (HB1.out.trans (hb.mono HB1.out.size))
    have HC2 := Lib.hid (Below.refl K2.heap.size K2)
    have HS2 : Hid (K2.cell? ⟨bx, 0, none⟩ = some (.slice xta T xtc) ∧ K2.cell? ⟨bx, 1, none⟩ = some (.slice xna N xnc) ∧ K2.cell? ⟨bx, 2, none⟩ = some (.slice xaa L xac)) := Lib.hid (⟨(HA5.out.below HB2.out HA5.out.lt).cell 0, (HA5.out.below HB2.out HA5.out.lt).cell 1, (HA5.out.below HB2.out HA5.out.lt).cell 2⟩)
    clear hb
    try dsimp only
    refine hK.out _ _ ?_ (fun hHeld => ?_)
    ·exact HS2.out
    clear hK K
    try simp only [Act.put, List.setIfInBounds_toArray, List.set_cons_zero, List.set_cons_succ]
    refine wpAnyH_take (i := 5) (v := ?_) (iatLS (iatSS (iatSS (iatSS (iatSS (iatSS iatZS)))))) (by kernel_rfl) (by kernel_rfl) (by kernel_rfl) (fun _ _ _ h => h) (Or.inl ⟨by rfl, ?_⟩) (by assumption) ?_
    rotate_left
    ·intro w hSw
     try dsimp only at hSw
     go_simp
     all_goals with_reducible rfl
    try simp only [Act.put, List.setIfInBounds_toArray, List.set_cons_zero, List.set_cons_succ]
    refine wpAnyH_take (i := 6) (v := ?_) (iatLS (iatSS (iatSS (iatSS (iatSS (iatSS (iatSS iatZS))))))) (by kernel_rfl) (by kernel_rfl) (by kernel_rfl) (fun _ _ _ h => h) (Or.inl ⟨by rfl, ?_⟩) (by assumption) ?_
    rotate_left
    ·intro w hSw
     try dsimp only at hSw
     go_simp
     all_goals with_reducible rfl
    try simp only [Act.put, List.setIfInBounds_toArray, List.set_cons_zero, List.set_cons_succ]
    refine wpAnyH_take (i := 7) (v := ?_) (iatLS (iatSS (iatSS (iatSS (iatSS (iatSS (iatSS (iatSS iatZS)))))))) (by kernel_rfl) (by kernel_rfl) (by kernel_rfl) (fun _ _ _ h => h) (Or.inl ⟨by rfl, ?_⟩) (by assumption) ?_
    rotate_left
    ·intro w hSw
     try dsimp only at hSw
     go_simp
     all_goals with_reducible rfl
    try simp only [Act.put, List.setIfInBounds_toArray, List.set_cons_zero, List.set_cons_succ]
    refine wpAnyH_take (i := 8) (v := ?_) (iatLS (iatSS (iatSS (iatSS (iatSS (iatSS (iatSS (iatSS (iatSS iatZS))))))))) (by kernel_rfl) (by kernel_rfl) (by kernel_rfl) (fun _ _ _ h => h) (Or.inl ⟨by rfl, ?_⟩) (by assumption) ?_
    rotate_left
    ·intro w hSw
     try dsimp only at hSw
     go_simp
     all_goals with_reducible rfl
    try simp only [Act.put, List.setIfInBounds_toArray, List.set_cons_zero, List.set_cons_succ]
    refine wpAnyH_ready (rs := [9]) (by kernel_rfl) (by simp) ?_
    refine AllReadyH.cons (iatLS (iatSS (iatSS (iatSS (iatSS (iatSS (iatSS (iatSS (iatSS (iatSS iatZS)))))))))) (fun K hK => ?_) AllReadyH.nil
    go_simp
    obtain ⟨nb, hnb⟩ : ∃ q, Hid (K2.heap.size = q) := ⟨_, Lib.hid rfl⟩
    rw [hnb.out]
    generalize hW3 : World.alloc K2 _ = K3
    have hb : Below K2.heap.size K2 K3 := by rw [← hW3]; exact (Below.refl _ _).alloc (Nat.le_refl _) _
    have HN3 : Hid (Blk K3 nb 51 [.int .i64 0, .int .i64 0, .int .i64 0, .slice none 0 0]) := Lib.hid (by rw [← hW3, ← hnb.out]; exact Blk.new _ 51 #[.int .i64 0, .int .i64 0, .int .i64 0, .slice none 0 0])
    have Hnb : Hid (w5.heap.size ≤ nb) := Lib.hid (by rw [← hnb.out]; exact HB2.out.size)
    have HO3 := Lib.hid (HO2.out.grown hb)
    have HB3 := Lib.hid (HB2.out.trans (hb.mono HB2.out.size))
    have HC3 := Lib.hid (HC2.out.trans (hb.mono HC2.out.size))
    have Hnc : Hid (nb < K1.heap.size ∨ K2.heap.size ≤ nb) := Lib.hid (.inr (Nat.le_trans HC2.out.size (Nat.le_of_eq hnb.out)))
    have HS3 : Hid (K3.cell? ⟨bx, 0, none⟩ = some (.slice xta T xtc) ∧ K3.cell? ⟨bx, 1, none⟩ = some (.slice xna N xnc) ∧ K3.cell? ⟨bx, 2, none⟩ = some (.slice xaa L xac)) := Lib.hid (⟨(HA5.out.below HB3.out HA5.out.lt).cell 0, (HA5.out.below HB3.out HA5.out.lt).cell 1, (HA5.out.below HB3.out HA5.out.lt).cell 2⟩)
    clear hW3 hb hnb
    refine hK.out _ _ ?_ (fun hHeld => ?_)
    ·exact HS3.out
    clear hK K
    try simp only [Act.put, List.setIfInBounds_toArray, List.set_cons_zero, List.set_cons_succ]
    refine wpAnyH_ready (rs := [10]) (by kernel_rfl) (by simp) ?_
    refine AllReadyH.cons (iatLS (iatSS (iatSS (iatSS (iatSS (iatSS (iatSS (iatSS (iatSS (iatSS (iatSS iatZS))))))))))) (fun K hK => ?_) AllReadyH.nil
    have n0 := HN3.out.cell 0
    have n1 := HN3.out.cell 1
    have n2 := HN3.out.cell 2
    have n3 := HN3.out.cell 3
    have f0 := HN3.out.frozen 0
    have f1 := HN3.out.frozen 1
    have f2 := HN3.out.frozen 2
    have f3 := HN3.out.frozen 3
    have nl := HN3.out.lt
    simp only [List.getElem?_cons_zero, List.getElem?_cons_succ] at n0 n1 n2 n3
    go_simp
    have HF := HX.out.1 K3 nb HC3.out Hnc.out HN3.out
    have hb9 := Below.put4 HB3.out Hnb.out (.int .i64 tk) (.int .i64 ti) (.int .i64 ta) (.slice tga tn tgc)
    generalize World.setCell _ _ _ = K4 at HF hb9 ⊢
    have HF := Lib.hid HF
    have HB4 := Lib.hid hb9
    have HS4 : Hid (K4.cell? ⟨bx, 0, none⟩ = some (.slice xta T xtc) ∧ K4.cell? ⟨bx, 1, none⟩ = some (.slice xna N xnc) ∧ K4.cell? ⟨bx, 2, none⟩ = some (.slice xaa L xac)) := Lib.hid (⟨(HA5.out.below HB4.out HA5.out.lt).cell 0, (HA5.out.below HB4.out HA5.out.lt).cell 1, (HA5.out.below HB4.out HA5.out.lt).cell 2⟩)
    clear hb9 n0 n1 n2 n3 f0 f1 f2 f3 nl
    refine hK.out _ _ ?_ (fun hHeld => ?_)
    ·exact HS4.out
    clear hK K
    try simp only [Act.put, List.setIfInBounds_toArray, List.set_cons_zero, List.set_cons_succ]
    refine wpAnyH_take (i := 11) (v := ?_) (iatLS (iatSS (iatSS (iatSS (iatSS (iatSS (iatSS (iatSS (iatSS (iatSS (iatSS (iatSS iatZS)))))))))))) (by kernel_rfl) (by kernel_rfl) (by kernel_rfl) (fun _ _ _ h => h) (Or.inl ⟨by rfl, ?_⟩) (by assumption) ?_
    rotate_left
    ·intro w hSw
     try dsimp only at hSw
     go_simp
     all_goals with_reducible rfl
    try simp only [Act.put, List.setIfInBounds_toArray, List.set_cons_zero, List.set_cons_succ]
    refine wpAnyH_take (i := 12) (v := ?_) (iatLS (iatSS (iatSS (iatSS (iatSS (iatSS (iatSS (iatSS (iatSS (iatSS (iatSS (iatSS (iatSS iatZS))))))))))))) (by kernel_rfl) (by kernel_rfl) (by kernel_rfl) (fun _ _ _ h => h) (Or.inl ⟨by rfl, ?_⟩) (by assumption) ?_
    rotate_left
    ·intro w hSw
     try dsimp only at hSw
     go_simp
     all_goals with_reducible rfl
    try simp only [Act.put, List.setIfInBounds_toArray, List.set_cons_zero, List.set_cons_succ]
    refine wpAnyH_done (by kernel_rfl) ?_ _
    go_wp2_with (fail)
    go_meet
    exact ⟨nb, p, x, rfl, rfl, rfl, Lib.hid ⟨HB4.out, HF.out⟩⟩
   ·
    go_simp
    obtain ⟨nb, hnb⟩ : ∃ q, Hid (K1.heap.size = q) := ⟨_, Lib.hid rfl⟩
    rw [hnb.out]
    generalize hW2 : World.alloc K1 _ = K2
    have hb : Below K1.heap.size K1 K2 := by rw [← hW2]; exact (Below.refl _ _).alloc (Nat.le_refl _) _
    have HN2 : Hid (Blk K2 nb 51 [.int .i64 0, .int .i64 0, .int .i64 0, .slice none 0 0]) := Lib.hid (by rw [← hW2, ← hnb.out]; exact Blk.new _ 51 #[.int .i64 0, .int .i64 0, .int .i64 0, .slice none 0 0])
    have Hnb : Hid (w5.heap.size ≤ nb) := Lib.hid (by rw [← hnb.out]; exact HB1.out.size)
    have HO2 := Lib.hid (HO1.out.grown hb)
    have HB2 := Lib.hid (HB1.out.trans (hb.mono HB1.out.size))
    have HS2 : Hid (K2.cell? ⟨bx, 0, none⟩ = some (.slice xta T xtc) ∧ K2.cell? ⟨bx, 1, none⟩ = some (.slice xna N xnc) ∧ K2.cell? ⟨bx, 2, none⟩ = some (.slice xaa L xac)) := Lib.hid (⟨(HA5.out.below HB2.out HA5.out.lt).cell 0, (HA5.out.below HB2.out HA5.out.lt).cell 1, (HA5.out.below HB2.out HA5.out.lt).cell 2⟩)
    clear hW2 hb hnb
    refine hK.out _ _ ?_ (fun hHeld => ?_)
    ·exact HS2.out
    clear hK K
    try simp only [Act.put, List.setIfInBounds_toArray, List.set_cons_zero, List.set_cons_succ]
    refine wpAnyH_ready (rs := [4]) (by kernel_rfl) (by simp) ?_
    refine AllReadyH.cons (iatLS (iatSS (iatSS (iatSS (iatSS iatZS))))) (fun K hK => ?_) AllReadyH.nil
    go_simp
    (with_reducible refine (Hp1.out K2 (Hq5.out.trans (HB2.out.mono Hq5.out.size)) za zc HO2.out).mono ?_)
    intro e9 K3 hT
    have hb := hT.1
    obtain ⟨tk, ti, ta, tga, tn, tgc, p, x, rfl, hX⟩ := tre_box hT
    have HX := Lib.hid hX
    clear hT hX
    have HO3 := Lib.hid (HO2.out.grown hb)
    have HB3 := Lib.hid (HB2.out.trans (hb.mono HB2.out.size))
    have HN3 := Lib.hid (HN2.out.below hb HN2.out.lt)
    have HC3 := Lib.hid (Below.refl K3.heap.size K3)
    have Hnc : Hid (nb < K2.heap.size ∨ K3.heap.size ≤ nb) := Lib.hid (.inl HN2.out.lt)
    have HS3 : Hid (K3.cell? ⟨bx, 0, none⟩ = some (.slice xta T xtc) ∧ K3.cell? ⟨bx, 1, none⟩ = some (.slice xna N xnc) ∧ K3.cell? ⟨bx, 2, none⟩ = some (.slice xaa L xac)) := Lib.hid (⟨(HA5.out.below HB3.out HA5.out.lt).cell 0, (HA5.out.below HB3.out HA5.out.lt).cell 1, (HA5.out.below HB3.out HA5.out.lt).cell 2⟩)
    clear hb
    try dsimp only
    refine hK.out _ _ ?_ (fun hHeld => ?_)
    ·exact HS3.out
    clear hK K
    try simp only [Act.put, List.setIfInBounds_toArray, List.set_cons_zero, List.set_cons_succ]
    refine wpAnyH_take (i := 5) (v := ?_) (iatLS (iatSS (iatSS (iatSS (iatSS (iatSS iatZS)))))) (by kernel_rfl) (by kernel_rfl) (by kernel_rfl) (fun _ _ _ h => h) (Or.inl ⟨by rfl, ?_⟩) (by assumption) ?_
    rotate_left
    ·intro w hSw
     try dsimp only at hSw
     go_simp
     all_goals with_reducible rfl
    try simp only [Act.put, List.setIfInBounds_toArray, List.set_cons_zero, List.set_cons_succ]
    refine wpAnyH_take (i := 6) (v := ?_) (iatLS (iatSS (iatSS (iatSS (iatSS (iatSS (iatSS iatZS))))))) (by kernel_rfl) (by kernel_rfl) (by kernel_rfl) (fun _ _ _ h => h) (Or.inl ⟨by rfl, ?_⟩) (by assumption) ?_
    rotate_left
    ·intro w hSw
     try dsimp only at hSw
     go_simp
     all_goals with_reducible rfl
    try simp only [Act.put, List.setIfInBounds_toArray, List.set_cons_zero, List.set_cons_succ]
    refine wpAnyH_take (i := 7) (v := ?_) (iatLS (iatSS (iatSS (iatSS (iatSS (iatSS (iatSS (iatSS iatZS)))))))) (by kernel_rfl) (by kernel_rfl) (by kernel_rfl) (fun _ _ _ h => h) (Or.inl ⟨by rfl, ?_⟩) (by assumption) ?_
    rotate_left
    ·intro w hSw
     try dsimp only at hSw
     go_simp
     all_goals with_reducible rfl
    try simp only [Act.put, List.setIfInBounds_toArray, List.set_cons_zero, List.set_cons_succ]
    refine wpAnyH_take (i := 8) (v := ?_) (iatLS (iatSS (iatSS (iatSS (iatSS (iatSS (iatSS (iatSS (iatSS iatZS))))))))) (by kernel_rfl) (by kernel_rfl) (by kernel_rfl) (fun _ _ _ h => h) (Or.inl ⟨by rfl, ?_⟩) (by assumption) ?_
    rotate_left
    ·intro w hSw
     try dsimp only at hSw
     go_simp
     all_goals with_reducible rfl
    try simp only [Act.put, List.setIfInBounds_toArray, List.set_cons_zero, List.set_cons_succ]
    refine wpAnyH_ready (rs := [10]) (by kernel_rfl) (by simp) ?_
    refine AllReadyH.cons (iatLS (iatSS (iatSS (iatSS (iatSS (iatSS (iatSS (iatSS (iatSS (iatSS (iatSS iatZS))))))))))) (fun K hK => ?_) AllReadyH.nil
    have n0 := HN3.out.cell 0
    have n1 := HN3.out.cell 1
    have n2 := HN3.out.cell 2
    have n3 := HN3.out.cell 3
    have f0 := HN3.out.frozen 0
    have f1 := HN3.out.frozen 1
    have f2 := HN3.out.frozen 2
    have f3 := HN3.out.frozen 3
    have nl := HN3.out.lt
    simp only [List.getElem?_cons_zero, List.getElem?_cons_succ] at n0 n1 n2 n3
    go_simp
    have HF := HX.out.1 K3 nb HC3.out Hnc.out HN3.out
    have hb9 := Below.put4 HB3.out Hnb.out (.int .i64 tk) (.int .i64 ti) (.int .i64 ta) (.slice tga tn tgc)
    generalize World.setCell _ _ _ = K4 at HF hb9 ⊢
    have HF := Lib.hid HF
    have HB4 := Lib.hid hb9
    have HS4 : Hid (K4.cell? ⟨bx, 0, none⟩ = some (.slice xta T xtc) ∧ K4.cell? ⟨bx, 1, none⟩ = some (.slice xna N xnc) ∧ K4.cell? ⟨bx, 2, none⟩ = some (.slice xaa L xac)) := Lib.hid (⟨(HA5.out.below HB4.out HA5.out.lt).cell 0, (HA5.out.below HB4.out HA5.out.lt).cell 1, (HA5.out.below HB4.out HA5.out.lt).cell 2⟩)
    clear hb9 n0 n1 n2 n3 f0 f1 f2 f3 nl
    refine hK.out _ _ ?_ (fun hHeld => ?_)
    ·exact HS4.out
    clear hK K
    try simp only [Act.put, List.setIfInBounds_toArray, List.set_cons_zero, List.set_cons_succ]
    refine wpAnyH_take (i := 11) (v := ?_) (iatLS (iatSS (iatSS (iatSS (iatSS (iatSS (iatSS (iatSS (iatSS (iatSS (iatSS (iatSS iatZS)))))))))))) (by kernel_rfl) (by kernel_rfl) (by kernel_rfl) (fun _ _ _ h => h) (Or.inl ⟨by rfl, ?_⟩) (by assumption) ?_
    rotate_left
    ·intro w hSw
     try dsimp only at hSw
     go_simp
     all_goals with_reducible rfl
    try simp only [Act.put, List.setIfInBounds_toArray, List.set_cons_zero, List.set_cons_succ]
    refine wpAnyH_take (i := 12) (v := ?_) (iatLS (iatSS (iatSS (iatSS (iatSS (iatSS (iatSS (iatSS (iatSS (iatSS (iatSS (iatSS (iatSS iatZS))))))))))))) (by kernel_rfl) (by kernel_rfl) (by kernel_rfl) (fun _ _ _ h => h) (Or.inl ⟨by rfl, ?_⟩) (by assumption) ?_
    rotate_left
    ·intro w hSw
     try dsimp only at hSw
     go_simp
     all_goals with_reducible rfl
    try simp only [Act.put, List.setIfInBounds_toArray, List.set_cons_zero, List.set_cons_succ]
    refine wpAnyH_done (by kernel_rfl) ?_ _
    go_wp2_with (fail)
    go_meet
    exact ⟨nb, p, x, rfl, rfl, rfl, Lib.hid ⟨HB4.out, HF.out⟩⟩
  ·
   go_simp
   obtain ⟨nb, hnb⟩ : ∃ q, Hid (K0.heap.size = q) := ⟨_, Lib.hid rfl⟩
   rw [hnb.out]
   generalize hW1 : World.alloc K0 _ = K1
   have hb : Below K0.heap.size K0 K1 := by rw [← hW1]; exact (Below.refl _ _).alloc (Nat.le_refl _) _
   have HN1 : Hid (Blk K1 nb 51 [.int .i64 0, .int .i64 0, .int .i64 0, .slice none 0 0]) := Lib.hid (by rw [← hW1, ← hnb.out]; exact Blk.new _ 51 #[.int .i64 0, .int .i64 0, .int .i64 0, .slice none 0 0])
   have Hnb : Hid (w5.heap.size ≤ nb) := Lib.hid (by rw [← hnb.out]; exact HB0.out.size)
   have HB1 := Lib.hid (HB0.out.trans (hb.mono HB0.out.size))
   have HS1 : Hid (K1.cell? ⟨bx, 0, none⟩ = some (.slice xta T xtc) ∧ K1.cell? ⟨bx, 1, none⟩ = some (.slice xna N xnc) ∧ K1.cell? ⟨bx, 2, none⟩ = some (.slice xaa L xac)) := Lib.hid (⟨(HA5.out.below HB1.out HA5.out.lt).cell 0, (HA5.out.below HB1.out HA5.out.lt).cell 1, (HA5.out.below HB1.out HA5.out.lt).cell 2⟩)
   clear hW1 hb hnb
   refine hK.out _ _ ?_ (fun hHeld => ?_)
   ·exact HS1.out
   clear hK K
   try simp only [Act.put, List.setIfInBounds_toArray, List.set_cons_zero, List.set_cons_succ]
   refine wpAnyH_ready (rs := [3]) (by kernel_rfl) (by simp) ?_
   refine AllReadyH.cons (iatLS (iatSS (iatSS (iatSS iatZS)))) (fun K hK => ?_) AllReadyH.nil
   obtain ⟨za, zc, K2, hrun, how, hb⟩ := (OwnKZ.nil K1 K1.heap.size).app ka kc toks (Hk3.out.grown (Hq5.out.trans (HB1.out.mono Hq5.out.size))) 35 (by show 0 + toks.length ≤ _; rw [HK.out]; omega) (Nat.le_refl _)
   rw [show ([] : List Int).length = 0 from rfl, HK.out] at hrun
   rw [List.nil_append] at how
   have HO2 : Hid (Ints K2 za zc toks) := Lib.hid (OwnKZ.vs how)
   refine step_append_run rfl _ _ 35 35 rfl _ _ _ _ rfl rfl hrun ?_
   have HB2 := Lib.hid (HB1.out.trans (hb.mono HB1.out.size))
   have HN2 := Lib.hid (HN1.out.below hb HN1.out.lt)
   have HS2 : Hid (K2.cell? ⟨bx, 0, none⟩ = some (.slice xta T xtc) ∧ K2.cell? ⟨bx, 1, none⟩ = some (.slice xna N xnc) ∧ K2.cell? ⟨bx, 2, none⟩ = some (.slice xaa L xac)) := Lib.hid (⟨(HA5.out.below HB2.out HA5.out.lt).cell 0, (HA5.out.below HB2.out HA5.out.lt).cell 1, (HA5.out.below HB2.out HA5.out.lt).cell 2⟩)
   clear hb
   try dsimp only
   refine hK.out _ _ ?_ (fun hHeld => ?_)
   ·exact HS2.out
   clear hK K
   try simp only [Act.put, List.setIfInBounds_toArray, List.set_cons_zero, List.set_cons_succ]
   refine wpAnyH_ready (rs := [4]) (by kernel_rfl) (by simp) ?_
   refine AllReadyH.cons (iatLS (iatSS (iatSS (iatSS (iatSS iatZS))))) (fun K hK => ?_) AllReadyH.nil
   go_simp
   (with_reducible refine (Hp1.out K2 (Hq5.out.trans (HB2.out.mono Hq5.out.size)) za zc HO2.out).mono ?_)
   intro e9 K3 hT
   have hb := hT.1
   obtain ⟨tk, ti, ta, tga, tn, tgc, p, x, rfl, hX⟩ := tre_box hT
   have HX := Lib.hid hX
   clear hT hX
   have HO3 := Lib.hid (HO2.out.grown hb)
   have HB3 := Lib.hid (HB2.out.trans (hb.mono HB2.out.size))
   have HN3 := Lib.hid (HN2.out.below hb HN2.out.lt)
   have HC3 := Lib.hid (Below.refl K3.heap.size K3)
   have Hnc : Hid (nb < K2.heap.size ∨ K3.heap.size ≤ nb) := Lib.hid (.inl HN2.out.lt)
   have HS3 : Hid (K3.cell? ⟨bx, 0, none⟩ = some (.slice xta T xtc) ∧ K3.cell? ⟨bx, 1, none⟩ = some (.slice xna N xnc) ∧ K3.cell? ⟨bx, 2, none⟩ = some (.slice xaa L xac)) := Lib.hid (⟨(HA5.out.below HB3.out HA5.out.lt).cell 0, (HA5.out.below HB3.out HA5.out.lt).cell 1, (HA5.out.below HB3.out HA5.out.lt).cell 2⟩)
   clear hb
   try dsimp only
   refine hK.out _ _ ?_ (fun hHeld => ?_)
   ·exact HS3.out
   clear hK K
   try simp only [Act.put, List.setIfInBounds_toArray, List.set_cons_zero, List.set_cons_succ]
   refine wpAnyH_take (i := 5) (v := ?_) (iatLS (iatSS (iatSS (iatSS (iatSS (iatSS iatZS)))))) (by kernel_rfl) (by kernel_rfl) (by kernel_rfl) (fun _ _ _ h => h) (Or.inl ⟨by rfl, ?_⟩) (by assumption) ?_
   rotate_left
   ·intro w hSw
    try dsimp only at hSw
    go_simp
    all_goals with_reducible rfl
   try simp only [Act.put, List.setIfInBounds_toArray, List.set_cons_zero, List.set_cons_succ]
   refine wpAnyH_take (i := 6) (v := ?_) (iatLS (iatSS (iatSS (iatSS (iatSS (iatSS (iatSS iatZS))))))) (by kernel_rfl) (by kernel_rfl) (by kernel_rfl) (fun _ _ _ h => h) (Or.inl ⟨by rfl, ?_⟩) (by assumption) ?_
   rotate_left
   ·intro w hSw
    try dsimp only at hSw
    go_simp
    all_goals with_reducible rfl
   try simp only [Act.put, List.setIfInBounds_toArray, List.set_cons_zero, List.set_cons_succ]
   refine wpAnyH_take (i := 7) (v := ?_) (iatLS (iatSS (iatSS (iatSS (iatSS (iatSS (iatSS (iatSS iatZS)))))))) (by kernel_rfl) (by kernel_rfl) (by kernel_rfl) (fun _ _ _ h => h) (Or.inl ⟨by rfl, ?_⟩) (by assumption) ?_
   rotate_left
   ·intro w hSw
    try dsimp only at hSw
    go_simp
    all_goals with_reducible rfl
   try simp only [Act.put, List.setIfInBounds_toArray, List.set_cons_zero, List.set_cons_succ]
   refine wpAnyH_take (i := 8) (v := ?_) (iatLS (iatSS (iatSS (iatSS (iatSS (iatSS (iatSS (iatSS (iatSS iatZS))))))))) (by kernel_rfl) (by kernel_rfl) (by kernel_rfl) (fun _ _ _ h => h) (Or.inl ⟨by rfl, ?_⟩) (by assumption) ?_
   rotate_left
   ·intro w hSw
    try dsimp only at hSw
    go_simp
    all_goals with_reducible rfl
   try simp only [Act.put, List.setIfInBounds_toArray, List.set_cons_zero, List.set_cons_succ]
   refine wpAnyH_ready (rs := [10]) (by kernel_rfl) (by simp) ?_
   refine AllReadyH.cons (iatLS (iatSS (iatSS (iatSS (iatSS (iatSS (iatSS (iatSS (iatSS (iatSS (iatSS iatZS))))))))))) (fun K hK => ?_) AllReadyH.nil
   have n0 := HN3.out.cell 0
   have n1 := HN3.out.cell 1
   have n2 := HN3.out.cell 2
   have n3 := HN3.out.cell 3
   have f0 := HN3.out.frozen 0
   have f1 := HN3.out.frozen 1
   have f2 := HN3.out.frozen 2
   have f3 := HN3.out.frozen 3
   have nl := HN3.out.lt
   simp only [List.getElem?_cons_zero, List.getElem?_cons_succ] at n0 n1 n2 n3
   go_simp
   have HF := HX.out.1 K3 nb HC3.out Hnc.out HN3.out
   have hb9 := Below.put4 HB3.out Hnb.out (.int .i64 tk) (.int .i64 ti) (.int .i64 ta) (.slice tga tn tgc)
   generalize World.setCell _ _ _ = K4 at HF hb9 ⊢
   have HF := Lib.hid HF
   have HB4 := Lib.hid hb9
   have HS4 : Hid (K4.cell? ⟨bx, 0, none⟩ = some (.slice xta T xtc) ∧ K4.cell? ⟨bx, 1, none⟩ = some (.slice xna N xnc) ∧ K4.cell? ⟨bx, 2, none⟩ = some (.slice xaa L xac)) := Lib.hid (⟨(HA5.out.below HB4.out HA5.out.lt).cell 0, (HA5.out.below HB4.out HA5.out.lt).cell 1, (HA5.out.below HB4.out HA5.out.lt).cell 2⟩)
   clear hb9 n0 n1 n2 n3 f0 f1 f2 f3 nl
   refine hK.out _ _ ?_ (fun hHeld => ?_)
   ·exact HS4.out
   clear hK K
   try simp only [Act.put, List.setIfInBounds_toArray, List.set_cons_zero, List.set_cons_succ]
   refine wpAnyH_take (i := 11) (v := ?_) (iatLS (iatSS (iatSS (iatSS (iatSS (iatSS (iatSS (iatSS (iatSS (iatSS (iatSS (iatSS iatZS)))))))))))) (by kernel_rfl) (by kernel_rfl) (by kernel_rfl) (fun _ _ _ h => h) (Or.inl ⟨by rfl, ?_⟩) (by assumption) ?_
   rotate_left
   ·intro w hSw
    try dsimp only at hSw
    go_simp
    all_goals with_reducible rfl
   try simp only [Act.put, List.setIfInBounds_toArray, List.set_cons_zero, List.set_cons_succ]
   refine wpAnyH_take (i := 12) (v := ?_) (iatLS (iatSS (iatSS (iatSS (iatSS (iatSS (iatSS (iatSS (iatSS (iatSS (iatSS (iatSS (iatSS iatZS))))))))))))) (by kernel_rfl) (by kernel_rfl) (by kernel_rfl) (fun _ _ _ h => h) (Or.inl ⟨by rfl, ?_⟩) (by assumption) ?_
   rotate_left
   ·intro w hSw
    try dsimp only at hSw
    go_simp
    all_goals with_reducible rfl
   try simp only [Act.put, List.setIfInBounds_toArray, List.set_cons_zero, List.set_cons_succ]
   refine wpAnyH_done (by kernel_rfl) ?_ _
   go_wp2_with (fail)
   go_meet
   exact ⟨nb, p, x, rfl, rfl, rfl, Lib.hid ⟨HB4.out, HF.out⟩⟩
 case rest =>
 obtain ⟨nb2, p2, y2, rfl, rfl, rfl, hcut⟩ := hcut
 obtain ⟨hb, hN⟩ := hcut.out
 have HA6 := Lib.hid (HA5.out.below hb HA5.out.lt)
 have Hb6 := Lib.hid (Hb5.out.trans (hb.mono Hb5.out.size))
 have Hq6 := Lib.hid (Hq5.out.trans (hb.mono Hq5.out.size))
 have HB1b := Lib.hid (HB1.out.grown hb)
 have HB2 := Lib.hid hN
 clear hb hN hcut HB1
 have hnn : (0 : Int) ≤ (i : Int) ∧ (i : Int) ≤ (KL : Int) ∧ (i : Int) ≤ (kc : Int) := ⟨by omega, by omega, by omega⟩
 go_upto_region 8 with fail
 go_cut [17, 18, 19] from 20 (fun v14 v15 v16 wd => ∃ (nb : Nat) (p x : Int), v14 = .pointer (some ⟨nb, 0, none⟩) ∧ v15 = .int .i64 p ∧ v16 = .int .i64 x ∧ Hid (Below wc.heap.size wc wd ∧ BoxR wd r3 nb p x))
 case first =>
  have HB0 := Lib.hid ((Below.refl wc.heap.size wc).drew)
  have HS0 : Hid ((wc.drew).cell? ⟨bx, 0, none⟩ = some (.slice xta T xtc) ∧ (wc.drew).cell? ⟨bx, 1, none⟩ = some (.slice xna N xnc) ∧ (wc.drew).cell? ⟨bx, 2, none⟩ = some (.slice xaa L xac)) := Lib.hid (⟨(HA6.out.below HB0.out HA6.out.lt).cell 0, (HA6.out.below HB0.out HA6.out.lt).cell 1, (HA6.out.below HB0.out HA6.out.lt).cell 2⟩)
  refine wp_region_held_drew (S := fun w' => w'.cell? ⟨bx, 0, none⟩ = some (.slice xta T xtc) ∧ w'.cell? ⟨bx, 1, none⟩ = some (.slice xna N xnc) ∧ w'.cell? ⟨bx, 2, none⟩ = some (.slice xaa L xac)) (by kernel_rfl) ?_ (fun hHeld => ?_)
  ·exact HS0.out
  generalize World.drew wc = J0 at HB0 HS0 hHeld ⊢
  refine wpAnyH_take (i := 0) (v := ?_) (iatLS iatZS) (by kernel_rfl) (by kernel_rfl) (by kernel_rfl) (fun _ _ _ h => h) (Or.inl ⟨by rfl, ?_⟩) (by assumption) ?_
  rotate_left
  ·intro w hSw
   try dsimp only at hSw
   go_simp
   all_goals with_reducible rfl
  try simp only [Act.put, List.setIfInBounds_toArray, List.set_cons_zero, List.set_cons_succ]
  refine wpAnyH_take (i := 1) (v := ?_) (iatLS (iatSS iatZS)) (by kernel_rfl) (by kernel_rfl) (by kernel_rfl) (fun _ _ _ h => h) (Or.inl ⟨by rfl, ?_⟩) (by assumption) ?_
  rotate_left
  ·intro w hSw
   try dsimp only at hSw
   go_simp
   all_goals with_reducible rfl
  try simp only [Act.put, List.setIfInBounds_toArray, List.set_cons_zero, List.set_cons_succ]
  refine wpAnyH_take (i := 2) (v := ?_) (iatLS (iatSS (iatSS iatZS))) (by kernel_rfl) (by kernel_rfl) (by kernel_rfl) (fun _ _ _ h => h) (Or.inl ⟨by rfl, ?_⟩) (by assumption) ?_
  rotate_left
  ·intro w hSw
   try dsimp only at hSw
   go_simp
   all_goals with_reducible rfl
  try simp only [Act.put, List.setIfInBounds_toArray, List.set_cons_zero, List.set_cons_succ]
  refine wpAnyH_take (i := 3) (v := ?_) (iatLS (iatSS (iatSS (iatSS iatZS)))) (by kernel_rfl) (by kernel_rfl) (by kernel_rfl) (fun _ _ _ h => h) (Or.inl ⟨by rfl, ?_⟩) (by assumption) ?_
  rotate_left
  ·intro w hSw
   try dsimp only at hSw
   go_simp
   all_goals with_reducible rfl
  try simp only [Act.put, List.setIfInBounds_toArray, List.set_cons_zero, List.set_cons_succ]
  refine wpAnyH_take (i := 4) (v := ?_) (iatLS (iatSS (iatSS (iatSS (iatSS iatZS))))) (by kernel_rfl) (by kernel_rfl) (by kernel_rfl) (fun _ _ _ h => h) (Or.inl ⟨by rfl, ?_⟩) (by assumption) ?_
  rotate_left
  ·intro w hSw
   try dsimp only at hSw
   go_simp
   all_goals with_reducible rfl
  try simp only [Act.put, List.setIfInBounds_toArray, List.set_cons_zero, List.set_cons_succ]
  refine wpAnyH_ready (rs := [5, 10]) (by kernel_rfl) (by simp) ?_
  refine AllReadyH.cons (iatLS (iatSS (iatSS (iatSS (iatSS (iatSS iatZS)))))) (fun K hK => ?_) (AllReadyH.cons (iatLS (iatSS (iatSS (iatSS (iatSS (iatSS (iatSS (iatSS (iatSS (iatSS (iatSS iatZS))))))))))) (fun K hK => ?_) (AllReadyH.nil))
  ·
   go_simp
   (with_reducible refine (Hp3.out J0 (Hq6.out.trans (HB0.out.mono Hq6.out.size)) _ _ ((ints_take Hk3.out i (by rw [HK.out]; omega)).grown (Hq6.out.trans (HB0.out.mono Hq6.out.size)))).mono ?_)
   intro e9 J1 hT
   have hb := hT.1
   obtain ⟨tk, ti, ta, tga, tn, tgc, p, x, rfl, hX⟩ := tre_box hT
   have HX := Lib.hid hX
   clear hT hX
   have HB1 := Lib.hid (HB0.out.trans (hb.mono HB0.out.size))
   have HC1 := Lib.hid (Below.refl J1.heap.size J1)
   have HS1 : Hid (J1.cell? ⟨bx, 0, none⟩ = some (.slice xta T xtc) ∧ J1.cell? ⟨bx, 1, none⟩ = some (.slice xna N xnc) ∧ J1.cell? ⟨bx, 2, none⟩ = some (.slice xaa L xac)) := Lib.hid (⟨(HA6.out.below HB1.out HA6.out.lt).cell 0, (HA6.out.below HB1.out HA6.out.lt).cell 1, (HA6.out.below HB1.out HA6.out.lt).cell 2⟩)
   clear hb
   try dsimp only
   refine hK.out _ _ ?_ (fun hHeld => ?_)
   ·exact HS1.out
   clear hK K
   try simp only [Act.put, List.setIfInBounds_toArray, List.set_cons_zero, List.set_cons_succ]
   refine wpAnyH_take (i := 6) (v := ?_) (iatLS (iatSS (iatSS (iatSS (iatSS (iatSS (iatSS iatZS))))))) (by kernel_rfl) (by kernel_rfl) (by kernel_rfl) (fun _ _ _ h => h) (Or.inl ⟨by rfl, ?_⟩) (by assumption) ?_
   rotate_left
   ·intro w hSw
    try dsimp only at hSw
    go_simp
    all_goals with_reducible rfl
   try simp only [Act.put, List.setIfInBounds_toArray, List.set_cons_zero, List.set_cons_succ]
   refine wpAnyH_take (i := 7) (v := ?_) (iatLS (iatSS (iatSS (iatSS (iatSS (iatSS (iatSS (iatSS iatZS)))))))) (by kernel_rfl) (by kernel_rfl) (by kernel_rfl) (fun _ _ _ h => h) (Or.inl ⟨by rfl, ?_⟩) (by assumption) ?_
   rotate_left
   ·intro w hSw
    try dsimp only at hSw
    go_simp
    all_goals with_reducible rfl
   try simp only [Act.put, List.setIfInBounds_toArray, List.set_cons_zero, List.set_cons_succ]
   refine wpAnyH_take (i := 8) (v := ?_) (iatLS (iatSS (iatSS (iatSS (iatSS (iatSS (iatSS (iatSS (iatSS iatZS))))))))) (by kernel_rfl) (by kernel_rfl) (by kernel_rfl) (fun _ _ _ h => h) (Or.inl ⟨by rfl, ?_⟩) (by assumption) ?_
   rotate_left
   ·intro w hSw
    try dsimp only at hSw
    go_simp
    all_goals with_reducible rfl
   try simp only [Act.put, List.setIfInBounds_toArray, List.set_cons_zero, List.set_cons_succ]
   refine wpAnyH_take (i := 9) (v := ?_) (iatLS (iatSS (iatSS (iatSS (iatSS (iatSS (iatSS (iatSS (iatSS (iatSS iatZS)))))))))) (by kernel_rfl) (by kernel_rfl) (by kernel_rfl) (fun _ _ _ h => h) (Or.inl ⟨by rfl, ?_⟩) (by assumption) ?_
   rotate_left
   ·intro w hSw
    try dsimp only at hSw
    go_simp
    all_goals with_reducible rfl
   try simp only [Act.put, List.setIfInBounds_toArray, List.set_cons_zero, List.set_cons_succ]
   refine wpAnyH_ready (rs := [10]) (by kernel_rfl) (by simp) ?_
   refine AllReadyH.cons (iatLS (iatSS (iatSS (iatSS (iatSS (iatSS (iatSS (iatSS (iatSS (iatSS (iatSS iatZS))))))))))) (fun K hK => ?_) AllReadyH.nil
   go_simp
   obtain ⟨nb, hnb⟩ : ∃ q, Hid (J1.heap.size = q) := ⟨_, Lib.hid rfl⟩
   rw [hnb.out]
   generalize hW2 : World.alloc J1 _ = J2
   have hb : Below J1.heap.size J1 J2 := by rw [← hW2]; exact (Below.refl _ _).alloc (Nat.le_refl _) _
   have HN2 : Hid (Blk J2 nb 51 [.int .i64 0, .int .i64 0, .int .i64 0, .slice none 0 0]) := Lib.hid (by rw [← hW2, ← hnb.out]; exact Blk.new _ 51 #[.int .i64 0, .int .i64 0, .int .i64 0, .slice none 0 0])
   have Hnb : Hid (wc.heap.size ≤ nb) := Lib.hid (by rw [← hnb.out]; exact HB1.out.size)
   have HB2 := Lib.hid (HB1.out.trans (hb.mono HB1.out.size))
   have HC2 := Lib.hid (HC1.out.trans (hb.mono HC1.out.size))
   have Hnc : Hid (nb < J0.heap.size ∨ J1.heap.size ≤ nb) := Lib.hid (.inr (Nat.le_trans HC1.out.size (Nat.le_of_eq hnb.out)))
   have HS2 : Hid (J2.cell? ⟨bx, 0, none⟩ = some (.slice xta T xtc) ∧ J2.cell? ⟨bx, 1, none⟩ = some (.slice xna N xnc) ∧ J2.cell? ⟨bx, 2, none⟩ = some (.slice xaa L xac)) := Lib.hid (⟨(HA6.out.below HB2.out HA6.out.lt).cell 0, (HA6.out.below HB2.out HA6.out.lt).cell 1, (HA6.out.below HB2.out HA6.out.lt).cell 2⟩)
   clear hW2 hb hnb
   refine hK.out _ _ ?_ (fun hHeld => ?_)
   ·exact HS2.out
   clear hK K
   try simp only [Act.put, List.setIfInBounds_toArray, List.set_cons_zero, List.set_cons_succ]
   refine wpAnyH_ready (rs := [11]) (by kernel_rfl) (by simp) ?_
   refine AllReadyH.cons (iatLS (iatSS (iatSS (iatSS (iatSS (iatSS (iatSS (iatSS (iatSS (iatSS (iatSS (iatSS iatZS)))))))))))) (fun K hK => ?_) AllReadyH.nil
   have n0 := HN2.out.cell 0
   have n1 := HN2.out.cell 1
   have n2 := HN2.out.cell 2
   have n3 := HN2.out.cell 3
   have f0 := HN2.out.frozen 0
   have f1 := HN2.out.frozen 1
   have f2 := HN2.out.frozen 2
   have f3 := HN2.out.frozen 3
   have nl := HN2.out.lt
   simp only [List.getElem?_cons_zero, List.getElem?_cons_succ] at n0 n1 n2 n3
   go_simp
   have HF := HX.out.1 J2 nb HC2.out Hnc.out HN2.out
   have hb9 := Below.put4 HB2.out Hnb.out (.int .i64 tk) (.int .i64 ti) (.int .i64 ta) (.slice tga tn tgc)
   generalize World.setCell _ _ _ = J3 at HF hb9 ⊢
   have HF := Lib.hid HF
   have HB3 := Lib.hid hb9
   have HS3 : Hid (J3.cell? ⟨bx, 0, none⟩ = some (.slice xta T xtc) ∧ J3.cell? ⟨bx, 1, none⟩ = some (.slice xna N xnc) ∧ J3.cell? ⟨bx, 2, none⟩ = some (.slice xaa L xac)) := Lib.hid (⟨(HA6.out.below HB3.out HA6.out.lt).cell 0, (HA6.out.below HB3.out HA6.out.lt).cell 1, (HA6.out.below HB3.out HA6.out.lt).cell 2⟩)
   clear hb9 n0 n1 n2 n3 f0 f1 f2 f3 nl
   refine hK.out _ _ ?_ (fun hHeld => ?_)
   ·exact HS3.out
   clear hK K
   try simp only [Act.put, List.setIfInBounds_toArray, List.set_cons_zero, List.set_cons_succ]
   refine wpAnyH_take (i := 12) (v := ?_) (iatLS (iatSS (iatSS (iatSS (iatSS (iatSS (iatSS (iatSS (iatSS (iatSS (iatSS (iatSS (iatSS iatZS))))))))))))) (by kernel_rfl) (by kernel_rfl) (by kernel_rfl) (fun _ _ _ h => h) (Or.inl ⟨by rfl, ?_⟩) (by assumption) ?_
   rotate_left
   ·intro w hSw
    try dsimp only at hSw
    go_simp
    all_goals with_reducible rfl
   try simp only [Act.put, List.setIfInBounds_toArray, List.set_cons_zero, List.set_cons_succ]
   refine wpAnyH_take (i := 13) (v := ?_) (iatLS (iatSS (iatSS (iatSS (iatSS (iatSS (iatSS (iatSS (iatSS (iatSS (iatSS (iatSS (iatSS (iatSS iatZS)))))))))))))) (by kernel_rfl) (by kernel_rfl) (by kernel_rfl) (fun _ _ _ h => h) (Or.inl ⟨by rfl, ?_⟩) (by assumption) ?_
   rotate_left
   ·intro w hSw
    try dsimp only at hSw
    go_simp
    all_goals with_reducible rfl
   try simp only [Act.put, List.setIfInBounds_toArray, List.set_cons_zero, List.set_cons_succ]
   refine wpAnyH_done (by kernel_rfl) ?_ _
   go_wp2_with (fail)
   go_meet
   exact ⟨nb, p, x, rfl, rfl, rfl, Lib.hid ⟨HB3.out, HF.out⟩⟩
  ·
   go_simp
   obtain ⟨nb, hnb⟩ : ∃ q, Hid (J0.heap.size = q) := ⟨_, Lib.hid rfl⟩
   rw [hnb.out]
   generalize hW1 : World.alloc J0 _ = J1
   have hb : Below J0.heap.size J0 J1 := by rw [← hW1]; exact (Below.refl _ _).alloc (Nat.le_refl _) _
   have HN1 : Hid (Blk J1 nb 51 [.int .i64 0, .int .i64 0, .int .i64 0, .slice none 0 0]) := Lib.hid (by rw [← hW1, ← hnb.out]; exact Blk.new _ 51 #[.int .i64 0, .int .i64 0, .int .i64 0, .slice none 0 0])
   have Hnb : Hid (wc.heap.size ≤ nb) := Lib.hid (by rw [← hnb.out]; exact HB0.out.size)
   have HB1 := Lib.hid (HB0.out.trans (hb.mono HB0.out.size))
   have HS1 : Hid (J1.cell? ⟨bx, 0, none⟩ = some (.slice xta T xtc) ∧ J1.cell? ⟨bx, 1, none⟩ = some (.slice xna N xnc) ∧ J1.cell? ⟨bx, 2, none⟩ = some (.slice xaa L xac)) := Lib.hid (⟨(HA6.out.below HB1.out HA6.out.lt).cell 0, (HA6.out.below HB1.out HA6.out.lt).cell 1, (HA6.out.below HB1.out HA6.out.lt).cell 2⟩)
   clear hW1 hb hnb
   refine hK.out _ _ ?_ (fun hHeld => ?_)
   ·exact HS1.out
   clear hK K
   try simp only [Act.put, List.setIfInBounds_toArray, List.set_cons_zero, List.set_cons_succ]
   refine wpAnyH_ready (rs := [5]) (by kernel_rfl) (by simp) ?_
   refine AllReadyH.cons (iatLS (iatSS (iatSS (iatSS (iatSS (iatSS iatZS)))))) (fun K hK => ?_) AllReadyH.nil
   go_simp
   (with_reducible refine (Hp3.out J1 (Hq6.out.trans (HB1.out.mono Hq6.out.size)) _ _ ((ints_take Hk3.out i (by rw [HK.out]; omega)).grown (Hq6.out.trans (HB1.out.mono Hq6.out.size)))).mono ?_)
   intro e9 J2 hT
   have hb := hT.1
   obtain ⟨tk, ti, ta, tga, tn, tgc, p, x, rfl, hX⟩ := tre_box hT
   have HX := Lib.hid hX
   clear hT hX
   have HB2 := Lib.hid (HB1.out.trans (hb.mono HB1.out.size))
   have HN2 := Lib.hid (HN1.out.below hb HN1.out.lt)
   have HC2 := Lib.hid (Below.refl J2.heap.size J2)
   have Hnc : Hid (nb < J1.heap.size ∨ J2.heap.size ≤ nb) := Lib.hid (.inl HN1.out.lt)
   have HS2 : Hid (J2.cell? ⟨bx, 0, none⟩ = some (.slice xta T xtc) ∧ J2.cell? ⟨bx, 1, none⟩ = some (.slice xna N xnc) ∧ J2.cell? ⟨bx, 2, none⟩ = some (.slice xaa L xac)) := Lib.hid (⟨(HA6.out.below HB2.out HA6.out.lt).cell 0, (HA6.out.below HB2.out HA6.out.lt).cell 1, (HA6.out.below HB2.out HA6.out.lt).cell 2⟩)
   clear hb
   try dsimp only
   refine hK.out _ _ ?_ (fun hHeld => ?_)
   ·exact HS2.out
   clear hK K
   try simp only [Act.put, List.setIfInBounds_toArray, List.set_cons_zero, List.set_cons_succ]
   refine wpAnyH_take (i := 6) (v := ?_) (iatLS (iatSS (iatSS (iatSS (iatSS (iatSS (iatSS iatZS))))))) (by kernel_rfl) (by kernel_rfl) (by kernel_rfl) (fun _ _ _ h => h) (Or.inl ⟨by rfl, ?_⟩) (by assumption) ?_
   rotate_left
   ·intro w hSw
    try dsimp only at hSw
    go_simp
    all_goals with_reducible rfl
   try simp only [Act.put, List.setIfInBounds_toArray, List.set_cons_zero, List.set_cons_succ]
   refine wpAnyH_take (i := 7) (v := ?_) (iatLS (iatSS (iatSS (iatSS (iatSS (iatSS (iatSS (iatSS iatZS)))))))) (by kernel_rfl) (by kernel_rfl) (by kernel_rfl) (fun _ _ _ h => h) (Or.inl ⟨by rfl, ?_⟩) (by assumption) ?_
   rotate_left
   ·intro w hSw
    try dsimp only at hSw
    go_simp
    all_goals with_reducible rfl
   try simp only [Act.put, List.setIfInBounds_toArray, List.set_cons_zero, List.set_cons_succ]
   refine wpAnyH_take (i := 8) (v := ?_) (iatLS (iatSS (iatSS (iatSS (iatSS (iatSS (iatSS (iatSS (iatSS iatZS))))))))) (by kernel_rfl) (by kernel_rfl) (by kernel_rfl) (fun _ _ _ h => h) (Or.inl ⟨by rfl, ?_⟩) (by assumption) ?_
   rotate_left
   ·intro w hSw
    try dsimp only at hSw
    go_simp
    all_goals with_reducible rfl
   try simp only [Act.put, List.setIfInBounds_toArray, List.set_cons_zero, List.set_cons_succ]
   refine wpAnyH_take (i := 9) (v := ?_) (iatLS (iatSS (iatSS (iatSS (iatSS (iatSS (iatSS (iatSS (iatSS (iatSS iatZS)))))))))) (by kernel_rfl) (by kernel_rfl) (by kernel_rfl) (fun _ _ _ h => h) (Or.inl ⟨by rfl, ?_⟩) (by assumption) ?_
   rotate_left
   ·intro w hSw
    try dsimp only at hSw
    go_simp
    all_goals with_reducible rfl
   try simp only [Act.put, List.setIfInBounds_toArray, List.set_cons_zero, List.set_cons_succ]
   refine wpAnyH_ready (rs := [11]) (by kernel_rfl) (by simp) ?_
   refine AllReadyH.cons (iatLS (iatSS (iatSS (iatSS (iatSS (iatSS (iatSS (iatSS (iatSS (iatSS (iatSS (iatSS iatZS)))))))))))) (fun K hK => ?_) AllReadyH.nil
   have n0 := HN2.out.cell 0
   have n1 := HN2.out.cell 1
   have n2 := HN2.out.cell 2
   have n3 := HN2.out.cell 3
   have f0 := HN2.out.frozen 0
   have f1 := HN2.out.frozen 1
   have f2 := HN2.out.frozen 2
   have f3 := HN2.out.frozen 3
   have nl := HN2.out.lt
   simp only [List.getElem?_cons_zero, List.getElem?_cons_succ] at n0 n1 n2 n3
   go_simp
   have HF := HX.out.1 J2 nb HC2.out Hnc.out HN2.out
   have hb9 := Below.put4 HB2.out Hnb.out (.int .i64 tk) (.int .i64 ti) (.int .i64 ta) (.slice tga tn tgc)
   generalize World.setCell _ _ _ = J3 at HF hb9 ⊢
   have HF := Lib.hid HF
   have HB3 := Lib.hid hb9
   have HS3 : Hid (J3.cell? ⟨bx, 0, none⟩ = some (.slice xta T xtc) ∧ J3.cell? ⟨bx, 1, none⟩ = some (.slice xna N xnc) ∧ J3.cell? ⟨bx, 2, none⟩ = some (.slice xaa L xac)) := Lib.hid (⟨(HA6.out.below HB3.out HA6.out.lt).cell 0, (HA6.out.below HB3.out HA6.out.lt).cell 1, (HA6.out.below HB3.out HA6.out.lt).cell 2⟩)
   clear hb9 n0 n1 n2 n3 f0 f1 f2 f3 nl
   refine hK.out _ _ ?_ (fun hHeld => ?_)
   ·exact HS3.out
   clear hK K
   try simp only [Act.put, List.setIfInBounds_toArray, List.set_cons_zero, List.set_cons_succ]
   refine wpAnyH_take (i := 12) (v := ?_) (iatLS (iatSS (iatSS (iatSS (iatSS (iatSS (iatSS (iatSS (iatSS (iatSS (iatSS (iatSS (iatSS iatZS))))))))))))) (by kernel_rfl) (by kernel_rfl) (by kernel_rfl) (fun _ _ _ h => h) (Or.inl ⟨by rfl, ?_⟩) (by assumption) ?_
   rotate_left
   ·intro w hSw
    try dsimp only at hSw
    go_simp
    all_goals with_reducible rfl
   try simp only [Act.put, List.setIfInBounds_toArray, List.set_cons_zero, List.set_cons_succ]
   refine wpAnyH_take (i := 13) (v := ?_) (iatLS (iatSS (iatSS (iatSS (iatSS (iatSS (iatSS (iatSS (iatSS (iatSS (iatSS (iatSS (iatSS (iatSS iatZS)))))))))))))) (by kernel_rfl) (by kernel_rfl) (by kernel_rfl) (fun _ _ _ h => h) (Or.inl ⟨by rfl, ?_⟩) (by assumption) ?_
   rotate_left
   ·intro w hSw
    try dsimp only at hSw
    go_simp
    all_goals with_reducible rfl
   try simp only [Act.put, List.setIfInBounds_toArray, List.set_cons_zero, List.set_cons_succ]
   refine wpAnyH_done (by kernel_rfl) ?_ _
   go_wp2_with (fail)
   go_meet
   exact ⟨nb, p, x, rfl, rfl, rfl, Lib.hid ⟨HB3.out, HF.out⟩⟩
 case rest =>
 obtain ⟨nb3, p3, y3, rfl, rfl, rfl, hcut⟩ := hcut
 obtain ⟨hb, hN⟩ := hcut.out
 have Hb8 := Lib.hid (Hb6.out.trans (hb.mono Hb6.out.size))
 have h1b := HB1b.out.grown hb
 have hv1 := box_vals h1b
 have hv3 := box_vals hN
 obtain ⟨rfl, rfl, ⟨sk, si, sh⟩, f, sa, sb, sc, sd, hn1, hn2, ht1, ht2⟩ := box_two h1b (HB2.out.grown hb)
 have F3 : y3 = 110 → ¬ (i : Int) < p3 := fun e => by
  cases hr : r3 with
  | bad b y =>
   obtain ⟨e1, e2⟩ := hv3.1 b y hr
   have := Hx3.out b y hr (e2.symm.trans e)
   omega
  | ok t b n =>
   obtain ⟨e1, e2⟩ := hv3.2 t b n hr
   omega
 have F1 : y1 = 110 → p1 < (i : Int) → y3 = 110 ∧ p3 = p1 := fun e hlt => by
  cases hr : r1 with
  | bad b y =>
   obtain ⟨e1, e2⟩ := hv1.1 b y hr
   obtain ⟨e3, e4⟩ := hv3.1 b 110 (Hx1.out b y hr (e2.symm.trans e) (by omega))
   omega
  | ok t b n =>
   obtain ⟨e1, e2⟩ := hv1.2 t b n hr
   omega
 have F1 := Lib.hid F1
 have F3 := Lib.hid F3
 have hsm := refSameT_any (f.size + 1) ⟨sk, si, sh⟩ ⟨sk, si, sh⟩ f f sa sb sc sd wc _ _ (Nat.lt_succ_self _) ht1 ht2
 rw [hdT_self, sameT_self] at hsm
 obtain ⟨sn, hsn⟩ : ∃ q, Hid (f.len = q) := ⟨_, Lib.hid rfl⟩
 rw [hsn.out] at hn1 hn2 hsm
 have Hsm : Hid (Calls Try.prog 43 #[.agg #[.int .i64 sk, .int .i64 si, .int .i64 sh, .slice sa sn sc], .agg #[.int .i64 sk, .int .i64 si, .int .i64 sh, .slice sb sn sd]] wc fun e w' => e = .returned (.bool true) ∧ Below wc.heap.size wc w') := Lib.hid hsm
 have m0 := hn1.cell 0
 have m1 := hn1.cell 1
 have m2 := hn1.cell 2
 have m3 := hn1.cell 3
 have ml := hn1.lt
 have n0 := hn2.cell 0
 have n1 := hn2.cell 1
 have n2 := hn2.cell 2
 have n3 := hn2.cell 3
 have nl := hn2.lt
 simp only [List.getElem?_cons_zero, List.getElem?_cons_succ] at m0 m1 m2 m3 n0 n1 n2 n3
 clear hb hN hcut hv1 hv3 h1b hn1 hn2 ht1 ht2 hsm HB1b HB2 Hx1 Hx3
 by_cases h3 : y3 = 110
 ·subst h3
  have h3p := F3.out rfl
  have h33 : ((110 : Int) == 110) = true := rfl
  by_cases h1 : y1 = 110
  ·subst h1
   have h11 : ((110 : Int) != 110) = false := rfl
   by_cases hlt : (i : Int) ≤ p1
   ·
    go_wp2_with (fail)
    refine Hsm.out.mono ?_
    rintro e9 w9 ⟨rfl, hb⟩
    have HF := Lib.hid (Hb8.out.trans (hb.mono Hb8.out.size))
    clear hb Hsm m0 m1 m2 m3 ml n0 n1 n2 n3 nl
    go_wp2_with (fail)
    exact bodyPost_ret (v := .bool true) (by simp [results, Try.results10, go_sem]; try first | rfl | assumption | omega) rfl ⟨rfl, HF.out⟩
   ·obtain ⟨_, rfl⟩ := F1.out rfl (by omega)
    go_wp2_with (fail)
    refine Hsm.out.mono ?_
    rintro e9 w9 ⟨rfl, hb⟩
    have HF := Lib.hid (Hb8.out.trans (hb.mono Hb8.out.size))
    clear hb Hsm m0 m1 m2 m3 ml n0 n1 n2 n3 nl
    go_wp2_with (fail)
    exact bodyPost_ret (v := .bool true) (by simp [results, Try.results10, go_sem]; try first | rfl | assumption | omega) rfl ⟨rfl, HF.out⟩
  ·have h11 : (y1 != 110) = true := by simp [h1]
   go_wp2_with (fail)
   refine Hsm.out.mono ?_
   rintro e9 w9 ⟨rfl, hb⟩
   have HF := Lib.hid (Hb8.out.trans (hb.mono Hb8.out.size))
   clear hb Hsm m0 m1 m2 m3 ml n0 n1 n2 n3 nl
   go_wp2_with (fail)
   exact bodyPost_ret (v := .bool true) (by simp [results, Try.results10, go_sem]; try first | rfl | assumption | omega) rfl ⟨rfl, HF.out⟩
 ·have h33 : (y3 == 110) = false := by simp [h3]
  by_cases h1 : y1 = 110
  ·subst h1
   have h11 : ((110 : Int) != 110) = false := rfl
   have hlt : (i : Int) ≤ p1 := Classical.byContradiction fun h9 => h3 (F1.out rfl (by omega)).1
   go_wp2_with (fail)
   refine Hsm.out.mono ?_
   rintro e9 w9 ⟨rfl, hb⟩
   have HF := Lib.hid (Hb8.out.trans (hb.mono Hb8.out.size))
   clear hb Hsm m0 m1 m2 m3 ml n0 n1 n2 n3 nl
   go_wp2_with (fail)
   exact bodyPost_ret (v := .bool true) (by simp [results, Try.results10, go_sem]; try first | rfl | assumption | omega) rfl ⟨rfl, HF.out⟩
  ·have h11 : (y1 != 110) = true := by simp [h1]
   go_wp2_with (fail)
   refine Hsm.out.mono ?_
   rintro e9 w9 ⟨rfl, hb⟩
   have HF := Lib.hid (Hb8.out.trans (hb.mono Hb8.out.size))
   clear hb Hsm m0 m1 m2 m3 ml n0 n1 n2 n3 nl
   go_wp2_with (fail)
   exact bodyPost_ret (v := .bool true) (by simp [results, Try.results10, go_sem]; try first | rfl | assumption | omega) rfl ⟨rfl, HF.out⟩
end Go.Proofs.Ytfdhaochnbfndaa
