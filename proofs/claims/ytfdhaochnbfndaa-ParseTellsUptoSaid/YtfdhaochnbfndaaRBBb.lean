/- Texts joined: Lc. -/
import Derived.Test.YtfdhaochnbfndaaRBAy
import Derived.Test.YtfdhaochnbfndaaRBBa
import Derived.Test.YtfdhaochnbfndaaRBAz
import Derived.Test.YtfdhaochnbfndaaRBAk
import Derived.Deep.CutRange
set_option linter.unusedVariables false
set_option linter.unusedSimpArgs false
namespace Go.Proofs.Ytfdhaochnbfndaa
open Go.RowKit Go.Maps
attribute [local go_sem] Oper.semAt_some
theorem lc_case {B yb : Bool} {y p k : Int} (hc : B = true ↔ (y ≠ 110 ∨ k < p)) (h9 : yb = true ↔ y = 110) : (B = true ∧ (yb = false ∨ (yb = true ∧ k < p))) ∨ (B = false ∧ yb = true ∧ ¬ k < p) := by
 cases B
 ·have h : ¬ (y ≠ 110 ∨ k < p) := fun e => by have := hc.2 e; cases this
  have hy : y = 110 := Classical.byContradiction fun e => h (.inl e)
  exact .inr ⟨rfl, h9.2 hy, fun e => h (.inr e)⟩
 ·cases yb
  ·exact .inl ⟨rfl, .inl rfl⟩
  ·rcases hc.1 rfl with e | e
   ·exact absurd (h9.1 rfl) e
   ·exact .inl ⟨rfl, .inr ⟨rfl, e⟩⟩
set_option maxRecDepth 100000 in
set_option maxHeartbeats 16000000 in
theorem rwanted_any (d : CfD) (ta : Option Addr) (tc : Nat) (tbs : List IltD) (ka : Option Addr) (kc : Nat) (toks : List Int) (w : World) (hE : PrF w d ta tc tbs ka kc toks) (hT : d.toks.length ≤ 1000000) (hK : toks.length ≤ 1000000) :
 Calls Try.prog 45 #[d.v, .slice ta tbs.length tc, .slice ka toks.length kc] w fun e W => ∃ oa oc, e = .returned (.slice oa (wantP (gOf d tbs toks)).length oc) ∧ Ints W oa oc (wantP (gOf d tbs toks)) ∧ Below w.heap.size w W := by
 obtain ⟨WP, hWP⟩ : ∃ q, Hid (wantP (gOf d tbs toks) = q) := ⟨_, Lib.hid rfl⟩
 rw [hWP.out]
 have hA1 := Blk.new w 25 #[.slice d.ta d.toks.length d.tc, .slice d.na d.names.length d.nc, .slice d.aa d.alts.length d.ac]
 have hb1 : Below w.heap.size w (w.alloc (.cells #[.slice d.ta d.toks.length d.tc, .slice d.na d.names.length d.nc, .slice d.aa d.alts.length d.ac] 25)) := (Below.refl _ w).alloc (Nat.le_refl _) _
 have Htr := Lib.hid (rparse_any11 d ta tc tbs ka kc toks _ (hE.grown hb1))
 have Hk := Lib.hid hE.gk
 have hkm : toks.length ≤ kc ∧ kc ≤ 9223372036854775807 := ⟨by have := hE.gk.le; rw [List.length_map] at this; exact this, hE.gk.max⟩
 have htm : tbs.length ≤ tc ∧ tc ≤ 9223372036854775807 := ⟨by have := hE.gt.row.le; rw [List.length_map] at this; exact this, hE.gt.row.max⟩
 have Hb1 := Lib.hid hb1
 have HA1 := Lib.hid hA1
 have HE := Lib.hid hE
 clear hb1 hE hA1
 obtain ⟨Q, hQ⟩ : ∃ Q : Ending → World → Prop, Hid ((fun e W => ∃ oa oc, e = .returned (.slice oa WP.length oc) ∧ Ints W oa oc WP ∧ Below w.heap.size w W) = Q) := ⟨_, Lib.hid rfl⟩
 rw [hQ.out]
 have HQ : Hid (∀ oa oc (l : List Int) W, WP = l → Ints W oa oc l → Below w.heap.size w W → Q (.returned (.slice oa l.length oc)) W) := Lib.hid (fun oa oc l W h1 h2 h3 => by rw [← hQ.out, h1]; exact ⟨oa, oc, rfl, h2, h3⟩)
 clear hQ
 have x0 := HA1.out.cell 0
 have x1 := HA1.out.cell 1
 have x2 := HA1.out.cell 2
 have xl := HA1.out.lt
 simp only [List.getElem?_cons_zero, List.getElem?_cons_succ] at x0 x1 x2
 go_enter Try.func45, Try.ntmps45
 go_wp2_with (fail)
 generalize World.alloc _ _ = W1 at HA1 Hb1 Htr x0 x1 x2 xl ⊢
 refine Htr.out.mono ?_
 intro e3 w3 h3
 obtain ⟨hb3, h3⟩ := h3
 have HA3 := Lib.hid (HA1.out.below hb3 HA1.out.lt)
 have Hb3 := Lib.hid (Hb1.out.trans (hb3.mono Hb1.out.size))
 clear hb3 Htr x0 x1 x2 xl HA1 Hb1
 have hcase : (∃ a x, psParse (gOf d tbs toks) = .bad a x ∧ (x = 1 ∨ (x = 110 ∧ a < toks.length)) ∧ e3 = .returned (.tuple #[treV ⟨0, 0, 0⟩ none 0 0, .int .i64 (a : Int), .int .i64 x]) ∧ WP = []) ∨
  (firstB d.toks.length toks = none ∧ ∃ (th : TrH) (ga : Option Addr) (n gc : Nat) (a : Nat) (x : Int), ¬ (x = 1 ∨ (x = 110 ∧ a < toks.length)) ∧ e3 = .returned (.tuple #[treV th ga n gc, .int .i64 (a : Int), .int .i64 x]) ∧ WP = goL (gOf d tbs toks) d.toks.length ++ (if x = 0 then [(d.toks.length : Int)] else [])) := by
  cases hr : psParse (gOf d tbs toks) with
  | bad a x =>
   rw [hr] at h3
   have hw := hWP.out
   unfold wantP at hw
   rw [hr] at hw
   dsimp only at hw
   obtain ⟨h1, h0⟩ := parse_bad hr
   change (if x = 1 ∨ (x = 110 ∧ a < toks.length) then ([] : List Int) else goL (gOf d tbs toks) d.toks.length) = WP at hw
   by_cases hx : x = 1 ∨ (x = 110 ∧ a < toks.length)
   ·rw [if_pos hx] at hw
    exact .inl ⟨a, x, rfl, hx, h3, hw.symm⟩
   ·rw [if_neg hx] at hw
    refine .inr ⟨?_, ⟨0, 0, 0⟩, none, 0, 0, a, x, hx, h3, ?_⟩
    ·rcases h1 with h1 | h1
     ·exact absurd (.inl h1) hx
     ·exact h1.2
    ·rw [if_neg h0, List.append_nil]; exact hw.symm
  | ok t a n =>
   rw [hr] at h3
   obtain ⟨ga, gc, he, _⟩ := h3
   have hw := hWP.out
   unfold wantP at hw
   rw [hr] at hw
   dsimp only at hw
   exact .inr ⟨parse_ok hr, ⟨t.k, t.i, t.a⟩, ga, t.l.len, gc, 0, 0, by omega, he, by rw [if_pos rfl]; exact hw.symm⟩
 clear h3
 rcases hcase with ⟨a, x, hr, hx, rfl, hw⟩ | ⟨hfb, th, ga, tn, gc, a, x, hx, rfl, hw⟩
 ·have HF : Hid (Q (.returned (.slice none 0 0)) (w3.alloc (.cells #[.int .i64 0, .int .i64 0, .int .i64 0, .slice none 0 0] 51))) := Lib.hid (HQ.out none 0 [] _ hw (Vs.nil _) (Hb3.out.alloc Hb3.out.size _))
  clear hr hw
  by_cases h1 : x = 1
  ·have hxb : (x == 1) = true := by simp [h1]
   clear hx h1
   go_wp2_with (fail)
   first | exact HF.out | exact bodyPost_ret (v := .slice none 0 0) (by simp [results, Try.results45, go_sem]; try first | rfl | assumption | omega) rfl HF.out
  ·have hxb : (x == 1) = false := by simp [h1]
   have h2 : x = 110 ∧ a < toks.length := by rcases hx with hx | hx; exact absurd hx h1; exact hx
   have hxc : (x == 110) = true := by simp [h2.1]
   have hai : (a : Int) < (toks.length : Int) := by omega
   clear hx h1 h2
   go_wp2_with (fail)
   first | exact HF.out | exact bodyPost_ret (v := .slice none 0 0) (by simp [results, Try.results45, go_sem]; try first | rfl | assumption | omega) rfl HF.out
 ·have Hfb := Lib.hid hfb
  have HWL := Lib.hid hw
  clear hfb hw
  have hxb : (x == 1) = false := by rw [beq_eq_false_iff_ne]; exact fun e => hx (.inl e)
  obtain ⟨xc, hxc⟩ : ∃ b, (x == 110) = b := ⟨_, rfl⟩
  have Hgo : Hid (xc = true → ¬ (a : Int) < (toks.length : Int)) := Lib.hid (fun h => by subst h; have h9 := eq_of_beq hxc; intro e; exact hx (.inr ⟨h9, by omega⟩))
  have hdv : d.v = .agg #[.slice d.ta d.toks.length d.tc, .slice d.na d.names.length d.nc, .slice d.aa d.alts.length d.ac] := rfl
  obtain ⟨xta, hxta⟩ : ∃ q, Hid (d.ta = q) := ⟨_, Lib.hid rfl⟩
  obtain ⟨xna, hxna⟩ : ∃ q, Hid (d.na = q) := ⟨_, Lib.hid rfl⟩
  obtain ⟨xaa, hxaa⟩ : ∃ q, Hid (d.aa = q) := ⟨_, Lib.hid rfl⟩
  obtain ⟨xtc, hxtc⟩ : ∃ q, Hid (d.tc = q) := ⟨_, Lib.hid rfl⟩
  obtain ⟨xnc, hxnc⟩ : ∃ q, Hid (d.nc = q) := ⟨_, Lib.hid rfl⟩
  obtain ⟨xac, hxac⟩ : ∃ q, Hid (d.ac = q) := ⟨_, Lib.hid rfl⟩
  obtain ⟨T, HT⟩ : ∃ q, Hid (d.toks.length = q) := ⟨_, Lib.hid rfl⟩
  obtain ⟨N, HN⟩ : ∃ q, Hid (d.names.length = q) := ⟨_, Lib.hid rfl⟩
  obtain ⟨L, HL⟩ : ∃ q, Hid (d.alts.length = q) := ⟨_, Lib.hid rfl⟩
  obtain ⟨KL, HKK⟩ : ∃ q, Hid (toks.length = q) := ⟨_, Lib.hid rfl⟩
  obtain ⟨tbn, htbn⟩ : ∃ q, Hid (tbs.length = q) := ⟨_, Lib.hid rfl⟩
  obtain ⟨bx, hbx⟩ : ∃ q, Hid (w.heap.size = q) := ⟨_, Lib.hid rfl⟩
  rw [hxta.out, hxna.out, hxaa.out, hxtc.out, hxnc.out, hxac.out, HT.out, HN.out, HL.out] at hdv HA3
  rw [HT.out] at hT
  rw [HKK.out] at hK hkm Hgo ⊢
  rw [htbn.out] at htm ⊢
  rw [hbx.out] at HA3 ⊢
  have Hdv := Lib.hid hdv
  clear hdv hxta hxna hxaa hxtc hxnc hxac
  have hb4 : Below w.heap.size w (w3.alloc (.cells #[.int .i64 th.k, .int .i64 th.i, .int .i64 th.a, .slice ga tn gc] 51)) := Hb3.out.alloc Hb3.out.size _
  have hA4 := HA3.out.alloc (.cells #[.int .i64 th.k, .int .i64 th.i, .int .i64 th.a, .slice ga tn gc] 51)
  have Hb4 := Lib.hid hb4
  have HA4 := Lib.hid hA4
  clear hb4 hA4
  go_upto_region 2 with fail
  go_cut [34] from 15 (fun v34 wc => v34 = .bool false ∧ Hid (Below w.heap.size w wc) ∧ Hid (Blk wc bx 25 [.slice xta T xtc, .slice xna N xnc, .slice xaa L xac]))
  case first =>
   cases xc
   ·clear Hgo
    go_wp2_with (fail)
    go_meet
    exact ⟨rfl, Hb4, HA4⟩
   ·have hai := Hgo.out rfl
    clear Hgo
    go_wp2_with (fail)
    go_meet
    exact ⟨by first | rfl | rw [decide_eq_false (show ¬ a < KL by omega)], Hb4, HA4⟩
  case rest =>
  clear Hgo Hb4 HA4
  obtain ⟨rfl, Hb4, HA4⟩ := hcut
  have x0 := HA4.out.cell 0
  have x1 := HA4.out.cell 1
  have x2 := HA4.out.cell 2
  have xl := HA4.out.lt
  simp only [List.getElem?_cons_zero, List.getElem?_cons_succ] at x0 x1 x2
  go_wp2_with (fail)
  obtain ⟨W4, hW4⟩ : ∃ q, q = wc := ⟨_, rfl⟩
  rw [← hW4] at Hb4 HA4 x0 x1 x2 xl ⊢
  clear hW4
  obtain ⟨base, hbase⟩ : ∃ q, Hid (W4.heap.size = q) := ⟨_, Lib.hid rfl⟩
  have hbs0 : base ≤ W4.heap.size := by rw [hbase.out]; exact Nat.le_refl _
  have hwb : w.heap.size ≤ base := by rw [← hbase.out]; exact Hb4.out.size
  have hbxb : bx < base := by rw [← hbase.out]; exact HA4.out.lt
  clear x0 x1 x2 xl hbase
  go_loopg [10, 11, 12, 13, 14, 38] T (fun gk ov _ _ _ _ iv wr => ∃ (k : Nat) (oa : Option Addr) (oc : Nat), Hid (gk = T - k) ∧ k ≤ T ∧ iv = .int .i64 (k : Int) ∧ ov = .slice oa (goL (gOf d tbs toks) k).length oc ∧ Hid (OwnKZ wr base oa oc (goL (gOf d tbs toks) k)) ∧ Hid (Below w.heap.size w wr) ∧ Hid (Blk wr bx 25 [.slice xta T xtc, .slice xna N xnc, .slice xaa L xac]) ∧ base ≤ wr.heap.size)
  case atStart => exact ⟨0, none, 0, Lib.hid rfl, Nat.zero_le _, rfl, rfl, Lib.hid (OwnKZ.nil _ _), Hb4, HA4, hbs0⟩
  case round =>
   clear Hb4 HA4 hbs0
   obtain ⟨k, oa, oc, Hgk, hk, rfl, rfl, HO, HbU, HAU, hbs⟩ := hrel
   obtain ⟨U, rfl⟩ : ∃ U, U = wr := ⟨_, rfl⟩
   have hgl := goL_len (gOf d tbs toks) k
   have hom := HO.out.le
   obtain ⟨ln, hln⟩ : ∃ q, Hid ((goL (gOf d tbs toks) k).length = q) := ⟨_, Lib.hid rfl⟩
   rw [hln.out] at hgl hom ⊢
   by_cases hlt : k < T
   ·have hkI : (k : Int) < (T : Int) := by omega
    have hkI0 : (0 : Int) ≤ (k : Int) := by omega
    obtain ⟨R, hR⟩ : ∃ q, Hid (psParse (gOf d tbs (toks ++ [(k : Int)])) = q) := ⟨_, Lib.hid rfl⟩
    have hRT : psParse (gOf d tbs (toks ++ [(k : Int)])) = psTree (gOf d tbs (toks ++ [(k : Int)])) := by
     unfold psParse
     rw [show firstB (gOf d tbs (toks ++ [(k : Int)])).T (gOf d tbs (toks ++ [(k : Int)])).toks = none from firstB_snoc Hfb.out (by omega) (by show (k : Int) < (d.toks.length : Int); rw [HT.out]; omega)]
    obtain ⟨B, hB⟩ : ∃ b, Hid (goB (KL + 1) R = b) := ⟨_, Lib.hid rfl⟩
    have Hsu : Hid (goL (gOf d tbs toks) (k + 1) = goL (gOf d tbs toks) k ++ (if B then [(k : Int)] else [])) := Lib.hid (by
     rw [goL_succ, ← hB.out, ← hR.out, hRT]
     show _ ++ (if goB (toks.length + 1) (psTree (gOf d tbs (toks ++ [(k : Int)]))) = true then _ else _) = _
     rw [HKK.out])
    have Hin : Hid (∀ b y, R = .bad b y → b ≤ KL + 1) := Lib.hid (fun b y e => by
     have h9 := tree_in ((hRT.symm.trans hR.out).trans e)
     have h8 : (gOf d tbs (toks ++ [(k : Int)])).toks.length = KL + 1 := by show (toks ++ [(k : Int)]).length = _; rw [List.length_append, HKK.out]; rfl
     omega)
    have Hpr : Hid (∀ W, Below U.heap.size U W → ∀ ka kc, Ints W ka kc (toks ++ [(k : Int)]) → Calls Try.prog 42 #[.agg #[.slice xta T xtc, .slice xna N xnc, .slice xaa L xac], .slice ta tbn tc, .slice ka (KL + 1) kc] W (TreQ W R)) := Lib.hid (fun W hb ka kc hi => by
     have h9 := HE.out.grown (HbU.out.trans (hb.mono HbU.out.size))
     have := rparse_any11 d ta tc tbs ka kc (toks ++ [(k : Int)]) W ⟨h9.gd, h9.gt, hi, h9.rng, h9.trg, h9.srg⟩
     rwa [hR.out, Hdv.out, htbn.out, List.length_append, HKK.out, show ([(k : Int)] : List Int).length = 1 from rfl] at this)
    clear hRT
    go_upto_region 8 with fail
    go_cut [12, 13, 14] from 39 to 65 (fun v12 v13 v14 wc => ∃ (nb : Nat) (p x : Int), v12 = .pointer (some ⟨nb, 0, none⟩) ∧ v13 = .int .i64 p ∧ v14 = .int .i64 x ∧ Hid (Below U.heap.size U wc) ∧ Hid (BoxR wc R nb p x))
    case first =>
     have HB0 := Lib.hid ((Below.refl U.heap.size U).drew)
     have HS0 : Hid ((U.drew).cell? ⟨bx, 0, none⟩ = some (.slice xta T xtc) ∧ (U.drew).cell? ⟨bx, 1, none⟩ = some (.slice xna N xnc) ∧ (U.drew).cell? ⟨bx, 2, none⟩ = some (.slice xaa L xac)) := Lib.hid (⟨(HAU.out.below HB0.out HAU.out.lt).cell 0, (HAU.out.below HB0.out HAU.out.lt).cell 1, (HAU.out.below HB0.out HAU.out.lt).cell 2⟩)
     refine wp_region_held_drew (S := fun w' => w'.cell? ⟨bx, 0, none⟩ = some (.slice xta T xtc) ∧ w'.cell? ⟨bx, 1, none⟩ = some (.slice xna N xnc) ∧ w'.cell? ⟨bx, 2, none⟩ = some (.slice xaa L xac)) (by kernel_rfl) ?_ (fun hHeld => ?_)
     ·exact HS0.out
     generalize World.drew U = K0 at HB0 HS0 hHeld ⊢
     refine wpAnyH_take (i := 0) (v := ?_) (iatLS iatZS) (by kernel_rfl) (by kernel_rfl) (by kernel_rfl) (fun _ _ _ h => h) (Or.inl ⟨by rfl, ?_⟩) (by assumption) ?_
     rotate_left
     ·intro w hSw
      try dsimp only at hSw
      go_simp
      all_goals with_reducible rfl
     try simp only [Act.put, List.setIfInBounds_toArray, List.set_cons_zero, List.set_cons_succ]
     refine wpAnyH_take (i := 1) (v := ?_) (iatLS (iatSS iatZS)) (by kernel_rfl) (by kernel_rfl) (by kernel_rfl) (fun _ _ _ h => h) (Or.inl ⟨by rfl, ?_⟩) (by assumption) ?_
     rotate_left
     ·intro w hSw
      try dsimp only at hSw
      go_simp
      all_goals with_reducible rfl
     try simp only [Act.put, List.setIfInBounds_toArray, List.set_cons_zero, List.set_cons_succ]
     refine wpAnyH_take (i := 2) (v := ?_) (iatLS (iatSS (iatSS iatZS))) (by kernel_rfl) (by kernel_rfl) (by kernel_rfl) (fun _ _ _ h => h) (Or.inl ⟨by rfl, ?_⟩) (by assumption) ?_
     rotate_left
     ·intro w hSw
      try dsimp only at hSw
      go_simp
      all_goals with_reducible rfl
     try simp only [Act.put, List.setIfInBounds_toArray, List.set_cons_zero, List.set_cons_succ]
     refine wpAnyH_take (i := 4) (v := ?_) (iatLS (iatSS (iatSS (iatSS (iatSS iatZS))))) (by kernel_rfl) (by kernel_rfl) (by kernel_rfl) (fun _ _ _ h => h) (Or.inl ⟨by rfl, ?_⟩) (by assumption) ?_
     rotate_left
     ·intro w hSw
      try dsimp only at hSw
      go_simp
      all_goals with_reducible rfl
     try simp only [Act.put, List.setIfInBounds_toArray, List.set_cons_zero, List.set_cons_succ]
     refine wpAnyH_ready (rs := [3, 5, 12]) (by kernel_rfl) (by simp) ?_
     refine AllReadyH.cons (iatLS (iatSS (iatSS (iatSS iatZS)))) (fun K hK => ?_) (AllReadyH.cons (iatLS (iatSS (iatSS (iatSS (iatSS (iatSS iatZS)))))) (fun K hK => ?_) (AllReadyH.cons (iatLS (iatSS (iatSS (iatSS (iatSS (iatSS (iatSS (iatSS (iatSS (iatSS (iatSS (iatSS (iatSS iatZS))))))))))))) (fun K hK => ?_) (AllReadyH.nil)))
     ·
      obtain ⟨za, zc, K1, hrun, how, hb⟩ := (OwnKZ.nil K0 K0.heap.size).app ka kc toks (Hk.out.grown (HbU.out.trans (HB0.out.mono HbU.out.size))) 35 (by show 0 + toks.length ≤ _; rw [HKK.out]; omega) (Nat.le_refl _)
      rw [show ([] : List Int).length = 0 from rfl, HKK.out, Nat.zero_add] at hrun
      rw [List.nil_append] at how
      have HO1 : Hid (OwnKZ K1 U.heap.size za zc toks) := Lib.hid (own_mono how HB0.out.size)
      refine step_append_run rfl _ _ 35 35 rfl _ _ _ _ rfl rfl hrun ?_
      clear hrun how
      have HB1 := Lib.hid (HB0.out.trans (hb.mono HB0.out.size))
      have HS1 : Hid (K1.cell? ⟨bx, 0, none⟩ = some (.slice xta T xtc) ∧ K1.cell? ⟨bx, 1, none⟩ = some (.slice xna N xnc) ∧ K1.cell? ⟨bx, 2, none⟩ = some (.slice xaa L xac)) := Lib.hid (⟨(HAU.out.below HB1.out HAU.out.lt).cell 0, (HAU.out.below HB1.out HAU.out.lt).cell 1, (HAU.out.below HB1.out HAU.out.lt).cell 2⟩)
      clear hb
      try dsimp only
      refine hK.out _ _ ?_ (fun hHeld => ?_)
      ·exact HS1.out
      clear hK K
      try simp only [Act.put, List.setIfInBounds_toArray, List.set_cons_zero, List.set_cons_succ]
      refine wpAnyH_ready (rs := [5, 12]) (by kernel_rfl) (by simp) ?_
      refine AllReadyH.cons (iatLS (iatSS (iatSS (iatSS (iatSS (iatSS iatZS)))))) (fun K hK => ?_) (AllReadyH.cons (iatLS (iatSS (iatSS (iatSS (iatSS (iatSS (iatSS (iatSS (iatSS (iatSS (iatSS (iatSS (iatSS iatZS))))))))))))) (fun K hK => ?_) (AllReadyH.nil))
      ·
       go_simp
       obtain ⟨zi, hzi⟩ : ∃ q, Hid (K1.heap.size = q) := ⟨_, Lib.hid rfl⟩
       rw [hzi.out]
       generalize hW2 : World.alloc K1 _ = K2
       have hb : Below K1.heap.size K1 K2 := by rw [← hW2]; exact (Below.refl _ _).alloc (Nat.le_refl _) _
       have HI2 : Hid (Ints K2 (some ⟨zi, 0, none⟩) 1 [(k : Int)]) := Lib.hid (by rw [← hW2, ← hzi.out]; exact ints_new K1 [(k : Int)] 1 rfl (e9_mx 1 (by omega)))
       clear hW2 hzi
       have HB2 := Lib.hid (HB1.out.trans (hb.mono HB1.out.size))
       have HO2 := Lib.hid (HO1.out.belowZ hb)
       have HS2 : Hid (K2.cell? ⟨bx, 0, none⟩ = some (.slice xta T xtc) ∧ K2.cell? ⟨bx, 1, none⟩ = some (.slice xna N xnc) ∧ K2.cell? ⟨bx, 2, none⟩ = some (.slice xaa L xac)) := Lib.hid (⟨(HAU.out.below HB2.out HAU.out.lt).cell 0, (HAU.out.below HB2.out HAU.out.lt).cell 1, (HAU.out.below HB2.out HAU.out.lt).cell 2⟩)
       clear hb
       try dsimp only
       refine hK.out _ _ ?_ (fun hHeld => ?_)
       ·exact HS2.out
       clear hK K
       try simp only [Act.put, List.setIfInBounds_toArray, List.set_cons_zero, List.set_cons_succ]
       refine wpAnyH_ready (rs := [6, 12]) (by kernel_rfl) (by simp) ?_
       refine AllReadyH.cons (iatLS (iatSS (iatSS (iatSS (iatSS (iatSS (iatSS iatZS))))))) (fun K hK => ?_) (AllReadyH.cons (iatLS (iatSS (iatSS (iatSS (iatSS (iatSS (iatSS (iatSS (iatSS (iatSS (iatSS (iatSS (iatSS iatZS))))))))))))) (fun K hK => ?_) (AllReadyH.nil))
       ·
        obtain ⟨zb, zd, K3, hrun, how, hg, _⟩ := HO2.out.app2 ⟨zi, 0, none⟩ 1 [(k : Int)] HI2.out 35 (by rw [HKK.out]; show KL + 1 ≤ _; omega) HB2.out.size
        rw [show ([(k : Int)] : List Int).length = 1 from rfl, HKK.out] at hrun
        rw [HKK.out] at hg
        have HB3 := Lib.hid (HB2.out.grown hg HB2.out.size (fun g e => (World.ownsRow.lt HO2.out g (by rw [HKK.out]; exact e)).1))
        have HJ3 : Hid (Ints K3 zb zd (toks ++ [(k : Int)])) := Lib.hid (OwnKZ.vs how)
        refine step_append_run rfl _ _ 35 35 rfl _ _ _ _ rfl rfl hrun ?_
        clear hrun how hg
        have hb := True.intro
        have HS3 : Hid (K3.cell? ⟨bx, 0, none⟩ = some (.slice xta T xtc) ∧ K3.cell? ⟨bx, 1, none⟩ = some (.slice xna N xnc) ∧ K3.cell? ⟨bx, 2, none⟩ = some (.slice xaa L xac)) := Lib.hid (⟨(HAU.out.below HB3.out HAU.out.lt).cell 0, (HAU.out.below HB3.out HAU.out.lt).cell 1, (HAU.out.below HB3.out HAU.out.lt).cell 2⟩)
        clear hb
        try dsimp only
        refine hK.out _ _ ?_ (fun hHeld => ?_)
        ·exact HS3.out
        clear hK K
        try simp only [Act.put, List.setIfInBounds_toArray, List.set_cons_zero, List.set_cons_succ]
        refine wpAnyH_ready (rs := [7, 12]) (by kernel_rfl) (by simp) ?_
        refine AllReadyH.cons (iatLS (iatSS (iatSS (iatSS (iatSS (iatSS (iatSS (iatSS iatZS)))))))) (fun K hK => ?_) (AllReadyH.cons (iatLS (iatSS (iatSS (iatSS (iatSS (iatSS (iatSS (iatSS (iatSS (iatSS (iatSS (iatSS (iatSS iatZS))))))))))))) (fun K hK => ?_) (AllReadyH.nil))
        ·
         go_simp
         (with_reducible refine (Hpr.out K3 HB3.out zb zd HJ3.out).mono ?_)
         intro e9 K4 hT
         have hb := hT.1
         obtain ⟨tk, ti, ta, tga, tn, tgc, p, y, rfl, hX⟩ := tre_box hT
         have HX := Lib.hid hX
         clear hT hX
         have HB4 := Lib.hid (HB3.out.trans (hb.mono HB3.out.size))
         have HJ4 := Lib.hid (HJ3.out.grown hb)
         have HC4 := Lib.hid (Below.refl K4.heap.size K4)
         have HS4 : Hid (K4.cell? ⟨bx, 0, none⟩ = some (.slice xta T xtc) ∧ K4.cell? ⟨bx, 1, none⟩ = some (.slice xna N xnc) ∧ K4.cell? ⟨bx, 2, none⟩ = some (.slice xaa L xac)) := Lib.hid (⟨(HAU.out.below HB4.out HAU.out.lt).cell 0, (HAU.out.below HB4.out HAU.out.lt).cell 1, (HAU.out.below HB4.out HAU.out.lt).cell 2⟩)
         clear hb
         try dsimp only
         refine hK.out _ _ ?_ (fun hHeld => ?_)
         ·exact HS4.out
         clear hK K
         try simp only [Act.put, List.setIfInBounds_toArray, List.set_cons_zero, List.set_cons_succ]
         refine wpAnyH_take (i := 8) (v := ?_) (iatLS (iatSS (iatSS (iatSS (iatSS (iatSS (iatSS (iatSS (iatSS iatZS))))))))) (by kernel_rfl) (by kernel_rfl) (by kernel_rfl) (fun _ _ _ h => h) (Or.inl ⟨by rfl, ?_⟩) (by assumption) ?_
         rotate_left
         ·intro w hSw
          try dsimp only at hSw
          go_simp
          all_goals with_reducible rfl
         try simp only [Act.put, List.setIfInBounds_toArray, List.set_cons_zero, List.set_cons_succ]
         refine wpAnyH_take (i := 9) (v := ?_) (iatLS (iatSS (iatSS (iatSS (iatSS (iatSS (iatSS (iatSS (iatSS (iatSS iatZS)))))))))) (by kernel_rfl) (by kernel_rfl) (by kernel_rfl) (fun _ _ _ h => h) (Or.inl ⟨by rfl, ?_⟩) (by assumption) ?_
         rotate_left
         ·intro w hSw
          try dsimp only at hSw
          go_simp
          all_goals with_reducible rfl
         try simp only [Act.put, List.setIfInBounds_toArray, List.set_cons_zero, List.set_cons_succ]
         refine wpAnyH_take (i := 10) (v := ?_) (iatLS (iatSS (iatSS (iatSS (iatSS (iatSS (iatSS (iatSS (iatSS (iatSS (iatSS iatZS))))))))))) (by kernel_rfl) (by kernel_rfl) (by kernel_rfl) (fun _ _ _ h => h) (Or.inl ⟨by rfl, ?_⟩) (by assumption) ?_
         rotate_left
         ·intro w hSw
          try dsimp only at hSw
          go_simp
          all_goals with_reducible rfl
         try simp only [Act.put, List.setIfInBounds_toArray, List.set_cons_zero, List.set_cons_succ]
         refine wpAnyH_take (i := 11) (v := ?_) (iatLS (iatSS (iatSS (iatSS (iatSS (iatSS (iatSS (iatSS (iatSS (iatSS (iatSS (iatSS iatZS)))))))))))) (by kernel_rfl) (by kernel_rfl) (by kernel_rfl) (fun _ _ _ h => h) (Or.inl ⟨by rfl, ?_⟩) (by assumption) ?_
         rotate_left
         ·intro w hSw
          try dsimp only at hSw
          go_simp
          all_goals with_reducible rfl
         try simp only [Act.put, List.setIfInBounds_toArray, List.set_cons_zero, List.set_cons_succ]
         refine wpAnyH_ready (rs := [12]) (by kernel_rfl) (by simp) ?_
         refine AllReadyH.cons (iatLS (iatSS (iatSS (iatSS (iatSS (iatSS (iatSS (iatSS (iatSS (iatSS (iatSS (iatSS (iatSS iatZS))))))))))))) (fun K hK => ?_) AllReadyH.nil
         go_simp
         obtain ⟨nb, hnb⟩ : ∃ q, Hid (K4.heap.size = q) := ⟨_, Lib.hid rfl⟩
         rw [hnb.out]
         generalize hW5 : World.alloc K4 _ = K5
         have hb : Below K4.heap.size K4 K5 := by rw [← hW5]; exact (Below.refl _ _).alloc (Nat.le_refl _) _
         have HN5 : Hid (Blk K5 nb 51 [.int .i64 0, .int .i64 0, .int .i64 0, .slice none 0 0]) := Lib.hid (by rw [← hW5, ← hnb.out]; exact Blk.new _ 51 #[.int .i64 0, .int .i64 0, .int .i64 0, .slice none 0 0])
         have Hnb : Hid (U.heap.size ≤ nb) := Lib.hid (by rw [← hnb.out]; exact HB4.out.size)
         have HB5 := Lib.hid (HB4.out.trans (hb.mono HB4.out.size))
         have HC5 := Lib.hid (HC4.out.trans (hb.mono HC4.out.size))
         have Hnc : Hid (nb < K3.heap.size ∨ K4.heap.size ≤ nb) := Lib.hid (.inr (Nat.le_trans HC4.out.size (Nat.le_of_eq hnb.out)))
         have HS5 : Hid (K5.cell? ⟨bx, 0, none⟩ = some (.slice xta T xtc) ∧ K5.cell? ⟨bx, 1, none⟩ = some (.slice xna N xnc) ∧ K5.cell? ⟨bx, 2, none⟩ = some (.slice xaa L xac)) := Lib.hid (⟨(HAU.out.below HB5.out HAU.out.lt).cell 0, (HAU.out.below HB5.out HAU.out.lt).cell 1, (HAU.out.below HB5.out HAU.out.lt).cell 2⟩)
         clear hW5 hb hnb
         refine hK.out _ _ ?_ (fun hHeld => ?_)
         ·exact HS5.out
         clear hK K
         try simp only [Act.put, List.setIfInBounds_toArray, List.set_cons_zero, List.set_cons_succ]
         refine wpAnyH_ready (rs := [13]) (by kernel_rfl) (by simp) ?_
         refine AllReadyH.cons (iatLS (iatSS (iatSS (iatSS (iatSS (iatSS (iatSS (iatSS (iatSS (iatSS (iatSS (iatSS (iatSS (iatSS iatZS)))))))))))))) (fun K hK => ?_) AllReadyH.nil
         have n0 := HN5.out.cell 0
         have n1 := HN5.out.cell 1
         have n2 := HN5.out.cell 2
         have n3 := HN5.out.cell 3
         have f0 := HN5.out.frozen 0
         have f1 := HN5.out.frozen 1
         have f2 := HN5.out.frozen 2
         have f3 := HN5.out.frozen 3
         have nl := HN5.out.lt
         simp only [List.getElem?_cons_zero, List.getElem?_cons_succ] at n0 n1 n2 n3
         go_simp
         have HF := HX.out.1 K5 nb HC5.out Hnc.out HN5.out
         have hb9 := Below.put4 HB5.out Hnb.out (.int .i64 tk) (.int .i64 ti) (.int .i64 ta) (.slice tga tn tgc)
         generalize World.setCell _ _ _ = K6 at HF hb9 ⊢
         have HF := Lib.hid HF
         have HB6 := Lib.hid hb9
         have HS6 : Hid (K6.cell? ⟨bx, 0, none⟩ = some (.slice xta T xtc) ∧ K6.cell? ⟨bx, 1, none⟩ = some (.slice xna N xnc) ∧ K6.cell? ⟨bx, 2, none⟩ = some (.slice xaa L xac)) := Lib.hid (⟨(HAU.out.below HB6.out HAU.out.lt).cell 0, (HAU.out.below HB6.out HAU.out.lt).cell 1, (HAU.out.below HB6.out HAU.out.lt).cell 2⟩)
         clear hb9 n0 n1 n2 n3 f0 f1 f2 f3 nl
         refine hK.out _ _ ?_ (fun hHeld => ?_)
         ·exact HS6.out
         clear hK K
         try simp only [Act.put, List.setIfInBounds_toArray, List.set_cons_zero, List.set_cons_succ]
         refine wpAnyH_take (i := 14) (v := ?_) (iatLS (iatSS (iatSS (iatSS (iatSS (iatSS (iatSS (iatSS (iatSS (iatSS (iatSS (iatSS (iatSS (iatSS (iatSS iatZS))))))))))))))) (by kernel_rfl) (by kernel_rfl) (by kernel_rfl) (fun _ _ _ h => h) (Or.inl ⟨by rfl, ?_⟩) (by assumption) ?_
         rotate_left
         ·intro w hSw
          try dsimp only at hSw
          go_simp
          all_goals with_reducible rfl
         try simp only [Act.put, List.setIfInBounds_toArray, List.set_cons_zero, List.set_cons_succ]
         refine wpAnyH_take (i := 15) (v := ?_) (iatLS (iatSS (iatSS (iatSS (iatSS (iatSS (iatSS (iatSS (iatSS (iatSS (iatSS (iatSS (iatSS (iatSS (iatSS (iatSS iatZS)))))))))))))))) (by kernel_rfl) (by kernel_rfl) (by kernel_rfl) (fun _ _ _ h => h) (Or.inl ⟨by rfl, ?_⟩) (by assumption) ?_
         rotate_left
         ·intro w hSw
          try dsimp only at hSw
          go_simp
          all_goals with_reducible rfl
         try simp only [Act.put, List.setIfInBounds_toArray, List.set_cons_zero, List.set_cons_succ]
         refine wpAnyH_done (by kernel_rfl) ?_ _
         go_wp2_with (fail)
         go_meet
         exact ⟨nb, p, y, rfl, rfl, rfl, Lib.hid HB6.out, HF⟩
        ·
         go_simp
         obtain ⟨nb, hnb⟩ : ∃ q, Hid (K3.heap.size = q) := ⟨_, Lib.hid rfl⟩
         rw [hnb.out]
         generalize hW4 : World.alloc K3 _ = K4
         have hb : Below K3.heap.size K3 K4 := by rw [← hW4]; exact (Below.refl _ _).alloc (Nat.le_refl _) _
         have HN4 : Hid (Blk K4 nb 51 [.int .i64 0, .int .i64 0, .int .i64 0, .slice none 0 0]) := Lib.hid (by rw [← hW4, ← hnb.out]; exact Blk.new _ 51 #[.int .i64 0, .int .i64 0, .int .i64 0, .slice none 0 0])
         have Hnb : Hid (U.heap.size ≤ nb) := Lib.hid (by rw [← hnb.out]; exact HB3.out.size)
         have HB4 := Lib.hid (HB3.out.trans (hb.mono HB3.out.size))
         have HJ4 := Lib.hid (HJ3.out.grown hb)
         have HS4 : Hid (K4.cell? ⟨bx, 0, none⟩ = some (.slice xta T xtc) ∧ K4.cell? ⟨bx, 1, none⟩ = some (.slice xna N xnc) ∧ K4.cell? ⟨bx, 2, none⟩ = some (.slice xaa L xac)) := Lib.hid (⟨(HAU.out.below HB4.out HAU.out.lt).cell 0, (HAU.out.below HB4.out HAU.out.lt).cell 1, (HAU.out.below HB4.out HAU.out.lt).cell 2⟩)
         clear hW4 hb hnb
         refine hK.out _ _ ?_ (fun hHeld => ?_)
         ·exact HS4.out
         clear hK K
         try simp only [Act.put, List.setIfInBounds_toArray, List.set_cons_zero, List.set_cons_succ]
         refine wpAnyH_ready (rs := [7]) (by kernel_rfl) (by simp) ?_
         refine AllReadyH.cons (iatLS (iatSS (iatSS (iatSS (iatSS (iatSS (iatSS (iatSS iatZS)))))))) (fun K hK => ?_) AllReadyH.nil
         go_simp
         (with_reducible refine (Hpr.out K4 HB4.out zb zd HJ4.out).mono ?_)
         intro e9 K5 hT
         have hb := hT.1
         obtain ⟨tk, ti, ta, tga, tn, tgc, p, y, rfl, hX⟩ := tre_box hT
         have HX := Lib.hid hX
         clear hT hX
         have HB5 := Lib.hid (HB4.out.trans (hb.mono HB4.out.size))
         have HN5 := Lib.hid (HN4.out.below hb HN4.out.lt)
         have HJ5 := Lib.hid (HJ4.out.grown hb)
         have HC5 := Lib.hid (Below.refl K5.heap.size K5)
         have Hnc : Hid (nb < K4.heap.size ∨ K5.heap.size ≤ nb) := Lib.hid (.inl HN4.out.lt)
         have HS5 : Hid (K5.cell? ⟨bx, 0, none⟩ = some (.slice xta T xtc) ∧ K5.cell? ⟨bx, 1, none⟩ = some (.slice xna N xnc) ∧ K5.cell? ⟨bx, 2, none⟩ = some (.slice xaa L xac)) := Lib.hid (⟨(HAU.out.below HB5.out HAU.out.lt).cell 0, (HAU.out.below HB5.out HAU.out.lt).cell 1, (HAU.out.below HB5.out HAU.out.lt).cell 2⟩)
         clear hb
         try dsimp only
         refine hK.out _ _ ?_ (fun hHeld => ?_)
         ·exact HS5.out
         clear hK K
         try simp only [Act.put, List.setIfInBounds_toArray, List.set_cons_zero, List.set_cons_succ]
         refine wpAnyH_take (i := 8) (v := ?_) (iatLS (iatSS (iatSS (iatSS (iatSS (iatSS (iatSS (iatSS (iatSS iatZS))))))))) (by kernel_rfl) (by kernel_rfl) (by kernel_rfl) (fun _ _ _ h => h) (Or.inl ⟨by rfl, ?_⟩) (by assumption) ?_
         rotate_left
         ·intro w hSw
          try dsimp only at hSw
          go_simp
          all_goals with_reducible rfl
         try simp only [Act.put, List.setIfInBounds_toArray, List.set_cons_zero, List.set_cons_succ]
         refine wpAnyH_take (i := 9) (v := ?_) (iatLS (iatSS (iatSS (iatSS (iatSS (iatSS (iatSS (iatSS (iatSS (iatSS iatZS)))))))))) (by kernel_rfl) (by kernel_rfl) (by kernel_rfl) (fun _ _ _ h => h) (Or.inl ⟨by rfl, ?_⟩) (by assumption) ?_
         rotate_left
         ·intro w hSw
          try dsimp only at hSw
          go_simp
          all_goals with_reducible rfl
         try simp only [Act.put, List.setIfInBounds_toArray, List.set_cons_zero, List.set_cons_succ]
         refine wpAnyH_take (i := 10) (v := ?_) (iatLS (iatSS (iatSS (iatSS (iatSS (iatSS (iatSS (iatSS (iatSS (iatSS (iatSS iatZS))))))))))) (by kernel_rfl) (by kernel_rfl) (by kernel_rfl) (fun _ _ _ h => h) (Or.inl ⟨by rfl, ?_⟩) (by assumption) ?_
         rotate_left
         ·intro w hSw
          try dsimp only at hSw
          go_simp
          all_goals with_reducible rfl
         try simp only [Act.put, List.setIfInBounds_toArray, List.set_cons_zero, List.set_cons_succ]
         refine wpAnyH_take (i := 11) (v := ?_) (iatLS (iatSS (iatSS (iatSS (iatSS (iatSS (iatSS (iatSS (iatSS (iatSS (iatSS (iatSS iatZS)))))))))))) (by kernel_rfl) (by kernel_rfl) (by kernel_rfl) (fun _ _ _ h => h) (Or.inl ⟨by rfl, ?_⟩) (by assumption) ?_
         rotate_left
         ·intro w hSw
          try dsimp only at hSw
          go_simp
          all_goals with_reducible rfl
         try simp only [Act.put, List.setIfInBounds_toArray, List.set_cons_zero, List.set_cons_succ]
         refine wpAnyH_ready (rs := [13]) (by kernel_rfl) (by simp) ?_
         refine AllReadyH.cons (iatLS (iatSS (iatSS (iatSS (iatSS (iatSS (iatSS (iatSS (iatSS (iatSS (iatSS (iatSS (iatSS (iatSS iatZS)))))))))))))) (fun K hK => ?_) AllReadyH.nil
         have n0 := HN5.out.cell 0
         have n1 := HN5.out.cell 1
         have n2 := HN5.out.cell 2
         have n3 := HN5.out.cell 3
         have f0 := HN5.out.frozen 0
         have f1 := HN5.out.frozen 1
         have f2 := HN5.out.frozen 2
         have f3 := HN5.out.frozen 3
         have nl := HN5.out.lt
         simp only [List.getElem?_cons_zero, List.getElem?_cons_succ] at n0 n1 n2 n3
         go_simp
         have HF := HX.out.1 K5 nb HC5.out Hnc.out HN5.out
         have hb9 := Below.put4 HB5.out Hnb.out (.int .i64 tk) (.int .i64 ti) (.int .i64 ta) (.slice tga tn tgc)
         generalize World.setCell _ _ _ = K6 at HF hb9 ⊢
         have HF := Lib.hid HF
         have HB6 := Lib.hid hb9
         have HS6 : Hid (K6.cell? ⟨bx, 0, none⟩ = some (.slice xta T xtc) ∧ K6.cell? ⟨bx, 1, none⟩ = some (.slice xna N xnc) ∧ K6.cell? ⟨bx, 2, none⟩ = some (.slice xaa L xac)) := Lib.hid (⟨(HAU.out.below HB6.out HAU.out.lt).cell 0, (HAU.out.below HB6.out HAU.out.lt).cell 1, (HAU.out.below HB6.out HAU.out.lt).cell 2⟩)
         clear hb9 n0 n1 n2 n3 f0 f1 f2 f3 nl
         refine hK.out _ _ ?_ (fun hHeld => ?_)
         ·exact HS6.out
         clear hK K
         try simp only [Act.put, List.setIfInBounds_toArray, List.set_cons_zero, List.set_cons_succ]
         refine wpAnyH_take (i := 14) (v := ?_) (iatLS (iatSS (iatSS (iatSS (iatSS (iatSS (iatSS (iatSS (iatSS (iatSS (iatSS (iatSS (iatSS (iatSS (iatSS iatZS))))))))))))))) (by kernel_rfl) (by kernel_rfl) (by kernel_rfl) (fun _ _ _ h => h) (Or.inl ⟨by rfl, ?_⟩) (by assumption) ?_
         rotate_left
         ·intro w hSw
          try dsimp only at hSw
          go_simp
          all_goals with_reducible rfl
         try simp only [Act.put, List.setIfInBounds_toArray, List.set_cons_zero, List.set_cons_succ]
         refine wpAnyH_take (i := 15) (v := ?_) (iatLS (iatSS (iatSS (iatSS (iatSS (iatSS (iatSS (iatSS (iatSS (iatSS (iatSS (iatSS (iatSS (iatSS (iatSS (iatSS iatZS)))))))))))))))) (by kernel_rfl) (by kernel_rfl) (by kernel_rfl) (fun _ _ _ h => h) (Or.inl ⟨by rfl, ?_⟩) (by assumption) ?_
         rotate_left
         ·intro w hSw
          try dsimp only at hSw
          go_simp
          all_goals with_reducible rfl
         try simp only [Act.put, List.setIfInBounds_toArray, List.set_cons_zero, List.set_cons_succ]
         refine wpAnyH_done (by kernel_rfl) ?_ _
         go_wp2_with (fail)
         go_meet
         exact ⟨nb, p, y, rfl, rfl, rfl, Lib.hid HB6.out, HF⟩
       ·
        go_simp
        obtain ⟨nb, hnb⟩ : ∃ q, Hid (K2.heap.size = q) := ⟨_, Lib.hid rfl⟩
        rw [hnb.out]
        generalize hW3 : World.alloc K2 _ = K3
        have hb : Below K2.heap.size K2 K3 := by rw [← hW3]; exact (Below.refl _ _).alloc (Nat.le_refl _) _
        have HN3 : Hid (Blk K3 nb 51 [.int .i64 0, .int .i64 0, .int .i64 0, .slice none 0 0]) := Lib.hid (by rw [← hW3, ← hnb.out]; exact Blk.new _ 51 #[.int .i64 0, .int .i64 0, .int .i64 0, .slice none 0 0])
        have Hnb : Hid (U.heap.size ≤ nb) := Lib.hid (by rw [← hnb.out]; exact HB2.out.size)
        have Hne : Hid (∀ g, (Value.slice za KL zc).ownBlock = some g → g ≠ nb) := Lib.hid (fun g e => by have h9 := (World.ownsRow.lt HO2.out g (by rw [HKK.out]; exact e)).2; have h8 := hnb.out; omega)
        have HB3 := Lib.hid (HB2.out.trans (hb.mono HB2.out.size))
        have HO3 := Lib.hid (HO2.out.belowZ hb)
        have HI3 := Lib.hid (HI2.out.grown hb)
        have HS3 : Hid (K3.cell? ⟨bx, 0, none⟩ = some (.slice xta T xtc) ∧ K3.cell? ⟨bx, 1, none⟩ = some (.slice xna N xnc) ∧ K3.cell? ⟨bx, 2, none⟩ = some (.slice xaa L xac)) := Lib.hid (⟨(HAU.out.below HB3.out HAU.out.lt).cell 0, (HAU.out.below HB3.out HAU.out.lt).cell 1, (HAU.out.below HB3.out HAU.out.lt).cell 2⟩)
        clear hW3 hb hnb
        refine hK.out _ _ ?_ (fun hHeld => ?_)
        ·exact HS3.out
        clear hK K
        try simp only [Act.put, List.setIfInBounds_toArray, List.set_cons_zero, List.set_cons_succ]
        refine wpAnyH_ready (rs := [6]) (by kernel_rfl) (by simp) ?_
        refine AllReadyH.cons (iatLS (iatSS (iatSS (iatSS (iatSS (iatSS (iatSS iatZS))))))) (fun K hK => ?_) AllReadyH.nil
        obtain ⟨zb, zd, K4, hrun, how, hg, _⟩ := HO3.out.app2 ⟨zi, 0, none⟩ 1 [(k : Int)] HI3.out 35 (by rw [HKK.out]; show KL + 1 ≤ _; omega) HB3.out.size
        rw [show ([(k : Int)] : List Int).length = 1 from rfl, HKK.out] at hrun
        rw [HKK.out] at hg
        have HB4 := Lib.hid (HB3.out.grown hg HB3.out.size (fun g e => (World.ownsRow.lt HO3.out g (by rw [HKK.out]; exact e)).1))
        have HN4 : Hid (Blk K4 nb 51 [.int .i64 0, .int .i64 0, .int .i64 0, .slice none 0 0]) := Lib.hid ((hg.block nb HN3.out.lt (fun e => Hne.out nb e.symm rfl)).trans HN3.out)
        have HJ4 : Hid (Ints K4 zb zd (toks ++ [(k : Int)])) := Lib.hid (OwnKZ.vs how)
        refine step_append_run rfl _ _ 35 35 rfl _ _ _ _ rfl rfl hrun ?_
        clear hrun how hg
        have hb := True.intro
        have HS4 : Hid (K4.cell? ⟨bx, 0, none⟩ = some (.slice xta T xtc) ∧ K4.cell? ⟨bx, 1, none⟩ = some (.slice xna N xnc) ∧ K4.cell? ⟨bx, 2, none⟩ = some (.slice xaa L xac)) := Lib.hid (⟨(HAU.out.below HB4.out HAU.out.lt).cell 0, (HAU.out.below HB4.out HAU.out.lt).cell 1, (HAU.out.below HB4.out HAU.out.lt).cell 2⟩)
        clear hb
        try dsimp only
        refine hK.out _ _ ?_ (fun hHeld => ?_)
        ·exact HS4.out
        clear hK K
        try simp only [Act.put, List.setIfInBounds_toArray, List.set_cons_zero, List.set_cons_succ]
        refine wpAnyH_ready (rs := [7]) (by kernel_rfl) (by simp) ?_
        refine AllReadyH.cons (iatLS (iatSS (iatSS (iatSS (iatSS (iatSS (iatSS (iatSS iatZS)))))))) (fun K hK => ?_) AllReadyH.nil
        go_simp
        (with_reducible refine (Hpr.out K4 HB4.out zb zd HJ4.out).mono ?_)
        intro e9 K5 hT
        have hb := hT.1
        obtain ⟨tk, ti, ta, tga, tn, tgc, p, y, rfl, hX⟩ := tre_box hT
        have HX := Lib.hid hX
        clear hT hX
        have HB5 := Lib.hid (HB4.out.trans (hb.mono HB4.out.size))
        have HN5 := Lib.hid (HN4.out.below hb HN4.out.lt)
        have HJ5 := Lib.hid (HJ4.out.grown hb)
        have HC5 := Lib.hid (Below.refl K5.heap.size K5)
        have Hnc : Hid (nb < K4.heap.size ∨ K5.heap.size ≤ nb) := Lib.hid (.inl HN4.out.lt)
        have HS5 : Hid (K5.cell? ⟨bx, 0, none⟩ = some (.slice xta T xtc) ∧ K5.cell? ⟨bx, 1, none⟩ = some (.slice xna N xnc) ∧ K5.cell? ⟨bx, 2, none⟩ = some (.slice xaa L xac)) := Lib.hid (⟨(HAU.out.below HB5.out HAU.out.lt).cell 0, (HAU.out.below HB5.out HAU.out.lt).cell 1, (HAU.out.below HB5.out HAU.out.lt).cell 2⟩)
        clear hb
        try dsimp only
        refine hK.out _ _ ?_ (fun hHeld => ?_)
        ·exact HS5.out
        clear hK K
        try simp only [Act.put, List.setIfInBounds_toArray, List.set_cons_zero, List.set_cons_succ]
        refine wpAnyH_take (i := 8) (v := ?_) (iatLS (iatSS (iatSS (iatSS (iatSS (iatSS (iatSS (iatSS (iatSS iatZS))))))))) (by kernel_rfl) (by kernel_rfl) (by kernel_rfl) (fun _ _ _ h => h) (Or.inl ⟨by rfl, ?_⟩) (by assumption) ?_
        rotate_left
        ·intro w hSw
         try dsimp only at hSw
         go_simp
         all_goals with_reducible rfl
        try simp only [Act.put, List.setIfInBounds_toArray, List.set_cons_zero, List.set_cons_succ]
        refine wpAnyH_take (i := 9) (v := ?_) (iatLS (iatSS (iatSS (iatSS (iatSS (iatSS (iatSS (iatSS (iatSS (iatSS iatZS)))))))))) (by kernel_rfl) (by kernel_rfl) (by kernel_rfl) (fun _ _ _ h => h) (Or.inl ⟨by rfl, ?_⟩) (by assumption) ?_
        rotate_left
        ·intro w hSw
         try dsimp only at hSw
         go_simp
         all_goals with_reducible rfl
        try simp only [Act.put, List.setIfInBounds_toArray, List.set_cons_zero, List.set_cons_succ]
        refine wpAnyH_take (i := 10) (v := ?_) (iatLS (iatSS (iatSS (iatSS (iatSS (iatSS (iatSS (iatSS (iatSS (iatSS (iatSS iatZS))))))))))) (by kernel_rfl) (by kernel_rfl) (by kernel_rfl) (fun _ _ _ h => h) (Or.inl ⟨by rfl, ?_⟩) (by assumption) ?_
        rotate_left
        ·intro w hSw
         try dsimp only at hSw
         go_simp
         all_goals with_reducible rfl
        try simp only [Act.put, List.setIfInBounds_toArray, List.set_cons_zero, List.set_cons_succ]
        refine wpAnyH_take (i := 11) (v := ?_) (iatLS (iatSS (iatSS (iatSS (iatSS (iatSS (iatSS (iatSS (iatSS (iatSS (iatSS (iatSS iatZS)))))))))))) (by kernel_rfl) (by kernel_rfl) (by kernel_rfl) (fun _ _ _ h => h) (Or.inl ⟨by rfl, ?_⟩) (by assumption) ?_
        rotate_left
        ·intro w hSw
         try dsimp only at hSw
         go_simp
         all_goals with_reducible rfl
        try simp only [Act.put, List.setIfInBounds_toArray, List.set_cons_zero, List.set_cons_succ]
        refine wpAnyH_ready (rs := [13]) (by kernel_rfl) (by simp) ?_
        refine AllReadyH.cons (iatLS (iatSS (iatSS (iatSS (iatSS (iatSS (iatSS (iatSS (iatSS (iatSS (iatSS (iatSS (iatSS (iatSS iatZS)))))))))))))) (fun K hK => ?_) AllReadyH.nil
        have n0 := HN5.out.cell 0
        have n1 := HN5.out.cell 1
        have n2 := HN5.out.cell 2
        have n3 := HN5.out.cell 3
        have f0 := HN5.out.frozen 0
        have f1 := HN5.out.frozen 1
        have f2 := HN5.out.frozen 2
        have f3 := HN5.out.frozen 3
        have nl := HN5.out.lt
        simp only [List.getElem?_cons_zero, List.getElem?_cons_succ] at n0 n1 n2 n3
        go_simp
        have HF := HX.out.1 K5 nb HC5.out Hnc.out HN5.out
        have hb9 := Below.put4 HB5.out Hnb.out (.int .i64 tk) (.int .i64 ti) (.int .i64 ta) (.slice tga tn tgc)
        generalize World.setCell _ _ _ = K6 at HF hb9 ⊢
        have HF := Lib.hid HF
        have HB6 := Lib.hid hb9
        have HS6 : Hid (K6.cell? ⟨bx, 0, none⟩ = some (.slice xta T xtc) ∧ K6.cell? ⟨bx, 1, none⟩ = some (.slice xna N xnc) ∧ K6.cell? ⟨bx, 2, none⟩ = some (.slice xaa L xac)) := Lib.hid (⟨(HAU.out.below HB6.out HAU.out.lt).cell 0, (HAU.out.below HB6.out HAU.out.lt).cell 1, (HAU.out.below HB6.out HAU.out.lt).cell 2⟩)
        clear hb9 n0 n1 n2 n3 f0 f1 f2 f3 nl
        refine hK.out _ _ ?_ (fun hHeld => ?_)
        ·exact HS6.out
        clear hK K
        try simp only [Act.put, List.setIfInBounds_toArray, List.set_cons_zero, List.set_cons_succ]
        refine wpAnyH_take (i := 14) (v := ?_) (iatLS (iatSS (iatSS (iatSS (iatSS (iatSS (iatSS (iatSS (iatSS (iatSS (iatSS (iatSS (iatSS (iatSS (iatSS iatZS))))))))))))))) (by kernel_rfl) (by kernel_rfl) (by kernel_rfl) (fun _ _ _ h => h) (Or.inl ⟨by rfl, ?_⟩) (by assumption) ?_
        rotate_left
        ·intro w hSw
         try dsimp only at hSw
         go_simp
         all_goals with_reducible rfl
        try simp only [Act.put, List.setIfInBounds_toArray, List.set_cons_zero, List.set_cons_succ]
        refine wpAnyH_take (i := 15) (v := ?_) (iatLS (iatSS (iatSS (iatSS (iatSS (iatSS (iatSS (iatSS (iatSS (iatSS (iatSS (iatSS (iatSS (iatSS (iatSS (iatSS iatZS)))))))))))))))) (by kernel_rfl) (by kernel_rfl) (by kernel_rfl) (fun _ _ _ h => h) (Or.inl ⟨by rfl, ?_⟩) (by assumption) ?_
        rotate_left
        ·intro w hSw
         try dsimp only at hSw
         go_simp
         all_goals with_reducible rfl
        try simp only [Act.put, List.setIfInBounds_toArray, List.set_cons_zero, List.set_cons_succ]
        refine wpAnyH_done (by kernel_rfl) ?_ _
        go_wp2_with (fail)
        go_meet
        exact ⟨nb, p, y, rfl, rfl, rfl, Lib.hid HB6.out, HF⟩
      ·
       go_simp
       obtain ⟨nb, hnb⟩ : ∃ q, Hid (K1.heap.size = q) := ⟨_, Lib.hid rfl⟩
       rw [hnb.out]
       generalize hW2 : World.alloc K1 _ = K2
       have hb : Below K1.heap.size K1 K2 := by rw [← hW2]; exact (Below.refl _ _).alloc (Nat.le_refl _) _
       have HN2 : Hid (Blk K2 nb 51 [.int .i64 0, .int .i64 0, .int .i64 0, .slice none 0 0]) := Lib.hid (by rw [← hW2, ← hnb.out]; exact Blk.new _ 51 #[.int .i64 0, .int .i64 0, .int .i64 0, .slice none 0 0])
       have Hnb : Hid (U.heap.size ≤ nb) := Lib.hid (by rw [← hnb.out]; exact HB1.out.size)
       have Hne : Hid (∀ g, (Value.slice za KL zc).ownBlock = some g → g ≠ nb) := Lib.hid (fun g e => by have h9 := (World.ownsRow.lt HO1.out g (by rw [HKK.out]; exact e)).2; have h8 := hnb.out; omega)
       have HB2 := Lib.hid (HB1.out.trans (hb.mono HB1.out.size))
       have HO2 := Lib.hid (HO1.out.belowZ hb)
       have HS2 : Hid (K2.cell? ⟨bx, 0, none⟩ = some (.slice xta T xtc) ∧ K2.cell? ⟨bx, 1, none⟩ = some (.slice xna N xnc) ∧ K2.cell? ⟨bx, 2, none⟩ = some (.slice xaa L xac)) := Lib.hid (⟨(HAU.out.below HB2.out HAU.out.lt).cell 0, (HAU.out.below HB2.out HAU.out.lt).cell 1, (HAU.out.below HB2.out HAU.out.lt).cell 2⟩)
       clear hW2 hb hnb
       refine hK.out _ _ ?_ (fun hHeld => ?_)
       ·exact HS2.out
       clear hK K
       try simp only [Act.put, List.setIfInBounds_toArray, List.set_cons_zero, List.set_cons_succ]
       refine wpAnyH_ready (rs := [5]) (by kernel_rfl) (by simp) ?_
       refine AllReadyH.cons (iatLS (iatSS (iatSS (iatSS (iatSS (iatSS iatZS)))))) (fun K hK => ?_) AllReadyH.nil
       go_simp
       obtain ⟨zi, hzi⟩ : ∃ q, Hid (K2.heap.size = q) := ⟨_, Lib.hid rfl⟩
       rw [hzi.out]
       generalize hW3 : World.alloc K2 _ = K3
       have hb : Below K2.heap.size K2 K3 := by rw [← hW3]; exact (Below.refl _ _).alloc (Nat.le_refl _) _
       have HI3 : Hid (Ints K3 (some ⟨zi, 0, none⟩) 1 [(k : Int)]) := Lib.hid (by rw [← hW3, ← hzi.out]; exact ints_new K2 [(k : Int)] 1 rfl (e9_mx 1 (by omega)))
       clear hW3 hzi
       have HB3 := Lib.hid (HB2.out.trans (hb.mono HB2.out.size))
       have HN3 := Lib.hid (HN2.out.below hb HN2.out.lt)
       have HO3 := Lib.hid (HO2.out.belowZ hb)
       have HS3 : Hid (K3.cell? ⟨bx, 0, none⟩ = some (.slice xta T xtc) ∧ K3.cell? ⟨bx, 1, none⟩ = some (.slice xna N xnc) ∧ K3.cell? ⟨bx, 2, none⟩ = some (.slice xaa L xac)) := Lib.hid (⟨(HAU.out.below HB3.out HAU.out.lt).cell 0, (HAU.out.below HB3.out HAU.out.lt).cell 1, (HAU.out.below HB3.out HAU.out.lt).cell 2⟩)
       clear hb
       try dsimp only
       refine hK.out _ _ ?_ (fun hHeld => ?_)
       ·exact HS3.out
       clear hK K
       try simp only [Act.put, List.setIfInBounds_toArray, List.set_cons_zero, List.set_cons_succ]
       refine wpAnyH_ready (rs := [6]) (by kernel_rfl) (by simp) ?_
       refine AllReadyH.cons (iatLS (iatSS (iatSS (iatSS (iatSS (iatSS (iatSS iatZS))))))) (fun K hK => ?_) AllReadyH.nil
       obtain ⟨zb, zd, K4, hrun, how, hg, _⟩ := HO3.out.app2 ⟨zi, 0, none⟩ 1 [(k : Int)] HI3.out 35 (by rw [HKK.out]; show KL + 1 ≤ _; omega) HB3.out.size
       rw [show ([(k : Int)] : List Int).length = 1 from rfl, HKK.out] at hrun
       rw [HKK.out] at hg
       have HB4 := Lib.hid (HB3.out.grown hg HB3.out.size (fun g e => (World.ownsRow.lt HO3.out g (by rw [HKK.out]; exact e)).1))
       have HN4 : Hid (Blk K4 nb 51 [.int .i64 0, .int .i64 0, .int .i64 0, .slice none 0 0]) := Lib.hid ((hg.block nb HN3.out.lt (fun e => Hne.out nb e.symm rfl)).trans HN3.out)
       have HJ4 : Hid (Ints K4 zb zd (toks ++ [(k : Int)])) := Lib.hid (OwnKZ.vs how)
       refine step_append_run rfl _ _ 35 35 rfl _ _ _ _ rfl rfl hrun ?_
       clear hrun how hg
       have hb := True.intro
       have HS4 : Hid (K4.cell? ⟨bx, 0, none⟩ = some (.slice xta T xtc) ∧ K4.cell? ⟨bx, 1, none⟩ = some (.slice xna N xnc) ∧ K4.cell? ⟨bx, 2, none⟩ = some (.slice xaa L xac)) := Lib.hid (⟨(HAU.out.below HB4.out HAU.out.lt).cell 0, (HAU.out.below HB4.out HAU.out.lt).cell 1, (HAU.out.below HB4.out HAU.out.lt).cell 2⟩)
       clear hb
       try dsimp only
       refine hK.out _ _ ?_ (fun hHeld => ?_)
       ·exact HS4.out
       clear hK K
       try simp only [Act.put, List.setIfInBounds_toArray, List.set_cons_zero, List.set_cons_succ]
       refine wpAnyH_ready (rs := [7]) (by kernel_rfl) (by simp) ?_
       refine AllReadyH.cons (iatLS (iatSS (iatSS (iatSS (iatSS (iatSS (iatSS (iatSS iatZS)))))))) (fun K hK => ?_) AllReadyH.nil
       go_simp
       (with_reducible refine (Hpr.out K4 HB4.out zb zd HJ4.out).mono ?_)
       intro e9 K5 hT
       have hb := hT.1
       obtain ⟨tk, ti, ta, tga, tn, tgc, p, y, rfl, hX⟩ := tre_box hT
       have HX := Lib.hid hX
       clear hT hX
       have HB5 := Lib.hid (HB4.out.trans (hb.mono HB4.out.size))
       have HN5 := Lib.hid (HN4.out.below hb HN4.out.lt)
       have HJ5 := Lib.hid (HJ4.out.grown hb)
       have HC5 := Lib.hid (Below.refl K5.heap.size K5)
       have Hnc : Hid (nb < K4.heap.size ∨ K5.heap.size ≤ nb) := Lib.hid (.inl HN4.out.lt)
       have HS5 : Hid (K5.cell? ⟨bx, 0, none⟩ = some (.slice xta T xtc) ∧ K5.cell? ⟨bx, 1, none⟩ = some (.slice xna N xnc) ∧ K5.cell? ⟨bx, 2, none⟩ = some (.slice xaa L xac)) := Lib.hid (⟨(HAU.out.below HB5.out HAU.out.lt).cell 0, (HAU.out.below HB5.out HAU.out.lt).cell 1, (HAU.out.below HB5.out HAU.out.lt).cell 2⟩)
       clear hb
       try dsimp only
       refine hK.out _ _ ?_ (fun hHeld => ?_)
       ·exact HS5.out
       clear hK K
       try simp only [Act.put, List.setIfInBounds_toArray, List.set_cons_zero, List.set_cons_succ]
       refine wpAnyH_take (i := 8) (v := ?_) (iatLS (iatSS (iatSS (iatSS (iatSS (iatSS (iatSS (iatSS (iatSS iatZS))))))))) (by kernel_rfl) (by kernel_rfl) (by kernel_rfl) (fun _ _ _ h => h) (Or.inl ⟨by rfl, ?_⟩) (by assumption) ?_
       rotate_left
       ·intro w hSw
        try dsimp only at hSw
        go_simp
        all_goals with_reducible rfl
       try simp only [Act.put, List.setIfInBounds_toArray, List.set_cons_zero, List.set_cons_succ]
       refine wpAnyH_take (i := 9) (v := ?_) (iatLS (iatSS (iatSS (iatSS (iatSS (iatSS (iatSS (iatSS (iatSS (iatSS iatZS)))))))))) (by kernel_rfl) (by kernel_rfl) (by kernel_rfl) (fun _ _ _ h => h) (Or.inl ⟨by rfl, ?_⟩) (by assumption) ?_
       rotate_left
       ·intro w hSw
        try dsimp only at hSw
        go_simp
        all_goals with_reducible rfl
       try simp only [Act.put, List.setIfInBounds_toArray, List.set_cons_zero, List.set_cons_succ]
       refine wpAnyH_take (i := 10) (v := ?_) (iatLS (iatSS (iatSS (iatSS (iatSS (iatSS (iatSS (iatSS (iatSS (iatSS (iatSS iatZS))))))))))) (by kernel_rfl) (by kernel_rfl) (by kernel_rfl) (fun _ _ _ h => h) (Or.inl ⟨by rfl, ?_⟩) (by assumption) ?_
       rotate_left
       ·intro w hSw
        try dsimp only at hSw
        go_simp
        all_goals with_reducible rfl
       try simp only [Act.put, List.setIfInBounds_toArray, List.set_cons_zero, List.set_cons_succ]
       refine wpAnyH_take (i := 11) (v := ?_) (iatLS (iatSS (iatSS (iatSS (iatSS (iatSS (iatSS (iatSS (iatSS (iatSS (iatSS (iatSS iatZS)))))))))))) (by kernel_rfl) (by kernel_rfl) (by kernel_rfl) (fun _ _ _ h => h) (Or.inl ⟨by rfl, ?_⟩) (by assumption) ?_
       rotate_left
       ·intro w hSw
        try dsimp only at hSw
        go_simp
        all_goals with_reducible rfl
       try simp only [Act.put, List.setIfInBounds_toArray, List.set_cons_zero, List.set_cons_succ]
       refine wpAnyH_ready (rs := [13]) (by kernel_rfl) (by simp) ?_
       refine AllReadyH.cons (iatLS (iatSS (iatSS (iatSS (iatSS (iatSS (iatSS (iatSS (iatSS (iatSS (iatSS (iatSS (iatSS (iatSS iatZS)))))))))))))) (fun K hK => ?_) AllReadyH.nil
       have n0 := HN5.out.cell 0
       have n1 := HN5.out.cell 1
       have n2 := HN5.out.cell 2
       have n3 := HN5.out.cell 3
       have f0 := HN5.out.frozen 0
       have f1 := HN5.out.frozen 1
       have f2 := HN5.out.frozen 2
       have f3 := HN5.out.frozen 3
       have nl := HN5.out.lt
       simp only [List.getElem?_cons_zero, List.getElem?_cons_succ] at n0 n1 n2 n3
       go_simp
       have HF := HX.out.1 K5 nb HC5.out Hnc.out HN5.out
       have hb9 := Below.put4 HB5.out Hnb.out (.int .i64 tk) (.int .i64 ti) (.int .i64 ta) (.slice tga tn tgc)
       generalize World.setCell _ _ _ = K6 at HF hb9 ⊢
       have HF := Lib.hid HF
       have HB6 := Lib.hid hb9
       have HS6 : Hid (K6.cell? ⟨bx, 0, none⟩ = some (.slice xta T xtc) ∧ K6.cell? ⟨bx, 1, none⟩ = some (.slice xna N xnc) ∧ K6.cell? ⟨bx, 2, none⟩ = some (.slice xaa L xac)) := Lib.hid (⟨(HAU.out.below HB6.out HAU.out.lt).cell 0, (HAU.out.below HB6.out HAU.out.lt).cell 1, (HAU.out.below HB6.out HAU.out.lt).cell 2⟩)
       clear hb9 n0 n1 n2 n3 f0 f1 f2 f3 nl
       refine hK.out _ _ ?_ (fun hHeld => ?_)
       ·exact HS6.out
       clear hK K
       try simp only [Act.put, List.setIfInBounds_toArray, List.set_cons_zero, List.set_cons_succ]
       refine wpAnyH_take (i := 14) (v := ?_) (iatLS (iatSS (iatSS (iatSS (iatSS (iatSS (iatSS (iatSS (iatSS (iatSS (iatSS (iatSS (iatSS (iatSS (iatSS iatZS))))))))))))))) (by kernel_rfl) (by kernel_rfl) (by kernel_rfl) (fun _ _ _ h => h) (Or.inl ⟨by rfl, ?_⟩) (by assumption) ?_
       rotate_left
       ·intro w hSw
        try dsimp only at hSw
        go_simp
        all_goals with_reducible rfl
       try simp only [Act.put, List.setIfInBounds_toArray, List.set_cons_zero, List.set_cons_succ]
       refine wpAnyH_take (i := 15) (v := ?_) (iatLS (iatSS (iatSS (iatSS (iatSS (iatSS (iatSS (iatSS (iatSS (iatSS (iatSS (iatSS (iatSS (iatSS (iatSS (iatSS iatZS)))))))))))))))) (by kernel_rfl) (by kernel_rfl) (by kernel_rfl) (fun _ _ _ h => h) (Or.inl ⟨by rfl, ?_⟩) (by assumption) ?_
       rotate_left
       ·intro w hSw
        try dsimp only at hSw
        go_simp
        all_goals with_reducible rfl
       try simp only [Act.put, List.setIfInBounds_toArray, List.set_cons_zero, List.set_cons_succ]
       refine wpAnyH_done (by kernel_rfl) ?_ _
       go_wp2_with (fail)
       go_meet
       exact ⟨nb, p, y, rfl, rfl, rfl, Lib.hid HB6.out, HF⟩
     ·
      go_simp
      obtain ⟨zi, hzi⟩ : ∃ q, Hid (K0.heap.size = q) := ⟨_, Lib.hid rfl⟩
      rw [hzi.out]
      generalize hW1 : World.alloc K0 _ = K1
      have hb : Below K0.heap.size K0 K1 := by rw [← hW1]; exact (Below.refl _ _).alloc (Nat.le_refl _) _
      have HI1 : Hid (Ints K1 (some ⟨zi, 0, none⟩) 1 [(k : Int)]) := Lib.hid (by rw [← hW1, ← hzi.out]; exact ints_new K0 [(k : Int)] 1 rfl (e9_mx 1 (by omega)))
      clear hW1 hzi
      have HB1 := Lib.hid (HB0.out.trans (hb.mono HB0.out.size))
      have HS1 : Hid (K1.cell? ⟨bx, 0, none⟩ = some (.slice xta T xtc) ∧ K1.cell? ⟨bx, 1, none⟩ = some (.slice xna N xnc) ∧ K1.cell? ⟨bx, 2, none⟩ = some (.slice xaa L xac)) := Lib.hid (⟨(HAU.out.below HB1.out HAU.out.lt).cell 0, (HAU.out.below HB1.out HAU.out.lt).cell 1, (HAU.out.below HB1.out HAU.out.lt).cell 2⟩)
      clear hb
      try dsimp only
      refine hK.out _ _ ?_ (fun hHeld => ?_)
      ·exact HS1.out
      clear hK K
      try simp only [Act.put, List.setIfInBounds_toArray, List.set_cons_zero, List.set_cons_succ]
      refine wpAnyH_ready (rs := [3, 12]) (by kernel_rfl) (by simp) ?_
      refine AllReadyH.cons (iatLS (iatSS (iatSS (iatSS iatZS)))) (fun K hK => ?_) (AllReadyH.cons (iatLS (iatSS (iatSS (iatSS (iatSS (iatSS (iatSS (iatSS (iatSS (iatSS (iatSS (iatSS (iatSS iatZS))))))))))))) (fun K hK => ?_) (AllReadyH.nil))
      ·
       obtain ⟨za, zc, K2, hrun, how, hb⟩ := (OwnKZ.nil K1 K1.heap.size).app ka kc toks (Hk.out.grown (HbU.out.trans (HB1.out.mono HbU.out.size))) 35 (by show 0 + toks.length ≤ _; rw [HKK.out]; omega) (Nat.le_refl _)
       rw [show ([] : List Int).length = 0 from rfl, HKK.out, Nat.zero_add] at hrun
       rw [List.nil_append] at how
       have HO2 : Hid (OwnKZ K2 U.heap.size za zc toks) := Lib.hid (own_mono how HB1.out.size)
       refine step_append_run rfl _ _ 35 35 rfl _ _ _ _ rfl rfl hrun ?_
       clear hrun how
       have HB2 := Lib.hid (HB1.out.trans (hb.mono HB1.out.size))
       have HI2 := Lib.hid (HI1.out.grown hb)
       have HS2 : Hid (K2.cell? ⟨bx, 0, none⟩ = some (.slice xta T xtc) ∧ K2.cell? ⟨bx, 1, none⟩ = some (.slice xna N xnc) ∧ K2.cell? ⟨bx, 2, none⟩ = some (.slice xaa L xac)) := Lib.hid (⟨(HAU.out.below HB2.out HAU.out.lt).cell 0, (HAU.out.below HB2.out HAU.out.lt).cell 1, (HAU.out.below HB2.out HAU.out.lt).cell 2⟩)
       clear hb
       try dsimp only
       refine hK.out _ _ ?_ (fun hHeld => ?_)
       ·exact HS2.out
       clear hK K
       try simp only [Act.put, List.setIfInBounds_toArray, List.set_cons_zero, List.set_cons_succ]
       refine wpAnyH_ready (rs := [6, 12]) (by kernel_rfl) (by simp) ?_
       refine AllReadyH.cons (iatLS (iatSS (iatSS (iatSS (iatSS (iatSS (iatSS iatZS))))))) (fun K hK => ?_) (AllReadyH.cons (iatLS (iatSS (iatSS (iatSS (iatSS (iatSS (iatSS (iatSS (iatSS (iatSS (iatSS (iatSS (iatSS iatZS))))))))))))) (fun K hK => ?_) (AllReadyH.nil))
       ·
        obtain ⟨zb, zd, K3, hrun, how, hg, _⟩ := HO2.out.app2 ⟨zi, 0, none⟩ 1 [(k : Int)] HI2.out 35 (by rw [HKK.out]; show KL + 1 ≤ _; omega) HB2.out.size
        rw [show ([(k : Int)] : List Int).length = 1 from rfl, HKK.out] at hrun
        rw [HKK.out] at hg
        have HB3 := Lib.hid (HB2.out.grown hg HB2.out.size (fun g e => (World.ownsRow.lt HO2.out g (by rw [HKK.out]; exact e)).1))
        have HJ3 : Hid (Ints K3 zb zd (toks ++ [(k : Int)])) := Lib.hid (OwnKZ.vs how)
        refine step_append_run rfl _ _ 35 35 rfl _ _ _ _ rfl rfl hrun ?_
        clear hrun how hg
        have hb := True.intro
        have HS3 : Hid (K3.cell? ⟨bx, 0, none⟩ = some (.slice xta T xtc) ∧ K3.cell? ⟨bx, 1, none⟩ = some (.slice xna N xnc) ∧ K3.cell? ⟨bx, 2, none⟩ = some (.slice xaa L xac)) := Lib.hid (⟨(HAU.out.below HB3.out HAU.out.lt).cell 0, (HAU.out.below HB3.out HAU.out.lt).cell 1, (HAU.out.below HB3.out HAU.out.lt).cell 2⟩)
        clear hb
        try dsimp only
        refine hK.out _ _ ?_ (fun hHeld => ?_)
        ·exact HS3.out
        clear hK K
        try simp only [Act.put, List.setIfInBounds_toArray, List.set_cons_zero, List.set_cons_succ]
        refine wpAnyH_ready (rs := [7, 12]) (by kernel_rfl) (by simp) ?_
        refine AllReadyH.cons (iatLS (iatSS (iatSS (iatSS (iatSS (iatSS (iatSS (iatSS iatZS)))))))) (fun K hK => ?_) (AllReadyH.cons (iatLS (iatSS (iatSS (iatSS (iatSS (iatSS (iatSS (iatSS (iatSS (iatSS (iatSS (iatSS (iatSS iatZS))))))))))))) (fun K hK => ?_) (AllReadyH.nil))
        ·
         go_simp
         (with_reducible refine (Hpr.out K3 HB3.out zb zd HJ3.out).mono ?_)
         intro e9 K4 hT
         have hb := hT.1
         obtain ⟨tk, ti, ta, tga, tn, tgc, p, y, rfl, hX⟩ := tre_box hT
         have HX := Lib.hid hX
         clear hT hX
         have HB4 := Lib.hid (HB3.out.trans (hb.mono HB3.out.size))
         have HJ4 := Lib.hid (HJ3.out.grown hb)
         have HC4 := Lib.hid (Below.refl K4.heap.size K4)
         have HS4 : Hid (K4.cell? ⟨bx, 0, none⟩ = some (.slice xta T xtc) ∧ K4.cell? ⟨bx, 1, none⟩ = some (.slice xna N xnc) ∧ K4.cell? ⟨bx, 2, none⟩ = some (.slice xaa L xac)) := Lib.hid (⟨(HAU.out.below HB4.out HAU.out.lt).cell 0, (HAU.out.below HB4.out HAU.out.lt).cell 1, (HAU.out.below HB4.out HAU.out.lt).cell 2⟩)
         clear hb
         try dsimp only
         refine hK.out _ _ ?_ (fun hHeld => ?_)
         ·exact HS4.out
         clear hK K
         try simp only [Act.put, List.setIfInBounds_toArray, List.set_cons_zero, List.set_cons_succ]
         refine wpAnyH_take (i := 8) (v := ?_) (iatLS (iatSS (iatSS (iatSS (iatSS (iatSS (iatSS (iatSS (iatSS iatZS))))))))) (by kernel_rfl) (by kernel_rfl) (by kernel_rfl) (fun _ _ _ h => h) (Or.inl ⟨by rfl, ?_⟩) (by assumption) ?_
         rotate_left
         ·intro w hSw
          try dsimp only at hSw
          go_simp
          all_goals with_reducible rfl
         try simp only [Act.put, List.setIfInBounds_toArray, List.set_cons_zero, List.set_cons_succ]
         refine wpAnyH_take (i := 9) (v := ?_) (iatLS (iatSS (iatSS (iatSS (iatSS (iatSS (iatSS (iatSS (iatSS (iatSS iatZS)))))))))) (by kernel_rfl) (by kernel_rfl) (by kernel_rfl) (fun _ _ _ h => h) (Or.inl ⟨by rfl, ?_⟩) (by assumption) ?_
         rotate_left
         ·intro w hSw
          try dsimp only at hSw
          go_simp
          all_goals with_reducible rfl
         try simp only [Act.put, List.setIfInBounds_toArray, List.set_cons_zero, List.set_cons_succ]
         refine wpAnyH_take (i := 10) (v := ?_) (iatLS (iatSS (iatSS (iatSS (iatSS (iatSS (iatSS (iatSS (iatSS (iatSS (iatSS iatZS))))))))))) (by kernel_rfl) (by kernel_rfl) (by kernel_rfl) (fun _ _ _ h => h) (Or.inl ⟨by rfl, ?_⟩) (by assumption) ?_
         rotate_left
         ·intro w hSw
          try dsimp only at hSw
          go_simp
          all_goals with_reducible rfl
         try simp only [Act.put, List.setIfInBounds_toArray, List.set_cons_zero, List.set_cons_succ]
         refine wpAnyH_take (i := 11) (v := ?_) (iatLS (iatSS (iatSS (iatSS (iatSS (iatSS (iatSS (iatSS (iatSS (iatSS (iatSS (iatSS iatZS)))))))))))) (by kernel_rfl) (by kernel_rfl) (by kernel_rfl) (fun _ _ _ h => h) (Or.inl ⟨by rfl, ?_⟩) (by assumption) ?_
         rotate_left
         ·intro w hSw
          try dsimp only at hSw
          go_simp
          all_goals with_reducible rfl
         try simp only [Act.put, List.setIfInBounds_toArray, List.set_cons_zero, List.set_cons_succ]
         refine wpAnyH_ready (rs := [12]) (by kernel_rfl) (by simp) ?_
         refine AllReadyH.cons (iatLS (iatSS (iatSS (iatSS (iatSS (iatSS (iatSS (iatSS (iatSS (iatSS (iatSS (iatSS (iatSS iatZS))))))))))))) (fun K hK => ?_) AllReadyH.nil
         go_simp
         obtain ⟨nb, hnb⟩ : ∃ q, Hid (K4.heap.size = q) := ⟨_, Lib.hid rfl⟩
         rw [hnb.out]
         generalize hW5 : World.alloc K4 _ = K5
         have hb : Below K4.heap.size K4 K5 := by rw [← hW5]; exact (Below.refl _ _).alloc (Nat.le_refl _) _
         have HN5 : Hid (Blk K5 nb 51 [.int .i64 0, .int .i64 0, .int .i64 0, .slice none 0 0]) := Lib.hid (by rw [← hW5, ← hnb.out]; exact Blk.new _ 51 #[.int .i64 0, .int .i64 0, .int .i64 0, .slice none 0 0])
         have Hnb : Hid (U.heap.size ≤ nb) := Lib.hid (by rw [← hnb.out]; exact HB4.out.size)
         have HB5 := Lib.hid (HB4.out.trans (hb.mono HB4.out.size))
         have HC5 := Lib.hid (HC4.out.trans (hb.mono HC4.out.size))
         have Hnc : Hid (nb < K3.heap.size ∨ K4.heap.size ≤ nb) := Lib.hid (.inr (Nat.le_trans HC4.out.size (Nat.le_of_eq hnb.out)))
         have HS5 : Hid (K5.cell? ⟨bx, 0, none⟩ = some (.slice xta T xtc) ∧ K5.cell? ⟨bx, 1, none⟩ = some (.slice xna N xnc) ∧ K5.cell? ⟨bx, 2, none⟩ = some (.slice xaa L xac)) := Lib.hid (⟨(HAU.out.below HB5.out HAU.out.lt).cell 0, (HAU.out.below HB5.out HAU.out.lt).cell 1, (HAU.out.below HB5.out HAU.out.lt).cell 2⟩)
         clear hW5 hb hnb
         refine hK.out _ _ ?_ (fun hHeld => ?_)
         ·exact HS5.out
         clear hK K
         try simp only [Act.put, List.setIfInBounds_toArray, List.set_cons_zero, List.set_cons_succ]
         refine wpAnyH_ready (rs := [13]) (by kernel_rfl) (by simp) ?_
         refine AllReadyH.cons (iatLS (iatSS (iatSS (iatSS (iatSS (iatSS (iatSS (iatSS (iatSS (iatSS (iatSS (iatSS (iatSS (iatSS iatZS)))))))))))))) (fun K hK => ?_) AllReadyH.nil
         have n0 := HN5.out.cell 0
         have n1 := HN5.out.cell 1
         have n2 := HN5.out.cell 2
         have n3 := HN5.out.cell 3
         have f0 := HN5.out.frozen 0
         have f1 := HN5.out.frozen 1
         have f2 := HN5.out.frozen 2
         have f3 := HN5.out.frozen 3
         have nl := HN5.out.lt
         simp only [List.getElem?_cons_zero, List.getElem?_cons_succ] at n0 n1 n2 n3
         go_simp
         have HF := HX.out.1 K5 nb HC5.out Hnc.out HN5.out
         have hb9 := Below.put4 HB5.out Hnb.out (.int .i64 tk) (.int .i64 ti) (.int .i64 ta) (.slice tga tn tgc)
         generalize World.setCell _ _ _ = K6 at HF hb9 ⊢
         have HF := Lib.hid HF
         have HB6 := Lib.hid hb9
         have HS6 : Hid (K6.cell? ⟨bx, 0, none⟩ = some (.slice xta T xtc) ∧ K6.cell? ⟨bx, 1, none⟩ = some (.slice xna N xnc) ∧ K6.cell? ⟨bx, 2, none⟩ = some (.slice xaa L xac)) := Lib.hid (⟨(HAU.out.below HB6.out HAU.out.lt).cell 0, (HAU.out.below HB6.out HAU.out.lt).cell 1, (HAU.out.below HB6.out HAU.out.lt).cell 2⟩)
         clear hb9 n0 n1 n2 n3 f0 f1 f2 f3 nl
         refine hK.out _ _ ?_ (fun hHeld => ?_)
         ·exact HS6.out
         clear hK K
         try simp only [Act.put, List.setIfInBounds_toArray, List.set_cons_zero, List.set_cons_succ]
         refine wpAnyH_take (i := 14) (v := ?_) (iatLS (iatSS (iatSS (iatSS (iatSS (iatSS (iatSS (iatSS (iatSS (iatSS (iatSS (iatSS (iatSS (iatSS (iatSS iatZS))))))))))))))) (by kernel_rfl) (by kernel_rfl) (by kernel_rfl) (fun _ _ _ h => h) (Or.inl ⟨by rfl, ?_⟩) (by assumption) ?_
         rotate_left
         ·intro w hSw
          try dsimp only at hSw
          go_simp
          all_goals with_reducible rfl
         try simp only [Act.put, List.setIfInBounds_toArray, List.set_cons_zero, List.set_cons_succ]
         refine wpAnyH_take (i := 15) (v := ?_) (iatLS (iatSS (iatSS (iatSS (iatSS (iatSS (iatSS (iatSS (iatSS (iatSS (iatSS (iatSS (iatSS (iatSS (iatSS (iatSS iatZS)))))))))))))))) (by kernel_rfl) (by kernel_rfl) (by kernel_rfl) (fun _ _ _ h => h) (Or.inl ⟨by rfl, ?_⟩) (by assumption) ?_
         rotate_left
         ·intro w hSw
          try dsimp only at hSw
          go_simp
          all_goals with_reducible rfl
         try simp only [Act.put, List.setIfInBounds_toArray, List.set_cons_zero, List.set_cons_succ]
         refine wpAnyH_done (by kernel_rfl) ?_ _
         go_wp2_with (fail)
         go_meet
         exact ⟨nb, p, y, rfl, rfl, rfl, Lib.hid HB6.out, HF⟩
        ·
         go_simp
         obtain ⟨nb, hnb⟩ : ∃ q, Hid (K3.heap.size = q) := ⟨_, Lib.hid rfl⟩
         rw [hnb.out]
         generalize hW4 : World.alloc K3 _ = K4
         have hb : Below K3.heap.size K3 K4 := by rw [← hW4]; exact (Below.refl _ _).alloc (Nat.le_refl _) _
         have HN4 : Hid (Blk K4 nb 51 [.int .i64 0, .int .i64 0, .int .i64 0, .slice none 0 0]) := Lib.hid (by rw [← hW4, ← hnb.out]; exact Blk.new _ 51 #[.int .i64 0, .int .i64 0, .int .i64 0, .slice none 0 0])
         have Hnb : Hid (U.heap.size ≤ nb) := Lib.hid (by rw [← hnb.out]; exact HB3.out.size)
         have HB4 := Lib.hid (HB3.out.trans (hb.mono HB3.out.size))
         have HJ4 := Lib.hid (HJ3.out.grown hb)
         have HS4 : Hid (K4.cell? ⟨bx, 0, none⟩ = some (.slice xta T xtc) ∧ K4.cell? ⟨bx, 1, none⟩ = some (.slice xna N xnc) ∧ K4.cell? ⟨bx, 2, none⟩ = some (.slice xaa L xac)) := Lib.hid (⟨(HAU.out.below HB4.out HAU.out.lt).cell 0, (HAU.out.below HB4.out HAU.out.lt).cell 1, (HAU.out.below HB4.out HAU.out.lt).cell 2⟩)
         clear hW4 hb hnb
         refine hK.out _ _ ?_ (fun hHeld => ?_)
         ·exact HS4.out
         clear hK K
         try simp only [Act.put, List.setIfInBounds_toArray, List.set_cons_zero, List.set_cons_succ]
         refine wpAnyH_ready (rs := [7]) (by kernel_rfl) (by simp) ?_
         refine AllReadyH.cons (iatLS (iatSS (iatSS (iatSS (iatSS (iatSS (iatSS (iatSS iatZS)))))))) (fun K hK => ?_) AllReadyH.nil
         go_simp
         (with_reducible refine (Hpr.out K4 HB4.out zb zd HJ4.out).mono ?_)
         intro e9 K5 hT
         have hb := hT.1
         obtain ⟨tk, ti, ta, tga, tn, tgc, p, y, rfl, hX⟩ := tre_box hT
         have HX := Lib.hid hX
         clear hT hX
         have HB5 := Lib.hid (HB4.out.trans (hb.mono HB4.out.size))
         have HN5 := Lib.hid (HN4.out.below hb HN4.out.lt)
         have HJ5 := Lib.hid (HJ4.out.grown hb)
         have HC5 := Lib.hid (Below.refl K5.heap.size K5)
         have Hnc : Hid (nb < K4.heap.size ∨ K5.heap.size ≤ nb) := Lib.hid (.inl HN4.out.lt)
         have HS5 : Hid (K5.cell? ⟨bx, 0, none⟩ = some (.slice xta T xtc) ∧ K5.cell? ⟨bx, 1, none⟩ = some (.slice xna N xnc) ∧ K5.cell? ⟨bx, 2, none⟩ = some (.slice xaa L xac)) := Lib.hid (⟨(HAU.out.below HB5.out HAU.out.lt).cell 0, (HAU.out.below HB5.out HAU.out.lt).cell 1, (HAU.out.below HB5.out HAU.out.lt).cell 2⟩)
         clear hb
         try dsimp only
         refine hK.out _ _ ?_ (fun hHeld => ?_)
         ·exact HS5.out
         clear hK K
         try simp only [Act.put, List.setIfInBounds_toArray, List.set_cons_zero, List.set_cons_succ]
         refine wpAnyH_take (i := 8) (v := ?_) (iatLS (iatSS (iatSS (iatSS (iatSS (iatSS (iatSS (iatSS (iatSS iatZS))))))))) (by kernel_rfl) (by kernel_rfl) (by kernel_rfl) (fun _ _ _ h => h) (Or.inl ⟨by rfl, ?_⟩) (by assumption) ?_
         rotate_left
         ·intro w hSw
          try dsimp only at hSw
          go_simp
          all_goals with_reducible rfl
         try simp only [Act.put, List.setIfInBounds_toArray, List.set_cons_zero, List.set_cons_succ]
         refine wpAnyH_take (i := 9) (v := ?_) (iatLS (iatSS (iatSS (iatSS (iatSS (iatSS (iatSS (iatSS (iatSS (iatSS iatZS)))))))))) (by kernel_rfl) (by kernel_rfl) (by kernel_rfl) (fun _ _ _ h => h) (Or.inl ⟨by rfl, ?_⟩) (by assumption) ?_
         rotate_left
         ·intro w hSw
          try dsimp only at hSw
          go_simp
          all_goals with_reducible rfl
         try simp only [Act.put, List.setIfInBounds_toArray, List.set_cons_zero, List.set_cons_succ]
         refine wpAnyH_take (i := 10) (v := ?_) (iatLS (iatSS (iatSS (iatSS (iatSS (iatSS (iatSS (iatSS (iatSS (iatSS (iatSS iatZS))))))))))) (by kernel_rfl) (by kernel_rfl) (by kernel_rfl) (fun _ _ _ h => h) (Or.inl ⟨by rfl, ?_⟩) (by assumption) ?_
         rotate_left
         ·intro w hSw
          try dsimp only at hSw
          go_simp
          all_goals with_reducible rfl
         try simp only [Act.put, List.setIfInBounds_toArray, List.set_cons_zero, List.set_cons_succ]
         refine wpAnyH_take (i := 11) (v := ?_) (iatLS (iatSS (iatSS (iatSS (iatSS (iatSS (iatSS (iatSS (iatSS (iatSS (iatSS (iatSS iatZS)))))))))))) (by kernel_rfl) (by kernel_rfl) (by kernel_rfl) (fun _ _ _ h => h) (Or.inl ⟨by rfl, ?_⟩) (by assumption) ?_
         rotate_left
         ·intro w hSw
          try dsimp only at hSw
          go_simp
          all_goals with_reducible rfl
         try simp only [Act.put, List.setIfInBounds_toArray, List.set_cons_zero, List.set_cons_succ]
         refine wpAnyH_ready (rs := [13]) (by kernel_rfl) (by simp) ?_
         refine AllReadyH.cons (iatLS (iatSS (iatSS (iatSS (iatSS (iatSS (iatSS (iatSS (iatSS (iatSS (iatSS (iatSS (iatSS (iatSS iatZS)))))))))))))) (fun K hK => ?_) AllReadyH.nil
         have n0 := HN5.out.cell 0
         have n1 := HN5.out.cell 1
         have n2 := HN5.out.cell 2
         have n3 := HN5.out.cell 3
         have f0 := HN5.out.frozen 0
         have f1 := HN5.out.frozen 1
         have f2 := HN5.out.frozen 2
         have f3 := HN5.out.frozen 3
         have nl := HN5.out.lt
         simp only [List.getElem?_cons_zero, List.getElem?_cons_succ] at n0 n1 n2 n3
         go_simp
         have HF := HX.out.1 K5 nb HC5.out Hnc.out HN5.out
         have hb9 := Below.put4 HB5.out Hnb.out (.int .i64 tk) (.int .i64 ti) (.int .i64 ta) (.slice tga tn tgc)
         generalize World.setCell _ _ _ = K6 at HF hb9 ⊢
         have HF := Lib.hid HF
         have HB6 := Lib.hid hb9
         have HS6 : Hid (K6.cell? ⟨bx, 0, none⟩ = some (.slice xta T xtc) ∧ K6.cell? ⟨bx, 1, none⟩ = some (.slice xna N xnc) ∧ K6.cell? ⟨bx, 2, none⟩ = some (.slice xaa L xac)) := Lib.hid (⟨(HAU.out.below HB6.out HAU.out.lt).cell 0, (HAU.out.below HB6.out HAU.out.lt).cell 1, (HAU.out.below HB6.out HAU.out.lt).cell 2⟩)
         clear hb9 n0 n1 n2 n3 f0 f1 f2 f3 nl
         refine hK.out _ _ ?_ (fun hHeld => ?_)
         ·exact HS6.out
         clear hK K
         try simp only [Act.put, List.setIfInBounds_toArray, List.set_cons_zero, List.set_cons_succ]
         refine wpAnyH_take (i := 14) (v := ?_) (iatLS (iatSS (iatSS (iatSS (iatSS (iatSS (iatSS (iatSS (iatSS (iatSS (iatSS (iatSS (iatSS (iatSS (iatSS iatZS))))))))))))))) (by kernel_rfl) (by kernel_rfl) (by kernel_rfl) (fun _ _ _ h => h) (Or.inl ⟨by rfl, ?_⟩) (by assumption) ?_
         rotate_left
         ·intro w hSw
          try dsimp only at hSw
          go_simp
          all_goals with_reducible rfl
         try simp only [Act.put, List.setIfInBounds_toArray, List.set_cons_zero, List.set_cons_succ]
         refine wpAnyH_take (i := 15) (v := ?_) (iatLS (iatSS (iatSS (iatSS (iatSS (iatSS (iatSS (iatSS (iatSS (iatSS (iatSS (iatSS (iatSS (iatSS (iatSS (iatSS iatZS)))))))))))))))) (by kernel_rfl) (by kernel_rfl) (by kernel_rfl) (fun _ _ _ h => h) (Or.inl ⟨by rfl, ?_⟩) (by assumption) ?_
         rotate_left
         ·intro w hSw
          try dsimp only at hSw
          go_simp
          all_goals with_reducible rfl
         try simp only [Act.put, List.setIfInBounds_toArray, List.set_cons_zero, List.set_cons_succ]
         refine wpAnyH_done (by kernel_rfl) ?_ _
         go_wp2_with (fail)
         go_meet
         exact ⟨nb, p, y, rfl, rfl, rfl, Lib.hid HB6.out, HF⟩
       ·
        go_simp
        obtain ⟨nb, hnb⟩ : ∃ q, Hid (K2.heap.size = q) := ⟨_, Lib.hid rfl⟩
        rw [hnb.out]
        generalize hW3 : World.alloc K2 _ = K3
        have hb : Below K2.heap.size K2 K3 := by rw [← hW3]; exact (Below.refl _ _).alloc (Nat.le_refl _) _
        have HN3 : Hid (Blk K3 nb 51 [.int .i64 0, .int .i64 0, .int .i64 0, .slice none 0 0]) := Lib.hid (by rw [← hW3, ← hnb.out]; exact Blk.new _ 51 #[.int .i64 0, .int .i64 0, .int .i64 0, .slice none 0 0])
        have Hnb : Hid (U.heap.size ≤ nb) := Lib.hid (by rw [← hnb.out]; exact HB2.out.size)
        have Hne : Hid (∀ g, (Value.slice za KL zc).ownBlock = some g → g ≠ nb) := Lib.hid (fun g e => by have h9 := (World.ownsRow.lt HO2.out g (by rw [HKK.out]; exact e)).2; have h8 := hnb.out; omega)
        have HB3 := Lib.hid (HB2.out.trans (hb.mono HB2.out.size))
        have HO3 := Lib.hid (HO2.out.belowZ hb)
        have HI3 := Lib.hid (HI2.out.grown hb)
        have HS3 : Hid (K3.cell? ⟨bx, 0, none⟩ = some (.slice xta T xtc) ∧ K3.cell? ⟨bx, 1, none⟩ = some (.slice xna N xnc) ∧ K3.cell? ⟨bx, 2, none⟩ = some (.slice xaa L xac)) := Lib.hid (⟨(HAU.out.below HB3.out HAU.out.lt).cell 0, (HAU.out.below HB3.out HAU.out.lt).cell 1, (HAU.out.below HB3.out HAU.out.lt).cell 2⟩)
        clear hW3 hb hnb
        refine hK.out _ _ ?_ (fun hHeld => ?_)
        ·exact HS3.out
        clear hK K
        try simp only [Act.put, List.setIfInBounds_toArray, List.set_cons_zero, List.set_cons_succ]
        refine wpAnyH_ready (rs := [6]) (by kernel_rfl) (by simp) ?_
        refine AllReadyH.cons (iatLS (iatSS (iatSS (iatSS (iatSS (iatSS (iatSS iatZS))))))) (fun K hK => ?_) AllReadyH.nil
        obtain ⟨zb, zd, K4, hrun, how, hg, _⟩ := HO3.out.app2 ⟨zi, 0, none⟩ 1 [(k : Int)] HI3.out 35 (by rw [HKK.out]; show KL + 1 ≤ _; omega) HB3.out.size
        rw [show ([(k : Int)] : List Int).length = 1 from rfl, HKK.out] at hrun
        rw [HKK.out] at hg
        have HB4 := Lib.hid (HB3.out.grown hg HB3.out.size (fun g e => (World.ownsRow.lt HO3.out g (by rw [HKK.out]; exact e)).1))
        have HN4 : Hid (Blk K4 nb 51 [.int .i64 0, .int .i64 0, .int .i64 0, .slice none 0 0]) := Lib.hid ((hg.block nb HN3.out.lt (fun e => Hne.out nb e.symm rfl)).trans HN3.out)
        have HJ4 : Hid (Ints K4 zb zd (toks ++ [(k : Int)])) := Lib.hid (OwnKZ.vs how)
        refine step_append_run rfl _ _ 35 35 rfl _ _ _ _ rfl rfl hrun ?_
        clear hrun how hg
        have hb := True.intro
        have HS4 : Hid (K4.cell? ⟨bx, 0, none⟩ = some (.slice xta T xtc) ∧ K4.cell? ⟨bx, 1, none⟩ = some (.slice xna N xnc) ∧ K4.cell? ⟨bx, 2, none⟩ = some (.slice xaa L xac)) := Lib.hid (⟨(HAU.out.below HB4.out HAU.out.lt).cell 0, (HAU.out.below HB4.out HAU.out.lt).cell 1, (HAU.out.below HB4.out HAU.out.lt).cell 2⟩)
        clear hb
        try dsimp only
        refine hK.out _ _ ?_ (fun hHeld => ?_)
        ·exact HS4.out
        clear hK K
        try simp only [Act.put, List.setIfInBounds_toArray, List.set_cons_zero, List.set_cons_succ]
        refine wpAnyH_ready (rs := [7]) (by kernel_rfl) (by simp) ?_
        refine AllReadyH.cons (iatLS (iatSS (iatSS (iatSS (iatSS (iatSS (iatSS (iatSS iatZS)))))))) (fun K hK => ?_) AllReadyH.nil
        go_simp
        (with_reducible refine (Hpr.out K4 HB4.out zb zd HJ4.out).mono ?_)
        intro e9 K5 hT
        have hb := hT.1
        obtain ⟨tk, ti, ta, tga, tn, tgc, p, y, rfl, hX⟩ := tre_box hT
        have HX := Lib.hid hX
        clear hT hX
        have HB5 := Lib.hid (HB4.out.trans (hb.mono HB4.out.size))
        have HN5 := Lib.hid (HN4.out.below hb HN4.out.lt)
        have HJ5 := Lib.hid (HJ4.out.grown hb)
        have HC5 := Lib.hid (Below.refl K5.heap.size K5)
        have Hnc : Hid (nb < K4.heap.size ∨ K5.heap.size ≤ nb) := Lib.hid (.inl HN4.out.lt)
        have HS5 : Hid (K5.cell? ⟨bx, 0, none⟩ = some (.slice xta T xtc) ∧ K5.cell? ⟨bx, 1, none⟩ = some (.slice xna N xnc) ∧ K5.cell? ⟨bx, 2, none⟩ = some (.slice xaa L xac)) := Lib.hid (⟨(HAU.out.below HB5.out HAU.out.lt).cell 0, (HAU.out.below HB5.out HAU.out.lt).cell 1, (HAU.out.below HB5.out HAU.out.lt).cell 2⟩)
        clear hb
        try dsimp only
        refine hK.out _ _ ?_ (fun hHeld => ?_)
        ·exact HS5.out
        clear hK K
        try simp only [Act.put, List.setIfInBounds_toArray, List.set_cons_zero, List.set_cons_succ]
        refine wpAnyH_take (i := 8) (v := ?_) (iatLS (iatSS (iatSS (iatSS (iatSS (iatSS (iatSS (iatSS (iatSS iatZS))))))))) (by kernel_rfl) (by kernel_rfl) (by kernel_rfl) (fun _ _ _ h => h) (Or.inl ⟨by rfl, ?_⟩) (by assumption) ?_
        rotate_left
        ·intro w hSw
         try dsimp only at hSw
         go_simp
         all_goals with_reducible rfl
        try simp only [Act.put, List.setIfInBounds_toArray, List.set_cons_zero, List.set_cons_succ]
        refine wpAnyH_take (i := 9) (v := ?_) (iatLS (iatSS (iatSS (iatSS (iatSS (iatSS (iatSS (iatSS (iatSS (iatSS iatZS)))))))))) (by kernel_rfl) (by kernel_rfl) (by kernel_rfl) (fun _ _ _ h => h) (Or.inl ⟨by rfl, ?_⟩) (by assumption) ?_
        rotate_left
        ·intro w hSw
         try dsimp only at hSw
         go_simp
         all_goals with_reducible rfl
        try simp only [Act.put, List.setIfInBounds_toArray, List.set_cons_zero, List.set_cons_succ]
        refine wpAnyH_take (i := 10) (v := ?_) (iatLS (iatSS (iatSS (iatSS (iatSS (iatSS (iatSS (iatSS (iatSS (iatSS (iatSS iatZS))))))))))) (by kernel_rfl) (by kernel_rfl) (by kernel_rfl) (fun _ _ _ h => h) (Or.inl ⟨by rfl, ?_⟩) (by assumption) ?_
        rotate_left
        ·intro w hSw
         try dsimp only at hSw
         go_simp
         all_goals with_reducible rfl
        try simp only [Act.put, List.setIfInBounds_toArray, List.set_cons_zero, List.set_cons_succ]
        refine wpAnyH_take (i := 11) (v := ?_) (iatLS (iatSS (iatSS (iatSS (iatSS (iatSS (iatSS (iatSS (iatSS (iatSS (iatSS (iatSS iatZS)))))))))))) (by kernel_rfl) (by kernel_rfl) (by kernel_rfl) (fun _ _ _ h => h) (Or.inl ⟨by rfl, ?_⟩) (by assumption) ?_
        rotate_left
        ·intro w hSw
         try dsimp only at hSw
         go_simp
         all_goals with_reducible rfl
        try simp only [Act.put, List.setIfInBounds_toArray, List.set_cons_zero, List.set_cons_succ]
        refine wpAnyH_ready (rs := [13]) (by kernel_rfl) (by simp) ?_
        refine AllReadyH.cons (iatLS (iatSS (iatSS (iatSS (iatSS (iatSS (iatSS (iatSS (iatSS (iatSS (iatSS (iatSS (iatSS (iatSS iatZS)))))))))))))) (fun K hK => ?_) AllReadyH.nil
        have n0 := HN5.out.cell 0
        have n1 := HN5.out.cell 1
        have n2 := HN5.out.cell 2
        have n3 := HN5.out.cell 3
        have f0 := HN5.out.frozen 0
        have f1 := HN5.out.frozen 1
        have f2 := HN5.out.frozen 2
        have f3 := HN5.out.frozen 3
        have nl := HN5.out.lt
        simp only [List.getElem?_cons_zero, List.getElem?_cons_succ] at n0 n1 n2 n3
        go_simp
        have HF := HX.out.1 K5 nb HC5.out Hnc.out HN5.out
        have hb9 := Below.put4 HB5.out Hnb.out (.int .i64 tk) (.int .i64 ti) (.int .i64 ta) (.slice tga tn tgc)
        generalize World.setCell _ _ _ = K6 at HF hb9 ⊢
        have HF := Lib.hid HF
        have HB6 := Lib.hid hb9
        have HS6 : Hid (K6.cell? ⟨bx, 0, none⟩ = some (.slice xta T xtc) ∧ K6.cell? ⟨bx, 1, none⟩ = some (.slice xna N xnc) ∧ K6.cell? ⟨bx, 2, none⟩ = some (.slice xaa L xac)) := Lib.hid (⟨(HAU.out.below HB6.out HAU.out.lt).cell 0, (HAU.out.below HB6.out HAU.out.lt).cell 1, (HAU.out.below HB6.out HAU.out.lt).cell 2⟩)
        clear hb9 n0 n1 n2 n3 f0 f1 f2 f3 nl
        refine hK.out _ _ ?_ (fun hHeld => ?_)
        ·exact HS6.out
        clear hK K
        try simp only [Act.put, List.setIfInBounds_toArray, List.set_cons_zero, List.set_cons_succ]
        refine wpAnyH_take (i := 14) (v := ?_) (iatLS (iatSS (iatSS (iatSS (iatSS (iatSS (iatSS (iatSS (iatSS (iatSS (iatSS (iatSS (iatSS (iatSS (iatSS iatZS))))))))))))))) (by kernel_rfl) (by kernel_rfl) (by kernel_rfl) (fun _ _ _ h => h) (Or.inl ⟨by rfl, ?_⟩) (by assumption) ?_
        rotate_left
        ·intro w hSw
         try dsimp only at hSw
         go_simp
         all_goals with_reducible rfl
        try simp only [Act.put, List.setIfInBounds_toArray, List.set_cons_zero, List.set_cons_succ]
        refine wpAnyH_take (i := 15) (v := ?_) (iatLS (iatSS (iatSS (iatSS (iatSS (iatSS (iatSS (iatSS (iatSS (iatSS (iatSS (iatSS (iatSS (iatSS (iatSS (iatSS iatZS)))))))))))))))) (by kernel_rfl) (by kernel_rfl) (by kernel_rfl) (fun _ _ _ h => h) (Or.inl ⟨by rfl, ?_⟩) (by assumption) ?_
        rotate_left
        ·intro w hSw
         try dsimp only at hSw
         go_simp
         all_goals with_reducible rfl
        try simp only [Act.put, List.setIfInBounds_toArray, List.set_cons_zero, List.set_cons_succ]
        refine wpAnyH_done (by kernel_rfl) ?_ _
        go_wp2_with (fail)
        go_meet
        exact ⟨nb, p, y, rfl, rfl, rfl, Lib.hid HB6.out, HF⟩
      ·
       go_simp
       obtain ⟨nb, hnb⟩ : ∃ q, Hid (K1.heap.size = q) := ⟨_, Lib.hid rfl⟩
       rw [hnb.out]
       generalize hW2 : World.alloc K1 _ = K2
       have hb : Below K1.heap.size K1 K2 := by rw [← hW2]; exact (Below.refl _ _).alloc (Nat.le_refl _) _
       have HN2 : Hid (Blk K2 nb 51 [.int .i64 0, .int .i64 0, .int .i64 0, .slice none 0 0]) := Lib.hid (by rw [← hW2, ← hnb.out]; exact Blk.new _ 51 #[.int .i64 0, .int .i64 0, .int .i64 0, .slice none 0 0])
       have Hnb : Hid (U.heap.size ≤ nb) := Lib.hid (by rw [← hnb.out]; exact HB1.out.size)
       have HB2 := Lib.hid (HB1.out.trans (hb.mono HB1.out.size))
       have HI2 := Lib.hid (HI1.out.grown hb)
       have HS2 : Hid (K2.cell? ⟨bx, 0, none⟩ = some (.slice xta T xtc) ∧ K2.cell? ⟨bx, 1, none⟩ = some (.slice xna N xnc) ∧ K2.cell? ⟨bx, 2, none⟩ = some (.slice xaa L xac)) := Lib.hid (⟨(HAU.out.below HB2.out HAU.out.lt).cell 0, (HAU.out.below HB2.out HAU.out.lt).cell 1, (HAU.out.below HB2.out HAU.out.lt).cell 2⟩)
       clear hW2 hb hnb
       refine hK.out _ _ ?_ (fun hHeld => ?_)
       ·exact HS2.out
       clear hK K
       try simp only [Act.put, List.setIfInBounds_toArray, List.set_cons_zero, List.set_cons_succ]
       refine wpAnyH_ready (rs := [3]) (by kernel_rfl) (by simp) ?_
       refine AllReadyH.cons (iatLS (iatSS (iatSS (iatSS iatZS)))) (fun K hK => ?_) AllReadyH.nil
       obtain ⟨za, zc, K3, hrun, how, hb⟩ := (OwnKZ.nil K2 K2.heap.size).app ka kc toks (Hk.out.grown (HbU.out.trans (HB2.out.mono HbU.out.size))) 35 (by show 0 + toks.length ≤ _; rw [HKK.out]; omega) (Nat.le_refl _)
       rw [show ([] : List Int).length = 0 from rfl, HKK.out, Nat.zero_add] at hrun
       rw [List.nil_append] at how
       have Hne : Hid (∀ g, (Value.slice za KL zc).ownBlock = some g → g ≠ nb) := Lib.hid (fun g e => by have h9 := (World.ownsRow.lt how g (by rw [HKK.out]; exact e)).1; have h8 := HN2.out.lt; omega)
       have HO3 : Hid (OwnKZ K3 U.heap.size za zc toks) := Lib.hid (own_mono how HB2.out.size)
       refine step_append_run rfl _ _ 35 35 rfl _ _ _ _ rfl rfl hrun ?_
       clear hrun how
       have HB3 := Lib.hid (HB2.out.trans (hb.mono HB2.out.size))
       have HN3 := Lib.hid (HN2.out.below hb HN2.out.lt)
       have HI3 := Lib.hid (HI2.out.grown hb)
       have HS3 : Hid (K3.cell? ⟨bx, 0, none⟩ = some (.slice xta T xtc) ∧ K3.cell? ⟨bx, 1, none⟩ = some (.slice xna N xnc) ∧ K3.cell? ⟨bx, 2, none⟩ = some (.slice xaa L xac)) := Lib.hid (⟨(HAU.out.below HB3.out HAU.out.lt).cell 0, (HAU.out.below HB3.out HAU.out.lt).cell 1, (HAU.out.below HB3.out HAU.out.lt).cell 2⟩)
       clear hb
       try dsimp only
       refine hK.out _ _ ?_ (fun hHeld => ?_)
       ·exact HS3.out
       clear hK K
       try simp only [Act.put, List.setIfInBounds_toArray, List.set_cons_zero, List.set_cons_succ]
       refine wpAnyH_ready (rs := [6]) (by kernel_rfl) (by simp) ?_
       refine AllReadyH.cons (iatLS (iatSS (iatSS (iatSS (iatSS (iatSS (iatSS iatZS))))))) (fun K hK => ?_) AllReadyH.nil
       obtain ⟨zb, zd, K4, hrun, how, hg, _⟩ := HO3.out.app2 ⟨zi, 0, none⟩ 1 [(k : Int)] HI3.out 35 (by rw [HKK.out]; show KL + 1 ≤ _; omega) HB3.out.size
       rw [show ([(k : Int)] : List Int).length = 1 from rfl, HKK.out] at hrun
       rw [HKK.out] at hg
       have HB4 := Lib.hid (HB3.out.grown hg HB3.out.size (fun g e => (World.ownsRow.lt HO3.out g (by rw [HKK.out]; exact e)).1))
       have HN4 : Hid (Blk K4 nb 51 [.int .i64 0, .int .i64 0, .int .i64 0, .slice none 0 0]) := Lib.hid ((hg.block nb HN3.out.lt (fun e => Hne.out nb e.symm rfl)).trans HN3.out)
       have HJ4 : Hid (Ints K4 zb zd (toks ++ [(k : Int)])) := Lib.hid (OwnKZ.vs how)
       refine step_append_run rfl _ _ 35 35 rfl _ _ _ _ rfl rfl hrun ?_
       clear hrun how hg
       have hb := True.intro
       have HS4 : Hid (K4.cell? ⟨bx, 0, none⟩ = some (.slice xta T xtc) ∧ K4.cell? ⟨bx, 1, none⟩ = some (.slice xna N xnc) ∧ K4.cell? ⟨bx, 2, none⟩ = some (.slice xaa L xac)) := Lib.hid (⟨(HAU.out.below HB4.out HAU.out.lt).cell 0, (HAU.out.below HB4.out HAU.out.lt).cell 1, (HAU.out.below HB4.out HAU.out.lt).cell 2⟩)
       clear hb
       try dsimp only
       refine hK.out _ _ ?_ (fun hHeld => ?_)
       ·exact HS4.out
       clear hK K
       try simp only [Act.put, List.setIfInBounds_toArray, List.set_cons_zero, List.set_cons_succ]
       refine wpAnyH_ready (rs := [7]) (by kernel_rfl) (by simp) ?_
       refine AllReadyH.cons (iatLS (iatSS (iatSS (iatSS (iatSS (iatSS (iatSS (iatSS iatZS)))))))) (fun K hK => ?_) AllReadyH.nil
       go_simp
       (with_reducible refine (Hpr.out K4 HB4.out zb zd HJ4.out).mono ?_)
       intro e9 K5 hT
       have hb := hT.1
       obtain ⟨tk, ti, ta, tga, tn, tgc, p, y, rfl, hX⟩ := tre_box hT
       have HX := Lib.hid hX
       clear hT hX
       have HB5 := Lib.hid (HB4.out.trans (hb.mono HB4.out.size))
       have HN5 := Lib.hid (HN4.out.below hb HN4.out.lt)
       have HJ5 := Lib.hid (HJ4.out.grown hb)
       have HC5 := Lib.hid (Below.refl K5.heap.size K5)
       have Hnc : Hid (nb < K4.heap.size ∨ K5.heap.size ≤ nb) := Lib.hid (.inl HN4.out.lt)
       have HS5 : Hid (K5.cell? ⟨bx, 0, none⟩ = some (.slice xta T xtc) ∧ K5.cell? ⟨bx, 1, none⟩ = some (.slice xna N xnc) ∧ K5.cell? ⟨bx, 2, none⟩ = some (.slice xaa L xac)) := Lib.hid (⟨(HAU.out.below HB5.out HAU.out.lt).cell 0, (HAU.out.below HB5.out HAU.out.lt).cell 1, (HAU.out.below HB5.out HAU.out.lt).cell 2⟩)
       clear hb
       try dsimp only
       refine hK.out _ _ ?_ (fun hHeld => ?_)
       ·exact HS5.out
       clear hK K
       try simp only [Act.put, List.setIfInBounds_toArray, List.set_cons_zero, List.set_cons_succ]
       refine wpAnyH_take (i := 8) (v := ?_) (iatLS (iatSS (iatSS (iatSS (iatSS (iatSS (iatSS (iatSS (iatSS iatZS))))))))) (by kernel_rfl) (by kernel_rfl) (by kernel_rfl) (fun _ _ _ h => h) (Or.inl ⟨by rfl, ?_⟩) (by assumption) ?_
       rotate_left
       ·intro w hSw
        try dsimp only at hSw
        go_simp
        all_goals with_reducible rfl
       try simp only [Act.put, List.setIfInBounds_toArray, List.set_cons_zero, List.set_cons_succ]
       refine wpAnyH_take (i := 9) (v := ?_) (iatLS (iatSS (iatSS (iatSS (iatSS (iatSS (iatSS (iatSS (iatSS (iatSS iatZS)))))))))) (by kernel_rfl) (by kernel_rfl) (by kernel_rfl) (fun _ _ _ h => h) (Or.inl ⟨by rfl, ?_⟩) (by assumption) ?_
       rotate_left
       ·intro w hSw
        try dsimp only at hSw
        go_simp
        all_goals with_reducible rfl
       try simp only [Act.put, List.setIfInBounds_toArray, List.set_cons_zero, List.set_cons_succ]
       refine wpAnyH_take (i := 10) (v := ?_) (iatLS (iatSS (iatSS (iatSS (iatSS (iatSS (iatSS (iatSS (iatSS (iatSS (iatSS iatZS))))))))))) (by kernel_rfl) (by kernel_rfl) (by kernel_rfl) (fun _ _ _ h => h) (Or.inl ⟨by rfl, ?_⟩) (by assumption) ?_
       rotate_left
       ·intro w hSw
        try dsimp only at hSw
        go_simp
        all_goals with_reducible rfl
       try simp only [Act.put, List.setIfInBounds_toArray, List.set_cons_zero, List.set_cons_succ]
       refine wpAnyH_take (i := 11) (v := ?_) (iatLS (iatSS (iatSS (iatSS (iatSS (iatSS (iatSS (iatSS (iatSS (iatSS (iatSS (iatSS iatZS)))))))))))) (by kernel_rfl) (by kernel_rfl) (by kernel_rfl) (fun _ _ _ h => h) (Or.inl ⟨by rfl, ?_⟩) (by assumption) ?_
       rotate_left
       ·intro w hSw
        try dsimp only at hSw
        go_simp
        all_goals with_reducible rfl
       try simp only [Act.put, List.setIfInBounds_toArray, List.set_cons_zero, List.set_cons_succ]
       refine wpAnyH_ready (rs := [13]) (by kernel_rfl) (by simp) ?_
       refine AllReadyH.cons (iatLS (iatSS (iatSS (iatSS (iatSS (iatSS (iatSS (iatSS (iatSS (iatSS (iatSS (iatSS (iatSS (iatSS iatZS)))))))))))))) (fun K hK => ?_) AllReadyH.nil
       have n0 := HN5.out.cell 0
       have n1 := HN5.out.cell 1
       have n2 := HN5.out.cell 2
       have n3 := HN5.out.cell 3
       have f0 := HN5.out.frozen 0
       have f1 := HN5.out.frozen 1
       have f2 := HN5.out.frozen 2
       have f3 := HN5.out.frozen 3
       have nl := HN5.out.lt
       simp only [List.getElem?_cons_zero, List.getElem?_cons_succ] at n0 n1 n2 n3
       go_simp
       have HF := HX.out.1 K5 nb HC5.out Hnc.out HN5.out
       have hb9 := Below.put4 HB5.out Hnb.out (.int .i64 tk) (.int .i64 ti) (.int .i64 ta) (.slice tga tn tgc)
       generalize World.setCell _ _ _ = K6 at HF hb9 ⊢
       have HF := Lib.hid HF
       have HB6 := Lib.hid hb9
       have HS6 : Hid (K6.cell? ⟨bx, 0, none⟩ = some (.slice xta T xtc) ∧ K6.cell? ⟨bx, 1, none⟩ = some (.slice xna N xnc) ∧ K6.cell? ⟨bx, 2, none⟩ = some (.slice xaa L xac)) := Lib.hid (⟨(HAU.out.below HB6.out HAU.out.lt).cell 0, (HAU.out.below HB6.out HAU.out.lt).cell 1, (HAU.out.below HB6.out HAU.out.lt).cell 2⟩)
       clear hb9 n0 n1 n2 n3 f0 f1 f2 f3 nl
       refine hK.out _ _ ?_ (fun hHeld => ?_)
       ·exact HS6.out
       clear hK K
       try simp only [Act.put, List.setIfInBounds_toArray, List.set_cons_zero, List.set_cons_succ]
       refine wpAnyH_take (i := 14) (v := ?_) (iatLS (iatSS (iatSS (iatSS (iatSS (iatSS (iatSS (iatSS (iatSS (iatSS (iatSS (iatSS (iatSS (iatSS (iatSS iatZS))))))))))))))) (by kernel_rfl) (by kernel_rfl) (by kernel_rfl) (fun _ _ _ h => h) (Or.inl ⟨by rfl, ?_⟩) (by assumption) ?_
       rotate_left
       ·intro w hSw
        try dsimp only at hSw
        go_simp
        all_goals with_reducible rfl
       try simp only [Act.put, List.setIfInBounds_toArray, List.set_cons_zero, List.set_cons_succ]
       refine wpAnyH_take (i := 15) (v := ?_) (iatLS (iatSS (iatSS (iatSS (iatSS (iatSS (iatSS (iatSS (iatSS (iatSS (iatSS (iatSS (iatSS (iatSS (iatSS (iatSS iatZS)))))))))))))))) (by kernel_rfl) (by kernel_rfl) (by kernel_rfl) (fun _ _ _ h => h) (Or.inl ⟨by rfl, ?_⟩) (by assumption) ?_
       rotate_left
       ·intro w hSw
        try dsimp only at hSw
        go_simp
        all_goals with_reducible rfl
       try simp only [Act.put, List.setIfInBounds_toArray, List.set_cons_zero, List.set_cons_succ]
       refine wpAnyH_done (by kernel_rfl) ?_ _
       go_wp2_with (fail)
       go_meet
       exact ⟨nb, p, y, rfl, rfl, rfl, Lib.hid HB6.out, HF⟩
     ·
      go_simp
      obtain ⟨nb, hnb⟩ : ∃ q, Hid (K0.heap.size = q) := ⟨_, Lib.hid rfl⟩
      rw [hnb.out]
      generalize hW1 : World.alloc K0 _ = K1
      have hb : Below K0.heap.size K0 K1 := by rw [← hW1]; exact (Below.refl _ _).alloc (Nat.le_refl _) _
      have HN1 : Hid (Blk K1 nb 51 [.int .i64 0, .int .i64 0, .int .i64 0, .slice none 0 0]) := Lib.hid (by rw [← hW1, ← hnb.out]; exact Blk.new _ 51 #[.int .i64 0, .int .i64 0, .int .i64 0, .slice none 0 0])
      have Hnb : Hid (U.heap.size ≤ nb) := Lib.hid (by rw [← hnb.out]; exact HB0.out.size)
      have HB1 := Lib.hid (HB0.out.trans (hb.mono HB0.out.size))
      have HS1 : Hid (K1.cell? ⟨bx, 0, none⟩ = some (.slice xta T xtc) ∧ K1.cell? ⟨bx, 1, none⟩ = some (.slice xna N xnc) ∧ K1.cell? ⟨bx, 2, none⟩ = some (.slice xaa L xac)) := Lib.hid (⟨(HAU.out.below HB1.out HAU.out.lt).cell 0, (HAU.out.below HB1.out HAU.out.lt).cell 1, (HAU.out.below HB1.out HAU.out.lt).cell 2⟩)
      clear hW1 hb hnb
      refine hK.out _ _ ?_ (fun hHeld => ?_)
      ·exact HS1.out
      clear hK K
      try simp only [Act.put, List.setIfInBounds_toArray, List.set_cons_zero, List.set_cons_succ]
      refine wpAnyH_ready (rs := [3, 5]) (by kernel_rfl) (by simp) ?_
      refine AllReadyH.cons (iatLS (iatSS (iatSS (iatSS iatZS)))) (fun K hK => ?_) (AllReadyH.cons (iatLS (iatSS (iatSS (iatSS (iatSS (iatSS iatZS)))))) (fun K hK => ?_) (AllReadyH.nil))
      ·
       obtain ⟨za, zc, K2, hrun, how, hb⟩ := (OwnKZ.nil K1 K1.heap.size).app ka kc toks (Hk.out.grown (HbU.out.trans (HB1.out.mono HbU.out.size))) 35 (by show 0 + toks.length ≤ _; rw [HKK.out]; omega) (Nat.le_refl _)
       rw [show ([] : List Int).length = 0 from rfl, HKK.out, Nat.zero_add] at hrun
       rw [List.nil_append] at how
       have Hne : Hid (∀ g, (Value.slice za KL zc).ownBlock = some g → g ≠ nb) := Lib.hid (fun g e => by have h9 := (World.ownsRow.lt how g (by rw [HKK.out]; exact e)).1; have h8 := HN1.out.lt; omega)
       have HO2 : Hid (OwnKZ K2 U.heap.size za zc toks) := Lib.hid (own_mono how HB1.out.size)
       refine step_append_run rfl _ _ 35 35 rfl _ _ _ _ rfl rfl hrun ?_
       clear hrun how
       have HB2 := Lib.hid (HB1.out.trans (hb.mono HB1.out.size))
       have HN2 := Lib.hid (HN1.out.below hb HN1.out.lt)
       have HS2 : Hid (K2.cell? ⟨bx, 0, none⟩ = some (.slice xta T xtc) ∧ K2.cell? ⟨bx, 1, none⟩ = some (.slice xna N xnc) ∧ K2.cell? ⟨bx, 2, none⟩ = some (.slice xaa L xac)) := Lib.hid (⟨(HAU.out.below HB2.out HAU.out.lt).cell 0, (HAU.out.below HB2.out HAU.out.lt).cell 1, (HAU.out.below HB2.out HAU.out.lt).cell 2⟩)
       clear hb
       try dsimp only
       refine hK.out _ _ ?_ (fun hHeld => ?_)
       ·exact HS2.out
       clear hK K
       try simp only [Act.put, List.setIfInBounds_toArray, List.set_cons_zero, List.set_cons_succ]
       refine wpAnyH_ready (rs := [5]) (by kernel_rfl) (by simp) ?_
       refine AllReadyH.cons (iatLS (iatSS (iatSS (iatSS (iatSS (iatSS iatZS)))))) (fun K hK => ?_) AllReadyH.nil
       go_simp
       obtain ⟨zi, hzi⟩ : ∃ q, Hid (K2.heap.size = q) := ⟨_, Lib.hid rfl⟩
       rw [hzi.out]
       generalize hW3 : World.alloc K2 _ = K3
       have hb : Below K2.heap.size K2 K3 := by rw [← hW3]; exact (Below.refl _ _).alloc (Nat.le_refl _) _
       have HI3 : Hid (Ints K3 (some ⟨zi, 0, none⟩) 1 [(k : Int)]) := Lib.hid (by rw [← hW3, ← hzi.out]; exact ints_new K2 [(k : Int)] 1 rfl (e9_mx 1 (by omega)))
       clear hW3 hzi
       have HB3 := Lib.hid (HB2.out.trans (hb.mono HB2.out.size))
       have HN3 := Lib.hid (HN2.out.below hb HN2.out.lt)
       have HO3 := Lib.hid (HO2.out.belowZ hb)
       have HS3 : Hid (K3.cell? ⟨bx, 0, none⟩ = some (.slice xta T xtc) ∧ K3.cell? ⟨bx, 1, none⟩ = some (.slice xna N xnc) ∧ K3.cell? ⟨bx, 2, none⟩ = some (.slice xaa L xac)) := Lib.hid (⟨(HAU.out.below HB3.out HAU.out.lt).cell 0, (HAU.out.below HB3.out HAU.out.lt).cell 1, (HAU.out.below HB3.out HAU.out.lt).cell 2⟩)
       clear hb
       try dsimp only
       refine hK.out _ _ ?_ (fun hHeld => ?_)
       ·exact HS3.out
       clear hK K
       try simp only [Act.put, List.setIfInBounds_toArray, List.set_cons_zero, List.set_cons_succ]
       refine wpAnyH_ready (rs := [6]) (by kernel_rfl) (by simp) ?_
       refine AllReadyH.cons (iatLS (iatSS (iatSS (iatSS (iatSS (iatSS (iatSS iatZS))))))) (fun K hK => ?_) AllReadyH.nil
       obtain ⟨zb, zd, K4, hrun, how, hg, _⟩ := HO3.out.app2 ⟨zi, 0, none⟩ 1 [(k : Int)] HI3.out 35 (by rw [HKK.out]; show KL + 1 ≤ _; omega) HB3.out.size
       rw [show ([(k : Int)] : List Int).length = 1 from rfl, HKK.out] at hrun
       rw [HKK.out] at hg
       have HB4 := Lib.hid (HB3.out.grown hg HB3.out.size (fun g e => (World.ownsRow.lt HO3.out g (by rw [HKK.out]; exact e)).1))
       have HN4 : Hid (Blk K4 nb 51 [.int .i64 0, .int .i64 0, .int .i64 0, .slice none 0 0]) := Lib.hid ((hg.block nb HN3.out.lt (fun e => Hne.out nb e.symm rfl)).trans HN3.out)
       have HJ4 : Hid (Ints K4 zb zd (toks ++ [(k : Int)])) := Lib.hid (OwnKZ.vs how)
       refine step_append_run rfl _ _ 35 35 rfl _ _ _ _ rfl rfl hrun ?_
       clear hrun how hg
       have hb := True.intro
       have HS4 : Hid (K4.cell? ⟨bx, 0, none⟩ = some (.slice xta T xtc) ∧ K4.cell? ⟨bx, 1, none⟩ = some (.slice xna N xnc) ∧ K4.cell? ⟨bx, 2, none⟩ = some (.slice xaa L xac)) := Lib.hid (⟨(HAU.out.below HB4.out HAU.out.lt).cell 0, (HAU.out.below HB4.out HAU.out.lt).cell 1, (HAU.out.below HB4.out HAU.out.lt).cell 2⟩)
       clear hb
       try dsimp only
       refine hK.out _ _ ?_ (fun hHeld => ?_)
       ·exact HS4.out
       clear hK K
       try simp only [Act.put, List.setIfInBounds_toArray, List.set_cons_zero, List.set_cons_succ]
       refine wpAnyH_ready (rs := [7]) (by kernel_rfl) (by simp) ?_
       refine AllReadyH.cons (iatLS (iatSS (iatSS (iatSS (iatSS (iatSS (iatSS (iatSS iatZS)))))))) (fun K hK => ?_) AllReadyH.nil
       go_simp
       (with_reducible refine (Hpr.out K4 HB4.out zb zd HJ4.out).mono ?_)
       intro e9 K5 hT
       have hb := hT.1
       obtain ⟨tk, ti, ta, tga, tn, tgc, p, y, rfl, hX⟩ := tre_box hT
       have HX := Lib.hid hX
       clear hT hX
       have HB5 := Lib.hid (HB4.out.trans (hb.mono HB4.out.size))
       have HN5 := Lib.hid (HN4.out.below hb HN4.out.lt)
       have HJ5 := Lib.hid (HJ4.out.grown hb)
       have HC5 := Lib.hid (Below.refl K5.heap.size K5)
       have Hnc : Hid (nb < K4.heap.size ∨ K5.heap.size ≤ nb) := Lib.hid (.inl HN4.out.lt)
       have HS5 : Hid (K5.cell? ⟨bx, 0, none⟩ = some (.slice xta T xtc) ∧ K5.cell? ⟨bx, 1, none⟩ = some (.slice xna N xnc) ∧ K5.cell? ⟨bx, 2, none⟩ = some (.slice xaa L xac)) := Lib.hid (⟨(HAU.out.below HB5.out HAU.out.lt).cell 0, (HAU.out.below HB5.out HAU.out.lt).cell 1, (HAU.out.below HB5.out HAU.out.lt).cell 2⟩)
       clear hb
       try dsimp only
       refine hK.out _ _ ?_ (fun hHeld => ?_)
       ·exact HS5.out
       clear hK K
       try simp only [Act.put, List.setIfInBounds_toArray, List.set_cons_zero, List.set_cons_succ]
       refine wpAnyH_take (i := 8) (v := ?_) (iatLS (iatSS (iatSS (iatSS (iatSS (iatSS (iatSS (iatSS (iatSS iatZS))))))))) (by kernel_rfl) (by kernel_rfl) (by kernel_rfl) (fun _ _ _ h => h) (Or.inl ⟨by rfl, ?_⟩) (by assumption) ?_
       rotate_left
       ·intro w hSw
        try dsimp only at hSw
        go_simp
        all_goals with_reducible rfl
       try simp only [Act.put, List.setIfInBounds_toArray, List.set_cons_zero, List.set_cons_succ]
       refine wpAnyH_take (i := 9) (v := ?_) (iatLS (iatSS (iatSS (iatSS (iatSS (iatSS (iatSS (iatSS (iatSS (iatSS iatZS)))))))))) (by kernel_rfl) (by kernel_rfl) (by kernel_rfl) (fun _ _ _ h => h) (Or.inl ⟨by rfl, ?_⟩) (by assumption) ?_
       rotate_left
       ·intro w hSw
        try dsimp only at hSw
        go_simp
        all_goals with_reducible rfl
       try simp only [Act.put, List.setIfInBounds_toArray, List.set_cons_zero, List.set_cons_succ]
       refine wpAnyH_take (i := 10) (v := ?_) (iatLS (iatSS (iatSS (iatSS (iatSS (iatSS (iatSS (iatSS (iatSS (iatSS (iatSS iatZS))))))))))) (by kernel_rfl) (by kernel_rfl) (by kernel_rfl) (fun _ _ _ h => h) (Or.inl ⟨by rfl, ?_⟩) (by assumption) ?_
       rotate_left
       ·intro w hSw
        try dsimp only at hSw
        go_simp
        all_goals with_reducible rfl
       try simp only [Act.put, List.setIfInBounds_toArray, List.set_cons_zero, List.set_cons_succ]
       refine wpAnyH_take (i := 11) (v := ?_) (iatLS (iatSS (iatSS (iatSS (iatSS (iatSS (iatSS (iatSS (iatSS (iatSS (iatSS (iatSS iatZS)))))))))))) (by kernel_rfl) (by kernel_rfl) (by kernel_rfl) (fun _ _ _ h => h) (Or.inl ⟨by rfl, ?_⟩) (by assumption) ?_
       rotate_left
       ·intro w hSw
        try dsimp only at hSw
        go_simp
        all_goals with_reducible rfl
       try simp only [Act.put, List.setIfInBounds_toArray, List.set_cons_zero, List.set_cons_succ]
       refine wpAnyH_ready (rs := [13]) (by kernel_rfl) (by simp) ?_
       refine AllReadyH.cons (iatLS (iatSS (iatSS (iatSS (iatSS (iatSS (iatSS (iatSS (iatSS (iatSS (iatSS (iatSS (iatSS (iatSS iatZS)))))))))))))) (fun K hK => ?_) AllReadyH.nil
       have n0 := HN5.out.cell 0
       have n1 := HN5.out.cell 1
       have n2 := HN5.out.cell 2
       have n3 := HN5.out.cell 3
       have f0 := HN5.out.frozen 0
       have f1 := HN5.out.frozen 1
       have f2 := HN5.out.frozen 2
       have f3 := HN5.out.frozen 3
       have nl := HN5.out.lt
       simp only [List.getElem?_cons_zero, List.getElem?_cons_succ] at n0 n1 n2 n3
       go_simp
       have HF := HX.out.1 K5 nb HC5.out Hnc.out HN5.out
       have hb9 := Below.put4 HB5.out Hnb.out (.int .i64 tk) (.int .i64 ti) (.int .i64 ta) (.slice tga tn tgc)
       generalize World.setCell _ _ _ = K6 at HF hb9 ⊢
       have HF := Lib.hid HF
       have HB6 := Lib.hid hb9
       have HS6 : Hid (K6.cell? ⟨bx, 0, none⟩ = some (.slice xta T xtc) ∧ K6.cell? ⟨bx, 1, none⟩ = some (.slice xna N xnc) ∧ K6.cell? ⟨bx, 2, none⟩ = some (.slice xaa L xac)) := Lib.hid (⟨(HAU.out.below HB6.out HAU.out.lt).cell 0, (HAU.out.below HB6.out HAU.out.lt).cell 1, (HAU.out.below HB6.out HAU.out.lt).cell 2⟩)
       clear hb9 n0 n1 n2 n3 f0 f1 f2 f3 nl
       refine hK.out _ _ ?_ (fun hHeld => ?_)
       ·exact HS6.out
       clear hK K
       try simp only [Act.put, List.setIfInBounds_toArray, List.set_cons_zero, List.set_cons_succ]
       refine wpAnyH_take (i := 14) (v := ?_) (iatLS (iatSS (iatSS (iatSS (iatSS (iatSS (iatSS (iatSS (iatSS (iatSS (iatSS (iatSS (iatSS (iatSS (iatSS iatZS))))))))))))))) (by kernel_rfl) (by kernel_rfl) (by kernel_rfl) (fun _ _ _ h => h) (Or.inl ⟨by rfl, ?_⟩) (by assumption) ?_
       rotate_left
       ·intro w hSw
        try dsimp only at hSw
        go_simp
        all_goals with_reducible rfl
       try simp only [Act.put, List.setIfInBounds_toArray, List.set_cons_zero, List.set_cons_succ]
       refine wpAnyH_take (i := 15) (v := ?_) (iatLS (iatSS (iatSS (iatSS (iatSS (iatSS (iatSS (iatSS (iatSS (iatSS (iatSS (iatSS (iatSS (iatSS (iatSS (iatSS iatZS)))))))))))))))) (by kernel_rfl) (by kernel_rfl) (by kernel_rfl) (fun _ _ _ h => h) (Or.inl ⟨by rfl, ?_⟩) (by assumption) ?_
       rotate_left
       ·intro w hSw
        try dsimp only at hSw
        go_simp
        all_goals with_reducible rfl
       try simp only [Act.put, List.setIfInBounds_toArray, List.set_cons_zero, List.set_cons_succ]
       refine wpAnyH_done (by kernel_rfl) ?_ _
       go_wp2_with (fail)
       go_meet
       exact ⟨nb, p, y, rfl, rfl, rfl, Lib.hid HB6.out, HF⟩
      ·
       go_simp
       obtain ⟨zi, hzi⟩ : ∃ q, Hid (K1.heap.size = q) := ⟨_, Lib.hid rfl⟩
       rw [hzi.out]
       generalize hW2 : World.alloc K1 _ = K2
       have hb : Below K1.heap.size K1 K2 := by rw [← hW2]; exact (Below.refl _ _).alloc (Nat.le_refl _) _
       have HI2 : Hid (Ints K2 (some ⟨zi, 0, none⟩) 1 [(k : Int)]) := Lib.hid (by rw [← hW2, ← hzi.out]; exact ints_new K1 [(k : Int)] 1 rfl (e9_mx 1 (by omega)))
       clear hW2 hzi
       have HB2 := Lib.hid (HB1.out.trans (hb.mono HB1.out.size))
       have HN2 := Lib.hid (HN1.out.below hb HN1.out.lt)
       have HS2 : Hid (K2.cell? ⟨bx, 0, none⟩ = some (.slice xta T xtc) ∧ K2.cell? ⟨bx, 1, none⟩ = some (.slice xna N xnc) ∧ K2.cell? ⟨bx, 2, none⟩ = some (.slice xaa L xac)) := Lib.hid (⟨(HAU.out.below HB2.out HAU.out.lt).cell 0, (HAU.out.below HB2.out HAU.out.lt).cell 1, (HAU.out.below HB2.out HAU.out.lt).cell 2⟩)
       clear hb
       try dsimp only
       refine hK.out _ _ ?_ (fun hHeld => ?_)
       ·exact HS2.out
       clear hK K
       try simp only [Act.put, List.setIfInBounds_toArray, List.set_cons_zero, List.set_cons_succ]
       refine wpAnyH_ready (rs := [3]) (by kernel_rfl) (by simp) ?_
       refine AllReadyH.cons (iatLS (iatSS (iatSS (iatSS iatZS)))) (fun K hK => ?_) AllReadyH.nil
       obtain ⟨za, zc, K3, hrun, how, hb⟩ := (OwnKZ.nil K2 K2.heap.size).app ka kc toks (Hk.out.grown (HbU.out.trans (HB2.out.mono HbU.out.size))) 35 (by show 0 + toks.length ≤ _; rw [HKK.out]; omega) (Nat.le_refl _)
       rw [show ([] : List Int).length = 0 from rfl, HKK.out, Nat.zero_add] at hrun
       rw [List.nil_append] at how
       have Hne : Hid (∀ g, (Value.slice za KL zc).ownBlock = some g → g ≠ nb) := Lib.hid (fun g e => by have h9 := (World.ownsRow.lt how g (by rw [HKK.out]; exact e)).1; have h8 := HN2.out.lt; omega)
       have HO3 : Hid (OwnKZ K3 U.heap.size za zc toks) := Lib.hid (own_mono how HB2.out.size)
       refine step_append_run rfl _ _ 35 35 rfl _ _ _ _ rfl rfl hrun ?_
       clear hrun how
       have HB3 := Lib.hid (HB2.out.trans (hb.mono HB2.out.size))
       have HN3 := Lib.hid (HN2.out.below hb HN2.out.lt)
       have HI3 := Lib.hid (HI2.out.grown hb)
       have HS3 : Hid (K3.cell? ⟨bx, 0, none⟩ = some (.slice xta T xtc) ∧ K3.cell? ⟨bx, 1, none⟩ = some (.slice xna N xnc) ∧ K3.cell? ⟨bx, 2, none⟩ = some (.slice xaa L xac)) := Lib.hid (⟨(HAU.out.below HB3.out HAU.out.lt).cell 0, (HAU.out.below HB3.out HAU.out.lt).cell 1, (HAU.out.below HB3.out HAU.out.lt).cell 2⟩)
       clear hb
       try dsimp only
       refine hK.out _ _ ?_ (fun hHeld => ?_)
       ·exact HS3.out
       clear hK K
       try simp only [Act.put, List.setIfInBounds_toArray, List.set_cons_zero, List.set_cons_succ]
       refine wpAnyH_ready (rs := [6]) (by kernel_rfl) (by simp) ?_
       refine AllReadyH.cons (iatLS (iatSS (iatSS (iatSS (iatSS (iatSS (iatSS iatZS))))))) (fun K hK => ?_) AllReadyH.nil
       obtain ⟨zb, zd, K4, hrun, how, hg, _⟩ := HO3.out.app2 ⟨zi, 0, none⟩ 1 [(k : Int)] HI3.out 35 (by rw [HKK.out]; show KL + 1 ≤ _; omega) HB3.out.size
       rw [show ([(k : Int)] : List Int).length = 1 from rfl, HKK.out] at hrun
       rw [HKK.out] at hg
       have HB4 := Lib.hid (HB3.out.grown hg HB3.out.size (fun g e => (World.ownsRow.lt HO3.out g (by rw [HKK.out]; exact e)).1))
       have HN4 : Hid (Blk K4 nb 51 [.int .i64 0, .int .i64 0, .int .i64 0, .slice none 0 0]) := Lib.hid ((hg.block nb HN3.out.lt (fun e => Hne.out nb e.symm rfl)).trans HN3.out)
       have HJ4 : Hid (Ints K4 zb zd (toks ++ [(k : Int)])) := Lib.hid (OwnKZ.vs how)
       refine step_append_run rfl _ _ 35 35 rfl _ _ _ _ rfl rfl hrun ?_
       clear hrun how hg
       have hb := True.intro
       have HS4 : Hid (K4.cell? ⟨bx, 0, none⟩ = some (.slice xta T xtc) ∧ K4.cell? ⟨bx, 1, none⟩ = some (.slice xna N xnc) ∧ K4.cell? ⟨bx, 2, none⟩ = some (.slice xaa L xac)) := Lib.hid (⟨(HAU.out.below HB4.out HAU.out.lt).cell 0, (HAU.out.below HB4.out HAU.out.lt).cell 1, (HAU.out.below HB4.out HAU.out.lt).cell 2⟩)
       clear hb
       try dsimp only
       refine hK.out _ _ ?_ (fun hHeld => ?_)
       ·exact HS4.out
       clear hK K
       try simp only [Act.put, List.setIfInBounds_toArray, List.set_cons_zero, List.set_cons_succ]
       refine wpAnyH_ready (rs := [7]) (by kernel_rfl) (by simp) ?_
       refine AllReadyH.cons (iatLS (iatSS (iatSS (iatSS (iatSS (iatSS (iatSS (iatSS iatZS)))))))) (fun K hK => ?_) AllReadyH.nil
       go_simp
       (with_reducible refine (Hpr.out K4 HB4.out zb zd HJ4.out).mono ?_)
       intro e9 K5 hT
       have hb := hT.1
       obtain ⟨tk, ti, ta, tga, tn, tgc, p, y, rfl, hX⟩ := tre_box hT
       have HX := Lib.hid hX
       clear hT hX
       have HB5 := Lib.hid (HB4.out.trans (hb.mono HB4.out.size))
       have HN5 := Lib.hid (HN4.out.below hb HN4.out.lt)
       have HJ5 := Lib.hid (HJ4.out.grown hb)
       have HC5 := Lib.hid (Below.refl K5.heap.size K5)
       have Hnc : Hid (nb < K4.heap.size ∨ K5.heap.size ≤ nb) := Lib.hid (.inl HN4.out.lt)
       have HS5 : Hid (K5.cell? ⟨bx, 0, none⟩ = some (.slice xta T xtc) ∧ K5.cell? ⟨bx, 1, none⟩ = some (.slice xna N xnc) ∧ K5.cell? ⟨bx, 2, none⟩ = some (.slice xaa L xac)) := Lib.hid (⟨(HAU.out.below HB5.out HAU.out.lt).cell 0, (HAU.out.below HB5.out HAU.out.lt).cell 1, (HAU.out.below HB5.out HAU.out.lt).cell 2⟩)
       clear hb
       try dsimp only
       refine hK.out _ _ ?_ (fun hHeld => ?_)
       ·exact HS5.out
       clear hK K
       try simp only [Act.put, List.setIfInBounds_toArray, List.set_cons_zero, List.set_cons_succ]
       refine wpAnyH_take (i := 8) (v := ?_) (iatLS (iatSS (iatSS (iatSS (iatSS (iatSS (iatSS (iatSS (iatSS iatZS))))))))) (by kernel_rfl) (by kernel_rfl) (by kernel_rfl) (fun _ _ _ h => h) (Or.inl ⟨by rfl, ?_⟩) (by assumption) ?_
       rotate_left
       ·intro w hSw
        try dsimp only at hSw
        go_simp
        all_goals with_reducible rfl
       try simp only [Act.put, List.setIfInBounds_toArray, List.set_cons_zero, List.set_cons_succ]
       refine wpAnyH_take (i := 9) (v := ?_) (iatLS (iatSS (iatSS (iatSS (iatSS (iatSS (iatSS (iatSS (iatSS (iatSS iatZS)))))))))) (by kernel_rfl) (by kernel_rfl) (by kernel_rfl) (fun _ _ _ h => h) (Or.inl ⟨by rfl, ?_⟩) (by assumption) ?_
       rotate_left
       ·intro w hSw
        try dsimp only at hSw
        go_simp
        all_goals with_reducible rfl
       try simp only [Act.put, List.setIfInBounds_toArray, List.set_cons_zero, List.set_cons_succ]
       refine wpAnyH_take (i := 10) (v := ?_) (iatLS (iatSS (iatSS (iatSS (iatSS (iatSS (iatSS (iatSS (iatSS (iatSS (iatSS iatZS))))))))))) (by kernel_rfl) (by kernel_rfl) (by kernel_rfl) (fun _ _ _ h => h) (Or.inl ⟨by rfl, ?_⟩) (by assumption) ?_
       rotate_left
       ·intro w hSw
        try dsimp only at hSw
        go_simp
        all_goals with_reducible rfl
       try simp only [Act.put, List.setIfInBounds_toArray, List.set_cons_zero, List.set_cons_succ]
       refine wpAnyH_take (i := 11) (v := ?_) (iatLS (iatSS (iatSS (iatSS (iatSS (iatSS (iatSS (iatSS (iatSS (iatSS (iatSS (iatSS iatZS)))))))))))) (by kernel_rfl) (by kernel_rfl) (by kernel_rfl) (fun _ _ _ h => h) (Or.inl ⟨by rfl, ?_⟩) (by assumption) ?_
       rotate_left
       ·intro w hSw
        try dsimp only at hSw
        go_simp
        all_goals with_reducible rfl
       try simp only [Act.put, List.setIfInBounds_toArray, List.set_cons_zero, List.set_cons_succ]
       refine wpAnyH_ready (rs := [13]) (by kernel_rfl) (by simp) ?_
       refine AllReadyH.cons (iatLS (iatSS (iatSS (iatSS (iatSS (iatSS (iatSS (iatSS (iatSS (iatSS (iatSS (iatSS (iatSS (iatSS iatZS)))))))))))))) (fun K hK => ?_) AllReadyH.nil
       have n0 := HN5.out.cell 0
       have n1 := HN5.out.cell 1
       have n2 := HN5.out.cell 2
       have n3 := HN5.out.cell 3
       have f0 := HN5.out.frozen 0
       have f1 := HN5.out.frozen 1
       have f2 := HN5.out.frozen 2
       have f3 := HN5.out.frozen 3
       have nl := HN5.out.lt
       simp only [List.getElem?_cons_zero, List.getElem?_cons_succ] at n0 n1 n2 n3
       go_simp
       have HF := HX.out.1 K5 nb HC5.out Hnc.out HN5.out
       have hb9 := Below.put4 HB5.out Hnb.out (.int .i64 tk) (.int .i64 ti) (.int .i64 ta) (.slice tga tn tgc)
       generalize World.setCell _ _ _ = K6 at HF hb9 ⊢
       have HF := Lib.hid HF
       have HB6 := Lib.hid hb9
       have HS6 : Hid (K6.cell? ⟨bx, 0, none⟩ = some (.slice xta T xtc) ∧ K6.cell? ⟨bx, 1, none⟩ = some (.slice xna N xnc) ∧ K6.cell? ⟨bx, 2, none⟩ = some (.slice xaa L xac)) := Lib.hid (⟨(HAU.out.below HB6.out HAU.out.lt).cell 0, (HAU.out.below HB6.out HAU.out.lt).cell 1, (HAU.out.below HB6.out HAU.out.lt).cell 2⟩)
       clear hb9 n0 n1 n2 n3 f0 f1 f2 f3 nl
       refine hK.out _ _ ?_ (fun hHeld => ?_)
       ·exact HS6.out
       clear hK K
       try simp only [Act.put, List.setIfInBounds_toArray, List.set_cons_zero, List.set_cons_succ]
       refine wpAnyH_take (i := 14) (v := ?_) (iatLS (iatSS (iatSS (iatSS (iatSS (iatSS (iatSS (iatSS (iatSS (iatSS (iatSS (iatSS (iatSS (iatSS (iatSS iatZS))))))))))))))) (by kernel_rfl) (by kernel_rfl) (by kernel_rfl) (fun _ _ _ h => h) (Or.inl ⟨by rfl, ?_⟩) (by assumption) ?_
       rotate_left
       ·intro w hSw
        try dsimp only at hSw
        go_simp
        all_goals with_reducible rfl
       try simp only [Act.put, List.setIfInBounds_toArray, List.set_cons_zero, List.set_cons_succ]
       refine wpAnyH_take (i := 15) (v := ?_) (iatLS (iatSS (iatSS (iatSS (iatSS (iatSS (iatSS (iatSS (iatSS (iatSS (iatSS (iatSS (iatSS (iatSS (iatSS (iatSS iatZS)))))))))))))))) (by kernel_rfl) (by kernel_rfl) (by kernel_rfl) (fun _ _ _ h => h) (Or.inl ⟨by rfl, ?_⟩) (by assumption) ?_
       rotate_left
       ·intro w hSw
        try dsimp only at hSw
        go_simp
        all_goals with_reducible rfl
       try simp only [Act.put, List.setIfInBounds_toArray, List.set_cons_zero, List.set_cons_succ]
       refine wpAnyH_done (by kernel_rfl) ?_ _
       go_wp2_with (fail)
       go_meet
       exact ⟨nb, p, y, rfl, rfl, rfl, Lib.hid HB6.out, HF⟩
    case rest =>
    obtain ⟨nb, p, y, rfl, rfl, rfl, hbc, hbx9⟩ := hcut
    have Hc : Hid (B = true ↔ (y ≠ 110 ∨ (KL : Int) < p)) := Lib.hid (by
     rw [← hB.out]
     have h9 := hbx9.out
     cases R with
     | bad b z =>
      obtain ⟨rfl, rfl, _⟩ := h9
      have := Hin.out b y rfl
      show decide (y ≠ 110 ∨ b = KL + 1) = true ↔ _
      rw [decide_eq_true_eq]
      constructor
      ·rintro (h | h)
       ·exact .inl h
       ·exact .inr (by omega)
      ·rintro (h | h)
       ·exact .inl h
       ·exact .inr (by omega)
     | ok t b q =>
      obtain ⟨rfl, rfl, _⟩ := h9
      exact ⟨fun _ => .inl (by omega), fun _ => rfl⟩)
    have Hb8 := Lib.hid (HbU.out.trans (hbc.out.mono HbU.out.size))
    have HA8 := Lib.hid (HAU.out.below hbc.out HAU.out.lt)
    have ho8 := HO.out.belowZ hbc.out
    have hbs8 : base ≤ wc.heap.size := Nat.le_trans hbs hbc.out.size
    clear hbx9 Hin Hpr hB hR hbc HbU HAU HO
    obtain ⟨yb, hyb⟩ : ∃ b, (y == 110) = b := ⟨_, rfl⟩
    have hcase : (B = true ∧ (yb = false ∨ (yb = true ∧ (KL : Int) < p))) ∨ (B = false ∧ yb = true ∧ ¬ (KL : Int) < p) := lc_case Hc.out (by rw [← hyb, beq_iff_eq])
    have hyn : (y != 110) = !yb := by rw [← hyb]; rfl
    clear Hc hyb
    rcases hcase with ⟨rfl, hcs⟩ | ⟨rfl, rfl, hp⟩
    ·obtain ⟨oa9, oc9, w9, hrun, ho9, hg9, hfr9⟩ := OwnKZ.push ho8 (k : Int) 35 (by rw [hln.out]; omega) hbs8
     rw [hln.out] at hrun
     have hownb := World.ownsRow.lt ho8
     have HA9 : Hid (Blk w9 bx 25 [.slice xta T xtc, .slice xna N xnc, .slice xaa L xac]) := Lib.hid ((hg9.block _ HA8.out.lt (fun e => by have h9 := (hownb _ e.symm).1; omega)).trans HA8.out)
     have Hb9 := Lib.hid (Hb8.out.grown hg9 Hb8.out.size (fun i e => by have h9 := (hownb i e).1; omega))
     have hbs9 : base ≤ w9.heap.size := Nat.le_trans hbs8 hg9.size
     have HO9 := Lib.hid ho9
     have Hrun9 := Lib.hid hrun
     clear hrun ho9 hg9 hfr9 hownb ho8
     rcases hcs with rfl | ⟨rfl, hp⟩
     ·
      go_wp2_with (at_builtin; refine wpList_append_run rfl _ _ 35 35 rfl _ _ _ _ rfl rfl Hrun9.out ?_)
      go_roundg (T - (k + 1))
      case measure => have := Hgk.out; omega
      case rel => exact ⟨k + 1, oa9, oc9, Lib.hid rfl, by omega, by go_num, by rw [Hsu.out, ← hln.out]; simp, Lib.hid (by rw [Hsu.out]; simpa using HO9.out), Hb9, HA9, hbs9⟩
     ·
      go_wp2_with (at_builtin; refine wpList_append_run rfl _ _ 35 35 rfl _ _ _ _ rfl rfl Hrun9.out ?_)
      go_roundg (T - (k + 1))
      case measure => have := Hgk.out; omega
      case rel => exact ⟨k + 1, oa9, oc9, Lib.hid rfl, by omega, by go_num, by rw [Hsu.out, ← hln.out]; simp, Lib.hid (by rw [Hsu.out]; simpa using HO9.out), Hb9, HA9, hbs9⟩
    ·have HO8 := Lib.hid ho8
     go_wp2_with (fail)
     go_roundg (T - (k + 1))
     case measure => have := Hgk.out; omega
     case rel => exact ⟨k + 1, oa, oc, Lib.hid rfl, by omega, by go_num, by rw [Hsu.out, ← hln.out]; simp, Lib.hid (by rw [Hsu.out]; simpa using HO8.out), Hb8, HA8, hbs8⟩
   ·obtain rfl : k = T := by omega
    have hkI : ¬ (k : Int) < (k : Int) := by omega
    rw [HT.out] at HWL
    have x0 := HAU.out.cell 0
    have x1 := HAU.out.cell 1
    have x2 := HAU.out.cell 2
    have xl := HAU.out.lt
    simp only [List.getElem?_cons_zero, List.getElem?_cons_succ] at x0 x1 x2
    by_cases h0 : x = 0
    ·have h0b : (x == 0) = true := by simp [h0]
     obtain ⟨oa9, oc9, w9, hrun, ho9, hg9, hfr9⟩ := OwnKZ.push HO.out (k : Int) 35 (by rw [hln.out]; omega) hbs
     rw [hln.out] at hrun
     have hb9 := HbU.out.grown hg9 HbU.out.size (fun i e => by have h9 := (World.ownsRow.lt HO.out i e).1; omega)
     have HF := HQ.out oa9 oc9 _ w9 (by rw [HWL.out, if_pos h0]) ho9.vs hb9
     rw [List.length_append, hln.out] at HF
     have HF := Lib.hid HF
     have Hrun9 := Lib.hid hrun
     clear hrun ho9 hg9 hfr9 hb9 h0 hx hxc
     go_wp2_with (at_builtin; refine wpList_append_run rfl _ _ 35 35 rfl _ _ _ _ rfl rfl Hrun9.out ?_)
     first | exact HF.out | exact bodyPost_ret (v := .slice oa9 (ln + 1) oc9) (by simp [results, Try.results45, go_sem]; try first | rfl | assumption | omega) rfl HF.out
    ·have h0b : (x == 0) = false := by simp [h0]
     have HF := HQ.out oa oc _ U (by rw [HWL.out, if_neg h0, List.append_nil]) HO.out.vs HbU.out
     rw [hln.out] at HF
     have HF := Lib.hid HF
     clear h0 hx hxc
     go_wp2_with (fail)
     first | exact HF.out | exact bodyPost_ret (v := .slice oa ln oc) (by simp [results, Try.results45, go_sem]; try first | rfl | assumption | omega) rfl HF.out
end Go.Proofs.Ytfdhaochnbfndaa
