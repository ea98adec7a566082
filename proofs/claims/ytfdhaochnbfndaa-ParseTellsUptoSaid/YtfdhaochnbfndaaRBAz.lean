/- Texts joined: Fs Ft Fu. -/
import Derived.Test.YtfdhaochnbfndaaRBAy
set_option linter.unusedVariables false
set_option linter.unusedSimpArgs false
namespace Go.Proofs.Ytfdhaochnbfndaa
open Go.RowKit Go.Maps
attribute [local go_sem] Oper.semAt_some
set_option maxRecDepth 100000 in
set_option maxHeartbeats 16000000 in
theorem wanted_any (d : CfD) (ta : Option Addr) (tc : Nat) (tbs : List IltD) (ka : Option Addr) (kc : Nat) (toks : List Int) (w : World) (hE : PrF w d ta tc tbs ka kc toks) (hT : d.toks.length ≤ 1000000) (hK : toks.length ≤ 1000000) :
 Calls Try.prog 44 #[d.v, .slice ta tbs.length tc, .slice ka toks.length kc] w fun e W => ∃ oa oc, e = .returned (.slice oa (wantP (gOf d tbs toks)).length oc) ∧ Ints W oa oc (wantP (gOf d tbs toks)) ∧ Below w.heap.size w W := by
 obtain ⟨WP, hWP⟩ : ∃ q, Hid (wantP (gOf d tbs toks) = q) := ⟨_, Lib.hid rfl⟩
 rw [hWP.out]
 have hA1 := Blk.new w 25 #[.slice d.ta d.toks.length d.tc, .slice d.na d.names.length d.nc, .slice d.aa d.alts.length d.ac]
 have hb1 : Below w.heap.size w (w.alloc (.cells #[.slice d.ta d.toks.length d.tc, .slice d.na d.names.length d.nc, .slice d.aa d.alts.length d.ac] 25)) := (Below.refl _ w).alloc (Nat.le_refl _) _
 have Htr := Lib.hid (pparse_any d ta tc tbs ka kc toks _ (hE.grown hb1))
 have Hb1 := Lib.hid hb1
 have HA1 := Lib.hid hA1
 have x0 := hA1.cell 0
 have x1 := hA1.cell 1
 have x2 := hA1.cell 2
 have xl := hA1.lt
 simp only [List.getElem?_cons_zero, List.getElem?_cons_succ] at x0 x1 x2
 have hkm : toks.length ≤ kc ∧ kc ≤ 9223372036854775807 := ⟨by have := hE.gk.le; rw [List.length_map] at this; exact this, hE.gk.max⟩
 have HE := Lib.hid hE
 clear hA1 hb1 hE
 obtain ⟨Q, hQ⟩ : ∃ Q : Ending → World → Prop, Hid ((fun e W => ∃ oa oc, e = .returned (.slice oa WP.length oc) ∧ Ints W oa oc WP ∧ Below w.heap.size w W) = Q) := ⟨_, Lib.hid rfl⟩
 rw [hQ.out]
 have HQ : Hid (∀ oa oc (l : List Int) W, WP = l → Ints W oa oc l → Below w.heap.size w W → Q (.returned (.slice oa l.length oc)) W) := Lib.hid (fun oa oc l W h1 h2 h3 => by rw [← hQ.out, h1]; exact ⟨oa, oc, rfl, h2, h3⟩)
 clear hQ
 go_enter Try.func44, Try.ntmps44
 go_wp2_with (fail)
 generalize World.alloc _ _ = W1 at HA1 Hb1 Htr x0 x1 x2 xl ⊢
 refine Htr.out.mono ?_
 intro e3 w3 h3
 obtain ⟨hb3, h3⟩ := h3
 have HA3 := Lib.hid (HA1.out.below hb3 HA1.out.lt)
 have Hb3 := Lib.hid (Hb1.out.trans (hb3.mono Hb1.out.size))
 clear hb3 Htr x0 x1 x2 xl HA1 Hb1
 have hcase : (∃ a x, psParse (gOf d tbs toks) = .bad a x ∧ (x = 1 ∨ (x = 110 ∧ a < toks.length)) ∧ e3 = .returned (.tuple #[treV ⟨0, 0, 0⟩ none 0 0, .int .i64 (a : Int), .int .i64 x]) ∧ WP = []) ∨
  (firstB d.toks.length toks = none ∧ ∃ (th : TrH) (ga : Option Addr) (n gc : Nat) (a : Nat) (x : Int), ¬ (x = 1 ∨ (x = 110 ∧ a < toks.length)) ∧ e3 = .returned (.tuple #[treV th ga n gc, .int .i64 (a : Int), .int .i64 x]) ∧ WP = goL (gOf d tbs toks) d.toks.length ++ (if x = 0 then [(d.toks.length : Int)] else [])) := by
  cases hr : psParse (gOf d tbs toks) with
  | bad a x =>
   rw [hr] at h3
   have hw := hWP.out
   unfold wantP at hw
   rw [hr] at hw
   dsimp only at hw
   obtain ⟨h1, h0⟩ := parse_bad hr
   change (if x = 1 ∨ (x = 110 ∧ a < toks.length) then ([] : List Int) else goL (gOf d tbs toks) d.toks.length) = WP at hw
   by_cases hx : x = 1 ∨ (x = 110 ∧ a < toks.length)
   ·rw [if_pos hx] at hw
    exact .inl ⟨a, x, rfl, hx, h3, hw.symm⟩
   ·rw [if_neg hx] at hw
    refine .inr ⟨?_, ⟨0, 0, 0⟩, none, 0, 0, a, x, hx, h3, ?_⟩
    ·rcases h1 with h1 | h1
     ·exact absurd (.inl h1) hx
     ·exact h1.2
    ·rw [if_neg h0, List.append_nil]; exact hw.symm
  | ok t a n =>
   rw [hr] at h3
   obtain ⟨ga, gc, he, _⟩ := h3
   have hw := hWP.out
   unfold wantP at hw
   rw [hr] at hw
   dsimp only at hw
   exact .inr ⟨parse_ok hr, ⟨t.k, t.i, t.a⟩, ga, t.l.len, gc, 0, 0, by omega, he, by rw [if_pos rfl]; exact hw.symm⟩
 clear h3
 rcases hcase with ⟨a, x, hr, hx, rfl, hw⟩ | ⟨hfb, th, ga, tn, gc, a, x, hx, rfl, hw⟩
 ·have HF : Hid (Q (.returned (.slice none 0 0)) (w3.alloc (.cells #[.int .i64 0, .int .i64 0, .int .i64 0, .slice none 0 0] 51))) := Lib.hid (HQ.out none 0 [] _ hw (Vs.nil _) (Hb3.out.alloc Hb3.out.size _))
  clear hr hw
  by_cases h1 : x = 1
  ·have hxb : (x == 1) = true := by simp [h1]
   clear hx h1
   go_wp2_with (fail)
   first | exact HF.out | exact bodyPost_ret (v := .slice none 0 0) (by simp [results, Try.results44, go_sem]; try first | rfl | assumption | omega) rfl HF.out
  ·have hxb : (x == 1) = false := by simp [h1]
   have h2 : x = 110 ∧ a < toks.length := by rcases hx with hx | hx; exact absurd hx h1; exact hx
   have hxc : (x == 110) = true := by simp [h2.1]
   have hai : (a : Int) < (toks.length : Int) := by omega
   clear hx h1 h2
   go_wp2_with (fail)
   first | exact HF.out | exact bodyPost_ret (v := .slice none 0 0) (by simp [results, Try.results44, go_sem]; try first | rfl | assumption | omega) rfl HF.out
 ·have HPr := Lib.hid (HE.out.pre hfb)
  have HWL := Lib.hid hw
  clear hfb hw
  have hxb : (x == 1) = false := by rw [beq_eq_false_iff_ne]; exact fun e => hx (.inl e)
  obtain ⟨xc, hxc⟩ : ∃ b, (x == 110) = b := ⟨_, rfl⟩
  have Hgo : Hid (xc = true → ¬ (a : Int) < (toks.length : Int)) := Lib.hid (fun h => by subst h; have h9 := eq_of_beq hxc; intro e; exact hx (.inr ⟨h9, by omega⟩))
  cases xc
  ·clear Hgo
   go_wp2_with (fail)
   have Hb4 : Hid (Below w.heap.size w (w3.alloc (.cells #[.int .i64 th.k, .int .i64 th.i, .int .i64 th.a, .slice ga tn gc] 51))) := Lib.hid (Hb3.out.alloc Hb3.out.size _)
   have HA4 := Lib.hid (HA3.out.alloc (.cells #[.int .i64 th.k, .int .i64 th.i, .int .i64 th.a, .slice ga tn gc] 51))
   generalize World.alloc w3 _ = W4 at Hb4 HA4 ⊢
   refine (cloneI_any toks ka kc W4 ((HE.out.grown Hb4.out).gk) (by omega)).mono ?_
   rintro e5 w5 ⟨a5, c5, rfl, ho5, hb5⟩
   have HA5 := HA4.out.below hb5 HA4.out.lt
   have hb5w := Hb4.out.trans (hb5.mono Hb4.out.size)
   obtain ⟨a6, c6, w6, hrun, ho6, hg6, hfr6⟩ := OwnKZ.push ho5 0 35 (by omega) hb5.size
   have hown5 := World.ownsRow.lt ho5
   have hA6 := HA5.kept (below_grownBy ((Below.refl w5.heap.size w5).alloc (Nat.le_refl _) (.cells #[.int .i64 0] 3)) none) (by simp)
   have hA6' : Blk w6 w.heap.size 25 [.slice d.ta d.toks.length d.tc, .slice d.na d.names.length d.nc, .slice d.aa d.alts.length d.ac] := (hg6.block w.heap.size HA5.lt (fun e => by have h9 := (hown5 _ e.symm).1; have := HA4.out.lt; omega)).trans HA5
   have hb6 : Below w.heap.size w w6 := hb5w.grown hg6 hb5w.size (fun i e => by have h9 := (hown5 i e).1; have := Hb4.out.size; omega)
   obtain ⟨lg, hlg, hlg0, hlg1⟩ : ∃ lg, a6 = some ⟨lg, 0, none⟩ ∧ w.heap.size < lg ∧ lg < w6.heap.size := by
    rcases ho6.2 with ⟨e1, e2⟩ | ⟨g', cp, cur, e1, h9, _⟩
    ·simp at e2
    ·injection e1 with e1 _ _
     have h8 := (World.ownsRow.lt ho6 g' (by rw [e1]; rfl))
     exact ⟨g', e1, by have := HA4.out.lt; omega, h8.2⟩
   subst hlg
   have Hrun := Lib.hid hrun
   have HL0 : Hid (OwnKZ w6 0 (some ⟨lg, 0, none⟩) c6 (toks ++ [0])) := Lib.hid (own_mono ho6 (Nat.zero_le _))
   have HA6 := Lib.hid hA6'
   have Hb6 := Lib.hid hb6
   have x0 := hA6'.cell 0
   have xl := hA6'.lt
   simp only [List.getElem?_cons_zero] at x0
   obtain ⟨K, HKK⟩ : ∃ q, Hid (toks.length = q) := ⟨_, Lib.hid rfl⟩
   obtain ⟨T, HT⟩ : ∃ q, Hid (d.toks.length = q) := ⟨_, Lib.hid rfl⟩
   rw [HKK.out] at Hrun hK hkm ⊢
   rw [HT.out] at x0 hT
   clear hrun ho5 hb5 HA5 hb5w ho6 hg6 hfr6 hown5 hA6 hA6' hb6 HA3 Hb3 HA4 Hb4
   go_wp2_with (at_builtin; refine wpList_append_run rfl _ _ 35 35 rfl _ _ _ _ rfl rfl Hrun.out ?_)
   obtain ⟨base, hbase⟩ : ∃ q, Hid (w6.heap.size = q) := ⟨_, Lib.hid rfl⟩
   rw [hbase.out] at hlg1
   have hbs0 : base ≤ w6.heap.size := by rw [hbase.out]; exact Nat.le_refl _
   clear x0 xl
   go_loopw [10, 12, 40] (fun lv _ iv wr => ∃ (k : Nat) (oa : Option Addr) (oc : Nat) (y : Int), k ≤ T ∧ iv = .int .i64 (k : Int) ∧ lv = .slice oa (goL (gOf d tbs toks) k).length oc ∧ Hid (OwnKZ wr base oa oc (goL (gOf d tbs toks) k)) ∧ Hid (OwnKZ wr 0 (some ⟨lg, 0, none⟩) c6 (toks ++ [y])) ∧ Hid (Below w.heap.size w wr) ∧ Hid (Blk wr w.heap.size 25 [.slice d.ta d.toks.length d.tc, .slice d.na d.names.length d.nc, .slice d.aa d.alts.length d.ac]) ∧ base ≤ wr.heap.size) (fun _ _ iv _ => T - (RowKit.intOf iv).toNat)
   case atStart => exact ⟨0, none, 0, 0, Nat.zero_le _, rfl, rfl, Lib.hid (OwnKZ.nil _ _), HL0, Hb6, HA6, hbs0⟩
   case round =>
    clear HL0 Hb6 HA6 hbs0 Hrun hbase
    obtain ⟨k, oa, oc, y, hk, rfl, rfl, HO, HL, Hb, HA, hbs⟩ := hrel
    obtain ⟨U, rfl⟩ : ∃ U, U = wr := ⟨_, rfl⟩
    have hgl := goL_len (gOf d tbs toks) k
    have hom := HO.out.le
    obtain ⟨ln, hln⟩ : ∃ q, Hid ((goL (gOf d tbs toks) k).length = q) := ⟨_, Lib.hid rfl⟩
    rw [hln.out] at hgl hom ⊢
    have x0 := HA.out.cell 0
    have x1 := HA.out.cell 1
    have x2 := HA.out.cell 2
    have xl := HA.out.lt
    simp only [List.getElem?_cons_zero, List.getElem?_cons_succ] at x0 x1 x2
    by_cases hlt : k < T
    ·have hkI : (k : Int) < (T : Int) := by omega
     have hkI0 : (0 : Int) ≤ (k : Int) := by omega
     have hKI : (K : Int) < (K : Int) + 1 := by omega
     have hKI0 : (0 : Int) ≤ (K : Int) := by omega
     have hlen : (toks ++ [y]).length = K + 1 := by rw [List.length_append, HKK.out]; rfl
     have hlen2 : (toks ++ [(k : Int)]).length = K + 1 := by rw [List.length_append, HKK.out]; rfl
     have hL := HL.out
     unfold OwnKZ at hL
     rw [hlen] at hL
     have hcK := hL.cellAt K (by omega)
     have hfK := own_frz (j := K) hL
     have hL2 := own_setC hL K (.int .i64 (k : Int))
     have eset : ((toks ++ [y]).map (Value.int .i64)).set K (.int .i64 (k : Int)) = (toks ++ [(k : Int)]).map (Value.int .i64) := by
      rw [List.map_append, List.map_append, List.set_append_right _ _ (by rw [List.length_map, HKK.out]; exact Nat.le_refl _), List.length_map, HKK.out, Nat.sub_self]
      rfl
     rw [eset] at hL2
     have hL3 : OwnKZ (U.setCell ⟨lg, K, none⟩ (.int .i64 (k : Int))) 0 (some ⟨lg, 0, none⟩) c6 (toks ++ [(k : Int)]) := by unfold OwnKZ; rw [hlen2]; exact hL2
     have hcK2 : U.cell? ⟨lg, K, none⟩ = some (.int .i64 y) := by
      rw [hcK, List.map_append, List.getElem?_append_right (by rw [List.length_map, HKK.out]; exact Nat.le_refl _), List.length_map, HKK.out, Nat.sub_self]
      rfl
     have hb7 : Below w.heap.size w (U.setCell ⟨lg, K, none⟩ (.int .i64 (k : Int))) := Hb.out.setCell (p := ⟨lg, K, none⟩) (by dsimp only; omega) _
     have hA7 := HA.out.setOther (b' := lg) (j := K) (by omega) (.int .i64 (k : Int))
     have hO7 := World.ownsRow.kept HO.out (grownBy_set U lg K (.int .i64 (k : Int))) (.inr (fun e => by have h9 := (World.ownsRow.lt HO.out _ e).1; omega))
     have hPU := HPr.out.grown hb7
     have hP7 : PrE (U.setCell ⟨lg, K, none⟩ (.int .i64 (k : Int))) d ta tc tbs (some ⟨lg, 0, none⟩) c6 (toks ++ [(k : Int)]) := ⟨⟨hPU.ge.gd, hPU.ge.gt, hL3.vs, fun x hx => by
      rcases List.mem_append.1 hx with hx | hx
      ·exact hPU.ge.nn x hx
      ·rw [List.mem_singleton] at hx; omega, hPU.ge.rng⟩, hPU.trg, hPU.srg, fun x hx => by
      rcases List.mem_append.1 hx with hx | hx
      ·exact hPU.krg x hx
      ·rw [List.mem_singleton] at hx; omega⟩
     have hgo := goesOn_any d ta tc tbs (some ⟨lg, 0, none⟩) c6 (toks ++ [(k : Int)]) _ hP7
     rw [hlen2] at hgo
     obtain ⟨B, hB⟩ : ∃ b, Hid (goB (K + 1) (psTree (gOf d tbs (toks ++ [(k : Int)]))) = b) := ⟨_, Lib.hid rfl⟩
     rw [hB.out] at hgo
     have Hsu : Hid (goL (gOf d tbs toks) (k + 1) = goL (gOf d tbs toks) k ++ (if B then [(k : Int)] else [])) := Lib.hid (by
      rw [goL_succ, ← hB.out]
      show _ ++ (if goB (toks.length + 1) (psTree (gOf d tbs (toks ++ [(k : Int)]))) = true then _ else _) = _
      rw [HKK.out])
     have Hgo := Lib.hid hgo
     have HL3 := Lib.hid hL3
     have Hb7 := Lib.hid hb7
     have HA7 := Lib.hid hA7
     have HO7 := Lib.hid hO7
     have hlgl : lg < U.heap.size := by omega
     have hne1 : ¬ lg = w.heap.size := by omega
     have hne2 : ¬ w.heap.size = lg := by omega
     have hs7 : (U.setCell ⟨lg, K, none⟩ (.int .i64 (k : Int))).heap.size = U.heap.size := Array.size_modify
     have HS7 := Lib.hid hs7
     clear hlen hlen2 hL hcK hL2 eset hL3 hb7 hA7 hO7 hPU hP7 hgo hs7
     go_wp2_with (fail)
     refine Hgo.out.mono ?_
     rintro e8 w8 ⟨rfl, hb8⟩
     have HL8 : Hid (OwnKZ w8 0 (some ⟨lg, 0, none⟩) c6 (toks ++ [(k : Int)])) := Lib.hid (World.ownsRow.kept HL3.out (below_grownBy hb8 none) (by simp [Value.ownBlock]))
     have ho8 := World.ownsRow.kept HO7.out (below_grownBy hb8 none) (by cases (Value.slice oa (goL (gOf d tbs toks) k).length oc).ownBlock <;> simp)
     have Hb8 := Lib.hid (Hb7.out.trans (hb8.mono Hb7.out.size))
     have HA8 := Lib.hid (HA7.out.below hb8 HA7.out.lt)
     have hbs8 : base ≤ w8.heap.size := by have := hb8.size; have := HS7.out; omega
     clear x0 x1 x2 xl hcK2 hfK
     cases B
     ·go_wp2_with (fail)
      have HO8 := Lib.hid ho8
      exact ⟨⟨k + 1, oa, oc, (k : Int), by omega, by go_num, by rw [Hsu.out, ← hln.out]; simp, Lib.hid (by rw [Hsu.out]; simpa using HO8.out), HL8, Hb8, HA8, hbs8⟩, by simp [RowKit.intOf]; omega⟩
     ·obtain ⟨oa9, oc9, w9, hrun, ho9, hg9, hfr9⟩ := OwnKZ.push ho8 (k : Int) 35 (by rw [hln.out]; omega) hbs8
      rw [hln.out] at hrun
      have hownb := World.ownsRow.lt ho8
      have HL9 : Hid (OwnKZ w9 0 (some ⟨lg, 0, none⟩) c6 (toks ++ [(k : Int)])) := Lib.hid (World.ownsRow.kept HL8.out hg9 (.inr (fun e => by have h9 := (hownb lg e.symm).1; omega)))
      have HA9 : Hid (Blk w9 w.heap.size 25 [.slice d.ta d.toks.length d.tc, .slice d.na d.names.length d.nc, .slice d.aa d.alts.length d.ac]) := Lib.hid ((hg9.block _ HA8.out.lt (fun e => by have h9 := (hownb _ e.symm).1; omega)).trans HA8.out)
      have Hb9 := Lib.hid (Hb8.out.grown hg9 Hb8.out.size (fun i e => by have h9 := (hownb i e).1; omega))
      have hbs9 : base ≤ w9.heap.size := Nat.le_trans hbs8 hg9.size
      have HO9 := Lib.hid ho9
      have Hrun9 := Lib.hid hrun
      clear hrun ho9 hg9 hfr9 hownb ho8
      go_wp2_with (at_builtin; refine wpList_append_run rfl _ _ 35 35 rfl _ _ _ _ rfl rfl Hrun9.out ?_)
      exact ⟨⟨k + 1, oa9, oc9, (k : Int), by omega, by go_num, by rw [Hsu.out, ← hln.out]; simp, Lib.hid (by rw [Hsu.out]; simpa using HO9.out), HL9, Hb9, HA9, hbs9⟩, by simp [RowKit.intOf]; omega⟩
    ·obtain rfl : k = T := by omega
     have hkI : ¬ (k : Int) < (k : Int) := by omega
     rw [HT.out] at x0 HWL
     clear HL
     by_cases h0 : x = 0
     ·have h0b : (x == 0) = true := by simp [h0]
      obtain ⟨oa9, oc9, w9, hrun, ho9, hg9, hfr9⟩ := OwnKZ.push HO.out (k : Int) 35 (by rw [hln.out]; omega) hbs
      rw [hln.out] at hrun
      have hb9 := Hb.out.grown hg9 Hb.out.size (fun i e => by have h9 := (World.ownsRow.lt HO.out i e).1; omega)
      have HF := HQ.out oa9 oc9 _ w9 (by rw [HWL.out, if_pos h0]) ho9.vs hb9
      rw [List.length_append, hln.out] at HF
      have HF := Lib.hid HF
      have Hrun9 := Lib.hid hrun
      clear hrun ho9 hg9 hfr9 hb9 h0 hx hxc
      go_wp2_with (at_builtin; refine wpList_append_run rfl _ _ 35 35 rfl _ _ _ _ rfl rfl Hrun9.out ?_)
      first | exact HF.out | exact bodyPost_ret (v := .slice oa9 (ln + 1) oc9) (by simp [results, Try.results44, go_sem]; try first | rfl | assumption | omega) rfl HF.out
     ·have h0b : (x == 0) = false := by simp [h0]
      have HF := HQ.out oa oc _ U (by rw [HWL.out, if_neg h0, List.append_nil]) HO.out.vs Hb.out
      rw [hln.out] at HF
      have HF := Lib.hid HF
      clear h0 hx hxc
      go_wp2_with (fail)
      first | exact HF.out | exact bodyPost_ret (v := .slice oa ln oc) (by simp [results, Try.results44, go_sem]; try first | rfl | assumption | omega) rfl HF.out
  ·have hai := Hgo.out rfl
   clear Hgo
   go_wp2_with (fail)
   have Hb4 : Hid (Below w.heap.size w (w3.alloc (.cells #[.int .i64 th.k, .int .i64 th.i, .int .i64 th.a, .slice ga tn gc] 51))) := Lib.hid (Hb3.out.alloc Hb3.out.size _)
   have HA4 := Lib.hid (HA3.out.alloc (.cells #[.int .i64 th.k, .int .i64 th.i, .int .i64 th.a, .slice ga tn gc] 51))
   generalize World.alloc w3 _ = W4 at Hb4 HA4 ⊢
   refine (cloneI_any toks ka kc W4 ((HE.out.grown Hb4.out).gk) (by omega)).mono ?_
   rintro e5 w5 ⟨a5, c5, rfl, ho5, hb5⟩
   have HA5 := HA4.out.below hb5 HA4.out.lt
   have hb5w := Hb4.out.trans (hb5.mono Hb4.out.size)
   obtain ⟨a6, c6, w6, hrun, ho6, hg6, hfr6⟩ := OwnKZ.push ho5 0 35 (by omega) hb5.size
   have hown5 := World.ownsRow.lt ho5
   have hA6 := HA5.kept (below_grownBy ((Below.refl w5.heap.size w5).alloc (Nat.le_refl _) (.cells #[.int .i64 0] 3)) none) (by simp)
   have hA6' : Blk w6 w.heap.size 25 [.slice d.ta d.toks.length d.tc, .slice d.na d.names.length d.nc, .slice d.aa d.alts.length d.ac] := (hg6.block w.heap.size HA5.lt (fun e => by have h9 := (hown5 _ e.symm).1; have := HA4.out.lt; omega)).trans HA5
   have hb6 : Below w.heap.size w w6 := hb5w.grown hg6 hb5w.size (fun i e => by have h9 := (hown5 i e).1; have := Hb4.out.size; omega)
   obtain ⟨lg, hlg, hlg0, hlg1⟩ : ∃ lg, a6 = some ⟨lg, 0, none⟩ ∧ w.heap.size < lg ∧ lg < w6.heap.size := by
    rcases ho6.2 with ⟨e1, e2⟩ | ⟨g', cp, cur, e1, h9, _⟩
    ·simp at e2
    ·injection e1 with e1 _ _
     have h8 := (World.ownsRow.lt ho6 g' (by rw [e1]; rfl))
     exact ⟨g', e1, by have := HA4.out.lt; omega, h8.2⟩
   subst hlg
   have Hrun := Lib.hid hrun
   have HL0 : Hid (OwnKZ w6 0 (some ⟨lg, 0, none⟩) c6 (toks ++ [0])) := Lib.hid (own_mono ho6 (Nat.zero_le _))
   have HA6 := Lib.hid hA6'
   have Hb6 := Lib.hid hb6
   have x0 := hA6'.cell 0
   have xl := hA6'.lt
   simp only [List.getElem?_cons_zero] at x0
   obtain ⟨K, HKK⟩ : ∃ q, Hid (toks.length = q) := ⟨_, Lib.hid rfl⟩
   obtain ⟨T, HT⟩ : ∃ q, Hid (d.toks.length = q) := ⟨_, Lib.hid rfl⟩
   rw [HKK.out] at Hrun hK hkm ⊢
   rw [HT.out] at x0 hT
   clear hrun ho5 hb5 HA5 hb5w ho6 hg6 hfr6 hown5 hA6 hA6' hb6 HA3 Hb3 HA4 Hb4
   go_wp2_with (at_builtin; refine wpList_append_run rfl _ _ 35 35 rfl _ _ _ _ rfl rfl Hrun.out ?_)
   obtain ⟨base, hbase⟩ : ∃ q, Hid (w6.heap.size = q) := ⟨_, Lib.hid rfl⟩
   rw [hbase.out] at hlg1
   have hbs0 : base ≤ w6.heap.size := by rw [hbase.out]; exact Nat.le_refl _
   clear x0 xl
   go_loopw [10, 12, 40] (fun lv _ iv wr => ∃ (k : Nat) (oa : Option Addr) (oc : Nat) (y : Int), k ≤ T ∧ iv = .int .i64 (k : Int) ∧ lv = .slice oa (goL (gOf d tbs toks) k).length oc ∧ Hid (OwnKZ wr base oa oc (goL (gOf d tbs toks) k)) ∧ Hid (OwnKZ wr 0 (some ⟨lg, 0, none⟩) c6 (toks ++ [y])) ∧ Hid (Below w.heap.size w wr) ∧ Hid (Blk wr w.heap.size 25 [.slice d.ta d.toks.length d.tc, .slice d.na d.names.length d.nc, .slice d.aa d.alts.length d.ac]) ∧ base ≤ wr.heap.size) (fun _ _ iv _ => T - (RowKit.intOf iv).toNat)
   case atStart => exact ⟨0, none, 0, 0, Nat.zero_le _, rfl, rfl, Lib.hid (OwnKZ.nil _ _), HL0, Hb6, HA6, hbs0⟩
   case round =>
    clear HL0 Hb6 HA6 hbs0 Hrun hbase
    obtain ⟨k, oa, oc, y, hk, rfl, rfl, HO, HL, Hb, HA, hbs⟩ := hrel
    obtain ⟨U, rfl⟩ : ∃ U, U = wr := ⟨_, rfl⟩
    have hgl := goL_len (gOf d tbs toks) k
    have hom := HO.out.le
    obtain ⟨ln, hln⟩ : ∃ q, Hid ((goL (gOf d tbs toks) k).length = q) := ⟨_, Lib.hid rfl⟩
    rw [hln.out] at hgl hom ⊢
    have x0 := HA.out.cell 0
    have x1 := HA.out.cell 1
    have x2 := HA.out.cell 2
    have xl := HA.out.lt
    simp only [List.getElem?_cons_zero, List.getElem?_cons_succ] at x0 x1 x2
    by_cases hlt : k < T
    ·have hkI : (k : Int) < (T : Int) := by omega
     have hkI0 : (0 : Int) ≤ (k : Int) := by omega
     have hKI : (K : Int) < (K : Int) + 1 := by omega
     have hKI0 : (0 : Int) ≤ (K : Int) := by omega
     have hlen : (toks ++ [y]).length = K + 1 := by rw [List.length_append, HKK.out]; rfl
     have hlen2 : (toks ++ [(k : Int)]).length = K + 1 := by rw [List.length_append, HKK.out]; rfl
     have hL := HL.out
     unfold OwnKZ at hL
     rw [hlen] at hL
     have hcK := hL.cellAt K (by omega)
     have hfK := own_frz (j := K) hL
     have hL2 := own_setC hL K (.int .i64 (k : Int))
     have eset : ((toks ++ [y]).map (Value.int .i64)).set K (.int .i64 (k : Int)) = (toks ++ [(k : Int)]).map (Value.int .i64) := by
      rw [List.map_append, List.map_append, List.set_append_right _ _ (by rw [List.length_map, HKK.out]; exact Nat.le_refl _), List.length_map, HKK.out, Nat.sub_self]
      rfl
     rw [eset] at hL2
     have hL3 : OwnKZ (U.setCell ⟨lg, K, none⟩ (.int .i64 (k : Int))) 0 (some ⟨lg, 0, none⟩) c6 (toks ++ [(k : Int)]) := by unfold OwnKZ; rw [hlen2]; exact hL2
     have hcK2 : U.cell? ⟨lg, K, none⟩ = some (.int .i64 y) := by
      rw [hcK, List.map_append, List.getElem?_append_right (by rw [List.length_map, HKK.out]; exact Nat.le_refl _), List.length_map, HKK.out, Nat.sub_self]
      rfl
     have hb7 : Below w.heap.size w (U.setCell ⟨lg, K, none⟩ (.int .i64 (k : Int))) := Hb.out.setCell (p := ⟨lg, K, none⟩) (by dsimp only; omega) _
     have hA7 := HA.out.setOther (b' := lg) (j := K) (by omega) (.int .i64 (k : Int))
     have hO7 := World.ownsRow.kept HO.out (grownBy_set U lg K (.int .i64 (k : Int))) (.inr (fun e => by have h9 := (World.ownsRow.lt HO.out _ e).1; omega))
     have hPU := HPr.out.grown hb7
     have hP7 : PrE (U.setCell ⟨lg, K, none⟩ (.int .i64 (k : Int))) d ta tc tbs (some ⟨lg, 0, none⟩) c6 (toks ++ [(k : Int)]) := ⟨⟨hPU.ge.gd, hPU.ge.gt, hL3.vs, fun x hx => by
      rcases List.mem_append.1 hx with hx | hx
      ·exact hPU.ge.nn x hx
      ·rw [List.mem_singleton] at hx; omega, hPU.ge.rng⟩, hPU.trg, hPU.srg, fun x hx => by
      rcases List.mem_append.1 hx with hx | hx
      ·exact hPU.krg x hx
      ·rw [List.mem_singleton] at hx; omega⟩
     have hgo := goesOn_any d ta tc tbs (some ⟨lg, 0, none⟩) c6 (toks ++ [(k : Int)]) _ hP7
     rw [hlen2] at hgo
     obtain ⟨B, hB⟩ : ∃ b, Hid (goB (K + 1) (psTree (gOf d tbs (toks ++ [(k : Int)]))) = b) := ⟨_, Lib.hid rfl⟩
     rw [hB.out] at hgo
     have Hsu : Hid (goL (gOf d tbs toks) (k + 1) = goL (gOf d tbs toks) k ++ (if B then [(k : Int)] else [])) := Lib.hid (by
      rw [goL_succ, ← hB.out]
      show _ ++ (if goB (toks.length + 1) (psTree (gOf d tbs (toks ++ [(k : Int)]))) = true then _ else _) = _
      rw [HKK.out])
     have Hgo := Lib.hid hgo
     have HL3 := Lib.hid hL3
     have Hb7 := Lib.hid hb7
     have HA7 := Lib.hid hA7
     have HO7 := Lib.hid hO7
     have hlgl : lg < U.heap.size := by omega
     have hne1 : ¬ lg = w.heap.size := by omega
     have hne2 : ¬ w.heap.size = lg := by omega
     have hs7 : (U.setCell ⟨lg, K, none⟩ (.int .i64 (k : Int))).heap.size = U.heap.size := Array.size_modify
     have HS7 := Lib.hid hs7
     clear hlen hlen2 hL hcK hL2 eset hL3 hb7 hA7 hO7 hPU hP7 hgo hs7
     go_wp2_with (fail)
     refine Hgo.out.mono ?_
     rintro e8 w8 ⟨rfl, hb8⟩
     have HL8 : Hid (OwnKZ w8 0 (some ⟨lg, 0, none⟩) c6 (toks ++ [(k : Int)])) := Lib.hid (World.ownsRow.kept HL3.out (below_grownBy hb8 none) (by simp [Value.ownBlock]))
     have ho8 := World.ownsRow.kept HO7.out (below_grownBy hb8 none) (by cases (Value.slice oa (goL (gOf d tbs toks) k).length oc).ownBlock <;> simp)
     have Hb8 := Lib.hid (Hb7.out.trans (hb8.mono Hb7.out.size))
     have HA8 := Lib.hid (HA7.out.below hb8 HA7.out.lt)
     have hbs8 : base ≤ w8.heap.size := by have := hb8.size; have := HS7.out; omega
     clear x0 x1 x2 xl hcK2 hfK
     cases B
     ·go_wp2_with (fail)
      have HO8 := Lib.hid ho8
      exact ⟨⟨k + 1, oa, oc, (k : Int), by omega, by go_num, by rw [Hsu.out, ← hln.out]; simp, Lib.hid (by rw [Hsu.out]; simpa using HO8.out), HL8, Hb8, HA8, hbs8⟩, by simp [RowKit.intOf]; omega⟩
     ·obtain ⟨oa9, oc9, w9, hrun, ho9, hg9, hfr9⟩ := OwnKZ.push ho8 (k : Int) 35 (by rw [hln.out]; omega) hbs8
      rw [hln.out] at hrun
      have hownb := World.ownsRow.lt ho8
      have HL9 : Hid (OwnKZ w9 0 (some ⟨lg, 0, none⟩) c6 (toks ++ [(k : Int)])) := Lib.hid (World.ownsRow.kept HL8.out hg9 (.inr (fun e => by have h9 := (hownb lg e.symm).1; omega)))
      have HA9 : Hid (Blk w9 w.heap.size 25 [.slice d.ta d.toks.length d.tc, .slice d.na d.names.length d.nc, .slice d.aa d.alts.length d.ac]) := Lib.hid ((hg9.block _ HA8.out.lt (fun e => by have h9 := (hownb _ e.symm).1; omega)).trans HA8.out)
      have Hb9 := Lib.hid (Hb8.out.grown hg9 Hb8.out.size (fun i e => by have h9 := (hownb i e).1; omega))
      have hbs9 : base ≤ w9.heap.size := Nat.le_trans hbs8 hg9.size
      have HO9 := Lib.hid ho9
      have Hrun9 := Lib.hid hrun
      clear hrun ho9 hg9 hfr9 hownb ho8
      go_wp2_with (at_builtin; refine wpList_append_run rfl _ _ 35 35 rfl _ _ _ _ rfl rfl Hrun9.out ?_)
      exact ⟨⟨k + 1, oa9, oc9, (k : Int), by omega, by go_num, by rw [Hsu.out, ← hln.out]; simp, Lib.hid (by rw [Hsu.out]; simpa using HO9.out), HL9, Hb9, HA9, hbs9⟩, by simp [RowKit.intOf]; omega⟩
    ·obtain rfl : k = T := by omega
     have hkI : ¬ (k : Int) < (k : Int) := by omega
     rw [HT.out] at x0 HWL
     clear HL
     by_cases h0 : x = 0
     ·have h0b : (x == 0) = true := by simp [h0]
      obtain ⟨oa9, oc9, w9, hrun, ho9, hg9, hfr9⟩ := OwnKZ.push HO.out (k : Int) 35 (by rw [hln.out]; omega) hbs
      rw [hln.out] at hrun
      have hb9 := Hb.out.grown hg9 Hb.out.size (fun i e => by have h9 := (World.ownsRow.lt HO.out i e).1; omega)
      have HF := HQ.out oa9 oc9 _ w9 (by rw [HWL.out, if_pos h0]) ho9.vs hb9
      rw [List.length_append, hln.out] at HF
      have HF := Lib.hid HF
      have Hrun9 := Lib.hid hrun
      clear hrun ho9 hg9 hfr9 hb9 h0 hx hxc
      go_wp2_with (at_builtin; refine wpList_append_run rfl _ _ 35 35 rfl _ _ _ _ rfl rfl Hrun9.out ?_)
      first | exact HF.out | exact bodyPost_ret (v := .slice oa9 (ln + 1) oc9) (by simp [results, Try.results44, go_sem]; try first | rfl | assumption | omega) rfl HF.out
     ·have h0b : (x == 0) = false := by simp [h0]
      have HF := HQ.out oa oc _ U (by rw [HWL.out, if_neg h0, List.append_nil]) HO.out.vs Hb.out
      rw [hln.out] at HF
      have HF := Lib.hid HF
      clear h0 hx hxc
      go_wp2_with (fail)
      first | exact HF.out | exact bodyPost_ret (v := .slice oa ln oc) (by simp [results, Try.results44, go_sem]; try first | rfl | assumption | omega) rfl HF.out
end Go.Proofs.Ytfdhaochnbfndaa
namespace Go.Proofs.Ytfdhaochnbfndaa
open Go.RowKit Go.Maps
attribute [local go_sem] Oper.semAt_some
def e11G (toks : List Int) : PsG := ⟨e9C, [[0, 1, 1]], 2, toks⟩
def e11T : TrF := .cons ⟨0, 0, 0⟩ .nil (.cons ⟨-1, 1, 0⟩ .nil (.cons ⟨1, 0, 1⟩ .nil .nil))
theorem e11_p1 : psParse (e11G [0, 1]) = .ok ⟨-1, 0, 0, e11T⟩ 0 0 := by kernel_rfl
theorem e11_p2 : psParse (e11G [0, 1, 1]) = .bad 2 110 := by kernel_rfl
theorem e11_w : wantP (e11G [0]) = [0, 1] := by kernel_rfl
def e11Os (h : Nat) : List Obj := [.cells #[.string ⟨#[97]⟩, .string ⟨#[98]⟩] 9, .cells #[.string ⟨#[83]⟩] 9, .cells #[.int .i64 0, .int .i64 (-1), .int .i64 1] 3, .cells #[.slice (some ⟨h + 1 + 1, 0, none⟩) 3 3, .slice none 0 0] 35, .cells #[.slice (some ⟨h + 1 + 1 + 1, 0, none⟩) 2 2] 32, .cells #[.slice (some ⟨h, 0, none⟩) 2 2, .slice (some ⟨h + 1, 0, none⟩) 1 1, .slice (some ⟨h + 1 + 1 + 1 + 1, 0, none⟩) 1 1] 25, .cells #[.int .i64 0, .int .i64 1, .int .i64 1] 3, .cells #[.slice (some ⟨h + 1 + 1 + 1 + 1 + 1 + 1, 0, none⟩) 3 3] 35]
def e11Tb (h : Nat) : List IltD := [⟨[0, 1, 1], some ⟨h + 1 + 1 + 1 + 1 + 1 + 1, 0, none⟩, 3⟩]
set_option maxRecDepth 100000 in
theorem e11_c (w : World) : CfAt (allocs w (e11Os w.heap.size)) (e9CD w.heap.size) := by
 refine ⟨allocs_vs _ w 0 _ _ rfl 2 rfl (e9_mx 2 (by omega)), allocs_vs _ w 1 _ _ rfl 1 rfl (e9_mx 1 (by omega)), allocs_vs _ w 4 _ _ rfl 1 rfl (e9_mx 1 (by omega)), fun r hr => ?_⟩
 have hr : r = ⟨[⟨[0, -1, 1], some ⟨w.heap.size + 1 + 1, 0, none⟩, 3⟩, ⟨[], none, 0⟩], some ⟨w.heap.size + 1 + 1 + 1, 0, none⟩, 2⟩ := by simpa [e9CD] using hr
 subst hr
 refine ⟨allocs_vs _ w 3 _ _ rfl 2 rfl (e9_mx 2 (by omega)), fun d hd => ?_⟩
 have hd : d = ⟨[0, -1, 1], some ⟨w.heap.size + 1 + 1, 0, none⟩, 3⟩ ∨ d = ⟨[], none, 0⟩ := by simpa using hd
 rcases hd with rfl | rfl
 ·exact allocs_vs _ w 2 _ _ rfl 3 rfl (e9_mx 3 (by omega))
 ·exact Vs.nil _
set_option maxRecDepth 100000 in
theorem e11_t (w : World) : AltsI (allocs w (e11Os w.heap.size)) (some ⟨w.heap.size + 1 + 1 + 1 + 1 + 1 + 1 + 1, 0, none⟩) 1 (e11Tb w.heap.size) := by
 refine ⟨allocs_vs _ w 7 _ _ rfl 1 rfl (e9_mx 1 (by omega)), fun d hd => ?_⟩
 have hd : d = ⟨[0, 1, 1], some ⟨w.heap.size + 1 + 1 + 1 + 1 + 1 + 1, 0, none⟩, 3⟩ := by simpa [e11Tb] using hd
 subst hd
 exact allocs_vs _ w 6 _ _ rfl 3 rfl (e9_mx 3 (by omega))
theorem e11_rng (h : Nat) : ∀ r ∈ (e9CD h).alts, ∀ a ∈ r.ds, a.l.length ≤ 30 ∧ ∀ x ∈ a.l, -1 ≤ x ∧ x ≤ 1 := by
 intro r hr a ha
 have hr : r = ⟨[⟨[0, -1, 1], some ⟨h + 1 + 1, 0, none⟩, 3⟩, ⟨[], none, 0⟩], some ⟨h + 1 + 1 + 1, 0, none⟩, 2⟩ := by simpa [e9CD] using hr
 subst hr
 have ha : a = ⟨[0, -1, 1], some ⟨h + 1 + 1, 0, none⟩, 3⟩ ∨ a = ⟨[], none, 0⟩ := by simpa using ha
 rcases ha with rfl | rfl
 ·refine ⟨by show 3 ≤ 30; omega, fun x hx => ?_⟩
  have hx : x = 0 ∨ x = -1 ∨ x = 1 := by simpa using hx
  omega
 ·exact ⟨by show 0 ≤ 30; omega, fun x hx => by cases hx⟩
theorem e11_pf (w W : World) (hb : Below (allocs w (e11Os w.heap.size)).heap.size (allocs w (e11Os w.heap.size)) W) {ka : Option Addr} {kc : Nat} {toks : List Int} (hk : Ints W ka kc toks) : PrF W (e9CD w.heap.size) (some ⟨w.heap.size + 1 + 1 + 1 + 1 + 1 + 1 + 1, 0, none⟩) 1 (e11Tb w.heap.size) ka kc toks :=
 ⟨(e11_c w).grown hb, (e11_t w).grown hb, hk, fun r hr a ha x hx => by have := (e11_rng _ r hr a ha).2 x hx; omega, fun t ht x hx => by
  have ht : t = ⟨[0, 1, 1], some ⟨w.heap.size + 1 + 1 + 1 + 1 + 1 + 1, 0, none⟩, 3⟩ := by simpa [e11Tb] using ht
  subst ht
  have hx : x = 0 ∨ x = 1 := by simpa using hx
  omega, fun r hr a ha => ⟨(e11_rng _ r hr a ha).1, fun x hx => by have := (e11_rng _ r hr a ha).2 x hx; omega⟩⟩
theorem ints_new (W : World) (l : List Int) (n : Nat) (hn : l.length = n) (hm : n ≤ maxLen) : Ints (W.alloc (.cells (l.map (Value.int .i64)).toArray 3)) (some ⟨W.heap.size, 0, none⟩) n l := allocs_vs [.cells (l.map (Value.int .i64)).toArray 3] W 0 _ _ rfl n (by rw [List.length_map]; exact hn) hm
set_option maxRecDepth 100000 in
set_option maxHeartbeats 16000000 in
theorem live11_any (w : World) : Calls Try.prog 39 #[] w fun e w' => e = .returned (.bool true) ∧ Below w.heap.size w w' := by
 have Hpf := Lib.hid (fun W hb ka kc toks hk => @e11_pf w W hb ka kc toks hk)
 have Hbc : Hid (Blk (allocs w (e11Os w.heap.size)) (w.heap.size + 1 + 1 + 1 + 1 + 1) 25 [.slice (some ⟨w.heap.size, 0, none⟩) 2 2, .slice (some ⟨w.heap.size + 1, 0, none⟩) 1 1, .slice (some ⟨w.heap.size + 1 + 1 + 1 + 1, 0, none⟩) 1 1]) := Lib.hid (allocs_blk _ w 5 _ _ rfl)
 have HwV := Lib.hid (allocs_below (e11Os w.heap.size) w)
 have Hv8 : Hid ((allocs w (e11Os w.heap.size)).heap.size = w.heap.size + 1 + 1 + 1 + 1 + 1 + 1 + 1 + 1) := Lib.hid (by simp [e11Os, allocs])
 go_enter Try.func39, Try.ntmps39
 go_wp2_with (fail)
 have Hc1 : Hid (Calls Try.prog 41 #[(e9CD w.heap.size).v, .slice (some ⟨w.heap.size + 1 + 1 + 1 + 1 + 1 + 1 + 1, 0, none⟩) 1 1, .slice (some ⟨w.heap.size + 1 + 1 + 1 + 1 + 1 + 1 + 1 + 1, 0, none⟩) 2 2] ((allocs w (e11Os w.heap.size)).alloc (.cells #[.int .i64 0, .int .i64 1] 3)) (TreQ ((allocs w (e11Os w.heap.size)).alloc (.cells #[.int .i64 0, .int .i64 1] 3)) (.ok ⟨-1, 0, 0, e11T⟩ 0 0))) := Lib.hid (by
  have hk := ints_new (allocs w (e11Os w.heap.size)) [0, 1] 2 rfl (e9_mx 2 (by omega))
  rw [Hv8.out] at hk
  have h := pparse_any (e9CD w.heap.size) (some ⟨w.heap.size + 1 + 1 + 1 + 1 + 1 + 1 + 1, 0, none⟩) 1 (e11Tb w.heap.size) (some ⟨w.heap.size + 1 + 1 + 1 + 1 + 1 + 1 + 1 + 1, 0, none⟩) 2 [0, 1] ((allocs w (e11Os w.heap.size)).alloc (.cells #[.int .i64 0, .int .i64 1] 3)) (Hpf.out _ ((Below.refl _ _).alloc (Nat.le_refl _) _) _ _ _ hk)
  rw [show gOf (e9CD w.heap.size) (e11Tb w.heap.size) [0, 1] = e11G [0, 1] from rfl, e11_p1] at h
  exact h)
 refine Hc1.out.mono ?_
 intro e1 w1 h1
 obtain ⟨hb1, ga, gc, rfl, ht1⟩ := h1
 dsimp only at ht1 ⊢
 rw [show e11T.len = 3 from rfl]
 have HT1 := Lib.hid ht1
 have hV1 : Below (allocs w (e11Os w.heap.size)).heap.size (allocs w (e11Os w.heap.size)) w1 := ((Below.refl _ _).alloc (Nat.le_refl _) (.cells #[.int .i64 0, .int .i64 1] 3)).trans (hb1.mono (by simp))
 have HV1 := Lib.hid hV1
 have hx1 := Hbc.out.below hV1 Hbc.out.lt
 have x0 := hx1.cell 0
 have x1 := hx1.cell 1
 have x2 := hx1.cell 2
 have xl := hx1.lt
 simp only [List.getElem?_cons_zero, List.getElem?_cons_succ] at x0 x1 x2
 clear hb1 ht1 hV1 hx1 Hc1
 go_wp2_with (fail)
 have Hc2 : Hid (Calls Try.prog 41 #[(e9CD w.heap.size).v, .slice (some ⟨w.heap.size + 1 + 1 + 1 + 1 + 1 + 1 + 1, 0, none⟩) 1 1, .slice (some ⟨w1.heap.size + 1, 0, none⟩) 3 3] ((w1.alloc (.cells #[.int .i64 (-1), .int .i64 0, .int .i64 0, .slice ga 3 gc] 51)).alloc (.cells #[.int .i64 0, .int .i64 1, .int .i64 1] 3)) (TreQ ((w1.alloc (.cells #[.int .i64 (-1), .int .i64 0, .int .i64 0, .slice ga 3 gc] 51)).alloc (.cells #[.int .i64 0, .int .i64 1, .int .i64 1] 3)) (.bad 2 110))) := Lib.hid (by
  have h := pparse_any (e9CD w.heap.size) (some ⟨w.heap.size + 1 + 1 + 1 + 1 + 1 + 1 + 1, 0, none⟩) 1 (e11Tb w.heap.size) (some ⟨w1.heap.size + 1, 0, none⟩) 3 [0, 1, 1] ((w1.alloc (.cells #[.int .i64 (-1), .int .i64 0, .int .i64 0, .slice ga 3 gc] 51)).alloc (.cells #[.int .i64 0, .int .i64 1, .int .i64 1] 3)) (Hpf.out _ (HV1.out.trans ((((Below.refl _ w1).alloc (Nat.le_refl _) (.cells #[.int .i64 (-1), .int .i64 0, .int .i64 0, .slice ga 3 gc] 51)).alloc (by simp) (.cells #[.int .i64 0, .int .i64 1, .int .i64 1] 3)).mono HV1.out.size)) _ _ _ (allocs_vs [(.cells #[.int .i64 (-1), .int .i64 0, .int .i64 0, .slice ga 3 gc] 51), (.cells #[.int .i64 0, .int .i64 1, .int .i64 1] 3)] w1 1 _ _ rfl 3 rfl (e9_mx 3 (by omega))))
  rw [show gOf (e9CD w.heap.size) (e11Tb w.heap.size) [0, 1, 1] = e11G [0, 1, 1] from rfl, e11_p2] at h
  exact h)
 refine Hc2.out.mono ?_
 intro e2 w2 h2
 obtain ⟨hb2, h2⟩ := h2
 dsimp only at h2
 subst h2
 have hb12 : Below w1.heap.size w1 w2 := (((Below.refl _ w1).alloc (Nat.le_refl _) (.cells #[.int .i64 (-1), .int .i64 0, .int .i64 0, .slice ga 3 gc] 51)).alloc (by simp) (.cells #[.int .i64 0, .int .i64 1, .int .i64 1] 3)).trans (hb2.mono (by simp; omega))
 have HV2 := Lib.hid (HV1.out.trans (hb12.mono HV1.out.size))
 have hB2 : Blk w2 w1.heap.size 51 [.int .i64 (-1), .int .i64 0, .int .i64 0, .slice ga 3 gc] := ((Blk.new w1 51 #[.int .i64 (-1), .int .i64 0, .int .i64 0, .slice ga 3 gc]).alloc (.cells #[.int .i64 0, .int .i64 1, .int .i64 1] 3)).below hb2 (by simp; omega)
 have HT2 := Lib.hid (HT1.out.grown hb12)
 have HB2 := Lib.hid hB2
 clear hb2 hb12 hB2 x0 x1 x2 xl Hc2
 have x0 := HB2.out.cell 0
 have x1 := HB2.out.cell 1
 have x2 := HB2.out.cell 2
 have x3 := HB2.out.cell 3
 have xl := HB2.out.lt
 simp only [List.getElem?_cons_zero, List.getElem?_cons_succ] at x0 x1 x2 x3
 have xl1 : w1.heap.size < w2.heap.size + 1 := by omega
 have xl2 : w1.heap.size < w2.heap.size + 1 + 1 := by omega
 go_wp2_with (fail)
 have hb : Blk (((w2.alloc (.cells #[.int .i64 0, .int .i64 0, .int .i64 0, .slice none 0 0] 51)).alloc (.cells #[.int .i64 0, .int .i64 0, .int .i64 0, .slice none 0 0, .int .i64 (-1), .int .i64 1, .int .i64 0, .slice none 0 0, .int .i64 1, .int .i64 0, .int .i64 1, .slice none 0 0] 51)).alloc (.cells #[.int .i64 (-1), .int .i64 0, .int .i64 0, .slice (some ⟨w2.heap.size + 1, 0, none⟩) 3 3] 51)) (w2.heap.size + 1) 51 [.int .i64 0, .int .i64 0, .int .i64 0, .slice none 0 0, .int .i64 (-1), .int .i64 1, .int .i64 0, .slice none 0 0, .int .i64 1, .int .i64 0, .int .i64 1, .slice none 0 0] := allocs_blk [(.cells #[.int .i64 0, .int .i64 0, .int .i64 0, .slice none 0 0] 51), (.cells #[.int .i64 0, .int .i64 0, .int .i64 0, .slice none 0 0, .int .i64 (-1), .int .i64 1, .int .i64 0, .slice none 0 0, .int .i64 1, .int .i64 0, .int .i64 1, .slice none 0 0] 51), (.cells #[.int .i64 (-1), .int .i64 0, .int .i64 0, .slice (some ⟨w2.heap.size + 1, 0, none⟩) 3 3] 51)] w2 1 _ _ rfl
 have hT3 : TrS (((w2.alloc (.cells #[.int .i64 0, .int .i64 0, .int .i64 0, .slice none 0 0] 51)).alloc (.cells #[.int .i64 0, .int .i64 0, .int .i64 0, .slice none 0 0, .int .i64 (-1), .int .i64 1, .int .i64 0, .slice none 0 0, .int .i64 1, .int .i64 0, .int .i64 1, .slice none 0 0] 51)).alloc (.cells #[.int .i64 (-1), .int .i64 0, .int .i64 0, .slice (some ⟨w2.heap.size + 1, 0, none⟩) 3 3] 51)) (fun _ => True) (some ⟨w2.heap.size + 1, 0, none⟩) 3 e11T := ⟨Nat.le_refl 3, by omega, (fun e => nomatch e), fun _ => ⟨_, _, rfl, trivial, hb.cell 0, hb.cell 1, hb.cell 2, ⟨none, 0, hb.cell 3, Nat.le_refl _, by omega, fun _ => rfl, fun h => absurd h (Nat.lt_irrefl 0)⟩, hb.cell 4, hb.cell 5, hb.cell 6, ⟨none, 0, hb.cell 7, Nat.le_refl _, by omega, fun _ => rfl, fun h => absurd h (Nat.lt_irrefl 0)⟩, hb.cell 8, hb.cell 9, hb.cell 10, ⟨none, 0, hb.cell 11, Nat.le_refl _, by omega, fun _ => rfl, fun h => absurd h (Nat.lt_irrefl 0)⟩, trivial⟩⟩
 have hb3 : Below w2.heap.size w2 (((w2.alloc (.cells #[.int .i64 0, .int .i64 0, .int .i64 0, .slice none 0 0] 51)).alloc (.cells #[.int .i64 0, .int .i64 0, .int .i64 0, .slice none 0 0, .int .i64 (-1), .int .i64 1, .int .i64 0, .slice none 0 0, .int .i64 1, .int .i64 0, .int .i64 1, .slice none 0 0] 51)).alloc (.cells #[.int .i64 (-1), .int .i64 0, .int .i64 0, .slice (some ⟨w2.heap.size + 1, 0, none⟩) 3 3] 51)) := allocs_below [(.cells #[.int .i64 0, .int .i64 0, .int .i64 0, .slice none 0 0] 51), (.cells #[.int .i64 0, .int .i64 0, .int .i64 0, .slice none 0 0, .int .i64 (-1), .int .i64 1, .int .i64 0, .slice none 0 0, .int .i64 1, .int .i64 0, .int .i64 1, .slice none 0 0] 51), (.cells #[.int .i64 (-1), .int .i64 0, .int .i64 0, .slice (some ⟨w2.heap.size + 1, 0, none⟩) 3 3] 51)] w2
 have hs := refSameT_any 100 ⟨-1, 0, 0⟩ ⟨-1, 0, 0⟩ e11T e11T ga (some ⟨w2.heap.size + 1, 0, none⟩) gc 3 (((w2.alloc (.cells #[.int .i64 0, .int .i64 0, .int .i64 0, .slice none 0 0] 51)).alloc (.cells #[.int .i64 0, .int .i64 0, .int .i64 0, .slice none 0 0, .int .i64 (-1), .int .i64 1, .int .i64 0, .slice none 0 0, .int .i64 1, .int .i64 0, .int .i64 1, .slice none 0 0] 51)).alloc (.cells #[.int .i64 (-1), .int .i64 0, .int .i64 0, .slice (some ⟨w2.heap.size + 1, 0, none⟩) 3 3] 51)) _ _ (by show 3 < 100; omega) (HT2.out.grown hb3) hT3
 rw [show (hdT ⟨-1, 0, 0⟩ ⟨-1, 0, 0⟩ e11T.len e11T.len && sameT e11T e11T) = true by kernel_rfl] at hs
 refine Calls.mono hs ?_
 rintro e3 w3 ⟨rfl, hb4⟩
 have HV3 := Lib.hid (HV2.out.trans ((hb3.trans (hb4.mono hb3.size)).mono HV2.out.size))
 have hx3 := Hbc.out.below HV3.out Hbc.out.lt
 clear hb hT3 hb3 hs hb4 x0 x1 x2 x3 xl xl1 xl2 HT1 HT2 HB2
 have x0 := hx3.cell 0
 have x1 := hx3.cell 1
 have x2 := hx3.cell 2
 have xl := hx3.lt
 simp only [List.getElem?_cons_zero, List.getElem?_cons_succ] at x0 x1 x2
 clear hx3
 have Hw : Hid (Calls Try.prog 44 #[(e9CD w.heap.size).v, .slice (some ⟨w.heap.size + 1 + 1 + 1 + 1 + 1 + 1 + 1, 0, none⟩) 1 1, .slice (some ⟨w3.heap.size, 0, none⟩) 1 1] (w3.alloc (.cells #[.int .i64 0] 3)) (fun e W => ∃ oa oc, e = .returned (.slice oa 2 oc) ∧ Ints W oa oc [0, 1] ∧ Below (w3.alloc (.cells #[.int .i64 0] 3)).heap.size (w3.alloc (.cells #[.int .i64 0] 3)) W)) := Lib.hid (by
  have h := wanted_any (e9CD w.heap.size) (some ⟨w.heap.size + 1 + 1 + 1 + 1 + 1 + 1 + 1, 0, none⟩) 1 (e11Tb w.heap.size) (some ⟨w3.heap.size, 0, none⟩) 1 [0] (w3.alloc (.cells #[.int .i64 0] 3)) (Hpf.out _ (HV3.out.trans (((Below.refl _ w3).alloc (Nat.le_refl _) _).mono HV3.out.size)) _ _ _ (ints_new w3 [0] 1 rfl (e9_mx 1 (by omega)))) (by show 2 ≤ 1000000; omega) (by show 1 ≤ 1000000; omega)
  rw [show gOf (e9CD w.heap.size) (e11Tb w.heap.size) [0] = e11G [0] from rfl, e11_w] at h
  exact h)
 go_wp2_with (fail)
 refine Hw.out.mono ?_
 rintro e4 w4 ⟨oa, oc, rfl, hi4, hb4⟩
 have hb5 : Below w4.heap.size w4 (w4.alloc (.cells #[.int .i64 0, .int .i64 1] 3)) := (Below.refl _ w4).alloc (Nat.le_refl _) _
 have hsi := sameInts8_any oa (some ⟨w4.heap.size, 0, none⟩) oc 2 [0, 1] [0, 1] (w4.alloc (.cells #[.int .i64 0, .int .i64 1] 3)) (hi4.grown hb5) (ints_new w4 [0, 1] 2 rfl (e9_mx 2 (by omega)))
 rw [decide_eq_true rfl] at hsi
 have Hsi : Hid (Calls Try.prog 25 #[.slice oa 2 oc, .slice (some ⟨w4.heap.size, 0, none⟩) 2 2] (w4.alloc (.cells #[.int .i64 0, .int .i64 1] 3)) (fun e w' => e = .returned (.bool true) ∧ Below (w4.alloc (.cells #[.int .i64 0, .int .i64 1] 3)).heap.size (w4.alloc (.cells #[.int .i64 0, .int .i64 1] 3)) w')) := Lib.hid hsi
 have hV4 := HV3.out.trans ((((Below.refl _ w3).alloc (Nat.le_refl _) (.cells #[.int .i64 0] 3)).trans (hb4.mono (by simp))).mono HV3.out.size)
 have HV5 := Lib.hid (hV4.trans (hb5.mono hV4.size))
 clear hi4 hb4 hb5 hsi hV4 Hw x0 x1 x2 xl
 go_wp2_with (fail)
 refine Hsi.out.mono ?_
 rintro e5 w5 ⟨rfl, hb6⟩
 have HF := Lib.hid (HwV.out.trans ((HV5.out.trans (hb6.mono HV5.out.size)).mono HwV.out.size))
 clear hb6 Hsi
 go_wp2_with (fail)
 first | exact ⟨rfl, HF.out⟩ | exact bodyPost_ret (v := .bool true) (by simp [results, Try.results39, go_sem]; try first | rfl | assumption | omega) rfl ⟨rfl, HF.out⟩
end Go.Proofs.Ytfdhaochnbfndaa
namespace Go.Proofs.Ytfdhaochnbfndaa
open Go.RowKit Go.Maps
attribute [local go_sem] Oper.semAt_some
theorem rput_any (W0 : World) (d : CfD) (ta : Option Addr) (tc : Nat) (tbs : List IltD) (ka : Option Addr) (kc : Nat) (toks : List Int) (hE : PsE W0 d ta tc tbs ka kc toks) (bp : Nat) (hbp : W0.heap.size ≤ bp) : ∀ (m : Nat) (k : Int) (a left : Nat) (w : World), -9223372036854775808 ≤ k → k ≤ 9223372036854775807 → left ≤ m → left ≤ 20000 → a ≤ toks.length → Below W0.heap.size W0 w → Blk w bp 108 [.slice d.ta d.toks.length d.tc, .slice d.na d.names.length d.nc, .slice d.aa d.alts.length d.ac, .slice ta tbs.length tc, .slice ka toks.length kc, .int .i64 (a : Int), .int .i64 (20000 - (left : Int)), .int .i64 0] →
 Calls Try.prog 89 #[.pointer (some ⟨bp, 0, none⟩), .int .i64 k] w (PutQ w bp d ta tc tbs ka kc toks (psPut (gOf d tbs toks) m k a left))
 | 0, k, a, left, w, _, _, hl, hl2, ha, hW, hB => by
  have hl0 : left = 0 := by omega
  subst hl0
  rw [show psPut (gOf d tbs toks) 0 k a 0 = .bad a 2 from rfl]
  exact rput_long W0 d ta tc tbs ka kc toks hE a bp k (20000 - ((0 : Nat) : Int)) w hW hbp (by omega) hB (by omega)
 | m + 1, k, a, left, w, hk0, hk1, hl, hl2, ha, hW, hB => by
  by_cases hl0 : left = 0
  ·subst hl0
   rw [show psPut (gOf d tbs toks) (m + 1) k a 0 = .bad a 2 by unfold psPut; rw [if_pos rfl]]
   exact rput_long W0 d ta tc tbs ka kc toks hE a bp k (20000 - ((0 : Nat) : Int)) w hW hbp (by omega) hB (by omega)
  ·by_cases hk : 0 ≤ k
   ·have h := rput_tok W0 d ta tc tbs ka kc toks hE a bp k (20000 - (left : Int)) w hW hbp (by omega) hB left (by omega) (by omega) hk ha
    rw [show psPut (gOf d tbs toks) (m + 1) k a left = (if toks[a]? = some k then .ok ⟨k, 0, (a : Int), .nil⟩ (a + 1) (left - 1) else .bad a 110) by rw [psPut, if_neg hl0, if_pos hk]; rfl]
    exact h
   ·exact rput_rule W0 d ta tc tbs ka kc toks hE a bp k (20000 - (left : Int)) w hW hbp (by omega) hB m left (by omega) (by omega) hl (by omega) hk0 ha (fun k a left w h1 h2 h3 h4 h5 h6 h7 => rput_any W0 d ta tc tbs ka kc toks hE bp hbp m k a left w h1 h2 h3 h4 h5 h6 h7)
end Go.Proofs.Ytfdhaochnbfndaa
