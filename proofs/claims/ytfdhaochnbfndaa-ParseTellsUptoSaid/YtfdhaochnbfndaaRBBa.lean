/- Texts joined: Fv Fw. -/
import Derived.Test.YtfdhaochnbfndaaRBAz
set_option linter.unusedVariables false
set_option linter.unusedSimpArgs false
namespace Go.Proofs.Ytfdhaochnbfndaa
open Go.RowKit Go.Maps
attribute [local go_sem] Oper.semAt_some
set_option maxRecDepth 100000 in
set_option maxHeartbeats 16000000 in
theorem rparse_any11 (d : CfD) (ta : Option Addr) (tc : Nat) (tbs : List IltD) (ka : Option Addr) (kc : Nat) (toks : List Int) (w : World) (hE : PrF w d ta tc tbs ka kc toks) :
 Calls Try.prog 42 #[d.v, .slice ta tbs.length tc, .slice ka toks.length kc] w (TreQ w (psParse (gOf d tbs toks))) := by
 obtain ⟨Q, hQ⟩ : ∃ Q : Ending → World → Prop, Hid (TreQ w (psParse (gOf d tbs toks)) = Q) := ⟨_, Lib.hid rfl⟩
 rw [hQ.out]
 have HQB : Hid (∀ (b : Nat) x, psParse (gOf d tbs toks) = .bad b x → ∀ W, Below w.heap.size w W → Q (.returned (.tuple #[treV ⟨0, 0, 0⟩ none 0 0, .int .i64 (b : Int), .int .i64 x])) W) := Lib.hid (fun b x h W hb => by rw [← hQ.out, h]; exact ⟨hb, rfl⟩)
 have HQO : Hid (∀ (t : Tre) a n, psParse (gOf d tbs toks) = .ok t a n → ∀ W ga gc, Below w.heap.size w W → TrS W (fun b => w.heap.size ≤ b) ga gc t.l → Q (.returned (.tuple #[treV ⟨t.k, t.i, t.a⟩ ga t.l.len gc, .int .i64 0, .int .i64 0])) W) := Lib.hid (fun t a n h W ga gc hb ht => by rw [← hQ.out, h]; exact ⟨hb, ga, gc, rfl, ht⟩)
 clear hQ
 have hA1 := (Blk.new w 25 #[.slice d.ta d.toks.length d.tc, .slice d.na d.names.length d.nc, .slice d.aa d.alts.length d.ac]).alloc (.cells #[.int .i64 0, .int .i64 0, .int .i64 0, .slice none 0 0] 51)
 have hN1 := Blk.new (w.alloc (.cells #[.slice d.ta d.toks.length d.tc, .slice d.na d.names.length d.nc, .slice d.aa d.alts.length d.ac] 25)) 51 #[.int .i64 0, .int .i64 0, .int .i64 0, .slice none 0 0]
 have hb1 : Below w.heap.size w ((w.alloc (.cells #[.slice d.ta d.toks.length d.tc, .slice d.na d.names.length d.nc, .slice d.aa d.alts.length d.ac] 25)).alloc (.cells #[.int .i64 0, .int .i64 0, .int .i64 0, .slice none 0 0] 51)) := ((Below.refl _ w).alloc (Nat.le_refl _) _).alloc (by simp) _
 simp only [World.size_alloc] at hN1
 have hkm : toks.length ≤ kc ∧ kc ≤ 9223372036854775807 := ⟨by have := hE.gk.le; rw [List.length_map] at this; exact this, hE.gk.max⟩
 have HA1 := Lib.hid hA1
 have HN1 := Lib.hid hN1
 have Hb1 := Lib.hid hb1
 have HE := Lib.hid hE
 clear hA1 hN1 hb1 hE
 obtain ⟨R, hR⟩ : ∃ R, Hid (firstB d.toks.length toks = R) := ⟨_, Lib.hid rfl⟩
 have HTs : Hid (∀ i, R = some i → psParse (gOf d tbs toks) = .bad i 1) := Lib.hid (fun i h => by rw [← hR.out] at h; unfold psParse; show (match firstB d.toks.length toks with | some i => PsR.bad i 1 | none => _) = _; rw [h])
 have HTn : Hid (R = none → psParse (gOf d tbs toks) = psTree (gOf d tbs toks)) := Lib.hid (fun h => by rw [← hR.out] at h; unfold psParse; show (match firstB d.toks.length toks with | some i => PsR.bad i 1 | none => _) = _; rw [h])
 go_enter Try.func42, Try.ntmps42
 go_wp2_with (fail)
 generalize World.alloc _ _ = W1 at HA1 HN1 Hb1 ⊢
 go_loopw [9, 10, 15] (fun _ _ iv wr => ∃ k : Nat, k ≤ toks.length ∧ iv = .int .i64 (k : Int) ∧ Hid (R = (firstB d.toks.length (toks.drop k)).map (fun i => i + k)) ∧ Below W1.heap.size W1 wr) (fun _ _ iv _ => toks.length - (RowKit.intOf iv).toNat)
 case atStart => exact ⟨0, Nat.zero_le _, rfl, Lib.hid (by rw [← hR.out, List.drop_zero]; simp), Below.refl _ _⟩
 case round =>
  obtain ⟨k, hk, rfl, HR, hbr⟩ := hrel
  obtain ⟨U, rfl⟩ : ∃ U, U = wr := ⟨_, rfl⟩
  have HA := Lib.hid (HA1.out.below hbr HA1.out.lt)
  have HN := Lib.hid (HN1.out.below hbr HN1.out.lt)
  have Hb := Lib.hid (Hb1.out.trans (hbr.mono Hb1.out.size))
  have x0 := HA.out.cell 0
  have x1 := HA.out.cell 1
  have x2 := HA.out.cell 2
  have xl := HA.out.lt
  simp only [List.getElem?_cons_zero, List.getElem?_cons_succ] at x0 x1 x2
  by_cases hlt : k < toks.length
  ·have hkI : (k : Int) < (toks.length : Int) := by omega
   have hkI0 : (0 : Int) ≤ (k : Int) := by omega
   obtain ⟨b, off, hb⟩ := HE.out.gk.at_ k (by rw [List.length_map]; exact hlt)
   have c0 := (HE.out.gk.grown Hb.out).cell b off hb k (by rw [List.length_map]; exact hlt)
   rw [List.getElem_map] at c0
   have Hst := Lib.hid (firstB_step (T := d.toks.length) hlt (by rw [hR.out]; exact HR.out))
   obtain ⟨x, hx⟩ : ∃ v, Hid (toks[k]'hlt = v) := ⟨_, Lib.hid rfl⟩
   rw [hx.out] at c0 Hst
   have hbl := World.block_lt_of_cell? _ _ c0
   subst hb
   have n0 := HN.out.cell 0
   have n1 := HN.out.cell 1
   have n2 := HN.out.cell 2
   have n3 := HN.out.cell 3
   have nf0 := HN.out.frozen 0
   have nf1 := HN.out.frozen 1
   have nf2 := HN.out.frozen 2
   have nf3 := HN.out.frozen 3
   have nl := HN.out.lt
   simp only [List.getElem?_cons_zero, List.getElem?_cons_succ] at n0 n1 n2 n3
   by_cases h1 : x < 0
   ·have HT : Hid (psParse (gOf d tbs toks) = .bad k 1) := Lib.hid (HTs.out k (by rw [← hR.out]; exact Hst.out.1 (decide_eq_true (.inl h1))))
    go_wp2_with (fail)
    have hN9 := blk_put4 HN.out (.int .i64 0) (.int .i64 0) (.int .i64 0) (.slice none 0 0)
    have hb9 : Below w.heap.size w ((((U.setCell ⟨w.heap.size + 1, 0, none⟩ (.int .i64 0)).setCell ⟨w.heap.size + 1, 1, none⟩ (.int .i64 0)).setCell ⟨w.heap.size + 1, 2, none⟩ (.int .i64 0)).setCell ⟨w.heap.size + 1, 3, none⟩ (.slice none 0 0)) := (((Hb.out.setCell (p := ⟨w.heap.size + 1, 0, none⟩) (by dsimp only; omega) (.int .i64 0)).setCell (p := ⟨w.heap.size + 1, 1, none⟩) (by dsimp only; omega) (.int .i64 0)).setCell (p := ⟨w.heap.size + 1, 2, none⟩) (by dsimp only; omega) (.int .i64 0)).setCell (p := ⟨w.heap.size + 1, 3, none⟩) (by dsimp only; omega) (.slice none 0 0)
    generalize World.setCell _ _ _ = WF at hN9 hb9 ⊢
    have g0 := hN9.cell 0
    have g1 := hN9.cell 1
    have g2 := hN9.cell 2
    have g3 := hN9.cell 3
    simp only [List.getElem?_cons_zero, List.getElem?_cons_succ] at g0 g1 g2 g3
    have HF := HQB.out k 1 HT.out WF hb9
    exact bodyPost_ret (v := .tuple #[.agg #[.int .i64 0, .int .i64 0, .int .i64 0, .slice none 0 0], .int .i64 (k : Int), .int .i64 1]) (by simp [results, Try.results42, go_sem, g0, g1, g2, g3]) rfl HF
   ·by_cases h2 : (d.toks.length : Int) ≤ x
    ·have HT : Hid (psParse (gOf d tbs toks) = .bad k 1) := Lib.hid (HTs.out k (by rw [← hR.out]; exact Hst.out.1 (decide_eq_true (.inr h2))))
     go_wp2_with (fail)
     have hN9 := blk_put4 HN.out (.int .i64 0) (.int .i64 0) (.int .i64 0) (.slice none 0 0)
     have hb9 : Below w.heap.size w ((((U.setCell ⟨w.heap.size + 1, 0, none⟩ (.int .i64 0)).setCell ⟨w.heap.size + 1, 1, none⟩ (.int .i64 0)).setCell ⟨w.heap.size + 1, 2, none⟩ (.int .i64 0)).setCell ⟨w.heap.size + 1, 3, none⟩ (.slice none 0 0)) := (((Hb.out.setCell (p := ⟨w.heap.size + 1, 0, none⟩) (by dsimp only; omega) (.int .i64 0)).setCell (p := ⟨w.heap.size + 1, 1, none⟩) (by dsimp only; omega) (.int .i64 0)).setCell (p := ⟨w.heap.size + 1, 2, none⟩) (by dsimp only; omega) (.int .i64 0)).setCell (p := ⟨w.heap.size + 1, 3, none⟩) (by dsimp only; omega) (.slice none 0 0)
     generalize World.setCell _ _ _ = WF at hN9 hb9 ⊢
     have g0 := hN9.cell 0
     have g1 := hN9.cell 1
     have g2 := hN9.cell 2
     have g3 := hN9.cell 3
     simp only [List.getElem?_cons_zero, List.getElem?_cons_succ] at g0 g1 g2 g3
     have HF := HQB.out k 1 HT.out WF hb9
     exact bodyPost_ret (v := .tuple #[.agg #[.int .i64 0, .int .i64 0, .int .i64 0, .slice none 0 0], .int .i64 (k : Int), .int .i64 1]) (by simp [results, Try.results42, go_sem, g0, g1, g2, g3]) rfl HF
    ·have Hn := Lib.hid (Hst.out.2 (decide_eq_false (fun e => by rcases e with e | e; exact h1 e; exact h2 e)))
     go_wp2_with (fail)
     exact ⟨⟨k + 1, by omega, by go_num, Lib.hid (by rw [← hR.out]; exact Hn.out), hbr⟩, by simp [RowKit.intOf]; omega⟩
  ·have hkI : ¬ (k : Int) < (toks.length : Int) := by omega
   have HRN : Hid (R = none) := Lib.hid (by rw [HR.out, List.drop_eq_nil_of_le (by omega)]; rfl)
   have HT := Lib.hid (HTn.out HRN.out)
   have hfb := HRN.out
   rw [← hR.out] at hfb
   have hEU : PsE U d ta tc tbs ka kc toks := (HE.out.pre hfb).ge.grown Hb.out
   have hbp : Below U.heap.size U (U.alloc (.cells #[.slice d.ta d.toks.length d.tc, .slice d.na d.names.length d.nc, .slice d.aa d.alts.length d.ac, .slice ta tbs.length tc, .slice ka toks.length kc, .int .i64 0, .int .i64 0, .int .i64 0] 108)) := (Below.refl _ U).alloc (Nat.le_refl _) _
   have Hput := Lib.hid (rput_any U d ta tc tbs ka kc toks hEU U.heap.size (Nat.le_refl _) 20000 (-1) 0 20000 _ (by omega) (by omega) (by omega) (by omega) (Nat.zero_le _) hbp (Blk.new U 108 #[.slice d.ta d.toks.length d.tc, .slice d.na d.names.length d.nc, .slice d.aa d.alts.length d.ac, .slice ta tbs.length tc, .slice ka toks.length kc, .int .i64 0, .int .i64 0, .int .i64 0]))
   have Hbp := Lib.hid hbp
   clear hfb hEU hbp
   go_wp2_with (fail)
   refine Hput.out.mono ?_
   intro e4 w4 h4
   obtain ⟨hg4, h4⟩ := h4
   have hk4 : KeB (fun b => b = U.heap.size) (U.alloc (.cells #[.slice d.ta d.toks.length d.tc, .slice d.na d.names.length d.nc, .slice d.aa d.alts.length d.ac, .slice ta tbs.length tc, .slice ka toks.length kc, .int .i64 0, .int .i64 0, .int .i64 0] 108)) w4 := KeB.gr hg4 (fun i e => (Option.some.inj e).symm)
   have hbU : Below U.heap.size U w4 := Hbp.out.trans (hk4.below (by rw [World.size_alloc]; omega) (fun b e => by rw [e]; exact Nat.le_refl _))
   have HN4 := Lib.hid (HN.out.below hbU HN.out.lt)
   have Hb4 := Lib.hid (Hb.out.trans (hbU.mono Hb.out.size))
   have HNU := Lib.hid HN.out.lt
   have hU4 : U.heap.size < w4.heap.size := by have := hk4.size; rw [World.size_alloc] at this; omega
   clear hg4 hk4 hbU Hput Hbp x0 x1 x2 xl
   cases hr : psPut (gOf d tbs toks) 20000 (-1) 0 20000 with
   | bad b x =>
    rw [hr] at h4
    obtain ⟨hx0, rfl, m4, hB4⟩ := h4
    have HTB : Hid (psParse (gOf d tbs toks) = .bad b x) := Lib.hid (by rw [HT.out]; unfold psTree; rw [hr]; rfl)
    have HB4 := Lib.hid hB4
    have hxb : (x == 0) = false := by simp [hx0]
    have hxc : (x != 0) = true := by simp [hx0]
    clear hr hB4 hx0
    have HN5 := Lib.hid (HN4.out.alloc (.cells #[.int .i64 0, .int .i64 0, .int .i64 0, .slice none 0 0] 51))
    have HB5 := Lib.hid (HB4.out.alloc (.cells #[.int .i64 0, .int .i64 0, .int .i64 0, .slice none 0 0] 51))
    have Hb5 := Lib.hid (Hb4.out.alloc Hb4.out.size (.cells #[.int .i64 0, .int .i64 0, .int .i64 0, .slice none 0 0] 51))
    have y5 := HB4.out.cell 5
    have y7 := HB4.out.cell 7
    have yl := HB4.out.lt
    simp only [List.getElem?_cons_zero, List.getElem?_cons_succ] at y5 y7
    go_wp2_with (fail)
    clear yl y5 y7
    generalize World.alloc _ _ = W5 at HN5 HB5 Hb5 ⊢
    have y5 := HB5.out.cell 5
    have y7 := HB5.out.cell 7
    have yl := HB5.out.lt
    simp only [List.getElem?_cons_zero, List.getElem?_cons_succ] at y5 y7
    have n0 := HN5.out.cell 0
    have n1 := HN5.out.cell 1
    have n2 := HN5.out.cell 2
    have n3 := HN5.out.cell 3
    have nf0 := HN5.out.frozen 0
    have nf1 := HN5.out.frozen 1
    have nf2 := HN5.out.frozen 2
    have nf3 := HN5.out.frozen 3
    have nl := HN5.out.lt
    simp only [List.getElem?_cons_zero, List.getElem?_cons_succ] at n0 n1 n2 n3
    have hneb : ¬ w.heap.size + 1 = U.heap.size := by have := HNU.out; omega
    have hneb2 : ¬ U.heap.size = w.heap.size + 1 := by have := HNU.out; omega
    go_region
    all_goals
     go_wp2_with (fail)
     have hN9 := blk_put4 HN5.out (.int .i64 0) (.int .i64 0) (.int .i64 0) (.slice none 0 0)
     have hb9 : Below w.heap.size w ((((W5.setCell ⟨w.heap.size + 1, 0, none⟩ (.int .i64 0)).setCell ⟨w.heap.size + 1, 1, none⟩ (.int .i64 0)).setCell ⟨w.heap.size + 1, 2, none⟩ (.int .i64 0)).setCell ⟨w.heap.size + 1, 3, none⟩ (.slice none 0 0)) := (((Hb5.out.setCell (p := ⟨w.heap.size + 1, 0, none⟩) (by dsimp only; omega) (.int .i64 0)).setCell (p := ⟨w.heap.size + 1, 1, none⟩) (by dsimp only; omega) (.int .i64 0)).setCell (p := ⟨w.heap.size + 1, 2, none⟩) (by dsimp only; omega) (.int .i64 0)).setCell (p := ⟨w.heap.size + 1, 3, none⟩) (by dsimp only; omega) (.slice none 0 0)
     generalize World.setCell _ _ _ = X at hN9 hb9 ⊢
     have hdr := (Below.refl X.heap.size X).drew
     have hN10 := hN9.below hdr hN9.lt
     have hb10 := hb9.drew
     generalize X.drew = WF at hN10 hb10 ⊢
     have g0 := hN10.cell 0
     have g1 := hN10.cell 1
     have g2 := hN10.cell 2
     have g3 := hN10.cell 3
     simp only [List.getElem?_cons_zero, List.getElem?_cons_succ] at g0 g1 g2 g3
     have HF := HQB.out b x HTB.out WF hb10
     exact bodyPost_ret (v := .tuple #[.agg #[.int .i64 0, .int .i64 0, .int .i64 0, .slice none 0 0], .int .i64 (b : Int), .int .i64 x]) (by simp [results, Try.results42, go_sem, g0, g1, g2, g3]) rfl HF
   | ok t b q =>
    rw [hr] at h4
    obtain ⟨ga, gc, rfl, hT4, hB4⟩ := h4
    obtain ⟨tk, ti, tA, tl⟩ := t
    dsimp only at hT4 hB4 ⊢
    have hbk := put_at (gOf d tbs toks) 20000 (-1) 0 20000 (Nat.zero_le _) hr
    change b ≤ toks.length at hbk
    obtain ⟨tn, htn⟩ : ∃ q, Hid (tl.len = q) := ⟨_, Lib.hid rfl⟩
    rw [htn.out]
    have HR4 := Lib.hid hr
    have HT4 := Lib.hid hT4
    have HB4 := Lib.hid hB4
    have hUs := HNU.out
    clear hr hT4 hB4
    by_cases hlb : b < toks.length
    ·have hlbI : (b : Int) < (toks.length : Int) := by omega
     have HTB : Hid (psParse (gOf d tbs toks) = .bad b 110) := Lib.hid (by rw [HT.out]; unfold psTree; rw [HR4.out]; show (if b < toks.length then _ else _) = _; rw [if_pos hlb])
     have HB5 : Hid (Blk ((w4.setCell ⟨U.heap.size, 7, none⟩ (.int .i64 110)).alloc (.cells #[.int .i64 tk, .int .i64 ti, .int .i64 tA, .slice ga tn gc] 51)) U.heap.size 108 [.slice d.ta d.toks.length d.tc, .slice d.na d.names.length d.nc, .slice d.aa d.alts.length d.ac, .slice ta tbs.length tc, .slice ka toks.length kc, .int .i64 (b : Int), .int .i64 (20000 - (q : Int)), .int .i64 110]) := Lib.hid ((HB4.out.set 7 (.int .i64 110)).alloc _)
     have HN5 := Lib.hid ((HN4.out.setOther (b' := U.heap.size) (j := 7) (by omega) (.int .i64 110)).alloc (.cells #[.int .i64 tk, .int .i64 ti, .int .i64 tA, .slice ga tn gc] 51))
     have hb5s := Hb4.out.setCell (p := ⟨U.heap.size, 7, none⟩) (by dsimp only; omega) (.int .i64 110)
     have Hb5 := Lib.hid (hb5s.alloc hb5s.size (.cells #[.int .i64 tk, .int .i64 ti, .int .i64 tA, .slice ga tn gc] 51))
     clear hb5s
     have y5 := HB4.out.cell 5
     have y7 := HB4.out.cell 7
     have yf7 := HB4.out.frozen 7
     have yl := HB4.out.lt
     simp only [List.getElem?_cons_zero, List.getElem?_cons_succ] at y5 y7
     go_wp2_with (fail)
     clear yl y5 y7 yf7
     generalize World.alloc _ _ = W5 at HN5 HB5 Hb5 ⊢
     have y5 := HB5.out.cell 5
     have y7 := HB5.out.cell 7
     have yl := HB5.out.lt
     simp only [List.getElem?_cons_zero, List.getElem?_cons_succ] at y5 y7
     have n0 := HN5.out.cell 0
     have n1 := HN5.out.cell 1
     have n2 := HN5.out.cell 2
     have n3 := HN5.out.cell 3
     have nf0 := HN5.out.frozen 0
     have nf1 := HN5.out.frozen 1
     have nf2 := HN5.out.frozen 2
     have nf3 := HN5.out.frozen 3
     have nl := HN5.out.lt
     simp only [List.getElem?_cons_zero, List.getElem?_cons_succ] at n0 n1 n2 n3
     have hneb : ¬ w.heap.size + 1 = U.heap.size := by have := HNU.out; omega
     have hneb2 : ¬ U.heap.size = w.heap.size + 1 := by have := HNU.out; omega
     go_region
     all_goals
      go_wp2_with (fail)
      have hN9 := blk_put4 HN5.out (.int .i64 0) (.int .i64 0) (.int .i64 0) (.slice none 0 0)
      have hb9 : Below w.heap.size w ((((W5.setCell ⟨w.heap.size + 1, 0, none⟩ (.int .i64 0)).setCell ⟨w.heap.size + 1, 1, none⟩ (.int .i64 0)).setCell ⟨w.heap.size + 1, 2, none⟩ (.int .i64 0)).setCell ⟨w.heap.size + 1, 3, none⟩ (.slice none 0 0)) := (((Hb5.out.setCell (p := ⟨w.heap.size + 1, 0, none⟩) (by dsimp only; omega) (.int .i64 0)).setCell (p := ⟨w.heap.size + 1, 1, none⟩) (by dsimp only; omega) (.int .i64 0)).setCell (p := ⟨w.heap.size + 1, 2, none⟩) (by dsimp only; omega) (.int .i64 0)).setCell (p := ⟨w.heap.size + 1, 3, none⟩) (by dsimp only; omega) (.slice none 0 0)
      generalize World.setCell _ _ _ = X at hN9 hb9 ⊢
      have hdr := (Below.refl X.heap.size X).drew
      have hN10 := hN9.below hdr hN9.lt
      have hb10 := hb9.drew
      generalize X.drew = WF at hN10 hb10 ⊢
      have g0 := hN10.cell 0
      have g1 := hN10.cell 1
      have g2 := hN10.cell 2
      have g3 := hN10.cell 3
      simp only [List.getElem?_cons_zero, List.getElem?_cons_succ] at g0 g1 g2 g3
      have HF := HQB.out b 110 HTB.out WF hb10
      exact bodyPost_ret (v := .tuple #[.agg #[.int .i64 0, .int .i64 0, .int .i64 0, .slice none 0 0], .int .i64 (b : Int), .int .i64 110]) (by simp [results, Try.results42, go_sem, g0, g1, g2, g3]) rfl HF
    ·have hlbI : ¬ (b : Int) < (toks.length : Int) := by omega
     have HTB : Hid (psParse (gOf d tbs toks) = .ok ⟨tk, ti, tA, tl⟩ 0 0) := Lib.hid (by rw [HT.out]; unfold psTree; rw [HR4.out]; show (if b < toks.length then _ else _) = _; rw [if_neg hlb])
     have y5 := HB4.out.cell 5
     have y7 := HB4.out.cell 7
     have yl := HB4.out.lt
     simp only [List.getElem?_cons_zero, List.getElem?_cons_succ] at y5 y7
     have n0 := HN4.out.cell 0
     have n1 := HN4.out.cell 1
     have n2 := HN4.out.cell 2
     have n3 := HN4.out.cell 3
     have nf0 := HN4.out.frozen 0
     have nf1 := HN4.out.frozen 1
     have nf2 := HN4.out.frozen 2
     have nf3 := HN4.out.frozen 3
     have nl := HN4.out.lt
     simp only [List.getElem?_cons_zero, List.getElem?_cons_succ] at n0 n1 n2 n3
     go_wp2_with (fail)
     have hN9 := blk_put4 HN4.out (.int .i64 tk) (.int .i64 ti) (.int .i64 tA) (.slice ga tn gc)
     have hb9 : Below w.heap.size w ((((w4.setCell ⟨w.heap.size + 1, 0, none⟩ (.int .i64 tk)).setCell ⟨w.heap.size + 1, 1, none⟩ (.int .i64 ti)).setCell ⟨w.heap.size + 1, 2, none⟩ (.int .i64 tA)).setCell ⟨w.heap.size + 1, 3, none⟩ (.slice ga tn gc)) := (((Hb4.out.setCell (p := ⟨w.heap.size + 1, 0, none⟩) (by dsimp only; omega) (.int .i64 tk)).setCell (p := ⟨w.heap.size + 1, 1, none⟩) (by dsimp only; omega) (.int .i64 ti)).setCell (p := ⟨w.heap.size + 1, 2, none⟩) (by dsimp only; omega) (.int .i64 tA)).setCell (p := ⟨w.heap.size + 1, 3, none⟩) (by dsimp only; omega) (.slice ga tn gc)
     have hK9 := keb_set4 (bad := fun b => b = w.heap.size + 1) w4 (w.heap.size + 1) 0 rfl (.int .i64 tk) (.int .i64 ti) (.int .i64 tA) (.slice ga tn gc)
     simp only [Nat.zero_add] at hK9
     generalize World.setCell _ _ _ = X at hN9 hb9 hK9 ⊢
     have hN10 := hN9.alloc (.cells #[.int .i64 tk, .int .i64 ti, .int .i64 tA, .slice ga tn gc] 51)
     have hb10 := hb9.alloc hb9.size (.cells #[.int .i64 tk, .int .i64 ti, .int .i64 tA, .slice ga tn gc] 51)
     have hT9 := (trs_keb (trs_keb HT4.out hK9 (fun b hb e => by have hb : (U.alloc _).heap.size ≤ b := hb; rw [World.size_alloc] at hb; omega)) (KeB.alloc (fun b => b = w.heap.size + 1) X (.cells #[.int .i64 tk, .int .i64 ti, .int .i64 tA, .slice ga tn gc] 51)) (fun b hb e => by have hb : (U.alloc _).heap.size ≤ b := hb; rw [World.size_alloc] at hb; omega)).imp (Q := fun b => w.heap.size ≤ b) (fun b hb _ => by have hb : (U.alloc _).heap.size ≤ b := hb; rw [World.size_alloc] at hb; omega)
     generalize X.alloc (.cells #[.int .i64 tk, .int .i64 ti, .int .i64 tA, .slice ga tn gc] 51) = WF at hN10 hb10 hT9 ⊢
     have g0 := hN10.cell 0
     have g1 := hN10.cell 1
     have g2 := hN10.cell 2
     have g3 := hN10.cell 3
     simp only [List.getElem?_cons_zero, List.getElem?_cons_succ] at g0 g1 g2 g3
     have HF := HQO.out ⟨tk, ti, tA, tl⟩ 0 0 HTB.out WF ga gc hb10 hT9
     dsimp only at HF
     rw [htn.out] at HF
     exact bodyPost_ret (v := .tuple #[.agg #[.int .i64 tk, .int .i64 ti, .int .i64 tA, .slice ga tn gc], .int .i64 0, .int .i64 0]) (by simp [results, Try.results42, go_sem, g0, g1, g2, g3]) rfl HF
end Go.Proofs.Ytfdhaochnbfndaa
namespace Go.Proofs.Ytfdhaochnbfndaa
open Go.RowKit Go.Maps
attribute [local go_sem] Oper.semAt_some
/-- The place that one has come to. -/
def PsR.pl {α : Type} : PsR α → Nat
 | .bad b _ => b
 | .ok _ b _ => b
/-- The places are of the tokens', or behind them. -/
theorem seq_in {G : PsG} {f : Int → Nat → Nat → PsR Tre} (hf : ∀ k a n, a ≤ G.toks.length → (f k a n).pl ≤ G.toks.length) : ∀ (ks : List Int) (a n : Nat), a ≤ G.toks.length → (psSeq f ks a n).pl ≤ G.toks.length
 | [], a, n, ha => ha
 | k :: ks, a, n, ha => by
  rw [seq_cons]
  have h1 := hf k a n ha
  cases e : f k a n with
  | bad b x => rw [e] at h1; exact h1
  | ok t b q =>
   rw [e] at h1
   have h2 := seq_in hf ks b q h1
   show ((psSeq f ks b q).bind fun l a n => PsR.ok (t.con l) a n).pl ≤ _
   cases e2 : psSeq f ks b q with
   | bad c y => rw [e2] at h2; exact h2
   | ok l c r => rw [e2] at h2; exact h2
theorem put_in (G : PsG) : ∀ (m : Nat) (k : Int) (a n : Nat), a ≤ G.toks.length → (psPut G m k a n).pl ≤ G.toks.length
 | 0, k, a, n, ha => ha
 | m + 1, k, a, n, ha => by
  unfold psPut
  by_cases hn : n = 0
  ·rw [if_pos hn]; exact ha
  ·rw [if_neg hn]
   by_cases hk : 0 ≤ k
   ·rw [if_pos hk]
    by_cases ht : G.toks[a]? = some k
    ·rw [if_pos ht]
     exact (List.getElem?_eq_some_iff.1 ht).1
    ·rw [if_neg ht]; exact ha
   ·rw [if_neg hk]
    cases e : G.alt (ruL k) a with
    | none => exact ha
    | some p =>
     obtain ⟨i, ks⟩ := p
     have h1 := seq_in (G := G) (put_in G m) ks a (n - 1) ha
     show ((psSeq (psPut G m) ks a (n - 1)).bind fun l a n => PsR.ok (⟨k, i, 0, l⟩ : Tre) a n).pl ≤ _
     cases e2 : psSeq (psPut G m) ks a (n - 1) with
     | bad c y => rw [e2] at h1; exact h1
     | ok l c r => rw [e2] at h1; exact h1
/-- Less behind it. -/
def PsG.cut (G : PsG) (i : Nat) : PsG := { G with toks := G.toks.take i }
theorem tree_in {G : PsG} {b : Nat} {x : Int} (h : psTree G = .bad b x) : b ≤ G.toks.length := by
 have h1 := put_in G 20000 (-1) 0 20000 (Nat.zero_le _)
 unfold psTree at h
 cases e : psPut G 20000 (-1) 0 20000 with
 | bad c y =>
  rw [e] at h h1
  change PsR.bad c y = _ at h
  injection h with h2 _
  rw [← h2]
  exact h1
 | ok t c q =>
  rw [e] at h h1
  change (if c < G.toks.length then PsR.bad c 110 else PsR.ok t 0 0) = _ at h
  by_cases hc : c < G.toks.length
  ·rw [if_pos hc] at h; injection h with h2 _; rw [← h2]; exact h1
  ·rw [if_neg hc] at h; cases h
end Go.Proofs.Ytfdhaochnbfndaa
