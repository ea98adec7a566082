/- Texts joined: Ti Fq Fr Fs Ft Fu Fv Fw Fx Fy. -/
import Derived.Test.YthogiakfbgehnaaRDAv
import Derived.Deep.CutRange
import Derived.Test.YthogiakfbgehnaaRDAt
import Derived.Test.YthogiakfbgehnaaRDAk
import Derived.Lib.SliceRun
set_option linter.unusedVariables false
set_option linter.unusedSimpArgs false
namespace Go.Proofs.Ythogiakfbgehnaa
open Go.RowKit Go.Maps
attribute [local go_sem] Oper.semAt_some
/-- The derivation of steps, or behind how many, and why there is none. -/
def gwGrow (d : CfD) (st : List Int) : GwR Tre := (gwPut d st 20000 (-1) 0 0 20000).bind fun x s a n => if s < st.length then .bad s 110 else .ok x s a n
/-- What Grow answers. -/
def GroQ (w : World) (r : GwR Tre) (e : Ending) (W : World) : Prop :=
 Below w.heap.size w W ∧ match r with
 | .bad s x => x ≠ 0 ∧ e = .returned (.tuple #[treV ⟨0, 0, 0⟩ none 0 0, .int .i64 (s : Int), .int .i64 x])
 | .ok t _ _ _ => ∃ ga gc, e = .returned (.tuple #[treV ⟨t.k, t.i, t.a⟩ ga t.l.len gc, .int .i64 0, .int .i64 0]) ∧ TrS W (fun g => w.heap.size ≤ g) ga gc t.l
set_option maxRecDepth 100000 in
set_option maxHeartbeats 16000000 in
theorem tgrow_any (d : CfD) (sa : Option Addr) (sc : Nat) (st : List Int) (w : World) (hd : CfAt w d) (hrg : ∀ r ∈ d.alts, ∀ a ∈ r.ds, ∀ x ∈ a.l, -9223372036854775808 ≤ x ∧ x ≤ 9223372036854775807) (hst : Ints w sa sc st) :
 Calls Try.prog 54 #[d.v, .slice sa st.length sc] w (GroQ w (gwGrow d st)) := by
 obtain ⟨Q, hQ⟩ : ∃ Q : Ending → World → Prop, Hid (GroQ w (gwGrow d st) = Q) := ⟨_, Lib.hid rfl⟩
 rw [hQ.out]
 have HQB : Hid (∀ W (s : Nat) x, gwGrow d st = .bad s x → x ≠ 0 → Below w.heap.size w W → Q (.returned (.tuple #[treV ⟨0, 0, 0⟩ none 0 0, .int .i64 (s : Int), .int .i64 x])) W) := Lib.hid (fun W s x h1 h2 h3 => by rw [← hQ.out, h1]; exact ⟨h3, h2, rfl⟩)
 have HQO : Hid (∀ W (t : Tre) (s a q : Nat) ga gc, gwGrow d st = .ok t s a q → Below w.heap.size w W → TrS W (fun g => w.heap.size ≤ g) ga gc t.l → Q (.returned (.tuple #[treV ⟨t.k, t.i, t.a⟩ ga t.l.len gc, .int .i64 0, .int .i64 0])) W) := Lib.hid (fun W t s a q ga gc h1 h2 h3 => by rw [← hQ.out, h1]; exact ⟨h2, ga, gc, rfl, h3⟩)
 clear hQ
 have hsm : st.length ≤ sc ∧ sc ≤ 9223372036854775807 := ⟨by have := hst.le; rwa [List.length_map] at this, hst.max⟩
 have hb1 : Below w.heap.size w (((w.alloc (.cells #[.slice d.ta d.toks.length d.tc, .slice d.na d.names.length d.nc, .slice d.aa d.alts.length d.ac] 25)).alloc (.cells #[.int .i64 0, .int .i64 0, .int .i64 0, .slice none 0 0] 51)).alloc (.cells #[.slice d.ta d.toks.length d.tc, .slice d.na d.names.length d.nc, .slice d.aa d.alts.length d.ac, .slice sa st.length sc, .int .i64 0, .int .i64 0, .int .i64 0] 119)) := (((Below.refl _ w).alloc (Nat.le_refl _) _).alloc (by simp) _).alloc (by simp; omega) _
 have hA1 := Blk.new w 25 #[.slice d.ta d.toks.length d.tc, .slice d.na d.names.length d.nc, .slice d.aa d.alts.length d.ac]
 have hN1 := (Blk.new (w.alloc (.cells #[.slice d.ta d.toks.length d.tc, .slice d.na d.names.length d.nc, .slice d.aa d.alts.length d.ac] 25)) 51 #[.int .i64 0, .int .i64 0, .int .i64 0, .slice none 0 0]).alloc (.cells #[.slice d.ta d.toks.length d.tc, .slice d.na d.names.length d.nc, .slice d.aa d.alts.length d.ac, .slice sa st.length sc, .int .i64 0, .int .i64 0, .int .i64 0] 119)
 have hG1 := Blk.new ((w.alloc (.cells #[.slice d.ta d.toks.length d.tc, .slice d.na d.names.length d.nc, .slice d.aa d.alts.length d.ac] 25)).alloc (.cells #[.int .i64 0, .int .i64 0, .int .i64 0, .slice none 0 0] 51)) 119 #[.slice d.ta d.toks.length d.tc, .slice d.na d.names.length d.nc, .slice d.aa d.alts.length d.ac, .slice sa st.length sc, .int .i64 0, .int .i64 0, .int .i64 0]
 have hs1 : ((w.alloc (.cells #[.slice d.ta d.toks.length d.tc, .slice d.na d.names.length d.nc, .slice d.aa d.alts.length d.ac] 25)).alloc (.cells #[.int .i64 0, .int .i64 0, .int .i64 0, .slice none 0 0] 51)).heap.size = w.heap.size + 1 + 1 := by rw [World.size_alloc, World.size_alloc]
 rw [hs1] at hG1
 rw [World.size_alloc] at hN1
 have Hp := Lib.hid (tput_any w d hd hrg sa sc st hst (w.heap.size + 1 + 1) (by omega) 20000 (-1) 0 0 20000 0 (((w.alloc (.cells #[.slice d.ta d.toks.length d.tc, .slice d.na d.names.length d.nc, .slice d.aa d.alts.length d.ac] 25)).alloc (.cells #[.int .i64 0, .int .i64 0, .int .i64 0, .slice none 0 0] 51)).alloc (.cells #[.slice d.ta d.toks.length d.tc, .slice d.na d.names.length d.nc, .slice d.aa d.alts.length d.ac, .slice sa st.length sc, .int .i64 0, .int .i64 0, .int .i64 0] 119)) (by omega) (by omega) (by omega) (by omega) (by omega) (Nat.zero_le _) (by omega) hb1 hG1)
 have x0 := hA1.cell 0
 have x1 := hA1.cell 1
 have x2 := hA1.cell 2
 have xl := hA1.lt
 simp only [List.getElem?_cons_zero, List.getElem?_cons_succ] at x0 x1 x2
 have HN1 := Lib.hid hN1
 have HG1 := Lib.hid hG1
 have Hb1 := Lib.hid hb1
 clear hA1 hN1 hG1 hb1 hs1 hd hrg hst
 go_enter Try.func54, Try.ntmps54
 go_wp2_with (fail)
 obtain ⟨b4, hb4⟩ : ∃ q, Hid (w.heap.size + 1 = q) := ⟨_, Lib.hid rfl⟩
 obtain ⟨gp, hgp⟩ : ∃ q, Hid (w.heap.size + 1 + 1 = q) := ⟨_, Lib.hid rfl⟩
 have hgb : b4 ≠ gp := by have := hb4.out; have := hgp.out; omega
 rw [hgp.out] at HG1 Hp ⊢
 rw [hb4.out] at HN1 ⊢
 generalize hV : World.alloc (World.alloc (World.alloc w _) _) _ = V at HN1 HG1 Hb1 Hp ⊢
 clear hV x0 x1 x2 xl
 refine Hp.out.mono ?_
 intro e4 W4 hQ4
 unfold GutQ at hQ4
 obtain ⟨hg4, hQ4⟩ := hQ4
 have HN4 := Lib.hid (HN1.out.kept hg4 (by intro e; injection e with e; omega))
 have Hb4 := Lib.hid (Hb1.out.grown hg4 Hb1.out.size (fun i e => by injection e with e; have := hgp.out; omega))
 have HVs : Hid (w.heap.size ≤ V.heap.size) := Lib.hid Hb1.out.size
 have hb4V : b4 < V.heap.size := HN1.out.lt
 clear hg4 HN1 HG1 Hb1 Hp
 cases hR : gwPut d st 20000 (-1) 0 0 20000 with
 | bad s x =>
  rw [hR] at hQ4
  obtain ⟨hx, rfl, tk, nd, hB4⟩ := hQ4
  have HRB : Hid (gwGrow d st = .bad s x) := Lib.hid (by unfold gwGrow; rw [hR]; rfl)
  have HXN := Lib.hid hx
  have hx0 : (x == 0) = false := by rw [beq_eq_false_iff_ne]; exact hx
  have hx1 : (x != 0) = true := by simp [hx]
  have HB4 := Lib.hid hB4
  clear hB4 hx hR
  have HN4a := HN4.out.alloc (.cells #[.int .i64 0, .int .i64 0, .int .i64 0, .slice none 0 0] 51)
  have HB4a := HB4.out.alloc (.cells #[.int .i64 0, .int .i64 0, .int .i64 0, .slice none 0 0] 51)
  have Hb4a := Hb4.out.alloc Hb4.out.size (.cells #[.int .i64 0, .int .i64 0, .int .i64 0, .slice none 0 0] 51)
  go_wp2_with (fail)
  generalize hV8 : World.alloc W4 _ = W4a at HN4a HB4a Hb4a ⊢
  have hd9 := (Below.refl W4a.heap.size W4a).drew
  have HN5 := Lib.hid (HN4a.below hd9 HN4a.lt)
  have HB5 := Lib.hid (HB4a.below hd9 HB4a.lt)
  have Hb5 := Lib.hid (Hb4a.trans (hd9.mono Hb4a.size))
  have HS5 : Hid ((W4a.drew).cell? ⟨gp, 4, none⟩ = some (.int .i64 (s : Int))) := Lib.hid (HB5.out.cell 4)
  have hgl := HB5.out.lt
  clear hd9 hV8 HN4a HB4a Hb4a
  refine wp_region_held_drew (S := fun w' => w'.cell? ⟨gp, 4, none⟩ = some (.int .i64 (s : Int))) (by kernel_rfl) ?_ (fun hHeld => ?_)
  ·exact HS5.out
  generalize World.drew W4a = W5 at HS5 HN5 HB5 Hb5 hgl hHeld ⊢
  refine wpAnyH_take (i := 0) (v := ?_) (iatLS iatZS) (by kernel_rfl) (by kernel_rfl) (by kernel_rfl) (fun _ _ _ h => h) (Or.inl ⟨by rfl, ?_⟩) (by assumption) ?_
  rotate_left
  ·intro w hSw
   try dsimp only at hSw
   go_simp
   all_goals with_reducible rfl
  try simp only [Act.put, List.setIfInBounds_toArray, List.set_cons_zero, List.set_cons_succ]
  refine wpAnyH_take (i := 1) (v := ?_) (iatLS (iatSS iatZS)) (by kernel_rfl) (by kernel_rfl) (by kernel_rfl) (fun _ _ _ h => h) (Or.inl ⟨by rfl, ?_⟩) (by assumption) ?_
  rotate_left
  ·intro w hSw
   try dsimp only at hSw
   go_simp
   all_goals with_reducible rfl
  try simp only [Act.put, List.setIfInBounds_toArray, List.set_cons_zero, List.set_cons_succ]
  refine wpAnyH_take (i := 2) (v := ?_) (iatLS (iatSS (iatSS iatZS))) (by kernel_rfl) (by kernel_rfl) (by kernel_rfl) (fun _ _ _ h => h) (Or.inl ⟨by rfl, ?_⟩) (by assumption) ?_
  rotate_left
  ·intro w hSw
   try dsimp only at hSw
   go_simp
   all_goals with_reducible rfl
  try simp only [Act.put, List.setIfInBounds_toArray, List.set_cons_zero, List.set_cons_succ]
  refine wpAnyH_take (i := 3) (v := ?_) (iatLS (iatSS (iatSS (iatSS iatZS)))) (by kernel_rfl) (by kernel_rfl) (by kernel_rfl) (fun _ _ _ h => h) (Or.inl ⟨by rfl, ?_⟩) (by assumption) ?_
  rotate_left
  ·intro w hSw
   try dsimp only at hSw
   go_simp
   all_goals with_reducible rfl
  try simp only [Act.put, List.setIfInBounds_toArray, List.set_cons_zero, List.set_cons_succ]
  refine wpAnyH_ready (rs := [4]) (by kernel_rfl) (by simp) ?_
  refine AllReadyH.cons (iatLS (iatSS (iatSS (iatSS (iatSS iatZS))))) (fun K hK => ?_) AllReadyH.nil
  have n0 := HN5.out.cell 0
  have n1 := HN5.out.cell 1
  have n2 := HN5.out.cell 2
  have n3 := HN5.out.cell 3
  have nf0 := HN5.out.frozen 0
  have nf1 := HN5.out.frozen 1
  have nf2 := HN5.out.frozen 2
  have nf3 := HN5.out.frozen 3
  have nl := HN5.out.lt
  simp only [List.getElem?_cons_zero, List.getElem?_cons_succ] at n0 n1 n2 n3
  go_simp
  have hN6 := blk_put4 HN5.out (.int .i64 0) (.int .i64 0) (.int .i64 0) (.slice none 0 0)
  have hB6 := blk_oth4 HB5.out (b' := b4) (by omega) (.int .i64 0) (.int .i64 0) (.int .i64 0) (.slice none 0 0)
  have hb6 := Below.put4 Hb5.out (nb := b4) (by have := hb4.out; omega) (.int .i64 0) (.int .i64 0) (.int .i64 0) (.slice none 0 0)
  generalize World.setCell _ _ _ = W6 at hN6 hB6 hb6 ⊢
  have HS6 : Hid (W6.cell? ⟨gp, 4, none⟩ = some (.int .i64 (s : Int))) := Lib.hid (hB6.cell 4)
  clear n0 n1 n2 n3 nf0 nf1 nf2 nf3 nl
  refine hK.out _ _ ?_ (fun hHeld => ?_)
  ·exact HS6.out
  clear hK K
  try simp only [Act.put, List.setIfInBounds_toArray, List.set_cons_zero, List.set_cons_succ]
  refine wpAnyH_take (i := 5) (v := ?_) (iatLS (iatSS (iatSS (iatSS (iatSS (iatSS iatZS)))))) (by kernel_rfl) (by kernel_rfl) (by kernel_rfl) (fun _ _ _ h => h) (Or.inl ⟨by rfl, ?_⟩) (by assumption) ?_
  rotate_left
  ·intro w hSw
   try dsimp only at hSw
   go_simp
   all_goals with_reducible rfl
  try simp only [Act.put, List.setIfInBounds_toArray, List.set_cons_zero, List.set_cons_succ]
  refine wpAnyH_take (i := 6) (v := ?_) (iatLS (iatSS (iatSS (iatSS (iatSS (iatSS (iatSS iatZS))))))) (by kernel_rfl) (by kernel_rfl) (by kernel_rfl) (fun _ _ _ h => h) (Or.inl ⟨by rfl, ?_⟩) (by assumption) ?_
  rotate_left
  ·intro w hSw
   try dsimp only at hSw
   go_simp
   all_goals with_reducible rfl
  try simp only [Act.put, List.setIfInBounds_toArray, List.set_cons_zero, List.set_cons_succ]
  refine wpAnyH_done (by kernel_rfl) ?_ _
  go_wp2_with (fail)
  have g0 := hN6.cell 0
  have g1 := hN6.cell 1
  have g2 := hN6.cell 2
  have g3 := hN6.cell 3
  simp only [List.getElem?_cons_zero, List.getElem?_cons_succ] at g0 g1 g2 g3
  have HF := HQB.out W6 s x HRB.out HXN.out hb6
  exact bodyPost_ret (v := .tuple #[.agg #[.int .i64 0, .int .i64 0, .int .i64 0, .slice none 0 0], .int .i64 (s : Int), .int .i64 x]) (by simp [results, Try.results54, go_sem, g0, g1, g2, g3]) rfl HF
 | ok t s a q =>
  rw [hR] at hQ4
  obtain ⟨ga, gc, rfl, hT4, hB4⟩ := hQ4
  obtain ⟨tk, ti, tA, tl⟩ := t
  dsimp only at hT4 ⊢
  have HB4 := Lib.hid hB4
  have HT4 := Lib.hid hT4
  obtain ⟨tn, htn⟩ : ∃ q, Hid (tl.len = q) := ⟨_, Lib.hid rfl⟩
  rw [htn.out]
  have y4 := HB4.out.cell 4
  have yl := HB4.out.lt
  simp only [List.getElem?_cons_zero, List.getElem?_cons_succ] at y4
  clear hB4 hT4
  by_cases hs : s < st.length
  ·have HRB : Hid (gwGrow d st = .bad s 110) := Lib.hid (by unfold gwGrow; rw [hR]; show (if s < st.length then GwR.bad s 110 else _) = _; rw [if_pos hs])
   have hsI : (s : Int) < (st.length : Int) := by omega
   clear hR
   have HN4a := HN4.out.alloc (.cells #[.int .i64 tk, .int .i64 ti, .int .i64 tA, .slice ga tn gc] 51)
   have HB4a := HB4.out.alloc (.cells #[.int .i64 tk, .int .i64 ti, .int .i64 tA, .slice ga tn gc] 51)
   have Hb4a := Hb4.out.alloc Hb4.out.size (.cells #[.int .i64 tk, .int .i64 ti, .int .i64 tA, .slice ga tn gc] 51)
   go_wp2_with (fail)
   generalize hV8 : World.alloc W4 _ = W4a at HN4a HB4a Hb4a ⊢
   have hd9 := (Below.refl W4a.heap.size W4a).drew
   have HN5 := Lib.hid (HN4a.below hd9 HN4a.lt)
   have HB5 := Lib.hid (HB4a.below hd9 HB4a.lt)
   have Hb5 := Lib.hid (Hb4a.trans (hd9.mono Hb4a.size))
   have HS5 : Hid ((W4a.drew).cell? ⟨gp, 4, none⟩ = some (.int .i64 (s : Int))) := Lib.hid (HB5.out.cell 4)
   have hgl := HB5.out.lt
   clear hd9 hV8 HN4a HB4a Hb4a
   refine wp_region_held_drew (S := fun w' => w'.cell? ⟨gp, 4, none⟩ = some (.int .i64 (s : Int))) (by kernel_rfl) ?_ (fun hHeld => ?_)
   ·exact HS5.out
   generalize World.drew W4a = W5 at HS5 HN5 HB5 Hb5 hgl hHeld ⊢
   refine wpAnyH_take (i := 0) (v := ?_) (iatLS iatZS) (by kernel_rfl) (by kernel_rfl) (by kernel_rfl) (fun _ _ _ h => h) (Or.inl ⟨by rfl, ?_⟩) (by assumption) ?_
   rotate_left
   ·intro w hSw
    try dsimp only at hSw
    go_simp
    all_goals with_reducible rfl
   try simp only [Act.put, List.setIfInBounds_toArray, List.set_cons_zero, List.set_cons_succ]
   refine wpAnyH_take (i := 1) (v := ?_) (iatLS (iatSS iatZS)) (by kernel_rfl) (by kernel_rfl) (by kernel_rfl) (fun _ _ _ h => h) (Or.inl ⟨by rfl, ?_⟩) (by assumption) ?_
   rotate_left
   ·intro w hSw
    try dsimp only at hSw
    go_simp
    all_goals with_reducible rfl
   try simp only [Act.put, List.setIfInBounds_toArray, List.set_cons_zero, List.set_cons_succ]
   refine wpAnyH_take (i := 2) (v := ?_) (iatLS (iatSS (iatSS iatZS))) (by kernel_rfl) (by kernel_rfl) (by kernel_rfl) (fun _ _ _ h => h) (Or.inl ⟨by rfl, ?_⟩) (by assumption) ?_
   rotate_left
   ·intro w hSw
    try dsimp only at hSw
    go_simp
    all_goals with_reducible rfl
   try simp only [Act.put, List.setIfInBounds_toArray, List.set_cons_zero, List.set_cons_succ]
   refine wpAnyH_take (i := 3) (v := ?_) (iatLS (iatSS (iatSS (iatSS iatZS)))) (by kernel_rfl) (by kernel_rfl) (by kernel_rfl) (fun _ _ _ h => h) (Or.inl ⟨by rfl, ?_⟩) (by assumption) ?_
   rotate_left
   ·intro w hSw
    try dsimp only at hSw
    go_simp
    all_goals with_reducible rfl
   try simp only [Act.put, List.setIfInBounds_toArray, List.set_cons_zero, List.set_cons_succ]
   refine wpAnyH_ready (rs := [4]) (by kernel_rfl) (by simp) ?_
   refine AllReadyH.cons (iatLS (iatSS (iatSS (iatSS (iatSS iatZS))))) (fun K hK => ?_) AllReadyH.nil
   have n0 := HN5.out.cell 0
   have n1 := HN5.out.cell 1
   have n2 := HN5.out.cell 2
   have n3 := HN5.out.cell 3
   have nf0 := HN5.out.frozen 0
   have nf1 := HN5.out.frozen 1
   have nf2 := HN5.out.frozen 2
   have nf3 := HN5.out.frozen 3
   have nl := HN5.out.lt
   simp only [List.getElem?_cons_zero, List.getElem?_cons_succ] at n0 n1 n2 n3
   go_simp
   have hN6 := blk_put4 HN5.out (.int .i64 0) (.int .i64 0) (.int .i64 0) (.slice none 0 0)
   have hB6 := blk_oth4 HB5.out (b' := b4) (by omega) (.int .i64 0) (.int .i64 0) (.int .i64 0) (.slice none 0 0)
   have hb6 := Below.put4 Hb5.out (nb := b4) (by have := hb4.out; omega) (.int .i64 0) (.int .i64 0) (.int .i64 0) (.slice none 0 0)
   generalize World.setCell _ _ _ = W6 at hN6 hB6 hb6 ⊢
   have HS6 : Hid (W6.cell? ⟨gp, 4, none⟩ = some (.int .i64 (s : Int))) := Lib.hid (hB6.cell 4)
   clear n0 n1 n2 n3 nf0 nf1 nf2 nf3 nl
   refine hK.out _ _ ?_ (fun hHeld => ?_)
   ·exact HS6.out
   clear hK K
   try simp only [Act.put, List.setIfInBounds_toArray, List.set_cons_zero, List.set_cons_succ]
   refine wpAnyH_take (i := 5) (v := ?_) (iatLS (iatSS (iatSS (iatSS (iatSS (iatSS iatZS)))))) (by kernel_rfl) (by kernel_rfl) (by kernel_rfl) (fun _ _ _ h => h) (Or.inl ⟨by rfl, ?_⟩) (by assumption) ?_
   rotate_left
   ·intro w hSw
    try dsimp only at hSw
    go_simp
    all_goals with_reducible rfl
   try simp only [Act.put, List.setIfInBounds_toArray, List.set_cons_zero, List.set_cons_succ]
   refine wpAnyH_take (i := 6) (v := ?_) (iatLS (iatSS (iatSS (iatSS (iatSS (iatSS (iatSS iatZS))))))) (by kernel_rfl) (by kernel_rfl) (by kernel_rfl) (fun _ _ _ h => h) (Or.inl ⟨by rfl, ?_⟩) (by assumption) ?_
   rotate_left
   ·intro w hSw
    try dsimp only at hSw
    go_simp
    all_goals with_reducible rfl
   try simp only [Act.put, List.setIfInBounds_toArray, List.set_cons_zero, List.set_cons_succ]
   refine wpAnyH_done (by kernel_rfl) ?_ _
   go_wp2_with (fail)
   have g0 := hN6.cell 0
   have g1 := hN6.cell 1
   have g2 := hN6.cell 2
   have g3 := hN6.cell 3
   simp only [List.getElem?_cons_zero, List.getElem?_cons_succ] at g0 g1 g2 g3
   have HF := HQB.out W6 s 110 HRB.out (by omega) hb6
   exact bodyPost_ret (v := .tuple #[.agg #[.int .i64 0, .int .i64 0, .int .i64 0, .slice none 0 0], .int .i64 (s : Int), .int .i64 110]) (by simp [results, Try.results54, go_sem, g0, g1, g2, g3]) rfl HF
  ·have HRK : Hid (gwGrow d st = .ok ⟨tk, ti, tA, tl⟩ s a q) := Lib.hid (by unfold gwGrow; rw [hR]; show (if s < st.length then GwR.bad s 110 else _) = _; rw [if_neg hs])
   have hsI : ¬ (s : Int) < (st.length : Int) := by omega
   have hsI2 : (st.length : Int) ≤ (s : Int) := by omega
   clear hR
   have n0 := HN4.out.cell 0
   have n1 := HN4.out.cell 1
   have n2 := HN4.out.cell 2
   have n3 := HN4.out.cell 3
   have nf0 := HN4.out.frozen 0
   have nf1 := HN4.out.frozen 1
   have nf2 := HN4.out.frozen 2
   have nf3 := HN4.out.frozen 3
   have nl := HN4.out.lt
   simp only [List.getElem?_cons_zero, List.getElem?_cons_succ] at n0 n1 n2 n3
   go_wp2_with (fail)
   have hN9 := blk_put4 HN4.out (.int .i64 tk) (.int .i64 ti) (.int .i64 tA) (.slice ga tn gc)
   have hb9 := Below.put4 Hb4.out (nb := b4) (by have := hb4.out; omega) (.int .i64 tk) (.int .i64 ti) (.int .i64 tA) (.slice ga tn gc)
   have hk9 := keb_set4 (bad := fun b => b = b4) W4 b4 0 rfl (.int .i64 tk) (.int .i64 ti) (.int .i64 tA) (.slice ga tn gc)
   simp only [Nat.zero_add] at hk9
   have hT9 := trs_keb HT4.out hk9 (fun b h e => by have h : V.heap.size ≤ b := h; have e : b = b4 := e; omega)
   generalize World.setCell _ _ _ = WF at hN9 hb9 hT9 ⊢
   have hN9 := hN9.alloc (.cells #[.int .i64 tk, .int .i64 ti, .int .i64 tA, .slice ga tn gc] 51)
   have hT9 := (hT9.grown ((Below.refl WF.heap.size WF).alloc (Nat.le_refl _) (.cells #[.int .i64 tk, .int .i64 ti, .int .i64 tA, .slice ga tn gc] 51))).imp (Q := fun g => w.heap.size ≤ g) (fun g h _ => Nat.le_trans HVs.out h)
   have hb9 := hb9.alloc hb9.size (.cells #[.int .i64 tk, .int .i64 ti, .int .i64 tA, .slice ga tn gc] 51)
   generalize World.alloc WF _ = WF at hN9 hb9 hT9 ⊢
   have g0 := hN9.cell 0
   have g1 := hN9.cell 1
   have g2 := hN9.cell 2
   have g3 := hN9.cell 3
   simp only [List.getElem?_cons_zero, List.getElem?_cons_succ] at g0 g1 g2 g3
   have HF := HQO.out WF ⟨tk, ti, tA, tl⟩ s a q ga gc HRK.out hb9 hT9
   dsimp only at HF
   rw [htn.out] at HF
   exact bodyPost_ret (v := .tuple #[.agg #[.int .i64 tk, .int .i64 ti, .int .i64 tA, .slice ga tn gc], .int .i64 0, .int .i64 0]) (by simp [results, Try.results54, go_sem, g0, g1, g2, g3]) rfl HF
end Go.Proofs.Ythogiakfbgehnaa
namespace Go.Proofs.Ythogiakfbgehnaa
open Go.RowKit Go.Maps
attribute [local go_sem] Oper.semAt_some
end Go.Proofs.Ythogiakfbgehnaa
namespace Go.Proofs.Ythogiakfbgehnaa
open Go.RowKit Go.Maps
attribute [local go_sem] Oper.semAt_some
end Go.Proofs.Ythogiakfbgehnaa
namespace Go.Proofs.Ythogiakfbgehnaa
open Go.RowKit Go.Maps
attribute [local go_sem] Oper.semAt_some
end Go.Proofs.Ythogiakfbgehnaa
namespace Go.Proofs.Ythogiakfbgehnaa
open Go.RowKit Go.Maps
attribute [local go_sem] Oper.semAt_some
theorem ints_new (W : World) (l : List Int) (n : Nat) (hn : l.length = n) (hm : n ≤ maxLen) : Ints (W.alloc (.cells (l.map (Value.int .i64)).toArray 3)) (some ⟨W.heap.size, 0, none⟩) n l := allocs_vs [.cells (l.map (Value.int .i64)).toArray 3] W 0 _ _ rfl n (by rw [List.length_map]; exact hn) hm
end Go.Proofs.Ythogiakfbgehnaa
namespace Go.Proofs.Ythogiakfbgehnaa
open Go.RowKit Go.Maps
attribute [local go_sem] Oper.semAt_some
theorem rput_any (W0 : World) (d : CfD) (ta : Option Addr) (tc : Nat) (tbs : List IltD) (ka : Option Addr) (kc : Nat) (toks : List Int) (hE : PsE W0 d ta tc tbs ka kc toks) (bp : Nat) (hbp : W0.heap.size ≤ bp) : ∀ (m : Nat) (k : Int) (a left : Nat) (w : World), -9223372036854775808 ≤ k → k ≤ 9223372036854775807 → left ≤ m → left ≤ 20000 → a ≤ toks.length → Below W0.heap.size W0 w → Blk w bp 108 [.slice d.ta d.toks.length d.tc, .slice d.na d.names.length d.nc, .slice d.aa d.alts.length d.ac, .slice ta tbs.length tc, .slice ka toks.length kc, .int .i64 (a : Int), .int .i64 (20000 - (left : Int)), .int .i64 0] →
 Calls Try.prog 89 #[.pointer (some ⟨bp, 0, none⟩), .int .i64 k] w (PutQ w bp d ta tc tbs ka kc toks (psPut (gOf d tbs toks) m k a left))
 | 0, k, a, left, w, _, _, hl, hl2, ha, hW, hB => by
  have hl0 : left = 0 := by omega
  subst hl0
  rw [show psPut (gOf d tbs toks) 0 k a 0 = .bad a 2 from rfl]
  exact rput_long W0 d ta tc tbs ka kc toks hE a bp k (20000 - ((0 : Nat) : Int)) w hW hbp (by omega) hB (by omega)
 | m + 1, k, a, left, w, hk0, hk1, hl, hl2, ha, hW, hB => by
  by_cases hl0 : left = 0
  ·subst hl0
   rw [show psPut (gOf d tbs toks) (m + 1) k a 0 = .bad a 2 by unfold psPut; rw [if_pos rfl]]
   exact rput_long W0 d ta tc tbs ka kc toks hE a bp k (20000 - ((0 : Nat) : Int)) w hW hbp (by omega) hB (by omega)
  ·by_cases hk : 0 ≤ k
   ·have h := rput_tok W0 d ta tc tbs ka kc toks hE a bp k (20000 - (left : Int)) w hW hbp (by omega) hB left (by omega) (by omega) hk ha
    rw [show psPut (gOf d tbs toks) (m + 1) k a left = (if toks[a]? = some k then .ok ⟨k, 0, (a : Int), .nil⟩ (a + 1) (left - 1) else .bad a 110) by rw [psPut, if_neg hl0, if_pos hk]; rfl]
    exact h
   ·exact rput_rule W0 d ta tc tbs ka kc toks hE a bp k (20000 - (left : Int)) w hW hbp (by omega) hB m left (by omega) (by omega) hl (by omega) hk0 ha (fun k a left w h1 h2 h3 h4 h5 h6 h7 => rput_any W0 d ta tc tbs ka kc toks hE bp hbp m k a left w h1 h2 h3 h4 h5 h6 h7)
end Go.Proofs.Ythogiakfbgehnaa
namespace Go.Proofs.Ythogiakfbgehnaa
open Go.RowKit Go.Maps
attribute [local go_sem] Oper.semAt_some
set_option maxRecDepth 100000 in
set_option maxHeartbeats 16000000 in
theorem rparse_any11 (d : CfD) (ta : Option Addr) (tc : Nat) (tbs : List IltD) (ka : Option Addr) (kc : Nat) (toks : List Int) (w : World) (hE : PrF w d ta tc tbs ka kc toks) :
 Calls Try.prog 42 #[d.v, .slice ta tbs.length tc, .slice ka toks.length kc] w (TreQ w (psParse (gOf d tbs toks))) := by
 obtain ⟨Q, hQ⟩ : ∃ Q : Ending → World → Prop, Hid (TreQ w (psParse (gOf d tbs toks)) = Q) := ⟨_, Lib.hid rfl⟩
 rw [hQ.out]
 have HQB : Hid (∀ (b : Nat) x, psParse (gOf d tbs toks) = .bad b x → ∀ W, Below w.heap.size w W → Q (.returned (.tuple #[treV ⟨0, 0, 0⟩ none 0 0, .int .i64 (b : Int), .int .i64 x])) W) := Lib.hid (fun b x h W hb => by rw [← hQ.out, h]; exact ⟨hb, rfl⟩)
 have HQO : Hid (∀ (t : Tre) a n, psParse (gOf d tbs toks) = .ok t a n → ∀ W ga gc, Below w.heap.size w W → TrS W (fun b => w.heap.size ≤ b) ga gc t.l → Q (.returned (.tuple #[treV ⟨t.k, t.i, t.a⟩ ga t.l.len gc, .int .i64 0, .int .i64 0])) W) := Lib.hid (fun t a n h W ga gc hb ht => by rw [← hQ.out, h]; exact ⟨hb, ga, gc, rfl, ht⟩)
 clear hQ
 have hA1 := (Blk.new w 25 #[.slice d.ta d.toks.length d.tc, .slice d.na d.names.length d.nc, .slice d.aa d.alts.length d.ac]).alloc (.cells #[.int .i64 0, .int .i64 0, .int .i64 0, .slice none 0 0] 51)
 have hN1 := Blk.new (w.alloc (.cells #[.slice d.ta d.toks.length d.tc, .slice d.na d.names.length d.nc, .slice d.aa d.alts.length d.ac] 25)) 51 #[.int .i64 0, .int .i64 0, .int .i64 0, .slice none 0 0]
 have hb1 : Below w.heap.size w ((w.alloc (.cells #[.slice d.ta d.toks.length d.tc, .slice d.na d.names.length d.nc, .slice d.aa d.alts.length d.ac] 25)).alloc (.cells #[.int .i64 0, .int .i64 0, .int .i64 0, .slice none 0 0] 51)) := ((Below.refl _ w).alloc (Nat.le_refl _) _).alloc (by simp) _
 simp only [World.size_alloc] at hN1
 have hkm : toks.length ≤ kc ∧ kc ≤ 9223372036854775807 := ⟨by have := hE.gk.le; rw [List.length_map] at this; exact this, hE.gk.max⟩
 have HA1 := Lib.hid hA1
 have HN1 := Lib.hid hN1
 have Hb1 := Lib.hid hb1
 have HE := Lib.hid hE
 clear hA1 hN1 hb1 hE
 obtain ⟨R, hR⟩ : ∃ R, Hid (firstB d.toks.length toks = R) := ⟨_, Lib.hid rfl⟩
 have HTs : Hid (∀ i, R = some i → psParse (gOf d tbs toks) = .bad i 1) := Lib.hid (fun i h => by rw [← hR.out] at h; unfold psParse; show (match firstB d.toks.length toks with | some i => PsR.bad i 1 | none => _) = _; rw [h])
 have HTn : Hid (R = none → psParse (gOf d tbs toks) = psTree (gOf d tbs toks)) := Lib.hid (fun h => by rw [← hR.out] at h; unfold psParse; show (match firstB d.toks.length toks with | some i => PsR.bad i 1 | none => _) = _; rw [h])
 go_enter Try.func42, Try.ntmps42
 go_wp2_with (fail)
 generalize World.alloc _ _ = W1 at HA1 HN1 Hb1 ⊢
 go_loopw [9, 10, 15] (fun _ _ iv wr => ∃ k : Nat, k ≤ toks.length ∧ iv = .int .i64 (k : Int) ∧ Hid (R = (firstB d.toks.length (toks.drop k)).map (fun i => i + k)) ∧ Below W1.heap.size W1 wr) (fun _ _ iv _ => toks.length - (RowKit.intOf iv).toNat)
 case atStart => exact ⟨0, Nat.zero_le _, rfl, Lib.hid (by rw [← hR.out, List.drop_zero]; simp), Below.refl _ _⟩
 case round =>
  obtain ⟨k, hk, rfl, HR, hbr⟩ := hrel
  obtain ⟨U, rfl⟩ : ∃ U, U = wr := ⟨_, rfl⟩
  have HA := Lib.hid (HA1.out.below hbr HA1.out.lt)
  have HN := Lib.hid (HN1.out.below hbr HN1.out.lt)
  have Hb := Lib.hid (Hb1.out.trans (hbr.mono Hb1.out.size))
  have x0 := HA.out.cell 0
  have x1 := HA.out.cell 1
  have x2 := HA.out.cell 2
  have xl := HA.out.lt
  simp only [List.getElem?_cons_zero, List.getElem?_cons_succ] at x0 x1 x2
  by_cases hlt : k < toks.length
  ·have hkI : (k : Int) < (toks.length : Int) := by omega
   have hkI0 : (0 : Int) ≤ (k : Int) := by omega
   obtain ⟨b, off, hb⟩ := HE.out.gk.at_ k (by rw [List.length_map]; exact hlt)
   have c0 := (HE.out.gk.grown Hb.out).cell b off hb k (by rw [List.length_map]; exact hlt)
   rw [List.getElem_map] at c0
   have Hst := Lib.hid (firstB_step (T := d.toks.length) hlt (by rw [hR.out]; exact HR.out))
   obtain ⟨x, hx⟩ : ∃ v, Hid (toks[k]'hlt = v) := ⟨_, Lib.hid rfl⟩
   rw [hx.out] at c0 Hst
   have hbl := World.block_lt_of_cell? _ _ c0
   subst hb
   have n0 := HN.out.cell 0
   have n1 := HN.out.cell 1
   have n2 := HN.out.cell 2
   have n3 := HN.out.cell 3
   have nf0 := HN.out.frozen 0
   have nf1 := HN.out.frozen 1
   have nf2 := HN.out.frozen 2
   have nf3 := HN.out.frozen 3
   have nl := HN.out.lt
   simp only [List.getElem?_cons_zero, List.getElem?_cons_succ] at n0 n1 n2 n3
   by_cases h1 : x < 0
   ·have HT : Hid (psParse (gOf d tbs toks) = .bad k 1) := Lib.hid (HTs.out k (by rw [← hR.out]; exact Hst.out.1 (decide_eq_true (.inl h1))))
    go_wp2_with (fail)
    have hN9 := blk_put4 HN.out (.int .i64 0) (.int .i64 0) (.int .i64 0) (.slice none 0 0)
    have hb9 : Below w.heap.size w ((((U.setCell ⟨w.heap.size + 1, 0, none⟩ (.int .i64 0)).setCell ⟨w.heap.size + 1, 1, none⟩ (.int .i64 0)).setCell ⟨w.heap.size + 1, 2, none⟩ (.int .i64 0)).setCell ⟨w.heap.size + 1, 3, none⟩ (.slice none 0 0)) := (((Hb.out.setCell (p := ⟨w.heap.size + 1, 0, none⟩) (by dsimp only; omega) (.int .i64 0)).setCell (p := ⟨w.heap.size + 1, 1, none⟩) (by dsimp only; omega) (.int .i64 0)).setCell (p := ⟨w.heap.size + 1, 2, none⟩) (by dsimp only; omega) (.int .i64 0)).setCell (p := ⟨w.heap.size + 1, 3, none⟩) (by dsimp only; omega) (.slice none 0 0)
    generalize World.setCell _ _ _ = WF at hN9 hb9 ⊢
    have g0 := hN9.cell 0
    have g1 := hN9.cell 1
    have g2 := hN9.cell 2
    have g3 := hN9.cell 3
    simp only [List.getElem?_cons_zero, List.getElem?_cons_succ] at g0 g1 g2 g3
    have HF := HQB.out k 1 HT.out WF hb9
    exact bodyPost_ret (v := .tuple #[.agg #[.int .i64 0, .int .i64 0, .int .i64 0, .slice none 0 0], .int .i64 (k : Int), .int .i64 1]) (by simp [results, Try.results42, go_sem, g0, g1, g2, g3]) rfl HF
   ·by_cases h2 : (d.toks.length : Int) ≤ x
    ·have HT : Hid (psParse (gOf d tbs toks) = .bad k 1) := Lib.hid (HTs.out k (by rw [← hR.out]; exact Hst.out.1 (decide_eq_true (.inr h2))))
     go_wp2_with (fail)
     have hN9 := blk_put4 HN.out (.int .i64 0) (.int .i64 0) (.int .i64 0) (.slice none 0 0)
     have hb9 : Below w.heap.size w ((((U.setCell ⟨w.heap.size + 1, 0, none⟩ (.int .i64 0)).setCell ⟨w.heap.size + 1, 1, none⟩ (.int .i64 0)).setCell ⟨w.heap.size + 1, 2, none⟩ (.int .i64 0)).setCell ⟨w.heap.size + 1, 3, none⟩ (.slice none 0 0)) := (((Hb.out.setCell (p := ⟨w.heap.size + 1, 0, none⟩) (by dsimp only; omega) (.int .i64 0)).setCell (p := ⟨w.heap.size + 1, 1, none⟩) (by dsimp only; omega) (.int .i64 0)).setCell (p := ⟨w.heap.size + 1, 2, none⟩) (by dsimp only; omega) (.int .i64 0)).setCell (p := ⟨w.heap.size + 1, 3, none⟩) (by dsimp only; omega) (.slice none 0 0)
     generalize World.setCell _ _ _ = WF at hN9 hb9 ⊢
     have g0 := hN9.cell 0
     have g1 := hN9.cell 1
     have g2 := hN9.cell 2
     have g3 := hN9.cell 3
     simp only [List.getElem?_cons_zero, List.getElem?_cons_succ] at g0 g1 g2 g3
     have HF := HQB.out k 1 HT.out WF hb9
     exact bodyPost_ret (v := .tuple #[.agg #[.int .i64 0, .int .i64 0, .int .i64 0, .slice none 0 0], .int .i64 (k : Int), .int .i64 1]) (by simp [results, Try.results42, go_sem, g0, g1, g2, g3]) rfl HF
    ·have Hn := Lib.hid (Hst.out.2 (decide_eq_false (fun e => by rcases e with e | e; exact h1 e; exact h2 e)))
     go_wp2_with (fail)
     exact ⟨⟨k + 1, by omega, by go_num, Lib.hid (by rw [← hR.out]; exact Hn.out), hbr⟩, by simp [RowKit.intOf]; omega⟩
  ·have hkI : ¬ (k : Int) < (toks.length : Int) := by omega
   have HRN : Hid (R = none) := Lib.hid (by rw [HR.out, List.drop_eq_nil_of_le (by omega)]; rfl)
   have HT := Lib.hid (HTn.out HRN.out)
   have hfb := HRN.out
   rw [← hR.out] at hfb
   have hEU : PsE U d ta tc tbs ka kc toks := (HE.out.pre hfb).ge.grown Hb.out
   have hbp : Below U.heap.size U (U.alloc (.cells #[.slice d.ta d.toks.length d.tc, .slice d.na d.names.length d.nc, .slice d.aa d.alts.length d.ac, .slice ta tbs.length tc, .slice ka toks.length kc, .int .i64 0, .int .i64 0, .int .i64 0] 108)) := (Below.refl _ U).alloc (Nat.le_refl _) _
   have Hput := Lib.hid (rput_any U d ta tc tbs ka kc toks hEU U.heap.size (Nat.le_refl _) 20000 (-1) 0 20000 _ (by omega) (by omega) (by omega) (by omega) (Nat.zero_le _) hbp (Blk.new U 108 #[.slice d.ta d.toks.length d.tc, .slice d.na d.names.length d.nc, .slice d.aa d.alts.length d.ac, .slice ta tbs.length tc, .slice ka toks.length kc, .int .i64 0, .int .i64 0, .int .i64 0]))
   have Hbp := Lib.hid hbp
   clear hfb hEU hbp
   go_wp2_with (fail)
   refine Hput.out.mono ?_
   intro e4 w4 h4
   obtain ⟨hg4, h4⟩ := h4
   have hk4 : KeB (fun b => b = U.heap.size) (U.alloc (.cells #[.slice d.ta d.toks.length d.tc, .slice d.na d.names.length d.nc, .slice d.aa d.alts.length d.ac, .slice ta tbs.length tc, .slice ka toks.length kc, .int .i64 0, .int .i64 0, .int .i64 0] 108)) w4 := KeB.gr hg4 (fun i e => (Option.some.inj e).symm)
   have hbU : Below U.heap.size U w4 := Hbp.out.trans (hk4.below (by rw [World.size_alloc]; omega) (fun b e => by rw [e]; exact Nat.le_refl _))
   have HN4 := Lib.hid (HN.out.below hbU HN.out.lt)
   have Hb4 := Lib.hid (Hb.out.trans (hbU.mono Hb.out.size))
   have HNU := Lib.hid HN.out.lt
   have hU4 : U.heap.size < w4.heap.size := by have := hk4.size; rw [World.size_alloc] at this; omega
   clear hg4 hk4 hbU Hput Hbp x0 x1 x2 xl
   cases hr : psPut (gOf d tbs toks) 20000 (-1) 0 20000 with
   | bad b x =>
    rw [hr] at h4
    obtain ⟨hx0, rfl, m4, hB4⟩ := h4
    have HTB : Hid (psParse (gOf d tbs toks) = .bad b x) := Lib.hid (by rw [HT.out]; unfold psTree; rw [hr]; rfl)
    have HB4 := Lib.hid hB4
    have hxb : (x == 0) = false := by simp [hx0]
    have hxc : (x != 0) = true := by simp [hx0]
    clear hr hB4 hx0
    have HN5 := Lib.hid (HN4.out.alloc (.cells #[.int .i64 0, .int .i64 0, .int .i64 0, .slice none 0 0] 51))
    have HB5 := Lib.hid (HB4.out.alloc (.cells #[.int .i64 0, .int .i64 0, .int .i64 0, .slice none 0 0] 51))
    have Hb5 := Lib.hid (Hb4.out.alloc Hb4.out.size (.cells #[.int .i64 0, .int .i64 0, .int .i64 0, .slice none 0 0] 51))
    have y5 := HB4.out.cell 5
    have y7 := HB4.out.cell 7
    have yl := HB4.out.lt
    simp only [List.getElem?_cons_zero, List.getElem?_cons_succ] at y5 y7
    go_wp2_with (fail)
    clear yl y5 y7
    generalize World.alloc _ _ = W5 at HN5 HB5 Hb5 ⊢
    have y5 := HB5.out.cell 5
    have y7 := HB5.out.cell 7
    have yl := HB5.out.lt
    simp only [List.getElem?_cons_zero, List.getElem?_cons_succ] at y5 y7
    have n0 := HN5.out.cell 0
    have n1 := HN5.out.cell 1
    have n2 := HN5.out.cell 2
    have n3 := HN5.out.cell 3
    have nf0 := HN5.out.frozen 0
    have nf1 := HN5.out.frozen 1
    have nf2 := HN5.out.frozen 2
    have nf3 := HN5.out.frozen 3
    have nl := HN5.out.lt
    simp only [List.getElem?_cons_zero, List.getElem?_cons_succ] at n0 n1 n2 n3
    have hneb : ¬ w.heap.size + 1 = U.heap.size := by have := HNU.out; omega
    have hneb2 : ¬ U.heap.size = w.heap.size + 1 := by have := HNU.out; omega
    go_region
    all_goals
     go_wp2_with (fail)
     have hN9 := blk_put4 HN5.out (.int .i64 0) (.int .i64 0) (.int .i64 0) (.slice none 0 0)
     have hb9 : Below w.heap.size w ((((W5.setCell ⟨w.heap.size + 1, 0, none⟩ (.int .i64 0)).setCell ⟨w.heap.size + 1, 1, none⟩ (.int .i64 0)).setCell ⟨w.heap.size + 1, 2, none⟩ (.int .i64 0)).setCell ⟨w.heap.size + 1, 3, none⟩ (.slice none 0 0)) := (((Hb5.out.setCell (p := ⟨w.heap.size + 1, 0, none⟩) (by dsimp only; omega) (.int .i64 0)).setCell (p := ⟨w.heap.size + 1, 1, none⟩) (by dsimp only; omega) (.int .i64 0)).setCell (p := ⟨w.heap.size + 1, 2, none⟩) (by dsimp only; omega) (.int .i64 0)).setCell (p := ⟨w.heap.size + 1, 3, none⟩) (by dsimp only; omega) (.slice none 0 0)
     generalize World.setCell _ _ _ = X at hN9 hb9 ⊢
     have hdr := (Below.refl X.heap.size X).drew
     have hN10 := hN9.below hdr hN9.lt
     have hb10 := hb9.drew
     generalize X.drew = WF at hN10 hb10 ⊢
     have g0 := hN10.cell 0
     have g1 := hN10.cell 1
     have g2 := hN10.cell 2
     have g3 := hN10.cell 3
     simp only [List.getElem?_cons_zero, List.getElem?_cons_succ] at g0 g1 g2 g3
     have HF := HQB.out b x HTB.out WF hb10
     exact bodyPost_ret (v := .tuple #[.agg #[.int .i64 0, .int .i64 0, .int .i64 0, .slice none 0 0], .int .i64 (b : Int), .int .i64 x]) (by simp [results, Try.results42, go_sem, g0, g1, g2, g3]) rfl HF
   | ok t b q =>
    rw [hr] at h4
    obtain ⟨ga, gc, rfl, hT4, hB4⟩ := h4
    obtain ⟨tk, ti, tA, tl⟩ := t
    dsimp only at hT4 hB4 ⊢
    have hbk := put_at (gOf d tbs toks) 20000 (-1) 0 20000 (Nat.zero_le _) hr
    change b ≤ toks.length at hbk
    obtain ⟨tn, htn⟩ : ∃ q, Hid (tl.len = q) := ⟨_, Lib.hid rfl⟩
    rw [htn.out]
    have HR4 := Lib.hid hr
    have HT4 := Lib.hid hT4
    have HB4 := Lib.hid hB4
    have hUs := HNU.out
    clear hr hT4 hB4
    by_cases hlb : b < toks.length
    ·have hlbI : (b : Int) < (toks.length : Int) := by omega
     have HTB : Hid (psParse (gOf d tbs toks) = .bad b 110) := Lib.hid (by rw [HT.out]; unfold psTree; rw [HR4.out]; show (if b < toks.length then _ else _) = _; rw [if_pos hlb])
     have HB5 : Hid (Blk ((w4.setCell ⟨U.heap.size, 7, none⟩ (.int .i64 110)).alloc (.cells #[.int .i64 tk, .int .i64 ti, .int .i64 tA, .slice ga tn gc] 51)) U.heap.size 108 [.slice d.ta d.toks.length d.tc, .slice d.na d.names.length d.nc, .slice d.aa d.alts.length d.ac, .slice ta tbs.length tc, .slice ka toks.length kc, .int .i64 (b : Int), .int .i64 (20000 - (q : Int)), .int .i64 110]) := Lib.hid ((HB4.out.set 7 (.int .i64 110)).alloc _)
     have HN5 := Lib.hid ((HN4.out.setOther (b' := U.heap.size) (j := 7) (by omega) (.int .i64 110)).alloc (.cells #[.int .i64 tk, .int .i64 ti, .int .i64 tA, .slice ga tn gc] 51))
     have hb5s := Hb4.out.setCell (p := ⟨U.heap.size, 7, none⟩) (by dsimp only; omega) (.int .i64 110)
     have Hb5 := Lib.hid (hb5s.alloc hb5s.size (.cells #[.int .i64 tk, .int .i64 ti, .int .i64 tA, .slice ga tn gc] 51))
     clear hb5s
     have y5 := HB4.out.cell 5
     have y7 := HB4.out.cell 7
     have yf7 := HB4.out.frozen 7
     have yl := HB4.out.lt
     simp only [List.getElem?_cons_zero, List.getElem?_cons_succ] at y5 y7
     go_wp2_with (fail)
     clear yl y5 y7 yf7
     generalize World.alloc _ _ = W5 at HN5 HB5 Hb5 ⊢
     have y5 := HB5.out.cell 5
     have y7 := HB5.out.cell 7
     have yl := HB5.out.lt
     simp only [List.getElem?_cons_zero, List.getElem?_cons_succ] at y5 y7
     have n0 := HN5.out.cell 0
     have n1 := HN5.out.cell 1
     have n2 := HN5.out.cell 2
     have n3 := HN5.out.cell 3
     have nf0 := HN5.out.frozen 0
     have nf1 := HN5.out.frozen 1
     have nf2 := HN5.out.frozen 2
     have nf3 := HN5.out.frozen 3
     have nl := HN5.out.lt
     simp only [List.getElem?_cons_zero, List.getElem?_cons_succ] at n0 n1 n2 n3
     have hneb : ¬ w.heap.size + 1 = U.heap.size := by have := HNU.out; omega
     have hneb2 : ¬ U.heap.size = w.heap.size + 1 := by have := HNU.out; omega
     go_region
     all_goals
      go_wp2_with (fail)
      have hN9 := blk_put4 HN5.out (.int .i64 0) (.int .i64 0) (.int .i64 0) (.slice none 0 0)
      have hb9 : Below w.heap.size w ((((W5.setCell ⟨w.heap.size + 1, 0, none⟩ (.int .i64 0)).setCell ⟨w.heap.size + 1, 1, none⟩ (.int .i64 0)).setCell ⟨w.heap.size + 1, 2, none⟩ (.int .i64 0)).setCell ⟨w.heap.size + 1, 3, none⟩ (.slice none 0 0)) := (((Hb5.out.setCell (p := ⟨w.heap.size + 1, 0, none⟩) (by dsimp only; omega) (.int .i64 0)).setCell (p := ⟨w.heap.size + 1, 1, none⟩) (by dsimp only; omega) (.int .i64 0)).setCell (p := ⟨w.heap.size + 1, 2, none⟩) (by dsimp only; omega) (.int .i64 0)).setCell (p := ⟨w.heap.size + 1, 3, none⟩) (by dsimp only; omega) (.slice none 0 0)
      generalize World.setCell _ _ _ = X at hN9 hb9 ⊢
      have hdr := (Below.refl X.heap.size X).drew
      have hN10 := hN9.below hdr hN9.lt
      have hb10 := hb9.drew
      generalize X.drew = WF at hN10 hb10 ⊢
      have g0 := hN10.cell 0
      have g1 := hN10.cell 1
      have g2 := hN10.cell 2
      have g3 := hN10.cell 3
      simp only [List.getElem?_cons_zero, List.getElem?_cons_succ] at g0 g1 g2 g3
      have HF := HQB.out b 110 HTB.out WF hb10
      exact bodyPost_ret (v := .tuple #[.agg #[.int .i64 0, .int .i64 0, .int .i64 0, .slice none 0 0], .int .i64 (b : Int), .int .i64 110]) (by simp [results, Try.results42, go_sem, g0, g1, g2, g3]) rfl HF
    ·have hlbI : ¬ (b : Int) < (toks.length : Int) := by omega
     have HTB : Hid (psParse (gOf d tbs toks) = .ok ⟨tk, ti, tA, tl⟩ 0 0) := Lib.hid (by rw [HT.out]; unfold psTree; rw [HR4.out]; show (if b < toks.length then _ else _) = _; rw [if_neg hlb])
     have y5 := HB4.out.cell 5
     have y7 := HB4.out.cell 7
     have yl := HB4.out.lt
     simp only [List.getElem?_cons_zero, List.getElem?_cons_succ] at y5 y7
     have n0 := HN4.out.cell 0
     have n1 := HN4.out.cell 1
     have n2 := HN4.out.cell 2
     have n3 := HN4.out.cell 3
     have nf0 := HN4.out.frozen 0
     have nf1 := HN4.out.frozen 1
     have nf2 := HN4.out.frozen 2
     have nf3 := HN4.out.frozen 3
     have nl := HN4.out.lt
     simp only [List.getElem?_cons_zero, List.getElem?_cons_succ] at n0 n1 n2 n3
     go_wp2_with (fail)
     have hN9 := blk_put4 HN4.out (.int .i64 tk) (.int .i64 ti) (.int .i64 tA) (.slice ga tn gc)
     have hb9 : Below w.heap.size w ((((w4.setCell ⟨w.heap.size + 1, 0, none⟩ (.int .i64 tk)).setCell ⟨w.heap.size + 1, 1, none⟩ (.int .i64 ti)).setCell ⟨w.heap.size + 1, 2, none⟩ (.int .i64 tA)).setCell ⟨w.heap.size + 1, 3, none⟩ (.slice ga tn gc)) := (((Hb4.out.setCell (p := ⟨w.heap.size + 1, 0, none⟩) (by dsimp only; omega) (.int .i64 tk)).setCell (p := ⟨w.heap.size + 1, 1, none⟩) (by dsimp only; omega) (.int .i64 ti)).setCell (p := ⟨w.heap.size + 1, 2, none⟩) (by dsimp only; omega) (.int .i64 tA)).setCell (p := ⟨w.heap.size + 1, 3, none⟩) (by dsimp only; omega) (.slice ga tn gc)
     have hK9 := keb_set4 (bad := fun b => b = w.heap.size + 1) w4 (w.heap.size + 1) 0 rfl (.int .i64 tk) (.int .i64 ti) (.int .i64 tA) (.slice ga tn gc)
     simp only [Nat.zero_add] at hK9
     generalize World.setCell _ _ _ = X at hN9 hb9 hK9 ⊢
     have hN10 := hN9.alloc (.cells #[.int .i64 tk, .int .i64 ti, .int .i64 tA, .slice ga tn gc] 51)
     have hb10 := hb9.alloc hb9.size (.cells #[.int .i64 tk, .int .i64 ti, .int .i64 tA, .slice ga tn gc] 51)
     have hT9 := (trs_keb (trs_keb HT4.out hK9 (fun b hb e => by have hb : (U.alloc _).heap.size ≤ b := hb; rw [World.size_alloc] at hb; omega)) (KeB.alloc (fun b => b = w.heap.size + 1) X (.cells #[.int .i64 tk, .int .i64 ti, .int .i64 tA, .slice ga tn gc] 51)) (fun b hb e => by have hb : (U.alloc _).heap.size ≤ b := hb; rw [World.size_alloc] at hb; omega)).imp (Q := fun b => w.heap.size ≤ b) (fun b hb _ => by have hb : (U.alloc _).heap.size ≤ b := hb; rw [World.size_alloc] at hb; omega)
     generalize X.alloc (.cells #[.int .i64 tk, .int .i64 ti, .int .i64 tA, .slice ga tn gc] 51) = WF at hN10 hb10 hT9 ⊢
     have g0 := hN10.cell 0
     have g1 := hN10.cell 1
     have g2 := hN10.cell 2
     have g3 := hN10.cell 3
     simp only [List.getElem?_cons_zero, List.getElem?_cons_succ] at g0 g1 g2 g3
     have HF := HQO.out ⟨tk, ti, tA, tl⟩ 0 0 HTB.out WF ga gc hb10 hT9
     dsimp only at HF
     rw [htn.out] at HF
     exact bodyPost_ret (v := .tuple #[.agg #[.int .i64 tk, .int .i64 ti, .int .i64 tA, .slice ga tn gc], .int .i64 0, .int .i64 0]) (by simp [results, Try.results42, go_sem, g0, g1, g2, g3]) rfl HF
end Go.Proofs.Ythogiakfbgehnaa
namespace Go.Proofs.Ythogiakfbgehnaa
open Go.RowKit Go.Maps
attribute [local go_sem] Oper.semAt_some
/-- The place that one has come to. -/
def PsR.pl {α : Type} : PsR α → Nat
 | .bad b _ => b
 | .ok _ b _ => b
/-- Less behind it. -/
def PsG.cut (G : PsG) (i : Nat) : PsG := { G with toks := G.toks.take i }
end Go.Proofs.Ythogiakfbgehnaa
namespace Go.Proofs.Ythogiakfbgehnaa
open Go.RowKit Go.Maps
attribute [local go_sem] Oper.semAt_some
theorem onlyL_rng {l : List Nat} {n : Nat} (h : ∀ i ∈ l, i < n) : -1 ≤ onlyL l ∧ onlyL l ≤ (n : Int) := by
 cases l with
 | nil => exact ⟨by show (-1 : Int) ≤ -1; omega, by show (-1 : Int) ≤ _; omega⟩
 | cons a l =>
  have := h a (List.mem_cons_self ..)
  show -1 ≤ (a : Int) ∧ (a : Int) ≤ (n : Int)
  omega
theorem rowT_rng {p : Nat → Nat → Bool} {n T : Nat} {x : Int} (h : x ∈ rowT p n T) : -1 ≤ x ∧ x ≤ (n : Int) := by
 unfold rowT at h
 obtain ⟨t, _, rfl⟩ := List.mem_map.1 h
 exact onlyL_rng (fun i hi => List.mem_range.1 (List.mem_filter.1 hi).1)
theorem prf_of {W : World} {d : CfD} (hf : FitC d) (hd : CfAt W d) {oa ka : Option Addr} {oc kc : Nat} {rs : List IltD} {toks : List Int} (hr : AltsI W oa oc rs) (hl : rs.length = (d.alts.map IrD.p).length)
 (hrow : ∀ r, r < (d.alts.map IrD.p).length → rowL rs r = rowT (fun t j => takB (d.alts.map IrD.p) (nulB (d.alts.map IrD.p)) d.toks.length r (t : Int) j) ((d.alts.map IrD.p).getD r []).length (d.toks.length + 1)) (hk : Ints W ka kc toks) : PrF W d oa oc rs ka kc toks := by
 refine ⟨hd, hr, hk, fun r hr a ha x hx => ?_, fun t ht x hx => ?_, fun r hr a ha => ⟨(hf.l r hr a ha).1, fun x hx => ?_⟩⟩
 ·have h1 := (hf.l r hr a ha).2 x hx
  have h2 := hf.t
  have h3 := hf.r
  omega
 ·obtain ⟨i, hi, e⟩ := List.getElem_of_mem ht
  have e2 : rowL rs i = t.l := by
   unfold rowL
   rw [List.getD_eq_getElem?_getD, List.getElem?_map, List.getElem?_eq_getElem hi, e]
   rfl
  rw [← e2, hrow i (by omega)] at hx
  have h1 := rowT_rng hx
  have h2 : ((d.alts.map IrD.p).getD i []).length ≤ 30 := by
   have hia : i < d.alts.length := by rw [hl, List.length_map] at hi; exact hi
   rw [List.getD_eq_getElem?_getD, List.getElem?_map, List.getElem?_eq_getElem hia]
   show (d.alts[i].ds.map _).length ≤ 30
   rw [List.length_map]
   exact hf.a _ (List.getElem_mem hia)
  omega
 ·have h1 := (hf.l r hr a ha).2 x hx
  have h3 := hf.r
  omega
end Go.Proofs.Ythogiakfbgehnaa
namespace Go.Proofs.Ythogiakfbgehnaa
open Go.RowKit Go.Maps
attribute [local go_sem] Oper.semAt_some
/-- The tokens of trees, and their places, from the left. -/
def TrF.yt : TrF → List Int
 | .nil => []
 | .cons h kids rest => (if 0 ≤ h.k then [h.k] else kids.yt) ++ rest.yt
def TrF.ya : TrF → List Int
 | .nil => []
 | .cons h kids rest => (if 0 ≤ h.k then [h.a] else kids.ya) ++ rest.ya
/-- These trees are these symbols', each node's kids those of one of its rule's alternatives. -/
def goodF (G : PsG) : TrF → List Int → Prop
 | .nil, ks => ks = []
 | .cons h kids rest, ks => ∃ ks', ks = h.k :: ks' ∧ ((0 ≤ h.k ∧ kids = .nil ∧ h.i = 0) ∨ (h.k < 0 ∧ h.a = 0 ∧ ∃ (i : Nat) (l : List Int), h.i = (i : Int) ∧ (G.al.getD (ruL h.k) [])[i]? = some l ∧ goodF G kids l)) ∧ goodF G rest ks'
def rngI (a b : Nat) : List Int := (List.range (b - a)).map (fun i => ((a + i : Nat) : Int))
theorem rngI_app {a b c : Nat} (h1 : a ≤ b) (h2 : b ≤ c) : rngI a b ++ rngI b c = rngI a c := by
 unfold rngI
 apply List.ext_getElem
 ·simp only [List.length_append, List.length_map, List.length_range]; omega
 ·intro i h3 h4
  simp only [List.length_append, List.length_map, List.length_range] at h3 h4
  by_cases hi : i < b - a
  ·rw [List.getElem_append_left (by simpa using hi)]
   simp
  ·rw [List.getElem_append_right (by simpa using hi)]
   simp only [List.getElem_map, List.getElem_range, List.length_map, List.length_range]
   omega
theorem cut_app {l : List Int} {a b c : Nat} (h1 : a ≤ b) (h2 : b ≤ c) : (l.drop a).take (b - a) ++ (l.drop b).take (c - b) = (l.drop a).take (c - a) := by
 rw [show c - a = (b - a) + (c - b) by omega, List.take_add, List.drop_drop]
 congr 3
 omega
structure PutY (G : PsG) (f : TrF) (ks : List Int) (a b : Nat) : Prop where
 le : a ≤ b
 hi : b ≤ G.toks.length
 yt : f.yt = (G.toks.drop a).take (b - a)
 ya : f.ya = rngI a b
 gd : goodF G f ks
theorem PutY.nil (G : PsG) {a : Nat} (ha : a ≤ G.toks.length) : PutY G .nil [] a a := ⟨Nat.le_refl _, ha, by simp [TrF.yt], by simp [TrF.ya, rngI], rfl⟩
theorem seq_yield {G : PsG} {f : Int → Nat → Nat → PsR Tre} (hf : ∀ k a n t b q, a ≤ G.toks.length → f k a n = .ok t b q → PutY G (t.con .nil) [k] a b) : ∀ (ks : List Int) (a n : Nat) {l b q}, a ≤ G.toks.length → psSeq f ks a n = .ok l b q → PutY G l ks a b
 | [], a, n, l, b, q, ha, h => by
  unfold psSeq at h
  injection h with h1 h2 _
  subst h1
  subst h2
  exact PutY.nil G ha
 | k :: ks, a, n, l, b, q, ha, h => by
  rw [seq_cons] at h
  cases e : f k a n with
  | bad c x => rw [e] at h; cases h
  | ok t c r =>
   rw [e] at h
   have h1 := hf k a n t c r ha e
   change (psSeq f ks c r).bind _ = _ at h
   cases e2 : psSeq f ks c r with
   | bad c2 x => rw [e2] at h; cases h
   | ok l2 c2 r2 =>
    rw [e2] at h
    have h2 := seq_yield hf ks c r h1.hi e2
    change PsR.ok (t.con l2) c2 r2 = _ at h
    injection h with h3 h4 _
    subst h3
    subst h4
    refine ⟨Nat.le_trans h1.le h2.le, h2.hi, ?_, ?_, ?_⟩
    ·have h5 := h1.yt
     simp only [Tre.con, TrF.yt, List.append_nil] at h5
     simp only [Tre.con, TrF.yt]
     rw [h5, h2.yt]
     exact cut_app h1.le h2.le
    ·have h5 := h1.ya
     simp only [Tre.con, TrF.ya, List.append_nil] at h5
     simp only [Tre.con, TrF.ya]
     rw [h5, h2.ya]
     exact rngI_app h1.le h2.le
    ·obtain ⟨ks', h5, h6, h7⟩ := h1.gd
     have h8 := (List.cons.inj h5).1
     exact ⟨ks, by rw [h8], h6, h2.gd⟩
theorem put_yield (G : PsG) : ∀ (m : Nat) (k : Int) (a n : Nat) {t b q}, a ≤ G.toks.length → psPut G m k a n = .ok t b q → PutY G (t.con .nil) [k] a b
 | 0, k, a, n, t, b, q, ha, h => by unfold psPut at h; cases h
 | m + 1, k, a, n, t, b, q, ha, h => by
  unfold psPut at h
  by_cases hn : n = 0
  ·rw [if_pos hn] at h; cases h
  ·rw [if_neg hn] at h
   by_cases hk : 0 ≤ k
   ·rw [if_pos hk] at h
    by_cases ht : G.toks[a]? = some k
    ·rw [if_pos ht] at h
     injection h with h1 h2 _
     subst h1
     subst h2
     obtain ⟨h3, h4⟩ := List.getElem?_eq_some_iff.1 ht
     refine ⟨Nat.le_succ _, h3, ?_, ?_, ⟨[], rfl, .inl ⟨hk, rfl, rfl⟩, rfl⟩⟩
     ·simp only [Tre.con, TrF.yt, List.append_nil]
      rw [if_pos hk, show a + 1 - a = 1 by omega, List.drop_eq_getElem_cons h3, h4]
      rfl
     ·simp only [Tre.con, TrF.ya, List.append_nil]
      rw [if_pos hk]
      unfold rngI
      rw [show a + 1 - a = 1 by omega]
      rfl
    ·rw [if_neg ht] at h; cases h
   ·rw [if_neg hk] at h
    cases e : G.alt (ruL k) a with
    | none => rw [e] at h; cases h
    | some p =>
     obtain ⟨i, ks⟩ := p
     rw [e] at h
     dsimp only at h
     cases e2 : psSeq (psPut G m) ks a (n - 1) with
     | bad c x => rw [e2] at h; cases h
     | ok l c r =>
      rw [e2] at h
      have h1 := seq_yield (G := G) (fun k a n t b q ha h => put_yield G m k a n ha h) ks a (n - 1) ha e2
      change PsR.ok (⟨k, i, 0, l⟩ : Tre) c r = _ at h
      injection h with h3 h4 _
      subst h3
      subst h4
      have hal : (G.al.getD (ruL k) [])[i]? = some ks := by
       unfold PsG.alt at e
       cases e3 : (G.tb.getD (ruL k) [])[(G.next a).toNat]? with
       | none => rw [e3] at e; cases e
       | some v =>
        rw [e3] at e
        dsimp only at e
        by_cases hv : 0 ≤ v
        ·rw [if_pos hv] at e
         cases e4 : (G.al.getD (ruL k) [])[v.toNat]? with
         | none => rw [e4] at e; cases e
         | some l9 =>
          rw [e4] at e
          simp only [Option.map_some, Option.some.injEq, Prod.mk.injEq] at e
          obtain ⟨rfl, rfl⟩ := e
          exact e4
        ·rw [if_neg hv] at e; cases e
      refine ⟨h1.le, h1.hi, ?_, ?_, ⟨[], rfl, .inr ⟨by show k < 0; omega, rfl, i, ks, rfl, hal, h1.gd⟩, rfl⟩⟩
      ·simp only [Tre.con, TrF.yt, List.append_nil]
       rw [if_neg hk]
       exact h1.yt
      ·simp only [Tre.con, TrF.ya, List.append_nil]
       rw [if_neg hk]
       exact h1.ya
/-- What all tokens come to, where there is a tree. -/
theorem parse_yield {G : PsG} {t : Tre} {a n : Nat} (h : psParse G = .ok t a n) : t.k = -1 ∧ (t.con .nil).yt = G.toks ∧ (t.con .nil).ya = rngI 0 G.toks.length ∧ goodF G (t.con .nil) [-1] := by
 unfold psParse at h
 cases e : firstB G.T G.toks with
 | some j => rw [e] at h; cases h
 | none =>
  rw [e] at h
  change psTree G = _ at h
  unfold psTree at h
  cases e2 : psPut G 20000 (-1) 0 20000 with
  | bad c x => rw [e2] at h; cases h
  | ok t2 c r =>
   rw [e2] at h
   change (if c < G.toks.length then PsR.bad c 110 else PsR.ok t2 0 0) = _ at h
   by_cases hc : c < G.toks.length
   ·rw [if_pos hc] at h; cases h
   ·rw [if_neg hc] at h
    injection h with h1 _ _
    subst h1
    have h2 := put_yield G 20000 (-1) 0 20000 (Nat.zero_le _) e2
    have hcl : c = G.toks.length := by have := h2.hi; omega
    obtain ⟨ks', h3, _, _⟩ := h2.gd
    refine ⟨((List.cons.inj h3).1).symm, ?_, ?_, h2.gd⟩
    ·rw [h2.yt, hcl]
     simp
    ·rw [h2.ya, hcl]
end Go.Proofs.Ythogiakfbgehnaa
