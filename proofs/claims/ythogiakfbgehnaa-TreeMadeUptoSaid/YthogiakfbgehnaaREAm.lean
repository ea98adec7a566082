/- Texts joined: Ti Fq Fr Fs Ft Fu Fv Fw Fx Fy Tj Tk. -/
import Derived.Test.YthogiakfbgehnaaREAl
import Derived.Deep.CutRange
import Derived.Test.YthogiakfbgehnaaREAj
import Derived.Lib.SliceRun
import Derived.Test.YthogiakfbgehnaaREAa
import Derived.OwnWalkIn
import Derived.TacticsInMore
import Derived.LoopNIn
import Derived.LoopIn
import Derived.Sort.LoopGhostIn
import Derived.Deep.RegionLaw
set_option linter.unusedVariables false
set_option linter.unusedSimpArgs false
namespace Go.Proofs.Ythogiakfbgehnaa
open Go.RowKit Go.Maps

attribute [local go_sem] Oper.semAt_some

/-- The derivation of steps, or behind how many, and why there is none. -/
def gwGrow (d : CfD) (st : List Int) : GwR Tre := (gwPut d st 20000 (-1) 0 0 20000).bind fun x s a n => if s < st.length then .bad s 110 else .ok x s a n
/-- What Grow answers. -/
def GroQ (w : World) (r : GwR Tre) (e : Ending) (W : World) : Prop :=
  Below w.heap.size w W ∧ match r with
  | .bad s x => x ≠ 0 ∧ e = .returned (.tuple #[treV ⟨0, 0, 0⟩ none 0 0, .int .i64 (s : Int), .int .i64 x])
  | .ok t _ _ _ => ∃ ga gc, e = .returned (.tuple #[treV ⟨t.k, t.i, t.a⟩ ga t.l.len gc, .int .i64 0, .int .i64 0]) ∧ TrS W (fun g => w.heap.size ≤ g) ga gc t.l
set_option maxRecDepth 100000 in
set_option maxHeartbeats 16000000 in
theorem tgrow_any (d : CfD) (sa : Option Addr) (sc : Nat) (st : List Int) (w : World) (hd : CfAt w d) (hrg : ∀ r ∈ d.alts, ∀ a ∈ r.ds, ∀ x ∈ a.l, -9223372036854775808 ≤ x ∧ x ≤ 9223372036854775807) (hst : Ints w sa sc st) :
    Calls Try.prog 54 #[d.v, .slice sa st.length sc] w (GroQ w (gwGrow d st)) := by
  obtain ⟨Q, hQ⟩ : ∃ Q : Ending → World → Prop, Hid (GroQ w (gwGrow d st) = Q) := ⟨_, Lib.hid rfl⟩
  rw [hQ.out]
  have HQB : Hid (∀ W (s : Nat) x, gwGrow d st = .bad s x → x ≠ 0 → Below w.heap.size w W → Q (.returned (.tuple #[treV ⟨0, 0, 0⟩ none 0 0, .int .i64 (s : Int), .int .i64 x])) W) := Lib.hid (fun W s x h1 h2 h3 => by rw [← hQ.out, h1]; exact ⟨h3, h2, rfl⟩)
  have HQO : Hid (∀ W (t : Tre) (s a q : Nat) ga gc, gwGrow d st = .ok t s a q → Below w.heap.size w W → TrS W (fun g => w.heap.size ≤ g) ga gc t.l → Q (.returned (.tuple #[treV ⟨t.k, t.i, t.a⟩ ga t.l.len gc, .int .i64 0, .int .i64 0])) W) := Lib.hid (fun W t s a q ga gc h1 h2 h3 => by rw [← hQ.out, h1]; exact ⟨h2, ga, gc, rfl, h3⟩)
  clear hQ
  have hsm : st.length ≤ sc ∧ sc ≤ 9223372036854775807 := ⟨by have := hst.le; rwa [List.length_map] at this, hst.max⟩
  have hb1 : Below w.heap.size w (((w.alloc (.cells #[.slice d.ta d.toks.length d.tc, .slice d.na d.names.length d.nc, .slice d.aa d.alts.length d.ac] 25)).alloc (.cells #[.int .i64 0, .int .i64 0, .int .i64 0, .slice none 0 0] 51)).alloc (.cells #[.slice d.ta d.toks.length d.tc, .slice d.na d.names.length d.nc, .slice d.aa d.alts.length d.ac, .slice sa st.length sc, .int .i64 0, .int .i64 0, .int .i64 0] 119)) := (((Below.refl _ w).alloc (Nat.le_refl _) _).alloc (by simp) _).alloc (by simp; omega) _
  have hA1 := Blk.new w 25 #[.slice d.ta d.toks.length d.tc, .slice d.na d.names.length d.nc, .slice d.aa d.alts.length d.ac]
  have hN1 := (Blk.new (w.alloc (.cells #[.slice d.ta d.toks.length d.tc, .slice d.na d.names.length d.nc, .slice d.aa d.alts.length d.ac] 25)) 51 #[.int .i64 0, .int .i64 0, .int .i64 0, .slice none 0 0]).alloc (.cells #[.slice d.ta d.toks.length d.tc, .slice d.na d.names.length d.nc, .slice d.aa d.alts.length d.ac, .slice sa st.length sc, .int .i64 0, .int .i64 0, .int .i64 0] 119)
  have hG1 := Blk.new ((w.alloc (.cells #[.slice d.ta d.toks.length d.tc, .slice d.na d.names.length d.nc, .slice d.aa d.alts.length d.ac] 25)).alloc (.cells #[.int .i64 0, .int .i64 0, .int .i64 0, .slice none 0 0] 51)) 119 #[.slice d.ta d.toks.length d.tc, .slice d.na d.names.length d.nc, .slice d.aa d.alts.length d.ac, .slice sa st.length sc, .int .i64 0, .int .i64 0, .int .i64 0]
  have hs1 : ((w.alloc (.cells #[.slice d.ta d.toks.length d.tc, .slice d.na d.names.length d.nc, .slice d.aa d.alts.length d.ac] 25)).alloc (.cells #[.int .i64 0, .int .i64 0, .int .i64 0, .slice none 0 0] 51)).heap.size = w.heap.size + 1 + 1 := by rw [World.size_alloc, World.size_alloc]
  rw [hs1] at hG1
  rw [World.size_alloc] at hN1
  have Hp := Lib.hid (tput_any w d hd hrg sa sc st hst (w.heap.size + 1 + 1) (by omega) 20000 (-1) 0 0 20000 0 (((w.alloc (.cells #[.slice d.ta d.toks.length d.tc, .slice d.na d.names.length d.nc, .slice d.aa d.alts.length d.ac] 25)).alloc (.cells #[.int .i64 0, .int .i64 0, .int .i64 0, .slice none 0 0] 51)).alloc (.cells #[.slice d.ta d.toks.length d.tc, .slice d.na d.names.length d.nc, .slice d.aa d.alts.length d.ac, .slice sa st.length sc, .int .i64 0, .int .i64 0, .int .i64 0] 119)) (by omega) (by omega) (by omega) (by omega) (by omega) (Nat.zero_le _) (by omega) hb1 hG1)
  have x0 := hA1.cell 0
  have x1 := hA1.cell 1
  have x2 := hA1.cell 2
  have xl := hA1.lt
  simp only [List.getElem?_cons_zero, List.getElem?_cons_succ] at x0 x1 x2
  have HN1 := Lib.hid hN1
  have HG1 := Lib.hid hG1
  have Hb1 := Lib.hid hb1
  clear hA1 hN1 hG1 hb1 hs1 hd hrg hst
  go_enter Try.func54, Try.ntmps54
  go_wp2_with (fail)
  obtain ⟨b4, hb4⟩ : ∃ q, Hid (w.heap.size + 1 = q) := ⟨_, Lib.hid rfl⟩
  obtain ⟨gp, hgp⟩ : ∃ q, Hid (w.heap.size + 1 + 1 = q) := ⟨_, Lib.hid rfl⟩
  have hgb : b4 ≠ gp := by have := hb4.out; have := hgp.out; omega
  rw [hgp.out] at HG1 Hp ⊢
  rw [hb4.out] at HN1 ⊢
  generalize hV : World.alloc (World.alloc (World.alloc w _) _) _ = V at HN1 HG1 Hb1 Hp ⊢
  clear hV x0 x1 x2 xl
  refine Hp.out.mono ?_
  intro e4 W4 hQ4
  unfold GutQ at hQ4
  obtain ⟨hg4, hQ4⟩ := hQ4
  have HN4 := Lib.hid (HN1.out.kept hg4 (by intro e; injection e with e; omega))
  have Hb4 := Lib.hid (Hb1.out.grown hg4 Hb1.out.size (fun i e => by injection e with e; have := hgp.out; omega))
  have HVs : Hid (w.heap.size ≤ V.heap.size) := Lib.hid Hb1.out.size
  have hb4V : b4 < V.heap.size := HN1.out.lt
  clear hg4 HN1 HG1 Hb1 Hp
  cases hR : gwPut d st 20000 (-1) 0 0 20000 with
  | bad s x =>
    rw [hR] at hQ4
    obtain ⟨hx, rfl, tk, nd, hB4⟩ := hQ4
    have HRB : Hid (gwGrow d st = .bad s x) := Lib.hid (by unfold gwGrow; rw [hR]; rfl)
    have HXN := Lib.hid hx
    have hx0 : (x == 0) = false := by rw [beq_eq_false_iff_ne]; exact hx
    have hx1 : (x != 0) = true := by simp [hx]
    have HB4 := Lib.hid hB4
    clear hB4 hx hR
    have HN4a := HN4.out.alloc (.cells #[.int .i64 0, .int .i64 0, .int .i64 0, .slice none 0 0] 51)
    have HB4a := HB4.out.alloc (.cells #[.int .i64 0, .int .i64 0, .int .i64 0, .slice none 0 0] 51)
    have Hb4a := Hb4.out.alloc Hb4.out.size (.cells #[.int .i64 0, .int .i64 0, .int .i64 0, .slice none 0 0] 51)
    go_wp2_with (fail)
    generalize hV8 : World.alloc W4 _ = W4a at HN4a HB4a Hb4a ⊢
    have hd9 := (Below.refl W4a.heap.size W4a).drew
    have HN5 := Lib.hid (HN4a.below hd9 HN4a.lt)
    have HB5 := Lib.hid (HB4a.below hd9 HB4a.lt)
    have Hb5 := Lib.hid (Hb4a.trans (hd9.mono Hb4a.size))
    have HS5 : Hid ((W4a.drew).cell? ⟨gp, 4, none⟩ = some (.int .i64 (s : Int))) := Lib.hid (HB5.out.cell 4)
    have hgl := HB5.out.lt
    clear hd9 hV8 HN4a HB4a Hb4a
    refine wp_region_held_drew (S := fun w' => w'.cell? ⟨gp, 4, none⟩ = some (.int .i64 (s : Int))) (by kernel_rfl) ?_ (fun hHeld => ?_)
    · exact HS5.out
    generalize World.drew W4a = W5 at HS5 HN5 HB5 Hb5 hgl hHeld ⊢
    refine wpAnyH_take (i := 0) (v := ?_) (iatLS iatZS) (by kernel_rfl) (by kernel_rfl) (by kernel_rfl) (fun _ _ _ h => h) (Or.inl ⟨by rfl, ?_⟩) (by assumption) ?_
    rotate_left
    · intro w hSw
      try dsimp only at hSw
      go_simp
      all_goals with_reducible rfl
    try simp only [Act.put, List.setIfInBounds_toArray, List.set_cons_zero, List.set_cons_succ]
    refine wpAnyH_take (i := 1) (v := ?_) (iatLS (iatSS iatZS)) (by kernel_rfl) (by kernel_rfl) (by kernel_rfl) (fun _ _ _ h => h) (Or.inl ⟨by rfl, ?_⟩) (by assumption) ?_
    rotate_left
    · intro w hSw
      try dsimp only at hSw
      go_simp
      all_goals with_reducible rfl
    try simp only [Act.put, List.setIfInBounds_toArray, List.set_cons_zero, List.set_cons_succ]
    refine wpAnyH_take (i := 2) (v := ?_) (iatLS (iatSS (iatSS iatZS))) (by kernel_rfl) (by kernel_rfl) (by kernel_rfl) (fun _ _ _ h => h) (Or.inl ⟨by rfl, ?_⟩) (by assumption) ?_
    rotate_left
    · intro w hSw
      try dsimp only at hSw
      go_simp
      all_goals with_reducible rfl
    try simp only [Act.put, List.setIfInBounds_toArray, List.set_cons_zero, List.set_cons_succ]
    refine wpAnyH_take (i := 3) (v := ?_) (iatLS (iatSS (iatSS (iatSS iatZS)))) (by kernel_rfl) (by kernel_rfl) (by kernel_rfl) (fun _ _ _ h => h) (Or.inl ⟨by rfl, ?_⟩) (by assumption) ?_
    rotate_left
    · intro w hSw
      try dsimp only at hSw
      go_simp
      all_goals with_reducible rfl
    try simp only [Act.put, List.setIfInBounds_toArray, List.set_cons_zero, List.set_cons_succ]
    refine wpAnyH_ready (rs := [4]) (by kernel_rfl) (by simp) ?_
    refine AllReadyH.cons (iatLS (iatSS (iatSS (iatSS (iatSS iatZS))))) (fun K hK => ?_) AllReadyH.nil
    have n0 := HN5.out.cell 0
    have n1 := HN5.out.cell 1
    have n2 := HN5.out.cell 2
    have n3 := HN5.out.cell 3
    have nf0 := HN5.out.frozen 0
    have nf1 := HN5.out.frozen 1
    have nf2 := HN5.out.frozen 2
    have nf3 := HN5.out.frozen 3
    have nl := HN5.out.lt
    simp only [List.getElem?_cons_zero, List.getElem?_cons_succ] at n0 n1 n2 n3
    go_simp
    have hN6 := blk_put4 HN5.out (.int .i64 0) (.int .i64 0) (.int .i64 0) (.slice none 0 0)
    have hB6 := blk_oth4 HB5.out (b' := b4) (by omega) (.int .i64 0) (.int .i64 0) (.int .i64 0) (.slice none 0 0)
    have hb6 := Below.put4 Hb5.out (nb := b4) (by have := hb4.out; omega) (.int .i64 0) (.int .i64 0) (.int .i64 0) (.slice none 0 0)
    generalize World.setCell _ _ _ = W6 at hN6 hB6 hb6 ⊢
    have HS6 : Hid (W6.cell? ⟨gp, 4, none⟩ = some (.int .i64 (s : Int))) := Lib.hid (hB6.cell 4)
    clear n0 n1 n2 n3 nf0 nf1 nf2 nf3 nl
    refine hK.out _ _ ?_ (fun hHeld => ?_)
    · exact HS6.out
    clear hK K
    try simp only [Act.put, List.setIfInBounds_toArray, List.set_cons_zero, List.set_cons_succ]
    refine wpAnyH_take (i := 5) (v := ?_) (iatLS (iatSS (iatSS (iatSS (iatSS (iatSS iatZS)))))) (by kernel_rfl) (by kernel_rfl) (by kernel_rfl) (fun _ _ _ h => h) (Or.inl ⟨by rfl, ?_⟩) (by assumption) ?_
    rotate_left
    · intro w hSw
      try dsimp only at hSw
      go_simp
      all_goals with_reducible rfl
    try simp only [Act.put, List.setIfInBounds_toArray, List.set_cons_zero, List.set_cons_succ]
    refine wpAnyH_take (i := 6) (v := ?_) (iatLS (iatSS (iatSS (iatSS (iatSS (iatSS (iatSS iatZS))))))) (by kernel_rfl) (by kernel_rfl) (by kernel_rfl) (fun _ _ _ h => h) (Or.inl ⟨by rfl, ?_⟩) (by assumption) ?_
    rotate_left
    · intro w hSw
      try dsimp only at hSw
      go_simp
      all_goals with_reducible rfl
    try simp only [Act.put, List.setIfInBounds_toArray, List.set_cons_zero, List.set_cons_succ]
    refine wpAnyH_done (by kernel_rfl) ?_ _
    go_wp2_with (fail)
    have g0 := hN6.cell 0
    have g1 := hN6.cell 1
    have g2 := hN6.cell 2
    have g3 := hN6.cell 3
    simp only [List.getElem?_cons_zero, List.getElem?_cons_succ] at g0 g1 g2 g3
    have HF := HQB.out W6 s x HRB.out HXN.out hb6
    exact bodyPost_ret (v := .tuple #[.agg #[.int .i64 0, .int .i64 0, .int .i64 0, .slice none 0 0], .int .i64 (s : Int), .int .i64 x]) (by simp [results, Try.results54, go_sem, g0, g1, g2, g3]) rfl HF
  | ok t s a q =>
    rw [hR] at hQ4
    obtain ⟨ga, gc, rfl, hT4, hB4⟩ := hQ4
    obtain ⟨tk, ti, tA, tl⟩ := t
    dsimp only at hT4 ⊢
    have HB4 := Lib.hid hB4
    have HT4 := Lib.hid hT4
    obtain ⟨tn, htn⟩ : ∃ q, Hid (tl.len = q) := ⟨_, Lib.hid rfl⟩
    rw [htn.out]
    have y4 := HB4.out.cell 4
    have yl := HB4.out.lt
    simp only [List.getElem?_cons_zero, List.getElem?_cons_succ] at y4
    clear hB4 hT4
    by_cases hs : s < st.length
    · have HRB : Hid (gwGrow d st = .bad s 110) := Lib.hid (by unfold gwGrow; rw [hR]; show (if s < st.length then GwR.bad s 110 else _) = _; rw [if_pos hs])
      have hsI : (s : Int) < (st.length : Int) := by omega
      clear hR
      have HN4a := HN4.out.alloc (.cells #[.int .i64 tk, .int .i64 ti, .int .i64 tA, .slice ga tn gc] 51)
      have HB4a := HB4.out.alloc (.cells #[.int .i64 tk, .int .i64 ti, .int .i64 tA, .slice ga tn gc] 51)
      have Hb4a := Hb4.out.alloc Hb4.out.size (.cells #[.int .i64 tk, .int .i64 ti, .int .i64 tA, .slice ga tn gc] 51)
      go_wp2_with (fail)
      generalize hV8 : World.alloc W4 _ = W4a at HN4a HB4a Hb4a ⊢
      have hd9 := (Below.refl W4a.heap.size W4a).drew
      have HN5 := Lib.hid (HN4a.below hd9 HN4a.lt)
      have HB5 := Lib.hid (HB4a.below hd9 HB4a.lt)
      have Hb5 := Lib.hid (Hb4a.trans (hd9.mono Hb4a.size))
      have HS5 : Hid ((W4a.drew).cell? ⟨gp, 4, none⟩ = some (.int .i64 (s : Int))) := Lib.hid (HB5.out.cell 4)
      have hgl := HB5.out.lt
      clear hd9 hV8 HN4a HB4a Hb4a
      refine wp_region_held_drew (S := fun w' => w'.cell? ⟨gp, 4, none⟩ = some (.int .i64 (s : Int))) (by kernel_rfl) ?_ (fun hHeld => ?_)
      · exact HS5.out
      generalize World.drew W4a = W5 at HS5 HN5 HB5 Hb5 hgl hHeld ⊢
      refine wpAnyH_take (i := 0) (v := ?_) (iatLS iatZS) (by kernel_rfl) (by kernel_rfl) (by kernel_rfl) (fun _ _ _ h => h) (Or.inl ⟨by rfl, ?_⟩) (by assumption) ?_
      rotate_left
      · intro w hSw
        try dsimp only at hSw
        go_simp
        all_goals with_reducible rfl
      try simp only [Act.put, List.setIfInBounds_toArray, List.set_cons_zero, List.set_cons_succ]
      refine wpAnyH_take (i := 1) (v := ?_) (iatLS (iatSS iatZS)) (by kernel_rfl) (by kernel_rfl) (by kernel_rfl) (fun _ _ _ h => h) (Or.inl ⟨by rfl, ?_⟩) (by assumption) ?_
      rotate_left
      · intro w hSw
        try dsimp only at hSw
        go_simp
        all_goals with_reducible rfl
      try simp only [Act.put, List.setIfInBounds_toArray, List.set_cons_zero, List.set_cons_succ]
      refine wpAnyH_take (i := 2) (v := ?_) (iatLS (iatSS (iatSS iatZS))) (by kernel_rfl) (by kernel_rfl) (by kernel_rfl) (fun _ _ _ h => h) (Or.inl ⟨by rfl, ?_⟩) (by assumption) ?_
      rotate_left
      · intro w hSw
        try dsimp only at hSw
        go_simp
        all_goals with_reducible rfl
      try simp only [Act.put, List.setIfInBounds_toArray, List.set_cons_zero, List.set_cons_succ]
      refine wpAnyH_take (i := 3) (v := ?_) (iatLS (iatSS (iatSS (iatSS iatZS)))) (by kernel_rfl) (by kernel_rfl) (by kernel_rfl) (fun _ _ _ h => h) (Or.inl ⟨by rfl, ?_⟩) (by assumption) ?_
      rotate_left
      · intro w hSw
        try dsimp only at hSw
        go_simp
        all_goals with_reducible rfl
      try simp only [Act.put, List.setIfInBounds_toArray, List.set_cons_zero, List.set_cons_succ]
      refine wpAnyH_ready (rs := [4]) (by kernel_rfl) (by simp) ?_
      refine AllReadyH.cons (iatLS (iatSS (iatSS (iatSS (iatSS iatZS))))) (fun K hK => ?_) AllReadyH.nil
      have n0 := HN5.out.cell 0
      have n1 := HN5.out.cell 1
      have n2 := HN5.out.cell 2
      have n3 := HN5.out.cell 3
      have nf0 := HN5.out.frozen 0
      have nf1 := HN5.out.frozen 1
      have nf2 := HN5.out.frozen 2
      have nf3 := HN5.out.frozen 3
      have nl := HN5.out.lt
      simp only [List.getElem?_cons_zero, List.getElem?_cons_succ] at n0 n1 n2 n3
      go_simp
      have hN6 := blk_put4 HN5.out (.int .i64 0) (.int .i64 0) (.int .i64 0) (.slice none 0 0)
      have hB6 := blk_oth4 HB5.out (b' := b4) (by omega) (.int .i64 0) (.int .i64 0) (.int .i64 0) (.slice none 0 0)
      have hb6 := Below.put4 Hb5.out (nb := b4) (by have := hb4.out; omega) (.int .i64 0) (.int .i64 0) (.int .i64 0) (.slice none 0 0)
      generalize World.setCell _ _ _ = W6 at hN6 hB6 hb6 ⊢
      have HS6 : Hid (W6.cell? ⟨gp, 4, none⟩ = some (.int .i64 (s : Int))) := Lib.hid (hB6.cell 4)
      clear n0 n1 n2 n3 nf0 nf1 nf2 nf3 nl
      refine hK.out _ _ ?_ (fun hHeld => ?_)
      · exact HS6.out
      clear hK K
      try simp only [Act.put, List.setIfInBounds_toArray, List.set_cons_zero, List.set_cons_succ]
      refine wpAnyH_take (i := 5) (v := ?_) (iatLS (iatSS (iatSS (iatSS (iatSS (iatSS iatZS)))))) (by kernel_rfl) (by kernel_rfl) (by kernel_rfl) (fun _ _ _ h => h) (Or.inl ⟨by rfl, ?_⟩) (by assumption) ?_
      rotate_left
      · intro w hSw
        try dsimp only at hSw
        go_simp
        all_goals with_reducible rfl
      try simp only [Act.put, List.setIfInBounds_toArray, List.set_cons_zero, List.set_cons_succ]
      refine wpAnyH_take (i := 6) (v := ?_) (iatLS (iatSS (iatSS (iatSS (iatSS (iatSS (iatSS iatZS))))))) (by kernel_rfl) (by kernel_rfl) (by kernel_rfl) (fun _ _ _ h => h) (Or.inl ⟨by rfl, ?_⟩) (by assumption) ?_
      rotate_left
      · intro w hSw
        try dsimp only at hSw
        go_simp
        all_goals with_reducible rfl
      try simp only [Act.put, List.setIfInBounds_toArray, List.set_cons_zero, List.set_cons_succ]
      refine wpAnyH_done (by kernel_rfl) ?_ _
      go_wp2_with (fail)
      have g0 := hN6.cell 0
      have g1 := hN6.cell 1
      have g2 := hN6.cell 2
      have g3 := hN6.cell 3
      simp only [List.getElem?_cons_zero, List.getElem?_cons_succ] at g0 g1 g2 g3
      have HF := HQB.out W6 s 110 HRB.out (by omega) hb6
      exact bodyPost_ret (v := .tuple #[.agg #[.int .i64 0, .int .i64 0, .int .i64 0, .slice none 0 0], .int .i64 (s : Int), .int .i64 110]) (by simp [results, Try.results54, go_sem, g0, g1, g2, g3]) rfl HF
    · have HRK : Hid (gwGrow d st = .ok ⟨tk, ti, tA, tl⟩ s a q) := Lib.hid (by unfold gwGrow; rw [hR]; show (if s < st.length then GwR.bad s 110 else _) = _; rw [if_neg hs])
      have hsI : ¬ (s : Int) < (st.length : Int) := by omega
      have hsI2 : (st.length : Int) ≤ (s : Int) := by omega
      clear hR
      have n0 := HN4.out.cell 0
      have n1 := HN4.out.cell 1
      have n2 := HN4.out.cell 2
      have n3 := HN4.out.cell 3
      have nf0 := HN4.out.frozen 0
      have nf1 := HN4.out.frozen 1
      have nf2 := HN4.out.frozen 2
      have nf3 := HN4.out.frozen 3
      have nl := HN4.out.lt
      simp only [List.getElem?_cons_zero, List.getElem?_cons_succ] at n0 n1 n2 n3
      go_wp2_with (fail)
      have hN9 := blk_put4 HN4.out (.int .i64 tk) (.int .i64 ti) (.int .i64 tA) (.slice ga tn gc)
      have hb9 := Below.put4 Hb4.out (nb := b4) (by have := hb4.out; omega) (.int .i64 tk) (.int .i64 ti) (.int .i64 tA) (.slice ga tn gc)
      have hk9 := keb_set4 (bad := fun b => b = b4) W4 b4 0 rfl (.int .i64 tk) (.int .i64 ti) (.int .i64 tA) (.slice ga tn gc)
      simp only [Nat.zero_add] at hk9
      have hT9 := trs_keb HT4.out hk9 (fun b h e => by have h : V.heap.size ≤ b := h; have e : b = b4 := e; omega)
      generalize World.setCell _ _ _ = WF at hN9 hb9 hT9 ⊢
      have hN9 := hN9.alloc (.cells #[.int .i64 tk, .int .i64 ti, .int .i64 tA, .slice ga tn gc] 51)
      have hT9 := (hT9.grown ((Below.refl WF.heap.size WF).alloc (Nat.le_refl _) (.cells #[.int .i64 tk, .int .i64 ti, .int .i64 tA, .slice ga tn gc] 51))).imp (Q := fun g => w.heap.size ≤ g) (fun g h _ => Nat.le_trans HVs.out h)
      have hb9 := hb9.alloc hb9.size (.cells #[.int .i64 tk, .int .i64 ti, .int .i64 tA, .slice ga tn gc] 51)
      generalize World.alloc WF _ = WF at hN9 hb9 hT9 ⊢
      have g0 := hN9.cell 0
      have g1 := hN9.cell 1
      have g2 := hN9.cell 2
      have g3 := hN9.cell 3
      simp only [List.getElem?_cons_zero, List.getElem?_cons_succ] at g0 g1 g2 g3
      have HF := HQO.out WF ⟨tk, ti, tA, tl⟩ s a q ga gc HRK.out hb9 hT9
      dsimp only at HF
      rw [htn.out] at HF
      exact bodyPost_ret (v := .tuple #[.agg #[.int .i64 tk, .int .i64 ti, .int .i64 tA, .slice ga tn gc], .int .i64 0, .int .i64 0]) (by simp [results, Try.results54, go_sem, g0, g1, g2, g3]) rfl HF
end Go.Proofs.Ythogiakfbgehnaa

namespace Go.Proofs.Ythogiakfbgehnaa
open Go.RowKit Go.Maps

attribute [local go_sem] Oper.semAt_some

end Go.Proofs.Ythogiakfbgehnaa

namespace Go.Proofs.Ythogiakfbgehnaa
open Go.RowKit Go.Maps

attribute [local go_sem] Oper.semAt_some

end Go.Proofs.Ythogiakfbgehnaa

namespace Go.Proofs.Ythogiakfbgehnaa
open Go.RowKit Go.Maps

attribute [local go_sem] Oper.semAt_some

end Go.Proofs.Ythogiakfbgehnaa

namespace Go.Proofs.Ythogiakfbgehnaa
open Go.RowKit Go.Maps

attribute [local go_sem] Oper.semAt_some

theorem ints_new (W : World) (l : List Int) (n : Nat) (hn : l.length = n) (hm : n ≤ maxLen) : Ints (W.alloc (.cells (l.map (Value.int .i64)).toArray 3)) (some ⟨W.heap.size, 0, none⟩) n l := allocs_vs [.cells (l.map (Value.int .i64)).toArray 3] W 0 _ _ rfl n (by rw [List.length_map]; exact hn) hm
end Go.Proofs.Ythogiakfbgehnaa

namespace Go.Proofs.Ythogiakfbgehnaa
open Go.RowKit Go.Maps

attribute [local go_sem] Oper.semAt_some

end Go.Proofs.Ythogiakfbgehnaa

namespace Go.Proofs.Ythogiakfbgehnaa
open Go.RowKit Go.Maps

attribute [local go_sem] Oper.semAt_some

end Go.Proofs.Ythogiakfbgehnaa

namespace Go.Proofs.Ythogiakfbgehnaa
open Go.RowKit Go.Maps

attribute [local go_sem] Oper.semAt_some

/-- The place that one has come to. -/
def PsR.pl {α : Type} : PsR α → Nat
  | .bad b _ => b
  | .ok _ b _ => b
end Go.Proofs.Ythogiakfbgehnaa

namespace Go.Proofs.Ythogiakfbgehnaa
open Go.RowKit Go.Maps

attribute [local go_sem] Oper.semAt_some

end Go.Proofs.Ythogiakfbgehnaa

namespace Go.Proofs.Ythogiakfbgehnaa
open Go.RowKit Go.Maps

attribute [local go_sem] Oper.semAt_some

/-- The tokens of trees, and their places, from the left. -/
def TrF.yt : TrF → List Int
  | .nil => []
  | .cons h kids rest => (if 0 ≤ h.k then [h.k] else kids.yt) ++ rest.yt
def TrF.ya : TrF → List Int
  | .nil => []
  | .cons h kids rest => (if 0 ≤ h.k then [h.a] else kids.ya) ++ rest.ya
def rngI (a b : Nat) : List Int := (List.range (b - a)).map (fun i => ((a + i : Nat) : Int))
theorem rngI_app {a b c : Nat} (h1 : a ≤ b) (h2 : b ≤ c) : rngI a b ++ rngI b c = rngI a c := by
  unfold rngI
  apply List.ext_getElem
  · simp only [List.length_append, List.length_map, List.length_range]; omega
  · intro i h3 h4
    simp only [List.length_append, List.length_map, List.length_range] at h3 h4
    by_cases hi : i < b - a
    · rw [List.getElem_append_left (by simpa using hi)]
      simp
    · rw [List.getElem_append_right (by simpa using hi)]
      simp only [List.getElem_map, List.getElem_range, List.length_map, List.length_range]
      omega
theorem cut_app {l : List Int} {a b c : Nat} (h1 : a ≤ b) (h2 : b ≤ c) : (l.drop a).take (b - a) ++ (l.drop b).take (c - b) = (l.drop a).take (c - a) := by
  rw [show c - a = (b - a) + (c - b) by omega, List.take_add, List.drop_drop]
  congr 3
  omega
end Go.Proofs.Ythogiakfbgehnaa

namespace Go.Proofs.Ythogiakfbgehnaa
open Go.RowKit Go.Maps

attribute [local go_sem] Oper.semAt_some

/-- The alternatives of trees' rules, from the left. -/
def TrF.st : TrF → List Int
  | .nil => []
  | .cons h kids rest => (if 0 ≤ h.k then [] else h.i :: kids.st) ++ rest.st
/-- These trees are these symbols', each node right, whatever number a token has. -/
def goodW (d : CfD) : TrF → List Int → Prop
  | .nil, ks => ks = []
  | .cons h kids rest, ks => ∃ ks', ks = h.k :: ks' ∧ ((0 ≤ h.k ∧ kids = .nil ∧ h.i = 0) ∨ (h.k < 0 ∧ h.a = 0 ∧ ∃ al, altD d h.k h.i = some al ∧ goodW d kids al.l)) ∧ goodW d rest ks'
theorem goodW_cons {d : CfD} {h : TrH} {kids rest : TrF} {ks : List Int} (hg : goodW d (.cons h kids rest) ks) : ∃ ks', ks = h.k :: ks' ∧ ((0 ≤ h.k ∧ kids = .nil ∧ h.i = 0) ∨ (h.k < 0 ∧ h.a = 0 ∧ ∃ al, altD d h.k h.i = some al ∧ goodW d kids al.l)) ∧ goodW d rest ks' := by
  unfold goodW at hg
  exact hg
/-- What was put, of these symbols, from one state to another. -/
structure GwT (d : CfD) (st : List Int) (f : TrF) (ks : List Int) (s a n s' a' n' : Nat) : Prop where
  s1 : s ≤ s'
  s2 : s' ≤ st.length
  st : f.st = (st.drop s).take (s' - s)
  a1 : a ≤ a'
  yt : f.yt.length = a' - a
  ya : f.ya = rngI a a'
  sz : f.size + n' = n
  gd : goodW d f ks
theorem GwT.nil (d : CfD) (st : List Int) {s a n : Nat} (hs : s ≤ st.length) : GwT d st .nil [] s a n s a n := ⟨Nat.le_refl _, hs, by simp [TrF.st], Nat.le_refl _, by simp [TrF.yt], by simp [TrF.ya, rngI], by simp [TrF.size], rfl⟩
theorem gwseq_t {d : CfD} {st : List Int} {f : Int → Nat → Nat → Nat → GwR Tre} (hf : ∀ k s a n t s' a' n', s ≤ st.length → f k s a n = .ok t s' a' n' → GwT d st (t.con .nil) [k] s a n s' a' n') : ∀ (ks : List Int) (s a n : Nat) {l s' a' n'}, s ≤ st.length → gwSeq f ks s a n = .ok l s' a' n' → GwT d st l ks s a n s' a' n'
  | [], s, a, n, l, s', a', n', hs, h => by
    unfold gwSeq at h
    injection h with h0 h1 h2 h3
    subst h0 h1 h2 h3
    exact GwT.nil d st hs
  | k :: ks, s, a, n, l, s', a', n', hs, h => by
    rw [gwseq_cons] at h
    cases e : f k s a n with
    | bad c x => rw [e] at h; cases h
    | ok x s2 a2 n2 =>
      rw [e] at h
      have h1 := hf k s a n x s2 a2 n2 hs e
      change (gwSeq f ks s2 a2 n2).bind _ = _ at h
      cases e2 : gwSeq f ks s2 a2 n2 with
      | bad c x => rw [e2] at h; cases h
      | ok l2 s3 a3 n3 =>
        rw [e2] at h
        have h2 := gwseq_t hf ks s2 a2 n2 h1.s2 e2
        change GwR.ok _ _ _ _ = _ at h
        injection h with h0 h3 h4 h5
        subst h0 h3 h4 h5
        have e1 : (x.con .nil).st ++ l2.st = (x.con l2).st := by simp only [Tre.con, TrF.st, List.append_nil]
        have e3 : (x.con .nil).yt ++ l2.yt = (x.con l2).yt := by simp only [Tre.con, TrF.yt, List.append_nil]
        have e4 : (x.con .nil).ya ++ l2.ya = (x.con l2).ya := by simp only [Tre.con, TrF.ya, List.append_nil]
        have g1 := h1.s1
        have g2 := h2.s1
        have g3 := h1.a1
        have g4 := h2.a1
        refine ⟨Nat.le_trans g1 g2, h2.s2, ?_, Nat.le_trans g3 g4, ?_, ?_, ?_, ?_⟩
        · rw [← e1, h1.st, h2.st, cut_app g1 g2]
        · rw [← e3, List.length_append, h1.yt, h2.yt]; omega
        · rw [← e4, h1.ya, h2.ya, rngI_app g3 g4]
        · have h6 := h1.sz
          have h7 := h2.sz
          simp only [Tre.con, TrF.size] at h6 ⊢
          omega
        · obtain ⟨ks', h8, h9, _⟩ := goodW_cons h1.gd
          injection h8 with h8 _
          unfold Tre.con goodW
          exact ⟨ks, by rw [h8], h9, h2.gd⟩
theorem gwput_t (d : CfD) (st : List Int) : ∀ (m : Nat) (k : Int) (s a n : Nat) {t s' a' n'}, s ≤ st.length → gwPut d st m k s a n = .ok t s' a' n' → GwT d st (t.con .nil) [k] s a n s' a' n'
  | 0, k, s, a, n, t, s', a', n', hs, h => by unfold gwPut at h; cases h
  | m + 1, k, s, a, n, t, s', a', n', hs, h => by
    unfold gwPut at h
    by_cases hn : n = 0
    · rw [if_pos hn] at h; cases h
    · rw [if_neg hn] at h
      by_cases hk : 0 ≤ k
      · rw [if_pos hk] at h
        injection h with h0 h1 h2 h3
        subst h0 h1 h2 h3
        refine ⟨Nat.le_refl _, hs, ?_, by omega, ?_, ?_, ?_, ?_⟩
        · simp [Tre.con, TrF.st, hk]
        · simp [Tre.con, TrF.yt, hk]
        · simp [Tre.con, TrF.ya, hk, rngI]
        · simp only [Tre.con, TrF.size]; omega
        · unfold Tre.con goodW
          exact ⟨[], rfl, .inl ⟨hk, rfl, rfl⟩, rfl⟩
      · rw [if_neg hk] at h
        cases e : st[s]? with
        | none => rw [e] at h; cases h
        | some i =>
          rw [e] at h
          dsimp only at h
          have hlt := (List.getElem?_eq_some_iff.1 e).1
          cases e2 : altD d k i with
          | none => rw [e2] at h; cases h
          | some al =>
            rw [e2] at h
            dsimp only at h
            cases e3 : gwSeq (gwPut d st m) al.l (s + 1) a (n - 1) with
            | bad c x => rw [e3] at h; cases h
            | ok l s2 a2 n2 =>
              rw [e3] at h
              have h2 := gwseq_t (fun k s a n t s' a' n' hs h => gwput_t d st m k s a n hs h) al.l (s + 1) a (n - 1) (by omega) e3
              change GwR.ok _ _ _ _ = _ at h
              injection h with h0 h3 h4 h5
              subst h0 h3 h4 h5
              have g1 := h2.s1
              refine ⟨by omega, h2.s2, ?_, h2.a1, ?_, ?_, ?_, ?_⟩
              · simp only [Tre.con, TrF.st, List.append_nil]
                rw [if_neg hk, h2.st, List.drop_eq_getElem_cons hlt, (List.getElem?_eq_some_iff.1 e).2, show s2 - s = (s2 - (s + 1)) + 1 by omega, List.take_succ_cons]
              · simp only [Tre.con, TrF.yt, List.append_nil]
                rw [if_neg hk]
                exact h2.yt
              · simp only [Tre.con, TrF.ya, List.append_nil]
                rw [if_neg hk]
                exact h2.ya
              · have h6 := h2.sz
                simp only [Tre.con, TrF.size]
                omega
              · unfold Tre.con goodW
                exact ⟨[], rfl, .inr ⟨show k < 0 by omega, rfl, al, e2, h2.gd⟩, rfl⟩
/-- A derivation has as many nodes as tokens and steps together. -/
theorem good_size {d : CfD} : ∀ {f : TrF} {ks : List Int}, goodW d f ks → f.size = f.yt.length + f.st.length
  | .nil, ks, _ => rfl
  | .cons h kids rest, ks, hg => by
    obtain ⟨ks', _, h2, h3⟩ := goodW_cons hg
    have h4 := good_size h3
    simp only [TrF.size, TrF.yt, TrF.st, List.length_append]
    rcases h2 with ⟨h5, rfl, _⟩ | ⟨h5, _, al, _, h6⟩
    · rw [if_pos h5, if_pos h5]
      simp only [TrF.size, List.length_singleton, List.length_nil]
      omega
    · have h7 := good_size h6
      rw [if_neg (by omega), if_neg (by omega), List.length_cons]
      omega
/-- What Grow makes. -/
theorem grow_t {d : CfD} {st : List Int} {t : Tre} {s a n : Nat} (h : gwGrow d st = .ok t s a n) : GwT d st (t.con .nil) [-1] 0 0 20000 s a n ∧ s = st.length := by
  unfold gwGrow at h
  cases e : gwPut d st 20000 (-1) 0 0 20000 with
  | bad c x => rw [e] at h; cases h
  | ok t2 s2 a2 n2 =>
    rw [e] at h
    change (if s2 < st.length then GwR.bad s2 110 else .ok t2 s2 a2 n2) = _ at h
    by_cases hs : s2 < st.length
    · rw [if_pos hs] at h; cases h
    · rw [if_neg hs] at h
      injection h with h0 h1 h2 h3
      subst h0 h1 h2 h3
      have h4 := gwput_t d st 20000 (-1) 0 0 20000 (Nat.zero_le _) e
      have := h4.s2
      exact ⟨h4, by omega⟩
end Go.Proofs.Ythogiakfbgehnaa

namespace Go.Proofs.Ythogiakfbgehnaa
open Go.RowKit Go.Shelf

attribute [local go_sem] Oper.semAt_some

/-- A node of the walk over a tree: how deep it stands, what it holds, how many it has. -/
structure NdT where
  d : Nat
  h : TrH
  kids : TrF
/-- What comes of a node: where p is set, nothing of a token. -/
def told (p : Bool) (h : TrH) (kids : TrF) : TrF := if p && decide (0 ≤ h.k) then .nil else kids
theorem told_size (p : Bool) (h : TrH) (kids : TrF) : (told p h kids).size ≤ kids.size := by
  unfold told
  split
  · exact Nat.zero_le _
  · exact Nat.le_refl _
/-- Trees and all that is in them, each ahead of its own list. -/
def TrF.pre (p : Bool) (d : Nat) : TrF → List NdT
  | .nil => []
  | .cons h kids rest => ⟨d, h, kids⟩ :: ((if p && decide (0 ≤ h.k) then [] else kids.pre p (d + 1)) ++ rest.pre p d)
theorem TrF.pre_cons (p : Bool) (d : Nat) (h : TrH) (kids rest : TrF) : (TrF.cons h kids rest).pre p d = ⟨d, h, kids⟩ :: ((told p h kids).pre p (d + 1) ++ rest.pre p d) := by
  unfold told
  show _ :: ((if p && decide (0 ≤ h.k) then [] else kids.pre p (d + 1)) ++ rest.pre p d) = _
  split <;> rfl
theorem TrF.pre_nil (p : Bool) (d : Nat) : (TrF.nil).pre p d = [] := rfl
theorem TrF.pre_le (p : Bool) (f : TrF) : ∀ d, (f.pre p d).length ≤ f.size := by
  induction f with
  | nil => intro d; exact Nat.le_refl _
  | cons h kids rest ihk ihr =>
    intro d
    show (_ :: ((if p && decide (0 ≤ h.k) then [] else kids.pre p (d + 1)) ++ rest.pre p d)).length ≤ kids.size + rest.size + 1
    have h1 := ihk (d + 1)
    have h2 := ihr d
    rw [List.length_cons, List.length_append]
    split
    · simp only [List.length_nil]; omega
    · omega
/-- What is still to come, where these lists are open, the innermost one first. -/
def remT (p : Bool) : List TrF → List NdT
  | [] => []
  | f :: fs => f.pre p (fs.length + 1) ++ remT p fs
/-- Rounds that are still to come. -/
def stepsT : List TrF → Nat
  | [] => 0
  | f :: fs => 2 * f.size + 1 + stepsT fs

/-- A node with the value of its list. -/
structure NxT where
  nd : NdT
  a : Option Addr
  cap : Nat

def encsT (x : NxT) : Array Value := #[.int .i64 (x.nd.d : Int), treV x.nd.h x.a x.nd.kids.len x.cap]

def GoodT (w0 : World) (all : List NdT) (pre : List NxT) : Prop := (∃ r, pre.map (·.nd) ++ r = all) ∧ ∀ x ∈ pre, TrS w0 (fun _ => True) x.a x.cap x.nd.kids
def FullT (all : List NdT) (pre : List NxT) : Prop := pre.map (·.nd) = all

/-- The types of the iterator's own rows. -/
def itTT (t : TypeId) : Bool := t == 49 || t == 51 || t == 135

/-- The function that tells an item's list, as a value. -/
abbrev inVT (fn : Nat) : Value := .func (.func fn) #[] #[]

/-- What the value of an open list leads to: items of the caller's, as they lay in w0; or the item itself, in the block R. -/
def EntT (w0 wr : World) (R : Nat) (v : Value) (f : TrF) : Prop :=
  (∃ a cap, v = .slice a f.len cap ∧ TrS w0 (fun _ => True) a cap f) ∨
  (∃ h kids ka kcap, f = .cons h kids .nil ∧ v = .slice (some ⟨R, 0, none⟩) 1 1 ∧ wr.heap[R]? = some (.cells #[.int .i64 h.k, .int .i64 h.i, .int .i64 h.a, .slice ka kids.len kcap] 51 (0, 0)) ∧ TrS w0 (fun _ => True) ka kcap kids)

def StkT (w0 wr : World) (R : Nat) : List TrF → List Value → Prop
  | [], [] => True
  | f :: fs, v :: vs => EntT w0 wr R v f ∧ StkT w0 wr R fs vs
  | _, _ => False

theorem EntT.turn {w0 wr wr' : World} {R : Nat} {v : Value} {f : TrF} (h : EntT w0 wr R v f) (hk : ∀ (cs : Array Value), wr.heap[R]? = some (.cells cs 51 (0, 0)) → wr'.heap[R]? = some (.cells cs 51 (0, 0))) : EntT w0 wr' R v f := by
  rcases h with h | ⟨h, kids, ka, kcap, e1, e2, e3, e4⟩
  · exact .inl h
  · exact .inr ⟨h, kids, ka, kcap, e1, e2, hk _ e3, e4⟩
theorem StkT.turn {w0 wr wr' : World} {R : Nat} (hk : ∀ (cs : Array Value), wr.heap[R]? = some (.cells cs 51 (0, 0)) → wr'.heap[R]? = some (.cells cs 51 (0, 0))) : ∀ (fs : List TrF) (vs : List Value), StkT w0 wr R fs vs → StkT w0 wr' R fs vs := by
  intro fs
  induction fs with
  | nil => intro vs h; cases vs with
    | nil => trivial
    | cons v vs => exact h.elim
  | cons f fs ih => intro vs h; cases vs with
    | nil => exact h.elim
    | cons v vs => exact ⟨h.1.turn hk, ih vs h.2⟩
theorem StkT.length {w0 wr : World} {R : Nat} : ∀ (fs : List TrF) (vs : List Value), StkT w0 wr R fs vs → vs.length = fs.length := by
  intro fs
  induction fs with
  | nil => intro vs h; cases vs with
    | nil => rfl
    | cons v vs => exact h.elim
  | cons f fs ih => intro vs h; cases vs with
    | nil => exact h.elim
    | cons v vs => simp [ih vs h.2]

/-- The first item of an open list, read in a world and in each one behind a round. -/
theorem EntT.first {n₀ : Nat} {w0 wr : World} {R : Nat} {v : Value} {h : TrH} {kids rest : TrF} (hw : Below w0.heap.size w0 wr) (hn₀ : n₀ = w0.heap.size) (he : EntT w0 wr R v (.cons h kids rest)) :
    ∃ b off cap ka kcap, v = .slice (some ⟨b, off, none⟩) (rest.len + 1) cap ∧ rest.len + 1 ≤ cap ∧ cap ≤ 9223372036854775807 ∧
      (∀ W', (W' = wr ∨ Spares n₀ itTT wr W') → W'.cell? ⟨b, off, none⟩ = some (.int .i64 h.k) ∧ W'.cell? ⟨b, off + 1, none⟩ = some (.int .i64 h.i) ∧ W'.cell? ⟨b, off + 2, none⟩ = some (.int .i64 h.a) ∧ W'.cell? ⟨b, off + 3, none⟩ = some (.slice ka kids.len kcap)) ∧
      (∀ (gg : Nat) (cur : Array Value), wr.heap[gg]? = some (.cells cur 49 (0, 0)) → w0.heap.size ≤ gg → b ≠ gg) ∧
      TrS w0 (fun _ => True) ka kcap kids ∧ TrS w0 (fun _ => True) (if cap = 1 then some ⟨b, off, none⟩ else some ⟨b, off + 4, none⟩) (cap - 1) rest := by
  subst hn₀
  rcases he with ⟨a, cap, rfl, hi⟩ | ⟨h', kids', ka, kcap, e1, rfl, e3, e4⟩
  · obtain ⟨b, off, rfl, _, h1, h2, h3, ⟨ka, kcap, h4, h5, h6, h7, h8⟩, h9⟩ := hi.at_ (by simp [TrF.len])
    have hle := hi.le
    simp only [TrF.len] at hle
    refine ⟨b, off, cap, ka, kcap, rfl, hle, hi.max, ?_, fun gg cur _ hgg => by have := World.block_lt_of_cell? w0 _ h1; simp only at this; omega, ⟨h5, h6, h7, h8⟩, ⟨by omega, by have := hi.max; omega, fun e => (by split at e <;> cases e), fun hr => ?_⟩⟩
    · have hc : ∀ W', (W' = wr ∨ Spares w0.heap.size itTT wr W') → ∀ o v, w0.cell? ⟨b, o, none⟩ = some v → W'.cell? ⟨b, o, none⟩ = some v := by
        intro W' hW o v hv
        have hlt := World.block_lt_of_cell? w0 _ hv
        rcases hW with rfl | hW
        · exact (hw.cell (p := ⟨b, o, none⟩) hlt).trans hv
        · exact ((hw.trans hW.below).cell (p := ⟨b, o, none⟩) hlt).trans hv
      exact fun W' hW => ⟨hc W' hW _ _ h1, hc W' hW _ _ h2, hc W' hW _ _ h3, hc W' hW _ _ h4⟩
    · rw [if_neg (by omega)]
      exact ⟨b, off + 4, rfl, trivial, h9⟩
  · cases e1
    refine ⟨R, 0, 1, ka, kcap, rfl, by simp [TrF.len], by omega, ?_, fun gg cur hgg _ e => by subst e; rw [e3] at hgg; simp at hgg, e4, ⟨by simp [TrF.len], by omega, fun e => (by split at e <;> cases e), fun hr => (by simp [TrF.len] at hr)⟩⟩
    intro W' hW
    have : W'.heap[R]? = some (.cells #[.int .i64 h.k, .int .i64 h.i, .int .i64 h.a, .slice ka kids.len kcap] 51 (0, 0)) := by
      rcases hW with rfl | hW
      · exact e3
      · exact hW.same R _ _ _ e3 (by decide)
    simp [World.cell?, this]

theorem info_itemsT : (Try.prog.info? 49).map (fun i => (i.zero, i.size, i.bytes)) = some (some (.slice none 0 0), 1, 24) := by kernel_rfl

/-- A list is put onto the row of open lists. -/
theorem run_pushT (w : World) (ty : TypeId) {base n cap : Nat} {a : Option Addr} {row : List Value} (v : Value) (hv : v.oneCell' = true) (hown : w.ownsRow base 49 1 (.slice a n cap) n row) (hn : n + 1 ≤ 1099511627780) (hbase : base ≤ w.heap.size) :
    ∃ a' cap' w', (Builtin.append_ #[189, 189] ty #[.slice a n cap, .slice (some ⟨w.heap.size, 0, none⟩) 1 1]).run Try.prog (w.alloc (.cells #[v] 49)) = .ok (.slice a' (n + 1) cap') w' ∧
      w'.ownsRow base 49 1 (.slice a' (n + 1) cap') (n + 1) (row ++ [v]) ∧ w.grownBy w' (Value.slice a n cap).ownBlock := by
  obtain ⟨i0, hi, hz0, hz1, hz2⟩ := info_parts info_itemsT
  obtain ⟨v', w', hrun, ho, hg, _⟩ := run_append_own (P := Try.prog) (w.alloc (.cells #[v] 49)) base 189 ty 49 i0 (.slice none 0 0) 1 24 Try.underlying189 hi hz0 hz1 hz2 rfl (by decide) _ n _ (hown.alloc _) ⟨w.heap.size, 0, none⟩ 1 1 [v] rfl (new_cell w v _) (by simpa using hv) (by unfold maxLen; omega) (by omega) (by simp; omega)
  obtain ⟨a', cap', rfl⟩ := slice_of_own ho
  exact ⟨a', cap', w', hrun, ho, grownBy_trans (World.grownBy_alloc w _ _) hg (fun i e => .inl e)⟩

/-- What holds at the head of each round. -/
def AllInvT (fn : Nat) (p : Bool) (Bi : Nat) (w0 W : World) (J : List NxT → World → Prop) (all : List NdT) (k : Nat) (o : Value) (wr : World) : Prop :=
  ∃ (fs : List TrF) (vs : List Value) (a : Option Addr) (cap : Nat) (pre : List NxT), k = stepsT fs ∧ o = .slice a fs.length cap ∧ wr.ownsRow W.heap.size 49 1 (.slice a fs.length cap) fs.length vs.reverse ∧
    StkT w0 wr W.heap.size fs vs ∧ J pre wr ∧ pre.map (·.nd) ++ remT p fs = all ∧ fs.length ≤ pre.length + 1 ∧ Below w0.heap.size w0 wr ∧ wr.heap[Bi]? = some (.cells #[inVT fn] 135 (0, 0)) ∧ (∀ x ∈ pre, TrS w0 (fun _ => True) x.a x.cap x.nd.kids)

/-- The invariant behind a round that has gone on. -/
theorem allInv_nextT {fn : Nat} {p : Bool} {TA : TrF} {Bi : Nat} {w0 W wr W3 w1 : World} {J : List NxT → World → Prop} {all : List NdT} {pre : List NxT} {h' : TrH} {kids' rest : TrF} {fs : List TrF} {vs : List Value} {g cap2 : Nat} {cur : Array Value} {ka' A2 : Option Addr} {kcap' : Nat} {x : NxT} {v' : Value} {row : List Value}
    (hvl : vs.length = fs.length) (hall : pre.map (·.nd) ++ remT p (.cons h' kids' rest :: fs) = all) (hst : StkT w0 wr W.heap.size fs vs) (hbl : Below w0.heap.size w0 wr) (hs3 : Spares w0.heap.size itTT wr W3)
    (hgc3 : W3.heap[g]? = some (.cells cur 49 (0, 0))) (hgb : W.heap.size ≤ g) (hz : w0.heap.size ≤ W.heap.size) (hj3 : J (pre ++ [x]) W3) (hJ : Bears W.heap.size itTT J) (hg : W3.grownBy w1 (some g))
    (hta : TA = told p h' kids') (hkk : TrS w0 (fun _ => True) ka' kcap' TA) (hrr : TrS w0 (fun _ => True) A2 (cap2 - 1) rest) (hx : x.nd = ⟨fs.length + 1, h', kids'⟩)
    (hrow : row = (vs.reverse ++ [.slice A2 rest.len (cap2 - 1)]) ++ [.slice ka' TA.len kcap'])
    {a : Option Addr} {cap : Nat} (hv : v' = .slice a (fs.length + 1 + 1) cap) (hown : w1.ownsRow W.heap.size 49 1 v' (fs.length + 1 + 1) row) (hlen : fs.length + 1 ≤ pre.length + 1)
    (hBi : wr.heap[Bi]? = some (.cells #[inVT fn] 135 (0, 0))) (hsp : ∀ y ∈ pre ++ [x], TrS w0 (fun _ => True) y.a y.cap y.nd.kids) :
    AllInvT fn p Bi w0 W J all (stepsT (TA :: rest :: fs)) v' w1 := by
  subst hv
  have hroot : ∀ (cs : Array Value), wr.heap[W.heap.size]? = some (.cells cs 51 (0, 0)) → w1.heap[W.heap.size]? = some (.cells cs 51 (0, 0)) := by
    intro cs hcs
    have h3 := hs3.same _ cs _ _ hcs (by decide)
    refine (hg.block _ (Array.getElem?_eq_some_iff.1 h3).1 (fun e => ?_)).trans h3
    cases e
    rw [hgc3] at h3
    simp at h3
  refine ⟨TA :: rest :: fs, .slice ka' TA.len kcap' :: .slice A2 rest.len (cap2 - 1) :: vs, a, cap, pre ++ [x], rfl, rfl, ?_, ⟨.inl ⟨_, _, rfl, hkk⟩, .inl ⟨_, _, rfl, hrr⟩, StkT.turn hroot _ _ hst⟩, ?_, ?_, ?_, ?_, ?_, hsp⟩
  · rw [hrow] at hown; simpa using hown
  · exact hJ _ W3 w1 (some g) hj3 hg (fun r e => by cases e; exact ⟨hgb, _, hgc3, .inr ⟨_, _, _, rfl, by decide⟩⟩)
  · rw [← hall]; simp [remT, TrF.pre_cons, hx, hta]
  · simp; omega
  · exact hbl.trans (hs3.below.trans ((Below.refl _ W3).grown hg (Nat.le_trans hbl.size hs3.below.size) (fun k e => by cases e; omega)))
  · have h3 := hs3.same _ _ _ _ hBi (by decide)
    refine (hg.block _ (Array.getElem?_eq_some_iff.1 h3).1 (fun e => ?_)).trans h3
    cases e
    rw [hgc3] at h3
    simp at h3

end Go.Proofs.Ythogiakfbgehnaa

