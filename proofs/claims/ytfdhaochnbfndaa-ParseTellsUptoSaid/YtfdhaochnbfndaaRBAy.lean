/- Texts joined: Fn Fo Fp Lb Fq Fr. -/
import Derived.Test.YtfdhaochnbfndaaRBAx
import Derived.Defers
import Derived.Recover
import Derived.WalkLawsBesides
import Derived.Test.YtfdhaochnbfndaaRBAr
import Derived.Test.YtfdhaochnbfndaaRBAk
import Derived.Maps.AppendAt
import Derived.Lib.SliceRun
set_option linter.unusedVariables false
set_option linter.unusedSimpArgs false
namespace Go.Proofs.Ytfdhaochnbfndaa
open Go.RowKit Go.Maps
attribute [local go_sem] Oper.semAt_some
theorem assert_refusal (W : World) (v : Value) : (Instr.typeAssert (.iface 152 v) 20 152 true).run Try.prog W = .ok (.tuple #[v, .bool true]) W := by kernel_rfl
set_option maxRecDepth 100000 in
set_option maxHeartbeats 400000 in
theorem tcatch_idle (pr pa pe : Nat) (w : World) :
 CallsD Try.prog 120 #[.pointer (some ⟨pr, 0, none⟩), .pointer (some ⟨pa, 0, none⟩), .pointer (some ⟨pe, 0, none⟩)] .returning w fun e u' w' => e = .returned (.tuple #[]) ∧ u' = .returning ∧ w' = w := by
 refine callsD_of_wpS Try.func120 rfl fun c₀ cs hu => ?_
 apply wpS_seq
 apply wpS_region
 simp [wpOpsS, go_sem, recoverD, hu, Try.ntmps120, Exit.thenS]
 refine wpS_of_wp ?_
 go_wp2_with (fail)
 cases c₀
 simp_all [bodyPostS, results, Try.results120]
set_option maxRecDepth 100000 in
set_option maxHeartbeats 4000000 in
theorem tcatch_panic (pr pa pe : Nat) (a x : Int) (v0 v1 v2 v3 v4 v5 : Value) (older : List PanicEntry) (w : World) (hr : Blk w pr 51 [v0, v1, v2, v3]) (ha : Blk w pa 3 [v4]) (he : Blk w pe 41 [v5]) (h1 : pr ≠ pa) (h2 : pr ≠ pe) (h3 : pa ≠ pe) :
 CallsD Try.prog 120 #[.pointer (some ⟨pr, 0, none⟩), .pointer (some ⟨pa, 0, none⟩), .pointer (some ⟨pe, 0, none⟩)] (.panicking ({ v := .iface 152 (.agg #[.int .i64 a, .int .i64 x]), recovered := false } :: older)) w fun e u' w' =>
  e = .returned (.tuple #[]) ∧ u' = .panicking ({ v := .iface 152 (.agg #[.int .i64 a, .int .i64 x]), recovered := true } :: older) ∧ Blk w' pr 51 [.int .i64 0, .int .i64 0, .int .i64 0, .slice none 0 0] ∧ Blk w' pa 3 [.int .i64 a] ∧ Blk w' pe 41 [.int .i64 x] ∧ (∀ B, B ≤ pr → B ≤ pa → B ≤ pe → B ≤ w.heap.size → Below B w w') := by
 have c0 := hr.cell 0
 have c1 := hr.cell 1
 have c2 := hr.cell 2
 have c3 := hr.cell 3
 have c4 := ha.cell 0
 have c5 := he.cell 0
 have f0 := hr.frozen 0
 have f1 := hr.frozen 1
 have f2 := hr.frozen 2
 have f3 := hr.frozen 3
 have f4 := ha.frozen 0
 have f5 := he.frozen 0
 have l0 := hr.lt
 have l1 := ha.lt
 have l2 := he.lt
 simp only [List.getElem?_cons_zero, List.getElem?_cons_succ] at c0 c1 c2 c3 c4 c5
 have hta := fun W => assert_refusal W (.agg #[.int .i64 a, .int .i64 x])
 refine callsD_of_wpS Try.func120 rfl fun c₀ cs hu => ?_
 apply wpS_seq
 apply wpS_region
 simp [wpOpsS, go_sem, recoverD, hu, Try.ntmps120, Exit.thenS]
 refine wpS_of_wp ?_
 simp only [Array.replicate_succ, Array.replicate_zero, List.push_toArray, List.setIfInBounds_toArray, List.set_cons_succ, List.set_cons_zero, List.append_toArray, List.cons_append, List.nil_append]
 clear hu
 have h1' : ¬ pa = pr := fun e => h1 e.symm
 have h2' : ¬ pe = pr := fun e => h2 e.symm
 have h3' : ¬ pe = pa := fun e => h3 e.symm
 go_wp2_with (fail)
 go_region
 all_goals
  go_wp2_with (fail)
  have hR := (((blk_put4 hr (.int .i64 0) (.int .i64 0) (.int .i64 0) (.slice none 0 0)).setOther (b' := pa) (j := 0) h1 (.int .i64 a)).setOther (b' := pe) (j := 0) h2 (.int .i64 x)).alloc (.cells #[.int .i64 a, .int .i64 x] 152)
  have hP := (((blk_oth4 ha h1' (.int .i64 0) (.int .i64 0) (.int .i64 0) (.slice none 0 0)).set 0 (.int .i64 a)).setOther (b' := pe) (j := 0) h3 (.int .i64 x)).alloc (.cells #[.int .i64 a, .int .i64 x] 152)
  have hE := (((blk_oth4 he h2' (.int .i64 0) (.int .i64 0) (.int .i64 0) (.slice none 0 0)).setOther (b' := pa) (j := 0) h3' (.int .i64 a)).set 0 (.int .i64 x)).alloc (.cells #[.int .i64 a, .int .i64 x] 152)
  have hZ : ∀ B, B ≤ pr → B ≤ pa → B ≤ pe → B ≤ w.heap.size → Below B w (((((((w.setCell ⟨pr, 0, none⟩ (.int .i64 0)).setCell ⟨pr, 1, none⟩ (.int .i64 0)).setCell ⟨pr, 2, none⟩ (.int .i64 0)).setCell ⟨pr, 3, none⟩ (.slice none 0 0)).setCell ⟨pa, 0, none⟩ (.int .i64 a)).setCell ⟨pe, 0, none⟩ (.int .i64 x)).alloc (.cells #[.int .i64 a, .int .i64 x] 152)) := fun B b1 b2 b3 b4 => by
   have h6 := ((((((Below.refl B w).setCell (p := ⟨pr, 0, none⟩) b1 (.int .i64 0)).setCell (p := ⟨pr, 1, none⟩) b1 (.int .i64 0)).setCell (p := ⟨pr, 2, none⟩) b1 (.int .i64 0)).setCell (p := ⟨pr, 3, none⟩) b1 (.slice none 0 0)).setCell (p := ⟨pa, 0, none⟩) b2 (.int .i64 a)).setCell (p := ⟨pe, 0, none⟩) b3 (.int .i64 x)
   exact h6.alloc (Nat.le_trans b4 h6.size) _
  generalize World.alloc _ _ = X at hR hP hE hZ ⊢
  have hdr := (Below.refl X.heap.size X).drew
  have hR2 := hR.below hdr hR.lt
  have hP2 := hP.below hdr hP.lt
  have hE2 := hE.below hdr hE.lt
  have hZ2 : ∀ B, B ≤ pr → B ≤ pa → B ≤ pe → B ≤ w.heap.size → Below B w X.drew := fun B b1 b2 b3 b4 => (hZ B b1 b2 b3 b4).drew
  generalize X.drew = WF at hR2 hP2 hE2 hZ2 ⊢
  simp [bodyPostS, results, Try.results120]
  exact ⟨hR2, hP2, hE2, hZ2⟩
end Go.Proofs.Ytfdhaochnbfndaa
namespace Go.Proofs.Ytfdhaochnbfndaa
open Go.RowKit Go.Maps
attribute [local go_sem] Oper.semAt_some
/-- What all tokens come to. -/
def psTree (G : PsG) : PsR Tre := (psPut G 20000 (-1) 0 20000).bind fun x a n => if a < G.toks.length then .bad a 110 else .ok x 0 0
/-- What is answered: a tree, or where, and why there is none. -/
def TreQ (w : World) (r : PsR Tre) (e : Ending) (W : World) : Prop :=
 Below w.heap.size w W ∧ match r with
 | .bad b x => e = .returned (.tuple #[treV ⟨0, 0, 0⟩ none 0 0, .int .i64 (b : Int), .int .i64 x])
 | .ok t _ _ => ∃ ga gc, e = .returned (.tuple #[treV ⟨t.k, t.i, t.a⟩ ga t.l.len gc, .int .i64 0, .int .i64 0]) ∧ TrS W (fun b => w.heap.size ≤ b) ga gc t.l
theorem make_runT (fn : Fn) (first cap : Array Value) (w : World) : (Instr.makeFunc fn first cap).run Try.prog w = .ok (.func fn first cap) w := rfl
set_option maxRecDepth 100000 in
set_option maxHeartbeats 16000000 in
theorem treeOf_any (d : CfD) (ta : Option Addr) (tc : Nat) (tbs : List IltD) (ka : Option Addr) (kc : Nat) (toks : List Int) (w : World) (hE : PrE w d ta tc tbs ka kc toks) :
 Calls Try.prog 88 #[d.v, .slice ta tbs.length tc, .slice ka toks.length kc] w (TreQ w (psTree (gOf d tbs toks))) := by
 obtain ⟨Q, hQ⟩ : ∃ Q : Ending → World → Prop, Hid (TreQ w (psTree (gOf d tbs toks)) = Q) := ⟨_, Lib.hid rfl⟩
 rw [hQ.out]
 have HQB : Hid (∀ (b : Nat) x, psTree (gOf d tbs toks) = .bad b x → ∀ W, Below w.heap.size w W → Q (.returned (.tuple #[treV ⟨0, 0, 0⟩ none 0 0, .int .i64 (b : Int), .int .i64 x])) W) := Lib.hid (fun b x h W hb => by rw [← hQ.out, h]; exact ⟨hb, rfl⟩)
 have HQO : Hid (∀ (t : Tre) a n, psTree (gOf d tbs toks) = .ok t a n → ∀ W ga gc, Below w.heap.size w W → TrS W (fun b => w.heap.size ≤ b) ga gc t.l → Q (.returned (.tuple #[treV ⟨t.k, t.i, t.a⟩ ga t.l.len gc, .int .i64 0, .int .i64 0])) W) := Lib.hid (fun t a n h W ga gc hb ht => by rw [← hQ.out, h]; exact ⟨hb, ga, gc, rfl, ht⟩)
 clear hQ
 have hmf := make_runT
 have hkm : toks.length ≤ kc ∧ kc ≤ 9223372036854775807 := ⟨by have := hE.ge.gk.le; rw [List.length_map] at this; exact this, hE.ge.gk.max⟩
 have hR5 := (((Blk.new (w.alloc (.cells #[.slice d.ta d.toks.length d.tc, .slice d.na d.names.length d.nc, .slice d.aa d.alts.length d.ac] 25)) 51 #[.int .i64 (-1), .int .i64 0, .int .i64 0, .slice none 0 0]).alloc (.cells #[.int .i64 0] 3)).alloc (.cells #[.int .i64 0] 41)).alloc (.cells #[.slice d.ta d.toks.length d.tc, .slice d.na d.names.length d.nc, .slice d.aa d.alts.length d.ac, .slice ta tbs.length tc, .slice ka toks.length kc, .int .i64 0, .int .i64 0, .slice none 0 0] 155)
 have hP5 := ((Blk.new ((w.alloc (.cells #[.slice d.ta d.toks.length d.tc, .slice d.na d.names.length d.nc, .slice d.aa d.alts.length d.ac] 25)).alloc (.cells #[.int .i64 (-1), .int .i64 0, .int .i64 0, .slice none 0 0] 51)) 3 #[.int .i64 0]).alloc (.cells #[.int .i64 0] 41)).alloc (.cells #[.slice d.ta d.toks.length d.tc, .slice d.na d.names.length d.nc, .slice d.aa d.alts.length d.ac, .slice ta tbs.length tc, .slice ka toks.length kc, .int .i64 0, .int .i64 0, .slice none 0 0] 155)
 have hE5 := (Blk.new (((w.alloc (.cells #[.slice d.ta d.toks.length d.tc, .slice d.na d.names.length d.nc, .slice d.aa d.alts.length d.ac] 25)).alloc (.cells #[.int .i64 (-1), .int .i64 0, .int .i64 0, .slice none 0 0] 51)).alloc (.cells #[.int .i64 0] 3)) 41 #[.int .i64 0]).alloc (.cells #[.slice d.ta d.toks.length d.tc, .slice d.na d.names.length d.nc, .slice d.aa d.alts.length d.ac, .slice ta tbs.length tc, .slice ka toks.length kc, .int .i64 0, .int .i64 0, .slice none 0 0] 155)
 have hB5 := Blk.new ((((w.alloc (.cells #[.slice d.ta d.toks.length d.tc, .slice d.na d.names.length d.nc, .slice d.aa d.alts.length d.ac] 25)).alloc (.cells #[.int .i64 (-1), .int .i64 0, .int .i64 0, .slice none 0 0] 51)).alloc (.cells #[.int .i64 0] 3)).alloc (.cells #[.int .i64 0] 41)) 155 #[.slice d.ta d.toks.length d.tc, .slice d.na d.names.length d.nc, .slice d.aa d.alts.length d.ac, .slice ta tbs.length tc, .slice ka toks.length kc, .int .i64 0, .int .i64 0, .slice none 0 0]
 have hb5 : Below w.heap.size w (((((w.alloc (.cells #[.slice d.ta d.toks.length d.tc, .slice d.na d.names.length d.nc, .slice d.aa d.alts.length d.ac] 25)).alloc (.cells #[.int .i64 (-1), .int .i64 0, .int .i64 0, .slice none 0 0] 51)).alloc (.cells #[.int .i64 0] 3)).alloc (.cells #[.int .i64 0] 41)).alloc (.cells #[.slice d.ta d.toks.length d.tc, .slice d.na d.names.length d.nc, .slice d.aa d.alts.length d.ac, .slice ta tbs.length tc, .slice ka toks.length kc, .int .i64 0, .int .i64 0, .slice none 0 0] 155)) := (((((Below.refl _ w).alloc (Nat.le_refl _) _).alloc (by simp) _).alloc (by simp; omega) _).alloc (by simp; omega) _).alloc (by simp; omega) _
 simp only [World.size_alloc] at hR5 hP5 hE5 hB5
 have hpa := putAll_any w d ta tc tbs ka kc toks hE (w.heap.size + 1 + 1 + 1 + 1) (w.heap.size + 1) _ hb5 (by omega) (by omega) hB5 hR5 (by omega)
 have HR5 := Lib.hid hR5
 have HP5 := Lib.hid hP5
 have HE5 := Lib.hid hE5
 have Hb5 := Lib.hid hb5
 have Hpa := Lib.hid hpa
 have Hkm := Lib.hid hkm
 clear hR5 hP5 hE5 hB5 hb5 hpa
 go_enter_defers Try.func88, Try.ntmps88
 go_wp2_with (fail)
 generalize World.alloc _ _ = W5 at HR5 HP5 HE5 Hb5 Hpa ⊢
 refine Hpa.out.mono ?_
 intro e6 w6 h6
 obtain ⟨hk6, h6⟩ := h6
 have Hb6 : Hid (Below w.heap.size w w6) := Lib.hid (Hb5.out.trans (hk6.below Hb5.out.size (fun b e => by rcases e with rfl | rfl <;> omega)))
 have HP6 : Hid (Blk w6 (w.heap.size + 1 + 1) 3 [.int .i64 0]) := Lib.hid ((hk6.block _ HP5.out.lt (by omega)).trans HP5.out)
 have HE6 : Hid (Blk w6 (w.heap.size + 1 + 1 + 1) 41 [.int .i64 0]) := Lib.hid ((hk6.block _ HE5.out.lt (by omega)).trans HE5.out)
 cases hr : psPut (gOf d tbs toks) 20000 (-1) 0 20000 with
 | bad b x =>
  rw [hr] at h6
  obtain ⟨rfl, v0, v1, v2, v3, hR6⟩ := h6
  have HT : Hid (psTree (gOf d tbs toks) = .bad b x) := Lib.hid (by unfold psTree; rw [hr]; rfl)
  clear hr hk6 Hpa HR5 HP5 HE5 Hb5
  unfold refuP
  go_wp2_with (fail)
  refine leaves_cons (f := 120) (args := #[.pointer (some ⟨w.heap.size + 1, 0, none⟩), .pointer (some ⟨w.heap.size + 1 + 1, 0, none⟩), .pointer (some ⟨w.heap.size + 1 + 1 + 1, 0, none⟩)]) (by simp) (by simp [go_sem]) ?_
  refine (tcatch_panic (w.heap.size + 1) (w.heap.size + 1 + 1) (w.heap.size + 1 + 1 + 1) (b : Int) x _ _ _ _ _ _ [] w6 hR6 HP6.out HE6.out (by omega) (by omega) (by omega)).mono ?_
  rintro e u' w7 ⟨rfl, rfl, hR7, hP7, hE7, hZ⟩
  have HF := HQB.out b x HT.out w7 (Hb6.out.trans (hZ w.heap.size (by omega) (by omega) (by omega) Hb6.out.size))
  have g0 := hR7.cell 0
  have g1 := hR7.cell 1
  have g2 := hR7.cell 2
  have g3 := hR7.cell 3
  have g4 := hP7.cell 0
  have g5 := hE7.cell 0
  simp only [List.getElem?_cons_zero, List.getElem?_cons_succ] at g0 g1 g2 g3 g4 g5
  simp [Leaves, settle, results, Try.results88, go_sem, g0, g1, g2, g3, g4, g5]
  exact HF
 | ok t b q =>
  rw [hr] at h6
  obtain ⟨rfl, oa, oc, ga, gc, hEn⟩ := h6
  obtain ⟨tk, ti, tA, tl⟩ := t
  have hB6 := hEn.blk
  have hR6 := hEn.box
  have hT6 := hEn.kid
  dsimp only at hB6 hR6 hT6
  have hbk := put_at (gOf d tbs toks) 20000 (-1) 0 20000 (Nat.zero_le _) hr
  change b ≤ toks.length at hbk
  have HR := Lib.hid hr
  have HT6 := Lib.hid hT6
  have HR6 := Lib.hid hR6
  have HB6 := Lib.hid hB6
  have y5 := hB6.cell 5
  have yl := hB6.lt
  simp only [List.getElem?_cons_zero, List.getElem?_cons_succ] at y5
  have Hbs := Lib.hid Hb5.out.size
  have Hlt5 := Lib.hid HE5.out.lt
  clear hr hk6 Hpa HR5 HP5 HE5 hB6 hR6 hT6 hEn
  by_cases hlt : b < toks.length
  ·have hltI : (b : Int) < (toks.length : Int) := by omega
   have HT : Hid (psTree (gOf d tbs toks) = .bad b 110) := Lib.hid (by unfold psTree; rw [HR.out]; show (if b < toks.length then _ else _) = _; rw [if_pos hlt])
   go_wp2_with (fail)
   refine (giveUp_any (w.heap.size + 1 + 1 + 1 + 1) _ _ _ _ _ _ _ (b : Int) 110 _ HB6.out).mono ?_
   rintro e9 w9 ⟨rfl, rfl⟩
   unfold refuP
   go_wp2_with (fail)
   refine leaves_cons (f := 120) (args := #[.pointer (some ⟨w.heap.size + 1, 0, none⟩), .pointer (some ⟨w.heap.size + 1 + 1, 0, none⟩), .pointer (some ⟨w.heap.size + 1 + 1 + 1, 0, none⟩)]) (by simp) (by simp [go_sem]) ?_
   refine (tcatch_panic (w.heap.size + 1) (w.heap.size + 1 + 1) (w.heap.size + 1 + 1 + 1) (b : Int) 110 _ _ _ _ _ _ [] w9 HR6.out HP6.out HE6.out (by omega) (by omega) (by omega)).mono ?_
   rintro e u' w7 ⟨rfl, rfl, hR7, hP7, hE7, hZ⟩
   have HF := HQB.out b 110 HT.out w7 (Hb6.out.trans (hZ w.heap.size (by omega) (by omega) (by omega) Hb6.out.size))
   have g0 := hR7.cell 0
   have g1 := hR7.cell 1
   have g2 := hR7.cell 2
   have g3 := hR7.cell 3
   have g4 := hP7.cell 0
   have g5 := hE7.cell 0
   simp only [List.getElem?_cons_zero, List.getElem?_cons_succ] at g0 g1 g2 g3 g4 g5
   simp [Leaves, settle, results, Try.results88, go_sem, g0, g1, g2, g3, g4, g5]
   exact HF
  ·have hltI : ¬ (b : Int) < (toks.length : Int) := by omega
   have HT : Hid (psTree (gOf d tbs toks) = .ok ⟨tk, ti, tA, tl⟩ 0 0) := Lib.hid (by unfold psTree; rw [HR.out]; show (if b < toks.length then _ else _) = _; rw [if_neg hlt])
   obtain ⟨tn, htn⟩ : ∃ q, Hid (tl.len = q) := ⟨_, Lib.hid rfl⟩
   rw [htn.out] at HR6
   have r0 := HR6.out.cell 0
   have r1 := HR6.out.cell 1
   have r2 := HR6.out.cell 2
   have r3 := HR6.out.cell 3
   have f0 := HR6.out.frozen 0
   have f1 := HR6.out.frozen 1
   have f2 := HR6.out.frozen 2
   have f3 := HR6.out.frozen 3
   have p0 := HP6.out.cell 0
   have pf := HP6.out.frozen 0
   have e0 := HE6.out.cell 0
   have ef := HE6.out.frozen 0
   have rl := HR6.out.lt
   have ql := HP6.out.lt
   have el := HE6.out.lt
   simp only [List.getElem?_cons_zero, List.getElem?_cons_succ] at r0 r1 r2 r3 p0 e0
   go_wp2_with (fail)
   have hR9 := ((blk_put4 HR6.out (.int .i64 tk) (.int .i64 ti) (.int .i64 tA) (.slice ga tn gc)).setOther (b' := w.heap.size + 1 + 1) (j := 0) (by omega) (.int .i64 0)).setOther (b' := w.heap.size + 1 + 1 + 1) (j := 0) (by omega) (.int .i64 0)
   have hP9 := ((blk_oth4 HP6.out (b' := w.heap.size + 1) (by omega) (.int .i64 tk) (.int .i64 ti) (.int .i64 tA) (.slice ga tn gc)).set 0 (.int .i64 0)).setOther (b' := w.heap.size + 1 + 1 + 1) (j := 0) (by omega) (.int .i64 0)
   have hE9 := ((blk_oth4 HE6.out (b' := w.heap.size + 1) (by omega) (.int .i64 tk) (.int .i64 ti) (.int .i64 tA) (.slice ga tn gc)).setOther (b' := w.heap.size + 1 + 1) (j := 0) (by omega) (.int .i64 0)).set 0 (.int .i64 0)
   have hK9 : KeB (fun b => w.heap.size ≤ b ∧ b ≤ w.heap.size + 1 + 1 + 1) w6 ((((((w6.setCell ⟨w.heap.size + 1, 0, none⟩ (.int .i64 tk)).setCell ⟨w.heap.size + 1, 1, none⟩ (.int .i64 ti)).setCell ⟨w.heap.size + 1, 2, none⟩ (.int .i64 tA)).setCell ⟨w.heap.size + 1, 3, none⟩ (.slice ga tn gc)).setCell ⟨w.heap.size + 1 + 1, 0, none⟩ (.int .i64 0)).setCell ⟨w.heap.size + 1 + 1 + 1, 0, none⟩ (.int .i64 0)) :=
    (((((KeB.set w6 ⟨w.heap.size + 1, 0, none⟩ _ (by constructor <;> (dsimp only; omega))).trans (KeB.set _ ⟨w.heap.size + 1, 1, none⟩ _ (by constructor <;> (dsimp only; omega)))).trans (KeB.set _ ⟨w.heap.size + 1, 2, none⟩ _ (by constructor <;> (dsimp only; omega)))).trans (KeB.set _ ⟨w.heap.size + 1, 3, none⟩ _ (by constructor <;> (dsimp only; omega)))).trans (KeB.set _ ⟨w.heap.size + 1 + 1, 0, none⟩ _ (by constructor <;> (dsimp only; omega)))).trans (KeB.set _ ⟨w.heap.size + 1 + 1 + 1, 0, none⟩ _ (by constructor <;> (dsimp only; omega)))
   refine leaves_cons (f := 120) (args := #[.pointer (some ⟨w.heap.size + 1, 0, none⟩), .pointer (some ⟨w.heap.size + 1 + 1, 0, none⟩), .pointer (some ⟨w.heap.size + 1 + 1 + 1, 0, none⟩)]) (by simp) (by simp [go_sem]) ?_
   refine (tcatch_idle (w.heap.size + 1) (w.heap.size + 1 + 1) (w.heap.size + 1 + 1 + 1) _).mono ?_
   rintro e u' w9 ⟨rfl, rfl, rfl⟩
   generalize World.setCell _ _ _ = WF at hR9 hP9 hE9 hK9 ⊢
   have hT9 := (trs_keb HT6.out hK9 (fun b hb e => by have := Hlt5.out; have hb : W5.heap.size ≤ b := hb; omega)).imp (Q := fun b => w.heap.size ≤ b) (fun b hb _ => by have := Hbs.out; have hb : W5.heap.size ≤ b := hb; omega)
   have HF := HQO.out ⟨tk, ti, tA, tl⟩ 0 0 HT.out WF ga gc (Hb6.out.trans (hK9.below Hb6.out.size (fun b e => e.1))) hT9
   dsimp only at HF
   rw [htn.out] at HF
   have g0 := hR9.cell 0
   have g1 := hR9.cell 1
   have g2 := hR9.cell 2
   have g3 := hR9.cell 3
   have g4 := hP9.cell 0
   have g5 := hE9.cell 0
   simp only [List.set_cons_zero, List.getElem?_cons_zero, List.getElem?_cons_succ] at g0 g1 g2 g3 g4 g5
   simp [Leaves, settle, results, Try.results88, go_sem, g0, g1, g2, g3, g4, g5]
   exact HF
end Go.Proofs.Ytfdhaochnbfndaa
namespace Go.Proofs.Ytfdhaochnbfndaa
open Go.RowKit Go.Maps
attribute [local go_sem] Oper.semAt_some
/-- The first number that is no token's. -/
def firstB (T : Nat) : List Int → Option Nat
 | [] => none
 | k :: ks => if k < 0 ∨ (T : Int) ≤ k then some 0 else (firstB T ks).map (fun i => i + 1)
def idxI : Option Nat → Int
 | none => -1
 | some i => (i : Int)
def badTk (T : Nat) (k : Int) : Bool := decide (k < 0 ∨ (T : Int) ≤ k)
theorem firstB_none {T : Nat} : ∀ {l : List Int}, firstB T l = none → ∀ x ∈ l, 0 ≤ x ∧ x < (T : Int)
 | [], _, x, hx => by cases hx
 | k :: ks, h, x, hx => by
  unfold firstB at h
  by_cases hk : k < 0 ∨ (T : Int) ≤ k
  ·rw [if_pos hk] at h; cases h
  ·rw [if_neg hk, Option.map_eq_none_iff] at h
   rcases List.mem_cons.1 hx with rfl | hx
   ·omega
   ·exact firstB_none h x hx
theorem firstB_step {T : Nat} {l : List Int} {k : Nat} (hk : k < l.length) (h : firstB T l = (firstB T (l.drop k)).map (fun i => i + k)) : (badTk T l[k] = true → firstB T l = some k) ∧ (badTk T l[k] = false → firstB T l = (firstB T (l.drop (k + 1))).map (fun i => i + (k + 1))) := by
 rw [List.drop_eq_getElem_cons hk, firstB] at h
 constructor
 ·intro hb
  rw [if_pos (of_decide_eq_true hb)] at h
  rw [h]
  simp
 ·intro hb
  rw [if_neg (of_decide_eq_false hb)] at h
  rw [h, Option.map_map]
  congr 1
  funext i
  simp only [Function.comp]
  omega
set_option maxRecDepth 100000 in
set_option maxHeartbeats 16000000 in
theorem clos_any (bc T tc : Nat) (ta : Option Addr) (v1 v2 : Value) (k : Int) (w : World) (hB : Blk w bc 25 [.slice ta T tc, v1, v2]) :
 Calls Try.prog 87 #[.int .i64 k, .pointer (some ⟨bc, 0, none⟩)] w fun e w' => e = .returned (.bool (badTk T k)) ∧ w' = w := by
 have y0 := hB.cell 0
 have yl := hB.lt
 simp only [List.getElem?_cons_zero] at y0
 by_cases h1 : k < 0
 ·have HT : Hid (badTk T k = true) := Lib.hid (decide_eq_true (.inl h1))
  rw [HT.out]
  go_enter Try.func87, Try.ntmps87
  go_wp2_with (fail)
  first | exact ⟨rfl, rfl⟩ | exact bodyPost_ret (v := .bool true) (by simp [results, Try.results87, go_sem]; try first | rfl | assumption | omega) rfl ⟨rfl, rfl⟩
 ·by_cases h2 : (T : Int) ≤ k
  ·have HT : Hid (badTk T k = true) := Lib.hid (decide_eq_true (.inr h2))
   rw [HT.out]
   go_enter Try.func87, Try.ntmps87
   go_wp2_with (fail)
   first | exact ⟨rfl, rfl⟩ | exact bodyPost_ret (v := .bool true) (by simp [results, Try.results87, go_sem]; try first | rfl | assumption | omega) rfl ⟨rfl, rfl⟩
  ·have HT : Hid (badTk T k = false) := Lib.hid (decide_eq_false (fun e => by rcases e with e | e; exact h1 e; exact h2 e))
   rw [HT.out]
   go_enter Try.func87, Try.ntmps87
   go_wp2_with (fail)
   first | exact ⟨rfl, rfl⟩ | exact bodyPost_ret (v := .bool false) (by simp [results, Try.results87, go_sem]; try first | rfl | assumption | omega) rfl ⟨rfl, rfl⟩
set_option maxRecDepth 100000 in
set_option maxHeartbeats 16000000 in
theorem index_any (bc T tc : Nat) (ta : Option Addr) (v1 v2 : Value) (l : List Int) (a : Option Addr) (cap : Nat) (w : World) (hB : Blk w bc 25 [.slice ta T tc, v1, v2]) (hl : Ints w a cap l) :
 Calls Try.prog 86 #[.slice a l.length cap, .func (.func 87) #[] #[.pointer (some ⟨bc, 0, none⟩)]] w fun r w' => r = .returned (.int .i64 (idxI (firstB T l))) ∧ Below w.heap.size w w' := by
 have hlm : l.length ≤ cap ∧ cap ≤ 9223372036854775807 := ⟨by have := hl.le; rw [List.length_map] at this; exact this, hl.max⟩
 obtain ⟨L, HL⟩ : ∃ L, Hid (l.length = L) := ⟨_, Lib.hid rfl⟩
 rw [HL.out] at hlm ⊢
 obtain ⟨R, hR⟩ : ∃ R, Hid (firstB T l = R) := ⟨_, Lib.hid rfl⟩
 obtain ⟨V, hV⟩ : ∃ V, Hid (idxI R = V) := ⟨_, Lib.hid rfl⟩
 rw [hR.out, hV.out]
 have HB := Lib.hid hB
 have Hl := Lib.hid hl
 clear hB hl
 go_enter Try.func86, Try.ntmps86
 go_wp2_with (fail)
 go_loopw [5, 8] (fun _ iv wr => ∃ k : Nat, k ≤ L ∧ iv = .int .i64 (k : Int) ∧ Hid (R = (firstB T (l.drop k)).map (fun i => i + k)) ∧ Below w.heap.size w wr) (fun _ iv _ => L - (RowKit.intOf iv).toNat)
 case atStart => exact ⟨0, Nat.zero_le _, rfl, Lib.hid (by rw [← hR.out, List.drop_zero]; simp), Below.refl _ _⟩
 case round =>
  obtain ⟨k, hk, rfl, HR, hbr⟩ := hrel
  by_cases hlt : k < L
  ·have hkI : (k : Int) < (L : Int) := by omega
   have hkI0 : (0 : Int) ≤ (k : Int) := by omega
   have hkl : k < l.length := by rw [HL.out]; exact hlt
   obtain ⟨b, off, hb⟩ := Hl.out.at_ k (by rw [List.length_map]; exact hkl)
   have c0 := (Hl.out.grown hbr).cell b off hb k (by rw [List.length_map]; exact hkl)
   rw [List.getElem_map] at c0
   have Hst := Lib.hid (firstB_step (T := T) hkl (by rw [hR.out]; exact HR.out))
   obtain ⟨x, hx⟩ : ∃ v, Hid (l[k]'hkl = v) := ⟨_, Lib.hid rfl⟩
   rw [hx.out] at c0 Hst
   have hbl := World.block_lt_of_cell? wr _ c0
   have Hc := Lib.hid (clos_any bc T tc ta v1 v2 x wr (HB.out.below hbr HB.out.lt))
   obtain ⟨S, hS⟩ : ∃ S, Hid (badTk T x = S) := ⟨_, Lib.hid rfl⟩
   rw [hS.out] at Hc Hst
   subst hb
   go_wp2_with (fail)
   refine Hc.out.mono ?_
   rintro r w3 ⟨rfl, rfl⟩
   cases S
   ·have Hn := Lib.hid (Hst.out.2 rfl)
    go_wp2_with (fail)
    exact ⟨⟨k + 1, by omega, by go_num, Lib.hid (by rw [← hR.out]; exact Hn.out), hbr⟩, by simp [RowKit.intOf]; omega⟩
   ·have HF : Hid (V = (k : Int)) := Lib.hid (by rw [← hV.out, ← hR.out, Hst.out.1 rfl]; rfl)
    go_wp2_with (fail)
    exact bodyPost_ret (v := .int .i64 (k : Int)) (by simp [results, Try.results86, go_sem]; try first | rfl | assumption | omega) rfl ⟨by rw [HF.out], hbr⟩
  ·obtain rfl : k = L := by omega
   have hkI : ¬ (k : Int) < (k : Int) := by omega
   have HF : Hid (V = -1) := Lib.hid (by rw [← hV.out, HR.out, List.drop_eq_nil_of_le (by rw [HL.out]; exact Nat.le_refl _)]; rfl)
   go_wp2_with (fail)
   exact bodyPost_ret (v := .int .i64 (-1)) (by simp [results, Try.results86, go_sem]; try first | rfl | assumption | omega) rfl ⟨by rw [HF.out], hbr⟩
/-- What is parsed by, whatever the tokens are. -/
structure PrF (W0 : World) (d : CfD) (ta : Option Addr) (tc : Nat) (tbs : List IltD) (ka : Option Addr) (kc : Nat) (toks : List Int) : Prop where
 gd : CfAt W0 d
 gt : AltsI W0 ta tc tbs
 gk : Ints W0 ka kc toks
 rng : ∀ r ∈ d.alts, ∀ a ∈ r.ds, ∀ x ∈ a.l, -9223372036854775808 ≤ x ∧ x ≤ 9223372036854775807
 trg : ∀ t ∈ tbs, ∀ x ∈ t.l, -9223372036854775808 ≤ x ∧ x ≤ 9223372036854775807
 srg : ∀ r ∈ d.alts, ∀ a ∈ r.ds, a.l.length ≤ 30 ∧ ∀ x ∈ a.l, -9223372036854775807 ≤ x
theorem PrF.grown {W0 W1 : World} {d : CfD} {ta ka : Option Addr} {tc kc : Nat} {tbs : List IltD} {toks : List Int} (h : PrF W0 d ta tc tbs ka kc toks) (hb : Below W0.heap.size W0 W1) : PrF W1 d ta tc tbs ka kc toks := ⟨h.gd.grown hb, h.gt.grown hb, h.gk.grown hb, h.rng, h.trg, h.srg⟩
theorem PrF.pre {W0 : World} {d : CfD} {ta ka : Option Addr} {tc kc : Nat} {tbs : List IltD} {toks : List Int} (h : PrF W0 d ta tc tbs ka kc toks) (hn : firstB d.toks.length toks = none) : PrE W0 d ta tc tbs ka kc toks :=
 ⟨⟨h.gd, h.gt, h.gk, fun x hx => (firstB_none hn x hx).1, h.rng⟩, h.trg, h.srg, fun x hx => by
  have h1 := (firstB_none hn x hx).2
  have h2 := h.gd.toks.le
  have h3 := h.gd.toks.max
  rw [List.length_map] at h2
  omega⟩
/-- What tokens come to. -/
def psParse (G : PsG) : PsR Tre := match firstB G.T G.toks with
 | some i => .bad i 1
 | none => psTree G
set_option maxRecDepth 100000 in
set_option maxHeartbeats 16000000 in
theorem pparse_any (d : CfD) (ta : Option Addr) (tc : Nat) (tbs : List IltD) (ka : Option Addr) (kc : Nat) (toks : List Int) (w : World) (hE : PrF w d ta tc tbs ka kc toks) :
 Calls Try.prog 41 #[d.v, .slice ta tbs.length tc, .slice ka toks.length kc] w (TreQ w (psParse (gOf d tbs toks))) := by
 obtain ⟨Q, hQ⟩ : ∃ Q : Ending → World → Prop, Hid (TreQ w (psParse (gOf d tbs toks)) = Q) := ⟨_, Lib.hid rfl⟩
 rw [hQ.out]
 have HQB : Hid (∀ (b : Nat) x, psParse (gOf d tbs toks) = .bad b x → ∀ W, Below w.heap.size w W → Q (.returned (.tuple #[treV ⟨0, 0, 0⟩ none 0 0, .int .i64 (b : Int), .int .i64 x])) W) := Lib.hid (fun b x h W hb => by rw [← hQ.out, h]; exact ⟨hb, rfl⟩)
 have HQO : Hid (∀ (t : Tre) a n, psParse (gOf d tbs toks) = .ok t a n → ∀ W ga gc, Below w.heap.size w W → TrS W (fun b => w.heap.size ≤ b) ga gc t.l → Q (.returned (.tuple #[treV ⟨t.k, t.i, t.a⟩ ga t.l.len gc, .int .i64 0, .int .i64 0])) W) := Lib.hid (fun t a n h W ga gc hb ht => by rw [← hQ.out, h]; exact ⟨hb, ga, gc, rfl, ht⟩)
 clear hQ
 have hmf := make_runT
 have hA1 := (Blk.new w 25 #[.slice d.ta d.toks.length d.tc, .slice d.na d.names.length d.nc, .slice d.aa d.alts.length d.ac]).alloc (.cells #[.int .i64 0, .int .i64 0, .int .i64 0, .slice none 0 0] 51)
 have hN1 := Blk.new (w.alloc (.cells #[.slice d.ta d.toks.length d.tc, .slice d.na d.names.length d.nc, .slice d.aa d.alts.length d.ac] 25)) 51 #[.int .i64 0, .int .i64 0, .int .i64 0, .slice none 0 0]
 have hb1 : Below w.heap.size w ((w.alloc (.cells #[.slice d.ta d.toks.length d.tc, .slice d.na d.names.length d.nc, .slice d.aa d.alts.length d.ac] 25)).alloc (.cells #[.int .i64 0, .int .i64 0, .int .i64 0, .slice none 0 0] 51)) := ((Below.refl _ w).alloc (Nat.le_refl _) _).alloc (by simp) _
 simp only [World.size_alloc] at hN1
 have Hix := Lib.hid (index_any w.heap.size d.toks.length d.tc d.ta _ _ toks ka kc _ hA1 ((hE.grown hb1).gk))
 have HA1 := Lib.hid hA1
 have HN1 := Lib.hid hN1
 have Hb1 := Lib.hid hb1
 have HE := Lib.hid hE
 clear hA1 hN1 hb1 hE
 go_enter Try.func41, Try.ntmps41
 go_wp2_with (fail)
 generalize World.alloc _ _ = W1 at HA1 HN1 Hb1 Hix ⊢
 refine Hix.out.mono ?_
 rintro e2 w2 ⟨rfl, hb2⟩
 have HA2 := Lib.hid (HA1.out.below hb2 HA1.out.lt)
 have HN2 := Lib.hid (HN1.out.below hb2 HN1.out.lt)
 have Hb2 := Lib.hid (Hb1.out.trans (hb2.mono Hb1.out.size))
 clear hb2 Hix HA1 HN1 Hb1
 have nl := HN2.out.lt
 have n0 := HN2.out.cell 0
 have n1 := HN2.out.cell 1
 have n2 := HN2.out.cell 2
 have n3 := HN2.out.cell 3
 have f0 := HN2.out.frozen 0
 have f1 := HN2.out.frozen 1
 have f2 := HN2.out.frozen 2
 have f3 := HN2.out.frozen 3
 simp only [List.getElem?_cons_zero, List.getElem?_cons_succ] at n0 n1 n2 n3
 cases hfb : firstB d.toks.length toks with
 | some i =>
  have HT : Hid (psParse (gOf d tbs toks) = .bad i 1) := Lib.hid (by unfold psParse; show (match firstB d.toks.length toks with | some i => PsR.bad i 1 | none => _) = _; rw [hfb])
  have hi0 : (0 : Int) ≤ (i : Int) := by omega
  clear hfb
  unfold idxI
  dsimp only
  go_wp2_with (fail)
  have hN9 := blk_put4 HN2.out (.int .i64 0) (.int .i64 0) (.int .i64 0) (.slice none 0 0)
  have hb9 : Below w.heap.size w ((((w2.setCell ⟨w.heap.size + 1, 0, none⟩ (.int .i64 0)).setCell ⟨w.heap.size + 1, 1, none⟩ (.int .i64 0)).setCell ⟨w.heap.size + 1, 2, none⟩ (.int .i64 0)).setCell ⟨w.heap.size + 1, 3, none⟩ (.slice none 0 0)) := (((Hb2.out.setCell (p := ⟨w.heap.size + 1, 0, none⟩) (by dsimp only; omega) (.int .i64 0)).setCell (p := ⟨w.heap.size + 1, 1, none⟩) (by dsimp only; omega) (.int .i64 0)).setCell (p := ⟨w.heap.size + 1, 2, none⟩) (by dsimp only; omega) (.int .i64 0)).setCell (p := ⟨w.heap.size + 1, 3, none⟩) (by dsimp only; omega) (.slice none 0 0)
  generalize World.setCell _ _ _ = WF at hN9 hb9 ⊢
  have g0 := hN9.cell 0
  have g1 := hN9.cell 1
  have g2 := hN9.cell 2
  have g3 := hN9.cell 3
  simp only [List.getElem?_cons_zero, List.getElem?_cons_succ] at g0 g1 g2 g3
  have HF := HQB.out i 1 HT.out WF hb9
  exact bodyPost_ret (v := .tuple #[.agg #[.int .i64 0, .int .i64 0, .int .i64 0, .slice none 0 0], .int .i64 (i : Int), .int .i64 1]) (by simp [results, Try.results41, go_sem, g0, g1, g2, g3]) rfl HF
 | none =>
  have HT : Hid (psParse (gOf d tbs toks) = psTree (gOf d tbs toks)) := Lib.hid (by unfold psParse; show (match firstB d.toks.length toks with | some i => PsR.bad i 1 | none => _) = _; rw [hfb])
  have HP := Lib.hid (HE.out.pre hfb)
  have hi0 : ¬ (0 : Int) ≤ (-1 : Int) := by omega
  clear hfb
  unfold idxI
  dsimp only
  have x0 := HA2.out.cell 0
  have x1 := HA2.out.cell 1
  have x2 := HA2.out.cell 2
  have xl := HA2.out.lt
  simp only [List.getElem?_cons_zero, List.getElem?_cons_succ] at x0 x1 x2
  go_wp2_with (fail)
  refine (treeOf_any d ta tc tbs ka kc toks w2 (HP.out.grown Hb2.out)).mono ?_
  intro e3 w3 h3
  obtain ⟨hb3, h3⟩ := h3
  have HN3 := Lib.hid (HN2.out.below hb3 HN2.out.lt)
  have Hb3 := Lib.hid (Hb2.out.trans (hb3.mono Hb2.out.size))
  have Hsz := Lib.hid Hb2.out.size
  have Hlt2 := Lib.hid HN2.out.lt
  clear nl n0 n1 n2 n3 f0 f1 f2 f3 x0 x1 x2 xl
  have nl := HN3.out.lt
  have n0 := HN3.out.cell 0
  have n1 := HN3.out.cell 1
  have n2 := HN3.out.cell 2
  have n3 := HN3.out.cell 3
  have f0 := HN3.out.frozen 0
  have f1 := HN3.out.frozen 1
  have f2 := HN3.out.frozen 2
  have f3 := HN3.out.frozen 3
  simp only [List.getElem?_cons_zero, List.getElem?_cons_succ] at n0 n1 n2 n3
  cases hr : psTree (gOf d tbs toks) with
  | bad b x =>
   rw [hr] at h3
   subst h3
   go_wp2_with (fail)
   have hN9 := blk_put4 HN3.out (.int .i64 0) (.int .i64 0) (.int .i64 0) (.slice none 0 0)
   have hb9 : Below w.heap.size w ((((w3.setCell ⟨w.heap.size + 1, 0, none⟩ (.int .i64 0)).setCell ⟨w.heap.size + 1, 1, none⟩ (.int .i64 0)).setCell ⟨w.heap.size + 1, 2, none⟩ (.int .i64 0)).setCell ⟨w.heap.size + 1, 3, none⟩ (.slice none 0 0)) := (((Hb3.out.setCell (p := ⟨w.heap.size + 1, 0, none⟩) (by dsimp only; omega) (.int .i64 0)).setCell (p := ⟨w.heap.size + 1, 1, none⟩) (by dsimp only; omega) (.int .i64 0)).setCell (p := ⟨w.heap.size + 1, 2, none⟩) (by dsimp only; omega) (.int .i64 0)).setCell (p := ⟨w.heap.size + 1, 3, none⟩) (by dsimp only; omega) (.slice none 0 0)
   generalize World.setCell _ _ _ = WF at hN9 hb9 ⊢
   have g0 := hN9.cell 0
   have g1 := hN9.cell 1
   have g2 := hN9.cell 2
   have g3 := hN9.cell 3
   simp only [List.getElem?_cons_zero, List.getElem?_cons_succ] at g0 g1 g2 g3
   have HF := HQB.out b x (HT.out.trans hr) WF hb9
   exact bodyPost_ret (v := .tuple #[.agg #[.int .i64 0, .int .i64 0, .int .i64 0, .slice none 0 0], .int .i64 (b : Int), .int .i64 x]) (by simp [results, Try.results41, go_sem, g0, g1, g2, g3]) rfl HF
  | ok t a9 n9 =>
   rw [hr] at h3
   obtain ⟨ga, gc, rfl, hT3⟩ := h3
   obtain ⟨tk, ti, tA, tl⟩ := t
   dsimp only at hT3 ⊢
   have HT3 := Lib.hid hT3
   obtain ⟨tn, htn⟩ : ∃ q, Hid (tl.len = q) := ⟨_, Lib.hid rfl⟩
   rw [htn.out]
   clear hb3 hT3
   go_wp2_with (fail)
   have hN9 := blk_put4 HN3.out (.int .i64 tk) (.int .i64 ti) (.int .i64 tA) (.slice ga tn gc)
   have hb9 : Below w.heap.size w ((((w3.setCell ⟨w.heap.size + 1, 0, none⟩ (.int .i64 tk)).setCell ⟨w.heap.size + 1, 1, none⟩ (.int .i64 ti)).setCell ⟨w.heap.size + 1, 2, none⟩ (.int .i64 tA)).setCell ⟨w.heap.size + 1, 3, none⟩ (.slice ga tn gc)) := (((Hb3.out.setCell (p := ⟨w.heap.size + 1, 0, none⟩) (by dsimp only; omega) (.int .i64 tk)).setCell (p := ⟨w.heap.size + 1, 1, none⟩) (by dsimp only; omega) (.int .i64 ti)).setCell (p := ⟨w.heap.size + 1, 2, none⟩) (by dsimp only; omega) (.int .i64 tA)).setCell (p := ⟨w.heap.size + 1, 3, none⟩) (by dsimp only; omega) (.slice ga tn gc)
   have hK9 := keb_set4 (bad := fun b => b = w.heap.size + 1) w3 (w.heap.size + 1) 0 rfl (.int .i64 tk) (.int .i64 ti) (.int .i64 tA) (.slice ga tn gc)
   simp only [Nat.zero_add] at hK9
   generalize World.setCell _ _ _ = WF at hN9 hb9 hK9 ⊢
   have g0 := hN9.cell 0
   have g1 := hN9.cell 1
   have g2 := hN9.cell 2
   have g3 := hN9.cell 3
   simp only [List.getElem?_cons_zero, List.getElem?_cons_succ] at g0 g1 g2 g3
   have hT9 := (trs_keb HT3.out hK9 (fun b hb e => by have := Hlt2.out; have hb : w2.heap.size ≤ b := hb; omega)).imp (Q := fun b => w.heap.size ≤ b) (fun b hb _ => by have := Hsz.out; have hb : w2.heap.size ≤ b := hb; omega)
   have HF := HQO.out ⟨tk, ti, tA, tl⟩ a9 n9 (HT.out.trans hr) WF ga gc hb9 hT9
   dsimp only at HF
   rw [htn.out] at HF
   exact bodyPost_ret (v := .tuple #[.agg #[.int .i64 tk, .int .i64 ti, .int .i64 tA, .slice ga tn gc], .int .i64 0, .int .i64 0]) (by simp [results, Try.results41, go_sem, g0, g1, g2, g3]) rfl HF
end Go.Proofs.Ytfdhaochnbfndaa
namespace Go.Proofs.Ytfdhaochnbfndaa
open Go.RowKit Go.Maps
attribute [local go_sem] Oper.semAt_some
/-- A tree in a box, with what was told beside it. -/
def BoxR (W : World) (r : PsR Tre) (nb : Nat) (p x : Int) : Prop := match r with
 | .bad b y => p = (b : Int) ∧ x = y ∧ Blk W nb 51 [.int .i64 0, .int .i64 0, .int .i64 0, .slice none 0 0]
 | .ok t _ _ => p = 0 ∧ x = 0 ∧ ∃ ga gc, Blk W nb 51 [.int .i64 t.k, .int .i64 t.i, .int .i64 t.a, .slice ga t.l.len gc] ∧ TrS W (fun _ => True) ga gc t.l
theorem BoxR.grown {W W' : World} {r : PsR Tre} {nb : Nat} {p x : Int} (h : BoxR W r nb p x) (hb : Below W.heap.size W W') : BoxR W' r nb p x := by
 cases r with
 | bad b y => exact ⟨h.1, h.2.1, h.2.2.below hb h.2.2.lt⟩
 | ok t b q =>
  obtain ⟨h1, h2, ga, gc, h3, h4⟩ := h
  exact ⟨h1, h2, ga, gc, h3.below hb h3.lt, h4.grown hb⟩
/-- What a call tells, as a value; and put into a box. -/
theorem tre_box {w W : World} {r : PsR Tre} {e : Ending} (h : TreQ w r e W) : ∃ k i a ga n gc p x, e = .returned (.tuple #[.agg #[.int .i64 k, .int .i64 i, .int .i64 a, .slice ga n gc], .int .i64 p, .int .i64 x]) ∧ (∀ V nb, Below W.heap.size W V → (nb < w.heap.size ∨ W.heap.size ≤ nb) → Blk V nb 51 [.int .i64 0, .int .i64 0, .int .i64 0, .slice none 0 0] → BoxR ((((V.setCell ⟨nb, 0, none⟩ (.int .i64 k)).setCell ⟨nb, 1, none⟩ (.int .i64 i)).setCell ⟨nb, 2, none⟩ (.int .i64 a)).setCell ⟨nb, 3, none⟩ (.slice ga n gc)) r nb p x) ∧ ∀ V nb, Below W.heap.size W V → Blk V nb 51 [.int .i64 k, .int .i64 i, .int .i64 a, .slice ga n gc] → BoxR V r nb p x := by
 obtain ⟨hb, h⟩ := h
 cases r with
 | bad b y => exact ⟨_, _, _, _, _, _, _, _, h, fun V nb _ _ hB => ⟨rfl, rfl, blk_put4 hB _ _ _ _⟩, fun V nb _ hB => ⟨rfl, rfl, hB⟩⟩
 | ok t b q =>
  obtain ⟨ga, gc, rfl, ht⟩ := h
  refine ⟨_, _, _, _, _, _, _, _, rfl, fun V nb hV hn hB => ⟨rfl, rfl, ga, gc, blk_put4 hB _ _ _ _, ?_⟩, fun V nb hV hB => ⟨rfl, rfl, ga, gc, hB, (ht.imp (fun _ _ _ => trivial)).grown hV⟩⟩
  have h1 := (ht.imp (Q := fun b => w.heap.size ≤ b ∧ b < W.heap.size) (fun b h1 h2 => ⟨h1, h2⟩)).grown hV
  have hk := keb_set4 (bad := fun b => b = nb) V nb 0 rfl (.int .i64 t.k) (.int .i64 t.i) (.int .i64 t.a) (.slice ga t.l.len gc)
  simp only [Nat.zero_add] at hk
  exact (trs_keb h1 hk (fun b h1 e => by obtain ⟨h2, h3⟩ := h1; have e : b = nb := e; omega)).imp (fun _ _ _ => trivial)
/-- append(a, b...), and what it writes into. -/
theorem OwnKZ.app2 {w : World} {base cap : Nat} {a : Option Addr} {l : List Int} (h : OwnKZ w base a cap l) (b' : Addr) (bc : Nat) (m : List Int) (hm : Ints w (some b') bc m) (ty : TypeId) (hn : l.length + m.length ≤ 1099511627780) (hb : base ≤ w.heap.size) :
 ∃ a' c' w', (Builtin.append_ #[35, 35] ty #[.slice a l.length cap, .slice (some b') m.length bc]).run Try.prog w = .ok (.slice a' (l.length + m.length) c') w' ∧
  OwnKZ w' base a' c' (l ++ m) ∧ w.grownBy w' (Value.slice a l.length cap).ownBlock ∧ ((Value.slice a' (l.length + m.length) c').ownBlock = (Value.slice a l.length cap).ownBlock ∨ (Value.slice a' (l.length + m.length) c').ownBlock = some w.heap.size) := by
 obtain ⟨i0, hi, hz0, hz1, hz2⟩ := info_parts info_keyZ
 have hnew : ∀ j u, (m.map (Value.int .i64))[j]? = some u → w.cell? (b'.add j) = some u := by
  intro j u hj
  have hjl : j < (m.map (Value.int .i64)).length := (List.getElem?_eq_some_iff.1 hj).1
  obtain ⟨b2, off, e⟩ := hm.at_ j hjl
  have e := Option.some.inj e
  subst e
  have := hm.cell b2 off rfl j hjl
  rw [show (⟨b2, off, none⟩ : Addr).add j = ⟨b2, off + j, none⟩ from by unfold Addr.add; split <;> simp_all]
  exact this.trans ((List.getElem?_eq_getElem hjl).symm.trans hj)
 obtain ⟨v', w', hrun, ho, hg, _, hw⟩ := run_append_own_at (P := Try.prog) (w := w) base 35 ty 3 i0 _ 1 8 Try.underlying35 hi hz0 hz1 hz2 rfl (by decide) _ l.length _ h b' m.length bc (m.map (Value.int .i64)) (by simp) hnew (fun u hu => by
  obtain ⟨x, _, rfl⟩ := List.mem_map.1 hu
  rfl) (by unfold maxLen; omega) (by omega) hb
 obtain ⟨a', cap', rfl⟩ := slice_of_own ho
 refine ⟨a', cap', w', hrun, ?_, hg, hw⟩
 unfold OwnKZ
 rw [List.map_append, List.length_append]
 exact ho
theorem OwnKZ.belowZ {w w' : World} {base cap : Nat} {a : Option Addr} {l : List Int} (h : OwnKZ w base a cap l) (hb : Below w.heap.size w w') : OwnKZ w' base a cap l := World.ownsRow.kept h (below_grownBy hb none) (by cases (Value.slice a l.length cap).ownBlock <;> simp)
theorem firstB_snoc {T : Nat} {k : Int} : ∀ {l : List Int}, firstB T l = none → 0 ≤ k → k < (T : Int) → firstB T (l ++ [k]) = none
 | [], _, h0, h1 => by
  show (if k < 0 ∨ (T : Int) ≤ k then some 0 else (firstB T []).map (fun i => i + 1)) = none
  rw [if_neg (by omega)]
  rfl
 | x :: l, h, h0, h1 => by
  unfold firstB at h
  rw [List.cons_append, firstB]
  by_cases hx : x < 0 ∨ (T : Int) ≤ x
  ·rw [if_pos hx] at h; cases h
  ·rw [if_neg hx, Option.map_eq_none_iff] at h
   rw [if_neg hx, firstB_snoc h h0 h1]
   rfl
theorem hdT_self (h : TrH) (n : Nat) : hdT h h n n = true := by simp [hdT]
theorem sameT_self : ∀ (f : TrF), sameT f f = true
 | .nil => rfl
 | .cons h k r => by
  unfold sameT
  rw [hdT_self, sameT_self k, sameT_self r]
  rfl
/-- Two boxes of the same answer. -/
theorem box_two {W : World} {r : PsR Tre} {n1 n2 : Nat} {p1 p2 x1 x2 : Int} (h1 : BoxR W r n1 p1 x1) (h2 : BoxR W r n2 p2 x2) : p1 = p2 ∧ x1 = x2 ∧ ∃ (h : TrH) (f : TrF) (a b : Option Addr) (c d : Nat), Blk W n1 51 [.int .i64 h.k, .int .i64 h.i, .int .i64 h.a, .slice a f.len c] ∧ Blk W n2 51 [.int .i64 h.k, .int .i64 h.i, .int .i64 h.a, .slice b f.len d] ∧ TrS W (fun _ => True) a c f ∧ TrS W (fun _ => True) b d f := by
 cases r with
 | bad b y =>
  obtain ⟨rfl, rfl, h3⟩ := h1
  obtain ⟨rfl, rfl, h4⟩ := h2
  exact ⟨rfl, rfl, ⟨0, 0, 0⟩, .nil, none, none, 0, 0, h3, h4, TrS.nil _ _, TrS.nil _ _⟩
 | ok t b q =>
  obtain ⟨rfl, rfl, a, c, h3, h5⟩ := h1
  obtain ⟨rfl, rfl, b, d, h4, h6⟩ := h2
  exact ⟨rfl, rfl, ⟨t.k, t.i, t.a⟩, t.l, a, b, c, d, h3, h4, h5, h6⟩
theorem Below.put4 {B : Nat} {w V : World} (h : Below B w V) {nb : Nat} (hn : B ≤ nb) (v0 v1 v2 v3 : Value) : Below B w ((((V.setCell ⟨nb, 0, none⟩ v0).setCell ⟨nb, 1, none⟩ v1).setCell ⟨nb, 2, none⟩ v2).setCell ⟨nb, 3, none⟩ v3) :=
 (((h.setCell (p := ⟨nb, 0, none⟩) hn v0).setCell (p := ⟨nb, 1, none⟩) hn v1).setCell (p := ⟨nb, 2, none⟩) hn v2).setCell (p := ⟨nb, 3, none⟩) hn v3
end Go.Proofs.Ytfdhaochnbfndaa
namespace Go.Proofs.Ytfdhaochnbfndaa
open Go.RowKit Go.Maps
attribute [local go_sem] Oper.semAt_some
/-- Nothing is refused ahead of so many tokens. -/
def goB (n : Nat) : PsR Tre → Bool
 | .bad a x => decide (x ≠ 110 ∨ a = n)
 | .ok _ _ _ => true
set_option maxRecDepth 100000 in
set_option maxHeartbeats 16000000 in
theorem goesOn_any (d : CfD) (ta : Option Addr) (tc : Nat) (tbs : List IltD) (ka : Option Addr) (kc : Nat) (toks : List Int) (w : World) (hE : PrE w d ta tc tbs ka kc toks) :
 Calls Try.prog 91 #[d.v, .slice ta tbs.length tc, .slice ka toks.length kc] w fun e W => e = .returned (.bool (goB toks.length (psTree (gOf d tbs toks)))) ∧ Below w.heap.size w W := by
 have hA1 := Blk.new w 25 #[.slice d.ta d.toks.length d.tc, .slice d.na d.names.length d.nc, .slice d.aa d.alts.length d.ac]
 have hb1 : Below w.heap.size w (w.alloc (.cells #[.slice d.ta d.toks.length d.tc, .slice d.na d.names.length d.nc, .slice d.aa d.alts.length d.ac] 25)) := (Below.refl _ w).alloc (Nat.le_refl _) _
 have Htr := Lib.hid (treeOf_any d ta tc tbs ka kc toks _ (hE.grown hb1))
 have Hb1 := Lib.hid hb1
 have x0 := hA1.cell 0
 have x1 := hA1.cell 1
 have x2 := hA1.cell 2
 have xl := hA1.lt
 simp only [List.getElem?_cons_zero, List.getElem?_cons_succ] at x0 x1 x2
 have hkm : toks.length ≤ kc ∧ kc ≤ 9223372036854775807 := ⟨by have := hE.ge.gk.le; rw [List.length_map] at this; exact this, hE.ge.gk.max⟩
 clear hA1 hb1 hE
 obtain ⟨V, hV⟩ : ∃ V, Hid (goB toks.length (psTree (gOf d tbs toks)) = V) := ⟨_, Lib.hid rfl⟩
 rw [hV.out]
 go_enter Try.func91, Try.ntmps91
 go_wp2_with (fail)
 refine Htr.out.mono ?_
 intro e3 w3 h3
 obtain ⟨hb3, h3⟩ := h3
 have Hb3 := Lib.hid (Hb1.out.trans (hb3.mono Hb1.out.size))
 clear hb3 Htr x0 x1 x2 xl
 cases hr : psTree (gOf d tbs toks) with
 | bad b x =>
  rw [hr] at h3
  subst h3
  have HF : Hid (Below w.heap.size w (w3.alloc (.cells #[.int .i64 0, .int .i64 0, .int .i64 0, .slice none 0 0] 51))) := Lib.hid (Hb3.out.alloc Hb3.out.size _)
  by_cases hx : x = 110
  ·by_cases hb : b = toks.length
   ·have HV : Hid (V = true) := Lib.hid (by rw [← hV.out, hr]; exact decide_eq_true (.inr hb))
    have hbI : ((b : Int) == (toks.length : Int)) = true := by rw [beq_iff_eq]; omega
    have hxb : (x != 110) = false := by simp [hx]
    clear hx hb hr
    go_wp2_with (fail)
    first | exact ⟨by rw [HV.out], HF.out⟩ | exact bodyPost_ret (v := .bool true) (by simp [results, Try.results91, go_sem]; try first | rfl | assumption | omega) rfl ⟨by rw [HV.out], HF.out⟩
   ·have HV : Hid (V = false) := Lib.hid (by rw [← hV.out, hr]; exact decide_eq_false (fun e => by rcases e with e | e; exact e hx; exact hb e))
    have hbI : ((b : Int) == (toks.length : Int)) = false := by rw [beq_eq_false_iff_ne]; omega
    have hxb : (x != 110) = false := by simp [hx]
    clear hx hb hr
    go_wp2_with (fail)
    first | exact ⟨by rw [HV.out], HF.out⟩ | exact bodyPost_ret (v := .bool false) (by simp [results, Try.results91, go_sem]; try first | rfl | assumption | omega) rfl ⟨by rw [HV.out], HF.out⟩
  ·have HV : Hid (V = true) := Lib.hid (by rw [← hV.out, hr]; exact decide_eq_true (.inl hx))
   have hxb : (x != 110) = true := by simp [hx]
   clear hx hr
   go_wp2_with (fail)
   first | exact ⟨by rw [HV.out], HF.out⟩ | exact bodyPost_ret (v := .bool true) (by simp [results, Try.results91, go_sem]; try first | rfl | assumption | omega) rfl ⟨by rw [HV.out], HF.out⟩
 | ok t a9 n9 =>
  rw [hr] at h3
  obtain ⟨ga, gc, rfl, hT3⟩ := h3
  have HV : Hid (V = true) := Lib.hid (by rw [← hV.out, hr]; rfl)
  clear hT3 hr
  have HF : Hid (Below w.heap.size w (w3.alloc (.cells #[.int .i64 t.k, .int .i64 t.i, .int .i64 t.a, .slice ga t.l.len gc] 51))) := Lib.hid (Hb3.out.alloc Hb3.out.size _)
  have hxb : ((0 : Int) != 110) = true := by decide
  go_wp2_with (fail)
  first | exact ⟨by rw [HV.out], HF.out⟩ | exact bodyPost_ret (v := .bool true) (by simp [results, Try.results91, go_sem]; try first | rfl | assumption | omega) rfl ⟨by rw [HV.out], HF.out⟩
end Go.Proofs.Ytfdhaochnbfndaa
namespace Go.Proofs.Ytfdhaochnbfndaa
open Go.RowKit Go.Maps
attribute [local go_sem] Oper.semAt_some
set_option maxRecDepth 100000 in
set_option maxHeartbeats 16000000 in
theorem cloneI_any (l : List Int) (a : Option Addr) (cap : Nat) (w : World) (hl : Ints w a cap l) (hfew : l.length ≤ 1000000000) :
 Calls Try.prog 90 #[.slice a l.length cap] w fun e w' => ∃ a' c', e = .returned (.slice a' l.length c') ∧ OwnKZ w' w.heap.size a' c' l ∧ Below w.heap.size w w' := by
 cases a with
 | none =>
  have e0 := hl.nil_ rfl
  have hml : l = [] := by
   have := hl.le
   rw [e0, List.length_map] at this
   simpa using this
  subst e0
  subst hml
  have hqn : (binOp BinOp.eql 35 (.slice none 0 0) (.slice none 0 0)).run Try.prog w = .ok (.bool true) w := Lib.run_eql_slice_nil w _ _ none 0 0 0 0 Try.underlying35
  go_enter Try.func90, Try.ntmps90
  go_wp2_with (fail)
  exact bodyPost_ret (v := .slice none 0 0) (by simp [results, Try.results90, go_sem]; try first | rfl | assumption | omega) rfl ⟨none, 0, rfl, OwnKZ.nil _ _, Below.refl _ w⟩
 | some b =>
  have hb1 : Below w.heap.size w (w.alloc (.cells #[] 3)) := (Below.refl _ w).alloc (Nat.le_refl _) _
  have h0 : OwnKZ (w.alloc (.cells #[] 3)) w.heap.size (some ⟨w.heap.size, 0, none⟩) 0 [] := World.ownsRow_lit (base := w.heap.size) (e := 3) (size := 1) w #[] 0 (Nat.le_refl _) (by unfold maxLen; omega) rfl
  obtain ⟨a2, c2, w2, hrun, ho, hrest⟩ := OwnKZ.app h0 (some b) cap l (hl.grown hb1) 35 (by simp; omega) hb1.size
  simp only [List.length_nil, Nat.zero_add, List.nil_append] at hrun ho
  have Hrun := Lib.hid hrun
  have HO := Lib.hid ho
  have hb3 := hb1.trans hrest
  obtain ⟨L, HL⟩ : ∃ L, Hid (l.length = L) := ⟨_, Lib.hid rfl⟩
  rw [HL.out] at Hrun ⊢
  have hqn : (binOp BinOp.eql 35 (.slice (some b) L cap) (.slice none 0 0)).run Try.prog w = .ok (.bool false) w := Lib.run_eql_slice_nil w _ _ (some b) L cap 0 0 Try.underlying35
  clear hrun ho
  go_enter Try.func90, Try.ntmps90
  go_wp2_with (at_builtin; refine wpList_append_run rfl _ _ 35 35 rfl _ _ _ _ rfl rfl Hrun.out ?_)
  exact bodyPost_ret (v := .slice a2 L c2) (by simp [results, Try.results90, go_sem]; try first | rfl | assumption | omega) rfl ⟨a2, c2, rfl, HO.out, hb3⟩
theorem seq_bad2 {f : Int → Nat → Nat → PsR Tre} (hf : ∀ k a n b x, f k a n = .bad b x → x = 2 ∨ x = 110) : ∀ (ks : List Int) (a n : Nat) {b x}, psSeq f ks a n = .bad b x → x = 2 ∨ x = 110
 | [], a, n, b, x, h => by unfold psSeq at h; cases h
 | k :: ks, a, n, b, x, h => by
  unfold psSeq at h
  cases e : f k a n with
  | bad c e2 =>
   rw [e] at h
   change PsR.bad c e2 = _ at h
   injection h with _ h
   rw [← h]
   exact hf _ _ _ _ _ e
  | ok y c q =>
   rw [e] at h
   change (psSeq f ks c q).bind _ = _ at h
   cases e2 : psSeq f ks c q with
   | bad c2 e3 =>
    rw [e2] at h
    change PsR.bad c2 e3 = _ at h
    injection h with _ h
    rw [← h]
    exact seq_bad2 hf ks c q e2
   | ok l2 c2 q2 => rw [e2] at h; cases h
theorem put_bad (G : PsG) : ∀ (m : Nat) (k : Int) (a n : Nat) {b x}, psPut G m k a n = .bad b x → x = 2 ∨ x = 110
 | 0, k, a, n, b, x, h => by unfold psPut at h; injection h with _ h; exact .inl h.symm
 | m + 1, k, a, n, b, x, h => by
  unfold psPut at h
  by_cases hn : n = 0
  ·rw [if_pos hn] at h; injection h with _ h; exact .inl h.symm
  ·rw [if_neg hn] at h
   by_cases hk : 0 ≤ k
   ·rw [if_pos hk] at h
    by_cases ht : G.toks[a]? = some k
    ·rw [if_pos ht] at h; cases h
    ·rw [if_neg ht] at h; injection h with _ h; exact .inr h.symm
   ·rw [if_neg hk] at h
    cases e : G.alt (ruL k) a with
    | none => rw [e] at h; injection h with _ h; exact .inr h.symm
    | some p =>
     rw [e] at h
     obtain ⟨i, ks⟩ := p
     dsimp only at h
     cases e2 : psSeq (psPut G m) ks a (n - 1) with
     | bad c e3 =>
      rw [e2] at h
      change PsR.bad c e3 = _ at h
      injection h with _ h
      rw [← h]
      exact seq_bad2 (fun k a n b x h => put_bad G m k a n h) ks a (n - 1) e2
     | ok l c q2 => rw [e2] at h; cases h
theorem tree_bad {G : PsG} {b : Nat} {x : Int} (h : psTree G = .bad b x) : x = 2 ∨ x = 110 := by
 unfold psTree at h
 cases e : psPut G 20000 (-1) 0 20000 with
 | bad c e2 =>
  rw [e] at h
  change PsR.bad c e2 = _ at h
  injection h with _ h
  rw [← h]
  exact put_bad G _ _ _ _ e
 | ok y c q =>
  rw [e] at h
  change (if c < G.toks.length then PsR.bad c 110 else PsR.ok y 0 0) = _ at h
  by_cases hc : c < G.toks.length
  ·rw [if_pos hc] at h; injection h with _ h; exact .inr h.symm
  ·rw [if_neg hc] at h; cases h
theorem parse_bad {G : PsG} {b : Nat} {x : Int} (h : psParse G = .bad b x) : (x = 1 ∨ (x ≠ 1 ∧ firstB G.T G.toks = none)) ∧ x ≠ 0 := by
 unfold psParse at h
 cases e : firstB G.T G.toks with
 | some i =>
  rw [e] at h
  injection h with _ h
  exact ⟨.inl h.symm, by omega⟩
 | none =>
  rw [e] at h
  have := tree_bad h
  exact ⟨.inr ⟨by omega, rfl⟩, by omega⟩
theorem parse_ok {G : PsG} {t : Tre} {a n : Nat} (h : psParse G = .ok t a n) : firstB G.T G.toks = none := by
 unfold psParse at h
 cases e : firstB G.T G.toks with
 | some i => rw [e] at h; cases h
 | none => rfl
/-- Which tokens may stand behind them, of the first so many. -/
def goL (G : PsG) (n : Nat) : List Int := ((List.range n).filter (fun (k : Nat) => goB (G.toks.length + 1) (psTree { G with toks := G.toks ++ [(k : Int)] }))).map (fun (k : Nat) => (k : Int))
theorem goL_succ (G : PsG) (n : Nat) : goL G (n + 1) = goL G n ++ (if goB (G.toks.length + 1) (psTree { G with toks := G.toks ++ [(n : Int)] }) then [(n : Int)] else []) := by
 unfold goL
 rw [List.range_succ, List.filter_append, List.map_append]
 congr 1
 by_cases h : goB (G.toks.length + 1) (psTree { G with toks := G.toks ++ [(n : Int)] }) = true
 ·rw [if_pos h]; simp [List.filter_cons, h]
 ·rw [if_neg h]; simp [List.filter_cons, h]
theorem goL_len (G : PsG) (n : Nat) : (goL G n).length ≤ n := by
 unfold goL
 rw [List.length_map]
 exact Nat.le_trans (List.length_filter_le _ _) (by rw [List.length_range]; exact Nat.le_refl _)
/-- What is wanted. -/
def wantP (G : PsG) : List Int := match psParse G with
 | .bad a x => if x = 1 ∨ (x = 110 ∧ a < G.toks.length) then [] else goL G G.T
 | .ok _ _ _ => goL G G.T ++ [(G.T : Int)]
end Go.Proofs.Ytfdhaochnbfndaa
