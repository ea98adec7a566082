/- Texts of layer 2 joined: Gd Ge Gf. -/
import Derived.Test.YtpbceejjkdmclaaJN2
import Derived.Test.YtpbceejjkdmclaaJN3
import Derived.Deep.RegionHeld3
set_option linter.unusedVariables false
set_option linter.unusedSimpArgs false
/- Layer 3: build: what its parts come to; buildLoop. -/
namespace Go.Proofs.Ytpbceejjkdmclaa
open Go.RowKit Go.Shelf

attribute [local go_sem] Oper.semAt_some

/-- What a making comes to. -/
def BldQ (w0 : World) (bm : Nat) (w : World) (ev : Value) (r : Nat × Bs) : Ending → World → Prop := fun e w' =>
  e = .returned (.int .i64 (r.1 : Int)) ∧ ∃ ga' gc', MkAt 62 w' w0.heap.size bm (r.2.1 : Int) 0 ev ga' gc' r.2.2 ∧ Spares w0.heap.size (mkT 62) w w'
def BldP (w0 : World) (bm : Nat) (h : Hd) (kids : Fo) : Prop :=
  ∀ (sa : Option Addr) (sc : Nat) (a : Option Addr) (cap : Nat) (f : Nat) (s : Bs) (ev : Value) (ga : Option Addr) (gc : Nat) (w : World), Sps w0 sa sc h.set → Items w0 a cap kids → Below w0.heap.size w0 w →
    MkAt 62 w w0.heap.size bm (s.1 : Int) 0 ev ga gc s.2 → s.1 + stE h kids ≤ 1000000 → s.2.length + 2 * stE h kids ≤ 10000000 →
    Calls Try.prog 38 #[.pointer (some ⟨bm, 0, none⟩), itemV h sa sc a kids.len cap, .int .i64 (f : Int)] w (BldQ w0 bm w ev (bE h kids f s))
theorem grow0 (w0 : World) (bm f : Nat) (s : Bs) (ev : Value) (ga : Option Addr) (gc : Nat) (w : World) (hM : MkAt 62 w w0.heap.size bm (s.1 : Int) 0 ev ga gc s.2) (hn : s.1 + 1 ≤ 1000000) (hl : s.2.length + 1 ≤ 10000000) :
    Calls Try.prog 56 #[.pointer (some ⟨bm, 0, none⟩), .int .i64 (f : Int), .slice none 0 0] w (BldQ w0 bm w ev (grw f [] s)) :=
  grow_any w0.heap.size bm s.1 0 ev ga gc s.2 f [] none 0 w hM (SpK.nil w _ _ _) (by simp) (by omega) (by omega)
theorem link0 (w0 : World) (bm f t : Nat) (s : Bs) (ev : Value) (ga : Option Addr) (gc : Nat) (w : World) (hM : MkAt 62 w w0.heap.size bm (s.1 : Int) 0 ev ga gc s.2) (hl : s.2.length + 1 ≤ 10000000) :
    Calls Try.prog 57 #[.pointer (some ⟨bm, 0, none⟩), .int .i64 (f : Int), .int .i64 (t : Int), .slice none 0 0] w fun e w' => e = .returned (.tuple #[]) ∧ ∃ ga' gc', MkAt 62 w' w0.heap.size bm ((lnk f t [] s).1 : Int) 0 ev ga' gc' (lnk f t [] s).2 ∧ Spares w0.heap.size (mkT 62) w w' :=
  link_any w0.heap.size bm s.1 0 ev ga gc s.2 f t [] none 0 w hM (Sps.nil w) (by simp) (by omega)

set_option maxRecDepth 100000 in
set_option maxHeartbeats 1000000 in
theorem bloop_any (w0 : World) (bm : Nat) (h : Hd) (kids : Fo) (hP : BldP w0 bm h kids) (hg : ∀ a s, Grows s (bE h kids a s).2 (stE h kids) (2 * stE h kids)) (sa : Option Addr) (sc : Nat) (a : Option Addr) (cap : Nat) (f : Nat) (s : Bs) (ev : Value) (ga : Option Addr) (gc : Nat) (w : World)
    (hss : Sps w0 sa sc h.set) (hit : Items w0 a cap kids) (hb : Below w0.heap.size w0 w) (hM : MkAt 62 w w0.heap.size bm (s.1 : Int) 0 ev ga gc s.2) (hn : s.1 + stE h kids + 2 ≤ 1000000) (hl : s.2.length + 2 * stE h kids + 4 ≤ 10000000) :
    Calls Try.prog 55 #[.pointer (some ⟨bm, 0, none⟩), itemV h sa sc a kids.len cap, .int .i64 (f : Int)] w fun e w' => e = .returned (.tuple #[.int .i64 ((bLoop (bE h kids) f s).1.1 : Int), .int .i64 ((bLoop (bE h kids) f s).1.2 : Int)]) ∧
      ∃ ga' gc', MkAt 62 w' w0.heap.size bm ((bLoop (bE h kids) f s).2.1 : Int) 0 ev ga' gc' (bLoop (bE h kids) f s).2.2 ∧ Spares w0.heap.size (mkT 62) w w' := by
  have hA0 := Blk.new w 35 #[.int .i64 h.k, .slice sa h.set.length sc, .slice a kids.len cap]
  have hbn : Below w.heap.size w (w.alloc (.cells #[.int .i64 h.k, .slice sa h.set.length sc, .slice a kids.len cap] 35)) := (Below.refl _ w).alloc (Nat.le_refl _) _
  have hM0 := hM.alloc (.cells #[.int .i64 h.k, .slice sa h.set.length sc, .slice a kids.len cap] 35)
  have hS0 : Spares w0.heap.size (mkT 62) w (w.alloc (.cells #[.int .i64 h.k, .slice sa h.set.length sc, .slice a kids.len cap] 35)) := Below.spares hbn hM.base_le
  have hb0 := hb.trans hS0.below
  have x0 := hA0.cell 0
  have x1 := hA0.cell 1
  have x2 := hA0.cell 2
  have xl := hA0.lt
  simp only [List.getElem?_cons_zero, List.getElem?_cons_succ] at x0 x1 x2
  obtain ⟨gr1, gr2, _⟩ := grows_grw f [] s
  have Hc1 := Lib.hid (grow0 w0 bm f s ev ga gc _ hM0 (by omega) (by omega))
  unfold bLoop
  generalize grw f [] s = G at gr1 gr2 Hc1 ⊢
  obtain ⟨he1, he2, _⟩ := hg G.1 G.2
  have HS0 := Lib.hid hS0
  have HB0 := Lib.hid hb0
  have HP := Lib.hid (fun ga1 gc1 w1 hb1 hM1 => hP sa sc a cap G.1 G.2 ev ga1 gc1 w1 hss hit hb1 hM1 (by omega) (by omega))
  clear hbn hM0 hM hS0 hb0 hb hss hit hP hg
  generalize bE h kids G.1 G.2 = H at he1 he2 HP ⊢
  obtain ⟨G1, G2⟩ := G
  obtain ⟨H1, H2⟩ := H
  dsimp only at *
  dsimp only [itemV]
  go_enter Try.func55, Try.ntmps55
  go_wp2_with (fail)
  refine Hc1.out.mono ?_
  rintro e w1 ⟨rfl, ga1, gc1, hM1, hS1⟩
  have hA1 := hS1.blk hA0 rfl
  have HB1 := Lib.hid (HB0.out.trans hS1.below)
  have HS1 := Lib.hid hS1
  have HM1 := Lib.hid hM1
  clear x0 x1 x2 xl hA0 hS1 hM1
  have x0 := hA1.cell 0
  have x1 := hA1.cell 1
  have x2 := hA1.cell 2
  have xl := hA1.lt
  simp only [List.getElem?_cons_zero, List.getElem?_cons_succ] at x0 x1 x2
  go_wp2_with (fail)
  refine (HP.out ga1 gc1 w1 HB1.out HM1.out).mono ?_
  rintro e w2 ⟨rfl, ga2, gc2, hM2, hS2⟩
  have Hc2 := Lib.hid (link0 w0 bm H1 G1 H2 ev ga2 gc2 _ hM2 (by omega))
  have HS2 := Lib.hid hS2
  clear hM2 hS2
  dsimp only
  go_wp2_with (fail)
  refine Hc2.out.mono ?_
  rintro e w3 ⟨rfl, ga3, gc3, hM3, hS3⟩
  go_wp2_with (fail)
  exact bodyPost_ret (v := .tuple #[_, _]) (by simp [results, Try.results55, go_sem]; try first | rfl | assumption | omega) rfl ⟨rfl, ga3, gc3, hM3, HS0.out.trans (HS1.out.trans (HS2.out.trans hS3))⟩

end Go.Proofs.Ytpbceejjkdmclaa

/- Layer 3: build of the leaves, of a Star, a Plus, an Opt. -/
namespace Go.Proofs.Ytpbceejjkdmclaa
open Go.RowKit Go.Shelf

attribute [local go_sem] Oper.semAt_some

set_option maxRecDepth 100000 in
set_option maxHeartbeats 1000000 in
theorem bld_leaf1 (w0 : World) (bm sc L cap : Nat) (sa a : Option Addr) (q : List Sp) (hq : Sps w0 sa sc q) (hql : q.length ≤ 1000) (f : Nat) (s : Bs) (ev : Value) (ga : Option Addr) (gc : Nat) (w : World) (hb : Below w0.heap.size w0 w) (hM : MkAt 62 w w0.heap.size bm (s.1 : Int) 0 ev ga gc s.2) (hn : s.1 + 1 ≤ 1000000) (hl : s.2.length + 1 ≤ 10000000) :
    Calls Try.prog 38 #[.pointer (some ⟨bm, 0, none⟩), .agg #[.int .i64 1, .slice sa q.length sc, .slice a L cap], .int .i64 (f : Int)] w (BldQ w0 bm w ev (grw f q s)) := by
  have hA0 := Blk.new w 35 #[.int .i64 1, .slice sa q.length sc, .slice a L cap]
  have hbn : Below w.heap.size w (w.alloc (.cells #[.int .i64 1, .slice sa q.length sc, .slice a L cap] 35)) := (Below.refl _ w).alloc (Nat.le_refl _) _
  have hM0 := hM.alloc (.cells #[.int .i64 1, .slice sa q.length sc, .slice a L cap] 35)
  have hS0 : Spares w0.heap.size (mkT 62) w (w.alloc (.cells #[.int .i64 1, .slice sa q.length sc, .slice a L cap] 35)) := Below.spares hbn hM.base_le
  have hb0 := hb.trans hS0.below
  have Hc := Lib.hid (grow_any w0.heap.size bm s.1 0 ev ga gc s.2 f q sa sc _ hM0 (SpK.of0 hq hb0) hql (by omega) (by omega))
  have HS0 := Lib.hid hS0
  have hmx : q.length ≤ sc ∧ sc ≤ 9223372036854775807 := ⟨hq.le, hq.max⟩
  clear hbn hM0 hM hS0 hb0 hb hq
  obtain ⟨Q, hQ⟩ : ∃ Q, Hid (q.length = Q) := ⟨_, Lib.hid rfl⟩
  rw [hQ.out] at hA0 Hc HS0 hmx ⊢
  have x0 := hA0.cell 0
  have x1 := hA0.cell 1
  have x2 := hA0.cell 2
  have xl := hA0.lt
  simp only [List.getElem?_cons_zero, List.getElem?_cons_succ] at x0 x1 x2
  unfold grw
  obtain ⟨s1, s2⟩ := s
  dsimp only at *
  go_enter Try.func38, Try.ntmps38
  go_wp2_with (fail)
  refine Hc.out.mono ?_
  rintro e w1 ⟨rfl, ga1, gc1, hM1, hS1⟩
  have HM1 := Lib.hid hM1
  have HS1 := Lib.hid hS1
  clear hM1 hS1
  go_wp2_with (fail)
  exact bodyPost_ret (v := .int .i64 (s1 : Int)) (by simp [results, Try.results38, go_sem]; try first | rfl | assumption | omega) rfl ⟨rfl, ga1, gc1, HM1.out, HS0.out.trans HS1.out⟩

set_option maxRecDepth 100000 in
set_option maxHeartbeats 1000000 in
theorem bld_leaf2 (w0 : World) (bm sc L cap : Nat) (sa a : Option Addr) (q : List Sp) (hq : Sps w0 sa sc q) (hql : q.length ≤ 1000) (f : Nat) (s : Bs) (ev : Value) (ga : Option Addr) (gc : Nat) (w : World) (hb : Below w0.heap.size w0 w) (hM : MkAt 62 w w0.heap.size bm (s.1 : Int) 0 ev ga gc s.2) (hn : s.1 + 1 ≤ 1000000) (hl : s.2.length + 1 ≤ 10000000) :
    Calls Try.prog 38 #[.pointer (some ⟨bm, 0, none⟩), .agg #[.int .i64 2, .slice sa q.length sc, .slice a L cap], .int .i64 (f : Int)] w (BldQ w0 bm w ev (grw f q s)) := by
  have hA0 := Blk.new w 35 #[.int .i64 2, .slice sa q.length sc, .slice a L cap]
  have hbn : Below w.heap.size w (w.alloc (.cells #[.int .i64 2, .slice sa q.length sc, .slice a L cap] 35)) := (Below.refl _ w).alloc (Nat.le_refl _) _
  have hM0 := hM.alloc (.cells #[.int .i64 2, .slice sa q.length sc, .slice a L cap] 35)
  have hS0 : Spares w0.heap.size (mkT 62) w (w.alloc (.cells #[.int .i64 2, .slice sa q.length sc, .slice a L cap] 35)) := Below.spares hbn hM.base_le
  have hb0 := hb.trans hS0.below
  have Hc := Lib.hid (grow_any w0.heap.size bm s.1 0 ev ga gc s.2 f q sa sc _ hM0 (SpK.of0 hq hb0) hql (by omega) (by omega))
  have HS0 := Lib.hid hS0
  have hmx : q.length ≤ sc ∧ sc ≤ 9223372036854775807 := ⟨hq.le, hq.max⟩
  clear hbn hM0 hM hS0 hb0 hb hq
  obtain ⟨Q, hQ⟩ : ∃ Q, Hid (q.length = Q) := ⟨_, Lib.hid rfl⟩
  rw [hQ.out] at hA0 Hc HS0 hmx ⊢
  have x0 := hA0.cell 0
  have x1 := hA0.cell 1
  have x2 := hA0.cell 2
  have xl := hA0.lt
  simp only [List.getElem?_cons_zero, List.getElem?_cons_succ] at x0 x1 x2
  unfold grw
  obtain ⟨s1, s2⟩ := s
  dsimp only at *
  go_enter Try.func38, Try.ntmps38
  go_wp2_with (fail)
  refine Hc.out.mono ?_
  rintro e w1 ⟨rfl, ga1, gc1, hM1, hS1⟩
  have HM1 := Lib.hid hM1
  have HS1 := Lib.hid hS1
  clear hM1 hS1
  go_wp2_with (fail)
  exact bodyPost_ret (v := .int .i64 (s1 : Int)) (by simp [results, Try.results38, go_sem]; try first | rfl | assumption | omega) rfl ⟨rfl, ga1, gc1, HM1.out, HS0.out.trans HS1.out⟩

set_option maxRecDepth 100000 in
set_option maxHeartbeats 1000000 in
theorem bld_rep5 (w0 : World) (bm S sc : Nat) (sa : Option Addr) (cap b off : Nat) (c : Hd) (ck : Fo) (esa ea : Option Addr) (esc ec : Nat) (hcap : 1 ≤ cap) (hcap2 : cap ≤ 9223372036854775807) (e0 : w0.cell? ⟨b, off, none⟩ = some (.int .i64 c.k)) (e1 : w0.cell? ⟨b, off + 1, none⟩ = some (.slice esa c.set.length esc)) (e2 : w0.cell? ⟨b, off + 2, none⟩ = some (.slice ea ck.len ec)) (hsp : Sps w0 esa esc c.set) (hI : Items w0 ea ec ck)
    (hP : BldP w0 bm c ck) (hg : ∀ a s, Grows s (bE c ck a s).2 (stE c ck) (2 * stE c ck)) (f : Nat) (s : Bs) (ev : Value) (ga : Option Addr) (gc : Nat) (w : World) (hb : Below w0.heap.size w0 w) (hM : MkAt 62 w w0.heap.size bm (s.1 : Int) 0 ev ga gc s.2) (hn : s.1 + stE c ck + 2 ≤ 1000000) (hl : s.2.length + 2 * stE c ck + 4 ≤ 10000000) :
    Calls Try.prog 38 #[.pointer (some ⟨bm, 0, none⟩), .agg #[.int .i64 5, .slice sa S sc, .slice (some ⟨b, off, none⟩) 1 cap], .int .i64 (f : Int)] w (BldQ w0 bm w ev (grw (bLoop (bE c ck) f s).1.1 [] (bLoop (bE c ck) f s).2)) := by
  have ebl : b < w0.heap.size := World.block_lt_of_cell? w0 _ e0
  have hmx : ck.len ≤ ec ∧ ec ≤ 9223372036854775807 := ⟨hI.le, hI.max⟩
  have hmx2 : c.set.length ≤ esc ∧ esc ≤ 9223372036854775807 := ⟨hsp.le, hsp.max⟩
  have hA0 := Blk.new w 35 #[.int .i64 5, .slice sa S sc, .slice (some ⟨b, off, none⟩) 1 cap]
  have hbn : Below w.heap.size w (w.alloc (.cells #[.int .i64 5, .slice sa S sc, .slice (some ⟨b, off, none⟩) 1 cap] 35)) := (Below.refl _ w).alloc (Nat.le_refl _) _
  have hM0 := hM.alloc (.cells #[.int .i64 5, .slice sa S sc, .slice (some ⟨b, off, none⟩) 1 cap] 35)
  have hS0 : Spares w0.heap.size (mkT 62) w (w.alloc (.cells #[.int .i64 5, .slice sa S sc, .slice (some ⟨b, off, none⟩) 1 cap] 35)) := Below.spares hbn hM.base_le
  have hb0 := hb.trans hS0.below
  have x0 := hA0.cell 0
  have x1 := hA0.cell 1
  have x2 := hA0.cell 2
  have xl := hA0.lt
  simp only [List.getElem?_cons_zero, List.getElem?_cons_succ] at x0 x1 x2
  have y0 := (hb0.cell (p := ⟨b, off, none⟩) ebl).trans e0
  have y1 := (hb0.cell (p := ⟨b, off + 1, none⟩) ebl).trans e1
  have y2 := (hb0.cell (p := ⟨b, off + 2, none⟩) ebl).trans e2
  have hlt : b < w.heap.size + 1 := by have := hb.size; omega
  obtain ⟨gl1, gl2, _⟩ := grows_loop hg f s
  have Hc := Lib.hid (bloop_any w0 bm c ck hP hg esa esc ea ec f s ev ga gc _ hsp hI hb0 hM0 (by omega) (by omega))
  have HS0 := Lib.hid hS0
  clear hbn hM0 hM hS0 hb0 hb hsp hI hP hg e0 e1 e2
  generalize bLoop (bE c ck) f s = G at gl1 gl2 Hc ⊢
  obtain ⟨⟨G1, G2⟩, G3⟩ := G
  dsimp only [itemV] at *
  go_enter Try.func38, Try.ntmps38
  go_wp2_with (fail)
  refine Hc.out.mono ?_
  rintro e w1 ⟨rfl, ga1, gc1, hM1, hS1⟩
  have Hc2 := Lib.hid (grow0 w0 bm G1 G3 ev ga1 gc1 w1 hM1 (by omega) (by omega))
  have HS1 := Lib.hid hS1
  clear hM1 hS1 x0 x1 x2 xl y0 y1 y2 hA0
  go_wp2_with (fail)
  refine Hc2.out.mono ?_
  rintro e w2 ⟨rfl, ga2, gc2, hM2, hS2⟩
  have HM2 := Lib.hid hM2
  have HS2 := Lib.hid hS2
  clear hM2 hS2
  go_wp2_with (fail)
  exact bodyPost_ret (v := _) (by simp [results, Try.results38, go_sem]; try first | rfl | assumption | omega) rfl ⟨rfl, ga2, gc2, HM2.out, HS0.out.trans (HS1.out.trans HS2.out)⟩

set_option maxRecDepth 100000 in
set_option maxHeartbeats 1000000 in
theorem bld_rep6 (w0 : World) (bm S sc : Nat) (sa : Option Addr) (cap b off : Nat) (c : Hd) (ck : Fo) (esa ea : Option Addr) (esc ec : Nat) (hcap : 1 ≤ cap) (hcap2 : cap ≤ 9223372036854775807) (e0 : w0.cell? ⟨b, off, none⟩ = some (.int .i64 c.k)) (e1 : w0.cell? ⟨b, off + 1, none⟩ = some (.slice esa c.set.length esc)) (e2 : w0.cell? ⟨b, off + 2, none⟩ = some (.slice ea ck.len ec)) (hsp : Sps w0 esa esc c.set) (hI : Items w0 ea ec ck)
    (hP : BldP w0 bm c ck) (hg : ∀ a s, Grows s (bE c ck a s).2 (stE c ck) (2 * stE c ck)) (f : Nat) (s : Bs) (ev : Value) (ga : Option Addr) (gc : Nat) (w : World) (hb : Below w0.heap.size w0 w) (hM : MkAt 62 w w0.heap.size bm (s.1 : Int) 0 ev ga gc s.2) (hn : s.1 + stE c ck + 2 ≤ 1000000) (hl : s.2.length + 2 * stE c ck + 4 ≤ 10000000) :
    Calls Try.prog 38 #[.pointer (some ⟨bm, 0, none⟩), .agg #[.int .i64 6, .slice sa S sc, .slice (some ⟨b, off, none⟩) 1 cap], .int .i64 (f : Int)] w (BldQ w0 bm w ev (grw (bLoop (bE c ck) f s).1.2 [] (bLoop (bE c ck) f s).2)) := by
  have ebl : b < w0.heap.size := World.block_lt_of_cell? w0 _ e0
  have hmx : ck.len ≤ ec ∧ ec ≤ 9223372036854775807 := ⟨hI.le, hI.max⟩
  have hmx2 : c.set.length ≤ esc ∧ esc ≤ 9223372036854775807 := ⟨hsp.le, hsp.max⟩
  have hA0 := Blk.new w 35 #[.int .i64 6, .slice sa S sc, .slice (some ⟨b, off, none⟩) 1 cap]
  have hbn : Below w.heap.size w (w.alloc (.cells #[.int .i64 6, .slice sa S sc, .slice (some ⟨b, off, none⟩) 1 cap] 35)) := (Below.refl _ w).alloc (Nat.le_refl _) _
  have hM0 := hM.alloc (.cells #[.int .i64 6, .slice sa S sc, .slice (some ⟨b, off, none⟩) 1 cap] 35)
  have hS0 : Spares w0.heap.size (mkT 62) w (w.alloc (.cells #[.int .i64 6, .slice sa S sc, .slice (some ⟨b, off, none⟩) 1 cap] 35)) := Below.spares hbn hM.base_le
  have hb0 := hb.trans hS0.below
  have x0 := hA0.cell 0
  have x1 := hA0.cell 1
  have x2 := hA0.cell 2
  have xl := hA0.lt
  simp only [List.getElem?_cons_zero, List.getElem?_cons_succ] at x0 x1 x2
  have y0 := (hb0.cell (p := ⟨b, off, none⟩) ebl).trans e0
  have y1 := (hb0.cell (p := ⟨b, off + 1, none⟩) ebl).trans e1
  have y2 := (hb0.cell (p := ⟨b, off + 2, none⟩) ebl).trans e2
  have hlt : b < w.heap.size + 1 := by have := hb.size; omega
  obtain ⟨gl1, gl2, _⟩ := grows_loop hg f s
  have Hc := Lib.hid (bloop_any w0 bm c ck hP hg esa esc ea ec f s ev ga gc _ hsp hI hb0 hM0 (by omega) (by omega))
  have HS0 := Lib.hid hS0
  clear hbn hM0 hM hS0 hb0 hb hsp hI hP hg e0 e1 e2
  generalize bLoop (bE c ck) f s = G at gl1 gl2 Hc ⊢
  obtain ⟨⟨G1, G2⟩, G3⟩ := G
  dsimp only [itemV] at *
  go_enter Try.func38, Try.ntmps38
  go_wp2_with (fail)
  refine Hc.out.mono ?_
  rintro e w1 ⟨rfl, ga1, gc1, hM1, hS1⟩
  have Hc2 := Lib.hid (grow0 w0 bm G2 G3 ev ga1 gc1 w1 hM1 (by omega) (by omega))
  have HS1 := Lib.hid hS1
  clear hM1 hS1 x0 x1 x2 xl y0 y1 y2 hA0
  go_wp2_with (fail)
  refine Hc2.out.mono ?_
  rintro e w2 ⟨rfl, ga2, gc2, hM2, hS2⟩
  have HM2 := Lib.hid hM2
  have HS2 := Lib.hid hS2
  clear hM2 hS2
  go_wp2_with (fail)
  exact bodyPost_ret (v := _) (by simp [results, Try.results38, go_sem]; try first | rfl | assumption | omega) rfl ⟨rfl, ga2, gc2, HM2.out, HS0.out.trans (HS1.out.trans HS2.out)⟩

end Go.Proofs.Ytpbceejjkdmclaa

/- Layer 3: build of an Opt. -/
namespace Go.Proofs.Ytpbceejjkdmclaa
open Go.RowKit Go.Shelf

attribute [local go_sem] Oper.semAt_some

set_option maxRecDepth 100000 in
set_option maxHeartbeats 1000000 in
theorem bld_opt (w0 : World) (bm S sc : Nat) (sa : Option Addr) (cap b off : Nat) (c : Hd) (ck : Fo) (esa ea : Option Addr) (esc ec : Nat) (hcap : 1 ≤ cap) (hcap2 : cap ≤ 9223372036854775807) (e0 : w0.cell? ⟨b, off, none⟩ = some (.int .i64 c.k)) (e1 : w0.cell? ⟨b, off + 1, none⟩ = some (.slice esa c.set.length esc)) (e2 : w0.cell? ⟨b, off + 2, none⟩ = some (.slice ea ck.len ec)) (hsp : Sps w0 esa esc c.set) (hI : Items w0 ea ec ck)
    (hP : BldP w0 bm c ck) (hg : ∀ a s, Grows s (bE c ck a s).2 (stE c ck) (2 * stE c ck)) (f : Nat) (s : Bs) (ev : Value) (ga : Option Addr) (gc : Nat) (w : World) (hb : Below w0.heap.size w0 w) (hM : MkAt 62 w w0.heap.size bm (s.1 : Int) 0 ev ga gc s.2) (hn : s.1 + stE c ck + 2 ≤ 1000000) (hl : s.2.length + 2 * stE c ck + 4 ≤ 10000000) :
    Calls Try.prog 38 #[.pointer (some ⟨bm, 0, none⟩), .agg #[.int .i64 7, .slice sa S sc, .slice (some ⟨b, off, none⟩) 1 cap], .int .i64 (f : Int)] w (BldQ w0 bm w ev (bOpt (bE c ck) f s)) := by
  have ebl : b < w0.heap.size := World.block_lt_of_cell? w0 _ e0
  have hmx : ck.len ≤ ec ∧ ec ≤ 9223372036854775807 := ⟨hI.le, hI.max⟩
  have hmx2 : c.set.length ≤ esc ∧ esc ≤ 9223372036854775807 := ⟨hsp.le, hsp.max⟩
  have hA0 := Blk.new w 35 #[.int .i64 7, .slice sa S sc, .slice (some ⟨b, off, none⟩) 1 cap]
  have hbn : Below w.heap.size w (w.alloc (.cells #[.int .i64 7, .slice sa S sc, .slice (some ⟨b, off, none⟩) 1 cap] 35)) := (Below.refl _ w).alloc (Nat.le_refl _) _
  have hM0 := hM.alloc (.cells #[.int .i64 7, .slice sa S sc, .slice (some ⟨b, off, none⟩) 1 cap] 35)
  have hS0 : Spares w0.heap.size (mkT 62) w (w.alloc (.cells #[.int .i64 7, .slice sa S sc, .slice (some ⟨b, off, none⟩) 1 cap] 35)) := Below.spares hbn hM.base_le
  have hb0 := hb.trans hS0.below
  have x0 := hA0.cell 0
  have x1 := hA0.cell 1
  have x2 := hA0.cell 2
  have xl := hA0.lt
  simp only [List.getElem?_cons_zero, List.getElem?_cons_succ] at x0 x1 x2
  have y0 := (hb0.cell (p := ⟨b, off, none⟩) ebl).trans e0
  have y1 := (hb0.cell (p := ⟨b, off + 1, none⟩) ebl).trans e1
  have y2 := (hb0.cell (p := ⟨b, off + 2, none⟩) ebl).trans e2
  have HSt : Hid (∀ W, Below w0.heap.size w0 W → Blk W w.heap.size 35 [.int .i64 7, .slice sa S sc, .slice (some ⟨b, off, none⟩) 1 cap] → (W.cell? ⟨w.heap.size, 2, none⟩ = some (.slice (some ⟨b, off, none⟩) 1 cap) ∧ W.cell? ⟨b, off, none⟩ = some (.int .i64 c.k) ∧ W.cell? ⟨b, off + 1, none⟩ = some (.slice esa c.set.length esc) ∧ W.cell? ⟨b, off + 2, none⟩ = some (.slice ea ck.len ec))) := Lib.hid (fun W hW hB => ⟨by simpa using hB.cell 2, (hW.cell (p := ⟨b, off, none⟩) ebl).trans e0, (hW.cell (p := ⟨b, off + 1, none⟩) ebl).trans e1, (hW.cell (p := ⟨b, off + 2, none⟩) ebl).trans e2⟩)
  have hbd := (Below.refl (w.alloc (.cells #[.int .i64 7, .slice sa S sc, .slice (some ⟨b, off, none⟩) 1 cap] 35)).heap.size (w.alloc (.cells #[.int .i64 7, .slice sa S sc, .slice (some ⟨b, off, none⟩) 1 cap] 35))).drew
  have HSd : Hid (Spares w0.heap.size (mkT 62) (w.alloc (.cells #[.int .i64 7, .slice sa S sc, .slice (some ⟨b, off, none⟩) 1 cap] 35)) (w.alloc (.cells #[.int .i64 7, .slice sa S sc, .slice (some ⟨b, off, none⟩) 1 cap] 35)).drew) := Lib.hid (Below.spares hbd hM0.base_le)
  have HB0 := Lib.hid (hb0.trans HSd.out.below)
  have HA0 : Hid (Blk (w.alloc (.cells #[.int .i64 7, .slice sa S sc, .slice (some ⟨b, off, none⟩) 1 cap] 35)).drew w.heap.size 35 [.int .i64 7, .slice sa S sc, .slice (some ⟨b, off, none⟩) 1 cap]) := Lib.hid hA0
  have HH0 := Lib.hid (HSt.out _ HB0.out HA0.out)
  have Hc1 := Lib.hid (grow0 w0 bm f s ev ga gc _ hM0.drew (by omega) (by omega))
  obtain ⟨gr1, gr2, _⟩ := grows_grw f [] s
  have HS0 := Lib.hid hS0
  unfold bOpt
  generalize grw f [] s = G at gr1 gr2 Hc1 ⊢
  obtain ⟨he1, he2, _⟩ := hg G.1 G.2
  have HP := Lib.hid (fun ga1 gc1 w1 hb1 hM1 => hP esa esc ea ec G.1 G.2 ev ga1 gc1 w1 hsp hI hb1 hM1 (by omega) (by omega))
  clear hbn hM0 hM hS0 hb0 hb hsp hI hP hg e0 e1 e2 hbd hA0
  generalize bE c ck G.1 G.2 = H at he1 he2 HP ⊢
  obtain ⟨G1, G2⟩ := G
  obtain ⟨H1, H2⟩ := H
  dsimp only [itemV] at *
  obtain ⟨gw1, gw2, _⟩ := grows_grw H1 [] H2
  go_enter Try.func38, Try.ntmps38
  go_wp2_with (fail)
  refine wp_region_held_drew (S := fun w' => (w'.cell? ⟨w.heap.size, 2, none⟩ = some (.slice (some ⟨b, off, none⟩) 1 cap) ∧ w'.cell? ⟨b, off, none⟩ = some (.int .i64 c.k) ∧ w'.cell? ⟨b, off + 1, none⟩ = some (.slice esa c.set.length esc) ∧ w'.cell? ⟨b, off + 2, none⟩ = some (.slice ea ck.len ec))) (by kernel_rfl) ?_ (fun hHeld => ?_)
  · exact HH0.out
  refine wpAnyH_take (i := 0) (v := ?_) (gatL gatZ) (by kernel_rfl) (by kernel_rfl) (by kernel_rfl) (fun _ _ _ h => h) (Or.inl ⟨by rfl, ?_⟩) (by assumption) ?_
  rotate_left
  · intro w hSw
    try dsimp only at hSw
    go_simp
    all_goals with_reducible rfl
  try simp only [Act.put, List.setIfInBounds_toArray, List.set_cons_zero, List.set_cons_succ]
  refine wpAnyH_take (i := 1) (v := ?_) (gatL (gatS gatZ)) (by kernel_rfl) (by kernel_rfl) (by kernel_rfl) (fun _ _ _ h => h) (Or.inl ⟨by rfl, ?_⟩) (by assumption) ?_
  rotate_left
  · intro w hSw
    try dsimp only at hSw
    go_simp
    all_goals with_reducible rfl
  try simp only [Act.put, List.setIfInBounds_toArray, List.set_cons_zero, List.set_cons_succ]
  refine wpAnyH_take (i := 2) (v := ?_) (gatL (gatS (gatS gatZ))) (by kernel_rfl) (by kernel_rfl) (by kernel_rfl) (fun _ _ _ h => h) (Or.inl ⟨by rfl, ?_⟩) (by assumption) ?_
  rotate_left
  · intro w hSw
    try dsimp only at hSw
    go_simp
    all_goals with_reducible rfl
  try simp only [Act.put, List.setIfInBounds_toArray, List.set_cons_zero, List.set_cons_succ]
  refine wpAnyH_take (i := 3) (v := ?_) (gatL (gatS (gatS (gatS gatZ)))) (by kernel_rfl) (by kernel_rfl) (by kernel_rfl) (fun _ _ _ h => h) (Or.inl ⟨by rfl, ?_⟩) (by assumption) ?_
  rotate_left
  · intro w hSw
    try dsimp only at hSw
    go_simp
    all_goals with_reducible rfl
  try simp only [Act.put, List.setIfInBounds_toArray, List.set_cons_zero, List.set_cons_succ]
  refine wpAnyH_take (i := 4) (v := ?_) (gatL (gatS (gatS (gatS (gatS gatZ))))) (by kernel_rfl) (by kernel_rfl) (by kernel_rfl) (fun _ _ _ h => h) (Or.inl ⟨by rfl, ?_⟩) (by assumption) ?_
  rotate_left
  · intro w hSw
    try dsimp only at hSw
    go_simp
    all_goals with_reducible rfl
  try simp only [Act.put, List.setIfInBounds_toArray, List.set_cons_zero, List.set_cons_succ]
  refine wpAnyH_take (i := 5) (v := ?_) (gatL (gatS (gatS (gatS (gatS (gatS gatZ)))))) (by kernel_rfl) (by kernel_rfl) (by kernel_rfl) (fun _ _ _ h => h) (Or.inl ⟨by rfl, ?_⟩) (by assumption) ?_
  rotate_left
  · intro w hSw
    try dsimp only at hSw
    go_simp
    all_goals with_reducible rfl
  try simp only [Act.put, List.setIfInBounds_toArray, List.set_cons_zero, List.set_cons_succ]
  refine wpAnyH_take (i := 6) (v := ?_) (gatL (gatS (gatS (gatS (gatS (gatS (gatS gatZ))))))) (by kernel_rfl) (by kernel_rfl) (by kernel_rfl) (fun _ _ _ h => h) (Or.inl ⟨by rfl, ?_⟩) (by assumption) ?_
  rotate_left
  · intro w hSw
    try dsimp only at hSw
    go_simp
    all_goals with_reducible rfl
  try simp only [Act.put, List.setIfInBounds_toArray, List.set_cons_zero, List.set_cons_succ]
  refine wpAnyH_take (i := 7) (v := ?_) (gatL (gatS (gatS (gatS (gatS (gatS (gatS (gatS gatZ)))))))) (by kernel_rfl) (by kernel_rfl) (by kernel_rfl) (fun _ _ _ h => h) (Or.inl ⟨by rfl, ?_⟩) (by assumption) ?_
  rotate_left
  · intro w hSw
    try dsimp only at hSw
    go_simp
    all_goals with_reducible rfl
  try simp only [Act.put, List.setIfInBounds_toArray, List.set_cons_zero, List.set_cons_succ]
  refine wpAnyH_ready (rs := [8]) (by kernel_rfl) (by simp) ?_
  refine AllReadyH.cons (gatL (gatS (gatS (gatS (gatS (gatS (gatS (gatS (gatS gatZ))))))))) (fun K hK => ?_) AllReadyH.nil
  go_simp
  go_at_call 56
  (with_reducible refine Hc1.out.mono ?_)
  rintro e w1 ⟨rfl, ga1, gc1, hM1, hS1⟩
  have hb1 := HB0.out.trans hS1.below
  have hA1 := hS1.blk HA0.out rfl
  have HB1 := Lib.hid hb1
  have HA1 := Lib.hid hA1
  have hh1 := HSt.out _ hb1 hA1
  have HH1 := Lib.hid hh1
  clear hb1 hA1 hh1
  have HM1 := Lib.hid hM1
  have HS1 := Lib.hid hS1
  clear hM1 hS1
  dsimp only
  refine hK.out _ _ ?_ (fun hHeld => ?_)
  · exact HH1.out
  clear hK K
  try simp only [Act.put, List.setIfInBounds_toArray, List.set_cons_zero, List.set_cons_succ]
  refine wpAnyH_ready (rs := [9]) (by kernel_rfl) (by simp) ?_
  refine AllReadyH.cons (gatL (gatS (gatS (gatS (gatS (gatS (gatS (gatS (gatS (gatS gatZ)))))))))) (fun K hK => ?_) AllReadyH.nil
  go_simp
  go_at_call 38
  (with_reducible refine (HP.out ga1 gc1 w1 HB1.out HM1.out).mono ?_)
  rintro e w2 ⟨rfl, ga2, gc2, hM2, hS2⟩
  have hb2 := HB1.out.trans hS2.below
  have hA2 := hS2.blk HA1.out rfl
  have HB2 := Lib.hid hb2
  have HA2 := Lib.hid hA2
  have hh2 := HSt.out _ hb2 hA2
  have HH2 := Lib.hid hh2
  clear hb2 hA2 hh2
  have Hc2 := Lib.hid (grow0 w0 bm H1 H2 ev ga2 gc2 w2 hM2 (by omega) (by omega))
  have HS2 := Lib.hid hS2
  clear hM2 hS2
  dsimp only
  refine hK.out _ _ ?_ (fun hHeld => ?_)
  · exact HH2.out
  clear hK K
  try simp only [Act.put, List.setIfInBounds_toArray, List.set_cons_zero, List.set_cons_succ]
  refine wpAnyH_ready (rs := [10]) (by kernel_rfl) (by simp) ?_
  refine AllReadyH.cons (gatL (gatS (gatS (gatS (gatS (gatS (gatS (gatS (gatS (gatS (gatS gatZ))))))))))) (fun K hK => ?_) AllReadyH.nil
  go_simp
  go_at_call 56
  (with_reducible refine Hc2.out.mono ?_)
  rintro e w3 ⟨rfl, ga3, gc3, hM3, hS3⟩
  have hb3 := HB2.out.trans hS3.below
  have hA3 := hS3.blk HA2.out rfl
  have HB3 := Lib.hid hb3
  have HA3 := Lib.hid hA3
  have hh3 := HSt.out _ hb3 hA3
  have HH3 := Lib.hid hh3
  clear hb3 hA3 hh3
  have Hc3 := Lib.hid (link0 w0 bm f (grw H1 [] H2).1 (grw H1 [] H2).2 ev ga3 gc3 w3 hM3 (by omega))
  have HS3 := Lib.hid hS3
  clear hM3 hS3
  dsimp only
  refine hK.out _ _ ?_ (fun hHeld => ?_)
  · exact HH3.out
  clear hK K
  try simp only [Act.put, List.setIfInBounds_toArray, List.set_cons_zero, List.set_cons_succ]
  refine wpAnyH_take (i := 11) (v := ?_) (gatL (gatS (gatS (gatS (gatS (gatS (gatS (gatS (gatS (gatS (gatS (gatS gatZ)))))))))))) (by kernel_rfl) (by kernel_rfl) (by kernel_rfl) (fun _ _ _ h => h) (Or.inl ⟨by rfl, ?_⟩) (by assumption) ?_
  rotate_left
  · intro w hSw
    try dsimp only at hSw
    go_simp
    all_goals with_reducible rfl
  try simp only [Act.put, List.setIfInBounds_toArray, List.set_cons_zero, List.set_cons_succ]
  refine wpAnyH_done (by kernel_rfl) ?_ _
  go_wp2_with (fail)
  refine Hc3.out.mono ?_
  rintro e w4 ⟨rfl, ga4, gc4, hM4, hS4⟩
  have HM4 := Lib.hid hM4
  have HS4 := Lib.hid hS4
  clear hM4 hS4
  go_wp2_with (fail)
  exact bodyPost_ret (v := _) (by simp [results, Try.results38, go_sem]; try first | rfl | assumption | omega) rfl ⟨rfl, ga4, gc4, HM4.out, HS0.out.trans (HSd.out.trans (HS1.out.trans (HS2.out.trans (HS3.out.trans HS4.out))))⟩
end Go.Proofs.Ytpbceejjkdmclaa
