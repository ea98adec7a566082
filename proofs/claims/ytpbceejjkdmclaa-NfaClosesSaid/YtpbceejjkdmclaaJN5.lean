/- Texts of layer 2 joined: Gg Gh Gi Gj. -/
import Derived.Test.YtpbceejjkdmclaaJN4
import Derived.Test.YtpbceejjkdmclaaJL
import Derived.Deep.RegionHeld3
set_option linter.unusedVariables false
set_option linter.unusedSimpArgs false
/- Layer 3: build of a Cat. -/
namespace Go.Proofs.Ytpbceejjkdmclaa
open Go.RowKit Go.Shelf

attribute [local go_sem] Oper.semAt_some

/-- Each of a list. -/
def AllB (P : Hd → Fo → Prop) : Fo → Prop
  | .nil => True
  | .cons h k r => P h k ∧ AllB P r
theorem AllB.drop {P : Hd → Fo → Prop} : ∀ (k : Nat) (f : Fo), AllB P f → AllB P (f.drop k) := by
  intro k
  induction k with
  | zero => intro f h; exact h
  | succ k ih => intro f h; cases f with
    | nil => trivial
    | cons hd kids rest => exact ih rest h.2
/-- One of a list may be made. -/
def BldO (w0 : World) (bm : Nat) (h : Hd) (k : Fo) : Prop := BldP w0 bm h k ∧ ∀ a s, Grows s (bE h k a s).2 (stE h k) (2 * stE h k)

set_option maxRecDepth 100000 in
set_option maxHeartbeats 1000000 in
theorem bld_cat (w0 : World) (bm S sc : Nat) (sa : Option Addr) (L cap : Nat) (a : Option Addr) (kids : Fo) (hL : kids.len = L) (hI : Items w0 a cap kids) (hP : AllB (BldO w0 bm) kids) (f : Nat) (s : Bs) (ev : Value) (ga : Option Addr) (gc : Nat) (w : World) (hb : Below w0.heap.size w0 w) (hM : MkAt 62 w w0.heap.size bm (s.1 : Int) 0 ev ga gc s.2) (hn : s.1 + stF kids ≤ 1000000) (hl : s.2.length + 2 * stF kids ≤ 10000000) :
    Calls Try.prog 38 #[.pointer (some ⟨bm, 0, none⟩), .agg #[.int .i64 3, .slice sa S sc, .slice a L cap], .int .i64 (f : Int)] w (BldQ w0 bm w ev ((bF kids).cat f s)) := by
  have hlm : L ≤ cap ∧ cap ≤ 9223372036854775807 := ⟨hL ▸ hI.le, hI.max⟩
  have HL := Lib.hid hL
  have hA0 := Blk.new w 35 #[.int .i64 3, .slice sa S sc, .slice a L cap]
  have hbn : Below w.heap.size w (w.alloc (.cells #[.int .i64 3, .slice sa S sc, .slice a L cap] 35)) := (Below.refl _ w).alloc (Nat.le_refl _) _
  have hM0 := hM.alloc (.cells #[.int .i64 3, .slice sa S sc, .slice a L cap] 35)
  have hS0 : Spares w0.heap.size (mkT 62) w (w.alloc (.cells #[.int .i64 3, .slice sa S sc, .slice a L cap] 35)) := Below.spares hbn hM.base_le
  have hb0 := hb.trans hS0.below
  have HS0 := Lib.hid hS0
  have HB0 := Lib.hid hb0
  have HM0 := Lib.hid hM0
  have HP := Lib.hid hP
  have HA0 := Lib.hid hA0
  obtain ⟨R, hR⟩ : ∃ R, Hid ((bF kids).cat f s = R) := ⟨_, Lib.hid rfl⟩
  rw [hR.out]
  obtain ⟨W0, hW0⟩ : ∃ W, Hid (w.alloc (.cells #[.int .i64 3, .slice sa S sc, .slice a L cap] 35) = W) := ⟨_, Lib.hid rfl⟩
  rw [hW0.out] at HS0 HB0 HM0 HA0
  have hws : W0.heap.size = w.heap.size + 1 := by rw [← hW0.out]; simp
  clear hbn hM0 hM hS0 hb0 hb hP hL hA0
  have x0 := HA0.out.cell 0
  have x1 := HA0.out.cell 1
  have x2 := HA0.out.cell 2
  have xl := HA0.out.lt
  simp only [List.getElem?_cons_zero, List.getElem?_cons_succ] at x0 x1 x2
  go_enter Try.func38, Try.ntmps38
  go_wp2_with (fail)
  rw [hW0.out]
  go_loopw [2, 21] (fun fv iv wr => ∃ (k g : Nat) (t : Bs) (ga' : Option Addr) (gc' : Nat), k ≤ L ∧ iv = .int .i64 (k : Int) ∧ fv = .int .i64 (g : Int) ∧ (bF (kids.drop k)).cat g t = R ∧ (t.1 + stF (kids.drop k) ≤ 1000000 ∧ t.2.length + 2 * stF (kids.drop k) ≤ 10000000) ∧ MkAt 62 wr w0.heap.size bm (t.1 : Int) 0 ev ga' gc' t.2 ∧ Spares w0.heap.size (mkT 62) W0 wr) (fun _ iv _ => L - (intOf iv).toNat)
  case atStart => exact ⟨0, f, s, ga, gc, Nat.zero_le _, rfl, rfl, hR.out, ⟨hn, hl⟩, HM0.out, Spares.refl _ _ _⟩
  case round =>
    obtain ⟨k, g, t, ga1, gc1, hk, rfl, rfl, hc, ⟨hn1, hl1⟩, hM1, hS1⟩ := hrel
    clear x0 x1 x2 xl
    have hA1 := hS1.blk HA0.out rfl
    have hb1 := HB0.out.trans hS1.below
    have Hc := Lib.hid hc
    have HM1 := Lib.hid hM1
    have HS1 := Lib.hid hS1
    have hsz := hS1.size
    clear hc hM1 hS1
    have x0 := hA1.cell 0
    have x1 := hA1.cell 1
    have x2 := hA1.cell 2
    have xl := hA1.lt
    simp only [List.getElem?_cons_zero, List.getElem?_cons_succ] at x0 x1 x2
    by_cases hlt : k < L
    · have hkI : (k : Int) < (L : Int) := by omega
      have hkI0 : (0 : Int) ≤ (k : Int) := by omega
      obtain ⟨b, off, hd, ks, ya, yc, xa, xcap, rfl, hat⟩ := hI.at (k := k) (by rw [HL.out]; exact hlt)
      obtain ⟨e0, e1, e2, hsp, hIk, hcut⟩ := hat
      have ebl : b < w0.heap.size := World.block_lt_of_cell? w0 _ e0
      have y0 := (hb1.cell (p := ⟨b, off + k * 3, none⟩) ebl).trans e0
      have y1 := (hb1.cell (p := ⟨b, off + k * 3 + 1, none⟩) ebl).trans e1
      have y2 := (hb1.cell (p := ⟨b, off + k * 3 + 2, none⟩) ebl).trans e2
      have hblt : b < wr.heap.size := World.block_lt_of_cell? wr _ y0
      have hmx : ks.len ≤ xcap ∧ xcap ≤ 9223372036854775807 := ⟨hIk.le, hIk.max⟩
      have hmx2 : hd.set.length ≤ yc ∧ yc ≤ 9223372036854775807 := ⟨hsp.le, hsp.max⟩
      have hPk := AllB.drop k kids HP.out
      rw [hcut] at hPk hn1 hl1
      obtain ⟨⟨hPe, hge⟩, _⟩ := hPk
      rw [stF] at hn1 hl1
      obtain ⟨q1, q2, _⟩ := hge g t
      have q3 : stE hd ks = stX hd ks.len (stF ks) := rfl
      have hnx := (Below.refl wr.heap.size wr).alloc (Nat.le_refl _) (.cells #[.int .i64 hd.k, .slice ya hd.set.length yc, .slice xa ks.len xcap] 35)
      have HSx : Hid (Spares w0.heap.size (mkT 62) wr (wr.alloc (.cells #[.int .i64 hd.k, .slice ya hd.set.length yc, .slice xa ks.len xcap] 35))) := Lib.hid (Below.spares hnx HM1.out.base_le)
      have Hcl := Lib.hid (hPe ya yc xa xcap g t ev ga1 gc1 _ hsp hIk (hb1.trans HSx.out.below) (HM1.out.alloc (.cells #[.int .i64 hd.k, .slice ya hd.set.length yc, .slice xa ks.len xcap] 35)) (by omega) (by omega))
      have HR2 : Hid ((bF (kids.drop (k + 1))).cat (bE hd ks g t).1 (bE hd ks g t).2 = R) := Lib.hid (by have := Hc.out; rw [hcut] at this; exact this)
      clear hnx hPe hge hb1 hsp hIk e0 e1 e2 hcut
      generalize bE hd ks g t = G at q1 q2 Hcl HR2
      obtain ⟨G1, G2⟩ := G
      dsimp only [itemV] at *
      go_wp2_with (fail)
      refine Hcl.out.mono ?_
      rintro e w4 ⟨rfl, ga2, gc2, hM4, hS4⟩
      have HM4 := Lib.hid hM4
      have HS4 := Lib.hid hS4
      clear hM4 hS4
      dsimp only
      go_wp2_with (fail)
      exact ⟨⟨k + 1, G1, G2, ga2, gc2, by omega, by simp, rfl, HR2.out, ⟨by omega, by omega⟩, HM4.out, HS1.out.trans (HSx.out.trans HS4.out)⟩, by simp [intOf]; omega⟩
    · obtain rfl : k = L := by omega
      have hkI : ¬ (k : Int) < (k : Int) := by omega
      have hd0 : kids.drop k = .nil := Fo.drop_all (by rw [HL.out]; exact Nat.le_refl _)
      have HF : Hid (R = (g, t)) := Lib.hid (by rw [← Hc.out, hd0]; rfl)
      clear hd0
      go_wp2_with (fail)
      exact bodyPost_ret (v := .int .i64 (g : Int)) (by simp [results, Try.results38, go_sem]; try first | rfl | assumption | omega) rfl ⟨by rw [HF.out], ga1, gc1, by rw [HF.out]; exact HM1.out, HS0.out.trans HS1.out⟩

end Go.Proofs.Ytpbceejjkdmclaa

/- Layer 3: buildAlt. -/
namespace Go.Proofs.Ytpbceejjkdmclaa
open Go.RowKit Go.Shelf

attribute [local go_sem] Oper.semAt_some

theorem OwnI.typ {w : World} {base n cap : Nat} {a : Option Addr} {l : List Nat} (h : OwnI w base a n cap l) : ∀ g, (Value.slice a n cap).ownBlock = some g → base ≤ g ∧ ∃ cur, w.heap[g]? = some (.cells cur 3 (0, 0)) := by
  intro g hg
  rcases h.2 with ⟨e, _⟩ | ⟨g', cap', cur, e, hb, hk, _⟩
  · rw [e] at hg; cases hg
  · rw [e] at hg
    simp only [Value.ownBlock, Option.some.injEq] at hg
    subst hg
    exact ⟨hb, cur, hk⟩
theorem OwnI.nth {w : World} {base n cap : Nat} {a : Option Addr} {l : List Nat} (h : OwnI w base a n cap l) {i : Nat} (hi : i < l.length) : ∃ g, a = some ⟨g, 0, none⟩ ∧ w.cell? ⟨g, i, none⟩ = some (.int .i64 (l[i] : Int)) ∧ n ≤ cap ∧ cap ≤ 9223372036854775807 := by
  have hn := h.len
  rcases h.2 with ⟨e, e0⟩ | ⟨g, cap', cur, e, hb, hk, hnc, hcm, _⟩
  · omega
  · injection e with e1 e2 e3
    subst e1 e3
    refine ⟨g, rfl, ?_, hnc, by unfold maxLen at hcm; omega⟩
    have := World.ownsRow.cellAt h i (by omega)
    rw [this, List.getElem?_map, List.getElem?_eq_getElem hi]
    rfl
/-- A number is put onto an own row beside an automaton that grows. -/
theorem MkAt.pushI {tm : TypeId} {w wr : World} {base bm n cap : Nat} {N s : Int} {ev : Value} {ga : Option Addr} {gc : Nat} {es : List Eg} {a : Option Addr} {l : List Nat} (h : MkAt tm wr base bm N s ev ga gc es) (ty : TypeId) (x : Nat) (hown : OwnI wr w.heap.size a n cap l) (hn : n + 1 ≤ 1099511627780) (hS : Spares base (mkT tm) w wr) (hB : base ≤ w.heap.size) (htm : tm ≠ 3) :
    ∃ a' cap' w', (Builtin.append_ #[22, 22] ty #[.slice a n cap, .slice (some ⟨wr.heap.size, 0, none⟩) 1 1]).run Try.prog (wr.alloc (.cells #[.int .i64 (x : Int)] 3)) = .ok (.slice a' (n + 1) cap') w' ∧
      OwnI w' w.heap.size a' (n + 1) cap' (l ++ [x]) ∧ MkAt tm w' base bm N s ev ga gc es ∧ Spares base (mkT tm) w w' ∧ (∀ b e cs, Blk wr b e cs → e ≠ 3 → Blk w' b e cs) := by
  obtain ⟨a', cap', w', hrun, ho, hg, _⟩ := run_pushI wr ty x _ rfl hown hn hS.size
  have ht := hown.typ
  refine ⟨a', cap', w', hrun, ho, h.other hg (fun r e => ⟨Nat.le_trans hB (ht r e).1, fun cs t fr hk => ?_⟩), hS.behind hg hB (fun r e => (ht r e).1), fun b e cs hb hne => hb.kept hg (fun e' => ?_)⟩
  · obtain ⟨_, cur, h2⟩ := ht r e
    rw [hk] at h2
    cases h2
    exact ⟨by decide, fun e => htm e.symm, by decide⟩
  · obtain ⟨_, cur, h2⟩ := ht b e'.symm
    unfold Blk at hb
    rw [h2] at hb
    cases hb
    exact hne rfl
theorem alt_cons (hd : Hd) (ks r : Fo) (f : Nat) (t : Bs) : (bF (.cons hd ks r)).alt f t = ((bE hd ks (grw f [] t).1 (grw f [] t).2).1 :: ((bF r).alt f (bE hd ks (grw f [] t).1 (grw f [] t).2).2).1, ((bF r).alt f (bE hd ks (grw f [] t).1 (grw f [] t).2).2).2) := rfl

set_option maxRecDepth 100000 in
set_option maxHeartbeats 1000000 in
theorem balt_any (w0 : World) (bm L cap : Nat) (a : Option Addr) (kids : Fo) (hL : kids.len = L) (hL0 : 2 ≤ L) (hI : Items w0 a cap kids) (hP : AllB (BldO w0 bm) kids) (f : Nat) (s : Bs) (ev : Value) (ga : Option Addr) (gc : Nat) (w : World) (hb : Below w0.heap.size w0 w) (hM : MkAt 62 w w0.heap.size bm (s.1 : Int) 0 ev ga gc s.2) (hn : s.1 + (stF kids + L) + 1 ≤ 1000000) (hl : s.2.length + (2 * stF kids + L) + L + 1 ≤ 10000000) :
    Calls Try.prog 54 #[.pointer (some ⟨bm, 0, none⟩), .slice a L cap, .int .i64 (f : Int)] w (BldQ w0 bm w ev (altEnd ((bF kids).alt f s))) := by
  have hlm : L ≤ cap ∧ cap ≤ 9223372036854775807 := ⟨hL ▸ hI.le, hI.max⟩
  have HL := Lib.hid hL
  have HB0 := Lib.hid hb
  have HM0 := Lib.hid hM
  have HP := Lib.hid hP
  have HBw := Lib.hid hM.base_le
  obtain ⟨R, hR⟩ : ∃ R, Hid ((bF kids).alt f s = R) := ⟨_, Lib.hid rfl⟩
  rw [hR.out]
  clear hM hb hP hL
  go_enter Try.func54, Try.ntmps54
  go_wp2_with (fail)
  go_loopw [7, 15] (fun ov iv wr => ∃ (k : Nat) (l : List Nat) (t : Bs) (ga' : Option Addr) (gc' : Nat) (ea : Option Addr) (ec : Nat), k ≤ L ∧ iv = .int .i64 (k : Int) ∧ ov = .slice ea l.length ec ∧ l.length = k ∧ OwnI wr w.heap.size ea l.length ec l ∧ (l ++ ((bF (kids.drop k)).alt f t).1, ((bF (kids.drop k)).alt f t).2) = R ∧ (t.1 + (stF (kids.drop k) + (L - k)) + 1 ≤ 1000000 ∧ t.2.length + (2 * stF (kids.drop k) + (L - k)) + L + 1 ≤ 10000000) ∧ MkAt 62 wr w0.heap.size bm (t.1 : Int) 0 ev ga' gc' t.2 ∧ Spares w0.heap.size (mkT 62) w wr) (fun _ iv _ => L - (intOf iv).toNat)
  case atStart => exact ⟨0, [], s, ga, gc, none, 0, Nat.zero_le _, rfl, rfl, rfl, World.ownsRow_nil _ _ _ _, hR.out, ⟨hn, hl⟩, HM0.out, Spares.refl _ _ _⟩
  case round =>
    obtain ⟨k, l, t, ga1, gc1, ea, ec, hk, rfl, rfl, hlk, ho1, hc, ⟨hn1, hl1⟩, hM1, hS1⟩ := hrel
    have hb1 := HB0.out.trans hS1.below
    have Hc := Lib.hid hc
    have HM1 := Lib.hid hM1
    have HS1 := Lib.hid hS1
    have HO1 := Lib.hid ho1
    have hsz := hS1.size
    have Hlk := Lib.hid hlk
    clear hc hM1 hS1 ho1 hlk
    by_cases hlt : k < L
    · have hkI : (k : Int) < (L : Int) := by omega
      have hkI0 : (0 : Int) ≤ (k : Int) := by omega
      obtain ⟨b, off, hd, ks, ya, yc, xa, xcap, rfl, hat⟩ := hI.at (k := k) (by rw [HL.out]; exact hlt)
      obtain ⟨e0, e1, e2, hsp, hIk, hcut⟩ := hat
      have ebl : b < w0.heap.size := World.block_lt_of_cell? w0 _ e0
      have y0 := (hb1.cell (p := ⟨b, off + k * 3, none⟩) ebl).trans e0
      have y1 := (hb1.cell (p := ⟨b, off + k * 3 + 1, none⟩) ebl).trans e1
      have y2 := (hb1.cell (p := ⟨b, off + k * 3 + 2, none⟩) ebl).trans e2
      have hblt : b < wr.heap.size := World.block_lt_of_cell? wr _ y0
      have hmx : ks.len ≤ xcap ∧ xcap ≤ 9223372036854775807 := ⟨hIk.le, hIk.max⟩
      have hmx2 : hd.set.length ≤ yc ∧ yc ≤ 9223372036854775807 := ⟨hsp.le, hsp.max⟩
      have hPk := AllB.drop k kids HP.out
      rw [hcut] at hPk hn1 hl1
      obtain ⟨⟨hPe, hge⟩, _⟩ := hPk
      rw [stF] at hn1 hl1
      have q3 : stE hd ks = stX hd ks.len (stF ks) := rfl
      have hnx := (Below.refl wr.heap.size wr).alloc (Nat.le_refl _) (.cells #[.int .i64 hd.k, .slice ya hd.set.length yc, .slice xa ks.len xcap] 35)
      have hSx : Spares w0.heap.size (mkT 62) wr (wr.alloc (.cells #[.int .i64 hd.k, .slice ya hd.set.length yc, .slice xa ks.len xcap] 35)) := Below.spares hnx HM1.out.base_le
      have hSd : Spares w0.heap.size (mkT 62) wr (wr.alloc (.cells #[.int .i64 hd.k, .slice ya hd.set.length yc, .slice xa ks.len xcap] 35)).drew := hSx.trans (Below.spares (Below.refl _ _).drew (Nat.le_trans HM1.out.base_le hSx.size))
      have HSd := Lib.hid (HS1.out.trans hSd)
      have HBd := Lib.hid (hb1.trans hSd.below)
      have HMd := Lib.hid (HM1.out.alloc (.cells #[.int .i64 hd.k, .slice ya hd.set.length yc, .slice xa ks.len xcap] 35)).drew
      have HOd : Hid (OwnI (wr.alloc (.cells #[.int .i64 hd.k, .slice ya hd.set.length yc, .slice xa ks.len xcap] 35)).drew w.heap.size ea l.length ec l) := Lib.hid (hSd.own HO1.out rfl)
      have HEd : Hid (Blk (wr.alloc (.cells #[.int .i64 hd.k, .slice ya hd.set.length yc, .slice xa ks.len xcap] 35)).drew wr.heap.size 35 [.int .i64 hd.k, .slice ya hd.set.length yc, .slice xa ks.len xcap]) := Lib.hid (Blk.new wr 35 #[.int .i64 hd.k, .slice ya hd.set.length yc, .slice xa ks.len xcap])
      have HSt : Hid (∀ W, Blk W wr.heap.size 35 [.int .i64 hd.k, .slice ya hd.set.length yc, .slice xa ks.len xcap] → (W.cell? ⟨wr.heap.size, 0, none⟩ = some (.int .i64 hd.k) ∧ W.cell? ⟨wr.heap.size, 1, none⟩ = some (.slice ya hd.set.length yc) ∧ W.cell? ⟨wr.heap.size, 2, none⟩ = some (.slice xa ks.len xcap))) := Lib.hid (fun W hB => ⟨by simpa using hB.cell 0, by simpa using hB.cell 1, by simpa using hB.cell 2⟩)
      have Hc1 := Lib.hid (grow0 w0 bm f t ev ga1 gc1 _ HMd.out (by omega) (by omega))
      obtain ⟨gr1, gr2, _⟩ := grows_grw f [] t
      have HR1 : Hid ((l ++ ((bF (kids.drop k)).alt f t).1, ((bF (kids.drop k)).alt f t).2) = R) := Hc
      have hal := alt_cons hd ks (kids.drop (k + 1)) f t
      rw [← hcut] at hal
      have HR2 : Hid (((l ++ [(bE hd ks (grw f [] t).1 (grw f [] t).2).1]) ++ ((bF (kids.drop (k + 1))).alt f (bE hd ks (grw f [] t).1 (grw f [] t).2).2).1, ((bF (kids.drop (k + 1))).alt f (bE hd ks (grw f [] t).1 (grw f [] t).2).2).2) = R) := Lib.hid (by rw [← HR1.out, hal]; simp)
      clear HR1 Hc hal
      generalize grw f [] t = G at gr1 gr2 Hc1 HR2
      obtain ⟨he1, he2, _⟩ := hge G.1 G.2
      have HP2 := Lib.hid (fun ga1 gc1 w1 hb1 hM1 => hPe ya yc xa xcap G.1 G.2 ev ga1 gc1 w1 hsp hIk hb1 hM1 (by omega) (by omega))
      clear hnx hSx hSd hPe hge hb1 hsp hIk e0 e1 e2 hcut
      generalize bE hd ks G.1 G.2 = H at he1 he2 HP2 HR2
      obtain ⟨G1, G2⟩ := G
      obtain ⟨H1, H2⟩ := H
      dsimp only [itemV] at *
      go_wp2_with (fail)
      refine wp_region_held_drew (S := fun w' => (w'.cell? ⟨wr.heap.size, 0, none⟩ = some (.int .i64 hd.k) ∧ w'.cell? ⟨wr.heap.size, 1, none⟩ = some (.slice ya hd.set.length yc) ∧ w'.cell? ⟨wr.heap.size, 2, none⟩ = some (.slice xa ks.len xcap))) (by kernel_rfl) ?_ (fun hHeld => ?_)
      · exact HSt.out _ HEd.out
      refine wpAnyH_take (i := 0) (v := ?_) (gatL gatZ) (by kernel_rfl) (by kernel_rfl) (by kernel_rfl) (fun _ _ _ h => h) (Or.inl ⟨by rfl, ?_⟩) (by assumption) ?_
      rotate_left
      · intro w hSw
        try dsimp only at hSw
        go_simp
        all_goals with_reducible rfl
      try simp only [Act.put, List.setIfInBounds_toArray, List.set_cons_zero, List.set_cons_succ]
      refine wpAnyH_take (i := 1) (v := ?_) (gatL (gatS gatZ)) (by kernel_rfl) (by kernel_rfl) (by kernel_rfl) (fun _ _ _ h => h) (Or.inl ⟨by rfl, ?_⟩) (by assumption) ?_
      rotate_left
      · intro w hSw
        try dsimp only at hSw
        go_simp
        all_goals with_reducible rfl
      try simp only [Act.put, List.setIfInBounds_toArray, List.set_cons_zero, List.set_cons_succ]
      refine wpAnyH_take (i := 2) (v := ?_) (gatL (gatS (gatS gatZ))) (by kernel_rfl) (by kernel_rfl) (by kernel_rfl) (fun _ _ _ h => h) (Or.inl ⟨by rfl, ?_⟩) (by assumption) ?_
      rotate_left
      · intro w hSw
        try dsimp only at hSw
        go_simp
        all_goals with_reducible rfl
      try simp only [Act.put, List.setIfInBounds_toArray, List.set_cons_zero, List.set_cons_succ]
      refine wpAnyH_take (i := 3) (v := ?_) (gatL (gatS (gatS (gatS gatZ)))) (by kernel_rfl) (by kernel_rfl) (by kernel_rfl) (fun _ _ _ h => h) (Or.inl ⟨by rfl, ?_⟩) (by assumption) ?_
      rotate_left
      · intro w hSw
        try dsimp only at hSw
        go_simp
        all_goals with_reducible rfl
      try simp only [Act.put, List.setIfInBounds_toArray, List.set_cons_zero, List.set_cons_succ]
      refine wpAnyH_take (i := 4) (v := ?_) (gatL (gatS (gatS (gatS (gatS gatZ))))) (by kernel_rfl) (by kernel_rfl) (by kernel_rfl) (fun _ _ _ h => h) (Or.inl ⟨by rfl, ?_⟩) (by assumption) ?_
      rotate_left
      · intro w hSw
        try dsimp only at hSw
        go_simp
        all_goals with_reducible rfl
      try simp only [Act.put, List.setIfInBounds_toArray, List.set_cons_zero, List.set_cons_succ]
      refine wpAnyH_ready (rs := [5]) (by kernel_rfl) (by simp) ?_
      refine AllReadyH.cons (gatL (gatS (gatS (gatS (gatS (gatS gatZ)))))) (fun K hK => ?_) AllReadyH.nil
      go_simp
      go_at_call 56
      (with_reducible refine Hc1.out.mono ?_)
      rintro e w2 ⟨rfl, ga2, gc2, hM2, hS2⟩
      have HE2 := Lib.hid (hS2.blk HEd.out rfl)
      have HB2 := Lib.hid (HBd.out.trans hS2.below)
      have HM2 := Lib.hid hM2
      have HS2 := Lib.hid hS2
      clear hM2 hS2
      dsimp only
      refine hK.out _ _ ?_ (fun hHeld => ?_)
      · exact HSt.out _ HE2.out
      clear hK K
      try simp only [Act.put, List.setIfInBounds_toArray, List.set_cons_zero, List.set_cons_succ]
      refine wpAnyH_ready (rs := [6]) (by kernel_rfl) (by simp) ?_
      refine AllReadyH.cons (gatL (gatS (gatS (gatS (gatS (gatS (gatS gatZ))))))) (fun K hK => ?_) AllReadyH.nil
      go_simp
      go_at_call 38
      (with_reducible refine (HP2.out ga2 gc2 w2 HB2.out HM2.out).mono ?_)
      rintro e w3 ⟨rfl, ga3, gc3, hM3, hS3⟩
      have HE3 := Lib.hid (hS3.blk HE2.out rfl)
      have hSw := HSd.out.trans (HS2.out.trans hS3)
      have ho3 : OwnI w3 w.heap.size ea l.length ec l := hS3.own (HS2.out.own HOd.out rfl) rfl
      obtain ⟨ea', ec', w5, hrun, ho5, hM5, hS5, hk5⟩ := hM3.pushI 22 H1 ho3 (by have := Hlk.out; omega) hSw HBw.out (by decide)
      have HE4 := Lib.hid (HE3.out.alloc (.cells #[.int .i64 (H1 : Int)] 3))
      have HE5 := Lib.hid (hk5 _ _ _ HE3.out (by decide))
      have HR5 := Lib.hid hrun
      have HO5 := Lib.hid ho5
      have HM5 := Lib.hid hM5
      have HS5 := Lib.hid hS5
      clear hM3 hS3 hSw ho3 hrun ho5 hM5 hS5 hk5
      skip
      dsimp only
      refine hK.out _ _ ?_ (fun hHeld => ?_)
      · exact HSt.out _ HE3.out
      clear hK K
      try simp only [Act.put, List.setIfInBounds_toArray, List.set_cons_zero, List.set_cons_succ]
      refine wpAnyH_ready (rs := [7]) (by kernel_rfl) (by simp) ?_
      refine AllReadyH.cons (gatL (gatS (gatS (gatS (gatS (gatS (gatS (gatS gatZ)))))))) (fun K hK => ?_) AllReadyH.nil
      go_simp
      refine hK.out _ _ ?_ (fun hHeld => ?_)
      · exact HSt.out _ HE4.out
      clear hK K
      try simp only [Act.put, List.setIfInBounds_toArray, List.set_cons_zero, List.set_cons_succ]
      refine wpAnyH_ready (rs := [8]) (by kernel_rfl) (by simp) ?_
      refine AllReadyH.cons (gatL (gatS (gatS (gatS (gatS (gatS (gatS (gatS (gatS gatZ))))))))) (fun K hK => ?_) AllReadyH.nil
      refine step_append_run rfl _ _ 22 22 rfl _ _ _ _ rfl rfl HR5.out ?_
      refine hK.out _ _ ?_ (fun hHeld => ?_)
      · exact HSt.out _ HE5.out
      clear hK K
      try simp only [Act.put, List.setIfInBounds_toArray, List.set_cons_zero, List.set_cons_succ]
      refine wpAnyH_take (i := 9) (v := ?_) (gatL (gatS (gatS (gatS (gatS (gatS (gatS (gatS (gatS (gatS gatZ)))))))))) (by kernel_rfl) (by kernel_rfl) (by kernel_rfl) (fun _ _ _ h => h) (Or.inl ⟨by rfl, ?_⟩) (by assumption) ?_
      rotate_left
      · intro w hSw
        try dsimp only at hSw
        go_simp
        all_goals with_reducible rfl
      try simp only [Act.put, List.setIfInBounds_toArray, List.set_cons_zero, List.set_cons_succ]
      refine wpAnyH_done (by kernel_rfl) ?_ _
      go_wp2_with (fail)
      exact ⟨⟨k + 1, l ++ [H1], H2, ga3, gc3, ea', ec', by omega, by simp, by rw [List.length_append]; rfl, by rw [List.length_append, Hlk.out]; rfl, by rw [List.length_append]; exact HO5.out, HR2.out, ⟨by omega, by omega⟩, HM5.out, HS5.out⟩, by simp [intOf]; omega⟩
    · obtain rfl : k = L := by omega
      have hkI : ¬ (k : Int) < (k : Int) := by omega
      have hd0 : kids.drop k = .nil := Fo.drop_all (by rw [HL.out]; exact Nat.le_refl _)
      have HF : Hid (R = (l, t)) := Lib.hid (by have := Hc.out; rw [hd0] at this; rw [← this]; show (l ++ [], t) = (l, t); rw [List.append_nil])
      rw [hd0] at hn1 hl1
      simp only [stF] at hn1 hl1
      obtain ⟨x, r, hxr⟩ : ∃ x r, l = x :: r := by
        cases hl0 : l with
        | nil => have := Hlk.out; rw [hl0] at this; simp at this; omega
        | cons x r => exact ⟨_, _, rfl⟩
      subst hxr
      have hrl : r.length + 1 = k := by have := Hlk.out; simpa using this
      have HE : Hid (altEnd R = ((grw x [] t).1, lnkAll (grw x [] t).1 r (grw x [] t).2)) := Lib.hid (by rw [HF.out]; rfl)
      obtain ⟨g, rfl, cx, hec, hec2⟩ := HO1.out.nth (i := 0) (by simp)
      simp only [List.getElem_cons_zero] at cx
      have Hc1 := Lib.hid (grow0 w0 bm x t ev ga1 gc1 wr HM1.out (by omega) (by omega))
      obtain ⟨gr1, gr2, _⟩ := grows_grw x [] t
      clear hd0 HF Hc
      generalize grw x [] t = G at gr1 gr2 Hc1 HE
      obtain ⟨E, G2⟩ := G
      obtain ⟨Q, hQ⟩ : ∃ Q, Hid (lnkAll E r G2 = Q) := ⟨_, Lib.hid rfl⟩
      dsimp only at *
      rw [hQ.out] at HE
      rw [show (x :: r).length = k from Hlk.out] at hec ⊢
      have hkI0 : (0 : Int) < (k : Int) := by omega
      have hkI1 : (1 : Int) ≤ (k : Int) := by omega
      have hgl := World.block_lt_of_cell? wr _ cx
      have hec3 : ¬ ec = 1 := by omega
      go_wp2_with (fail)
      refine Hc1.out.mono ?_
      rintro e w2 ⟨rfl, ga2, gc2, hM2, hS2⟩
      have HO2 : Hid (OwnI w2 w.heap.size (some ⟨g, 0, none⟩) (x :: r).length ec (x :: r)) := Lib.hid (hS2.own HO1.out rfl)
      have HM2 := Lib.hid hM2
      have HS2 := Lib.hid (HS1.out.trans hS2)
      clear hM2 hS2
      dsimp only
      go_wp2_with (fail)
      go_loopw [12, 37] (fun _ iv wr2 => ∃ (j : Nat) (t : Bs) (ga' : Option Addr) (gc' : Nat), j ≤ k - 1 ∧ iv = .int .i64 (j : Int) ∧ lnkAll E (r.drop j) t = Q ∧ t.2.length + (k - 1 - j) ≤ 10000000 ∧ MkAt 62 wr2 w0.heap.size bm (t.1 : Int) 0 ev ga' gc' t.2 ∧ Spares w0.heap.size (mkT 62) w2 wr2) (fun _ iv _ => k - 1 - (intOf iv).toNat)
      case atStart => exact ⟨0, G2, ga2, gc2, Nat.zero_le _, rfl, hQ.out, by omega, HM2.out, Spares.refl _ _ _⟩
      case round =>
        obtain ⟨j, t3, ga3, gc3, hj, rfl, hq3, hl3, hM3, hS3⟩ := hrel
        have HQ3 := Lib.hid hq3
        have HM3 := Lib.hid hM3
        have HS3 := Lib.hid hS3
        have ho3 : OwnI wr w.heap.size (some ⟨g, 0, none⟩) (x :: r).length ec (x :: r) := hS3.own HO2.out rfl
        clear hq3 hM3 hS3 cx hgl
        by_cases hjl : j < k - 1
        · have hjI : (j : Int) < ((k - 1 : Nat) : Int) := by omega
          have hjI0 : (0 : Int) ≤ (j : Int) := by omega
          have hjr : j < r.length := by omega
          obtain ⟨g', eg, cj, _⟩ := ho3.nth (i := j + 1) (by simp; omega)
          cases eg
          have hdr : Hid (r.drop j = r[j] :: r.drop (j + 1)) := Lib.hid (List.drop_eq_getElem_cons hjr)
          obtain ⟨v, hv⟩ : ∃ v, Hid (r[j] = v) := ⟨_, Lib.hid rfl⟩
          have cj2 : wr.cell? ⟨g, 1 + j, none⟩ = some (.int .i64 (v : Int)) := by
            rw [show 1 + j = j + 1 from Nat.add_comm 1 j, cj, ← hv.out]; rfl
          have hgl := World.block_lt_of_cell? wr _ cj2
          clear cj
          have Hc3 := Lib.hid (link0 w0 bm v E t3 ev ga3 gc3 wr HM3.out (by omega))
          have HQ4 : Hid (lnkAll E (r.drop (j + 1)) (lnk v E [] t3) = Q) := Lib.hid (by rw [← HQ3.out, hdr.out, hv.out]; rfl)
          obtain ⟨gl1, gl2, _⟩ := grows_lnk v E [] t3
          clear ho3
          generalize lnk v E [] t3 = T at Hc3 HQ4 gl1 gl2
          go_wp2_with (fail)
          refine Hc3.out.mono ?_
          rintro e w5 ⟨rfl, ga5, gc5, hM5, hS5⟩
          have HM5 := Lib.hid hM5
          have HS5 := Lib.hid hS5
          clear hM5 hS5
          go_wp2_with (fail)
          exact ⟨⟨j + 1, T, ga5, gc5, by omega, by simp, HQ4.out, by omega, HM5.out, HS3.out.trans HS5.out⟩, by simp [intOf]; omega⟩
        · obtain rfl : j = k - 1 := by omega
          have hjI : ¬ ((k - 1 : Nat) : Int) < ((k - 1 : Nat) : Int) := by omega
          have HF : Hid (Q = t3) := Lib.hid (by rw [← HQ3.out, List.drop_eq_nil_of_le (by omega)]; rfl)
          clear ho3
          go_wp2_with (fail)
          exact bodyPost_ret (v := .int .i64 (E : Int)) (by simp [results, Try.results54, go_sem]) rfl ⟨by rw [HE.out], ga3, gc3, by rw [HE.out, HF.out]; exact HM3.out, HS2.out.trans HS3.out⟩
end Go.Proofs.Ytpbceejjkdmclaa

/- Layer 3: build of any expression. -/
namespace Go.Proofs.Ytpbceejjkdmclaa
open Go.RowKit Go.Shelf

attribute [local go_sem] Oper.semAt_some

set_option maxRecDepth 100000 in
set_option maxHeartbeats 1000000 in
theorem bld_alt (w0 : World) (bm S sc : Nat) (sa : Option Addr) (L cap : Nat) (a : Option Addr) (kids : Fo) (hL : kids.len = L) (hL0 : 2 ≤ L) (hI : Items w0 a cap kids) (hP : AllB (BldO w0 bm) kids) (f : Nat) (s : Bs) (ev : Value) (ga : Option Addr) (gc : Nat) (w : World) (hb : Below w0.heap.size w0 w) (hM : MkAt 62 w w0.heap.size bm (s.1 : Int) 0 ev ga gc s.2) (hn : s.1 + (stF kids + L) + 1 ≤ 1000000) (hl : s.2.length + (2 * stF kids + L) + L + 1 ≤ 10000000) :
    Calls Try.prog 38 #[.pointer (some ⟨bm, 0, none⟩), .agg #[.int .i64 4, .slice sa S sc, .slice a L cap], .int .i64 (f : Int)] w (BldQ w0 bm w ev (altEnd ((bF kids).alt f s))) := by
  have hA0 := Blk.new w 35 #[.int .i64 4, .slice sa S sc, .slice a L cap]
  have hbn : Below w.heap.size w (w.alloc (.cells #[.int .i64 4, .slice sa S sc, .slice a L cap] 35)) := (Below.refl _ w).alloc (Nat.le_refl _) _
  have hM0 := hM.alloc (.cells #[.int .i64 4, .slice sa S sc, .slice a L cap] 35)
  have hS0 : Spares w0.heap.size (mkT 62) w (w.alloc (.cells #[.int .i64 4, .slice sa S sc, .slice a L cap] 35)) := Below.spares hbn hM.base_le
  have hb0 := hb.trans hS0.below
  have Hc := Lib.hid (balt_any w0 bm L cap a kids hL hL0 hI hP f s ev ga gc _ hb0 hM0 hn hl)
  have HS0 := Lib.hid hS0
  clear hbn hM0 hM hS0 hb0 hb hI hP hL
  generalize altEnd ((bF kids).alt f s) = G at Hc ⊢
  obtain ⟨G1, G2⟩ := G
  dsimp only at *
  have x0 := hA0.cell 0
  have x1 := hA0.cell 1
  have x2 := hA0.cell 2
  have xl := hA0.lt
  simp only [List.getElem?_cons_zero, List.getElem?_cons_succ] at x0 x1 x2
  go_enter Try.func38, Try.ntmps38
  go_wp2_with (fail)
  refine Hc.out.mono ?_
  rintro e w1 ⟨rfl, ga1, gc1, hM1, hS1⟩
  have HM1 := Lib.hid hM1
  have HS1 := Lib.hid hS1
  clear hM1 hS1
  dsimp only
  go_wp2_with (fail)
  exact bodyPost_ret (v := .int .i64 (G1 : Int)) (by simp [results, Try.results38, go_sem]; try first | rfl | assumption | omega) rfl ⟨rfl, ga1, gc1, HM1.out, HS0.out.trans HS1.out⟩


theorem ord_lo (l : List Sp) (h : ordB l = true) : ∀ j, (hj : j < l.length) → 2 * j ≤ l[j].lo.toNat := by
  have hk : ∀ j, j < l.length → okAt l j = true := by
    intro j hj
    unfold ordB ordK at h
    exact List.all_eq_true.1 h j (List.mem_range.2 hj)
  intro j
  induction j with
  | zero => intro _; omega
  | succ j ih =>
    intro hj
    have h1 := ih (by omega)
    have h2 := hk (j + 1) hj
    have h3 := hk j (by omega)
    unfold okAt at h2 h3
    rw [List.getElem?_eq_getElem hj] at h2
    rw [List.getElem?_eq_getElem (by omega)] at h3
    simp only [Bool.and_eq_true, decide_eq_true_eq] at h2 h3
    rw [List.getElem?_eq_getElem (by omega)] at h2
    have h4 := of_decide_eq_true h2.2
    have := h3.1
    omega
theorem ord_len (l : List Sp) (h : ordB l = true) : l.length ≤ 1000 := by
  rcases Nat.lt_or_ge 1000 l.length with h1 | h1
  · have := ord_lo l h 1000 h1
    have := l[1000].lo.toNat_lt
    omega
  · exact h1
theorem allB_any (w0 : World) (bm : Nat) : ∀ (f : Fo), okF f → AllB (BldO w0 bm) f := by
  intro f
  induction f with
  | nil => intro _; trivial
  | cons h k r ihk ihr =>
    rintro ⟨o1, o2, o3⟩
    refine ⟨⟨?_, bE_grows h k o1 o2⟩, ihr o3⟩
    have hK := ihk o2
    intro sa sc a cap f s ev ga gc w hss hit hb hM hn hl
    rcases plain_cases o1 with ⟨rfl, rfl⟩ | ⟨h2, rfl, _, ho⟩ | ⟨h34, hl2⟩ | ⟨h567, c, ck, rfl⟩
    · exact bld_leaf1 w0 bm sc 0 cap sa a [] hss (by simp) f s ev ga gc w hb hM (by simp [stE, stX, stF] at hn; omega) (by simp [stE, stX, stF] at hl; omega)
    · obtain ⟨k, q⟩ := h
      simp only at h2
      subst h2
      exact bld_leaf2 w0 bm sc 0 cap sa a q hss (ord_len q ho) f s ev ga gc w hb hM (by simp [stE, stX, stF] at hn; omega) (by simp [stE, stX, stF] at hl; omega)
    · rcases h34 with rfl | rfl
      · exact bld_cat w0 bm 0 sc sa k.len cap a k rfl hit hK f s ev ga gc w hb hM (by simp [stE, stX] at hn; omega) (by simp [stE, stX] at hl; omega)
      · exact bld_alt w0 bm 0 sc sa k.len cap a k rfl hl2 hit hK f s ev ga gc w hb hM (by simp [stE, stX] at hn; omega) (by simp [stE, stX] at hl; omega)
    · obtain ⟨⟨hPc, hgc⟩, _⟩ := hK
      have e0 : stF (.cons c ck .nil) = stE c ck := rfl
      obtain ⟨b, off, hd, ks, esa, esc, ea, ec, rfl, x0, x1, x2, hsp, hI, hcut⟩ := hit.at (k := 0) (by simp [Fo.len])
      simp only [Fo.drop] at hcut
      cases hcut
      have hcap := hit.le
      have hcap2 := hit.max
      have es : ∀ k, (k = 5 ∨ k = 6 ∨ k = 7) → stE ⟨k, []⟩ (.cons c ck .nil) = stE c ck + 2 := by
        rintro k (rfl | rfl | rfl) <;> simp [stE, stX, stF]
      rcases h567 with rfl | rfl | rfl
      · have es := es 5 (by simp)
        exact bld_rep5 w0 bm 0 sc sa cap b off c ck esa ea esc ec hcap hcap2 x0 x1 x2 hsp hI hPc hgc f s ev ga gc w hb hM (by rw [es] at hn; omega) (by rw [es] at hl; omega)
      · have es := es 6 (by simp)
        exact bld_rep6 w0 bm 0 sc sa cap b off c ck esa ea esc ec hcap hcap2 x0 x1 x2 hsp hI hPc hgc f s ev ga gc w hb hM (by rw [es] at hn; omega) (by rw [es] at hl; omega)
      · have es := es 7 (by simp)
        exact bld_opt w0 bm 0 sc sa cap b off c ck esa ea esc ec hcap hcap2 x0 x1 x2 hsp hI hPc hgc f s ev ga gc w hb hM (by rw [es] at hn; omega) (by rw [es] at hl; omega)
end Go.Proofs.Ytpbceejjkdmclaa

/- Layer 3: statesOf. -/
namespace Go.Proofs.Ytpbceejjkdmclaa
open Go.RowKit Go.Shelf

attribute [local go_sem] Oper.semAt_some

def StP (h : Hd) (kids : Fo) : Prop := ∀ (sa : Option Addr) (sc : Nat) (a : Option Addr) (cap : Nat) (w : World), Sps w sa sc h.set → Items w a cap kids → stE h kids ≤ 1000000000000 →
  Calls Try.prog 37 #[itemV h sa sc a kids.len cap] w fun e w' => e = .returned (.int .i64 (stE h kids : Int)) ∧ Below w.heap.size w w'
/-- How many are an expression's own. -/
def stK (kk : Int) (len : Nat) : Nat := if kk = 1 ∨ kk = 2 then 1 else if kk = 4 then len + 1 else if kk = 5 ∨ kk = 6 ∨ kk = 7 then 2 else 0
theorem stE_eq (kk : Int) (q : List Sp) (kids : Fo) : stE ⟨kk, q⟩ kids = stF kids + stK kk kids.len := rfl

set_option maxRecDepth 100000 in
set_option maxHeartbeats 1000000 in
theorem states_step (kk : Int) (S sc L cap : Nat) (sa a : Option Addr) (kids : Fo) (w : World) (hL : kids.len = L) (hI : Items w a cap kids) (hP : AllB StP kids) (hb : stF kids + stK kk L ≤ 1000000000000) (hS : S ≤ sc ∧ sc ≤ 9223372036854775807) :
    Calls Try.prog 37 #[.agg #[.int .i64 kk, .slice sa S sc, .slice a L cap]] w fun e w' => e = .returned (.int .i64 ((stF kids + stK kk L : Nat) : Int)) ∧ Below w.heap.size w w' := by
  have hlm : L ≤ cap ∧ cap ≤ 9223372036854775807 := ⟨hL ▸ hI.le, hI.max⟩
  have HL := Lib.hid hL
  have HP := Lib.hid hP
  clear hL hP
  have hA0 := Blk.new w 35 #[.int .i64 kk, .slice sa S sc, .slice a L cap]
  have hb0 : Below w.heap.size w (w.alloc (.cells #[.int .i64 kk, .slice sa S sc, .slice a L cap] 35)) := (Below.refl _ w).alloc (Nat.le_refl _) _
  obtain ⟨W0, hW0⟩ : ∃ W, Hid (w.alloc (.cells #[.int .i64 kk, .slice sa S sc, .slice a L cap] 35) = W) := ⟨_, Lib.hid rfl⟩
  obtain ⟨N, hN⟩ : ∃ N, Hid (stF kids = N) := ⟨_, Lib.hid rfl⟩
  rw [hN.out] at hb ⊢
  obtain ⟨Q, hQ⟩ : ∃ Q, Hid (N + stK kk L = Q) := ⟨_, Lib.hid rfl⟩
  rw [hQ.out] at hb ⊢
  have hNQ : N ≤ Q := by rw [← hQ.out]; omega
  have x0 := hA0.cell 0
  have x1 := hA0.cell 1
  have x2 := hA0.cell 2
  have xl := hA0.lt
  simp only [List.getElem?_cons_zero, List.getElem?_cons_succ] at x0 x1 x2
  go_enter Try.func37, Try.ntmps37
  go_wp2_with (fail)
  rw [hW0.out] at hA0 hb0 ⊢
  go_loopw [3, 9] (fun sv iv wr => ∃ (k t : Nat), k ≤ L ∧ iv = .int .i64 (k : Int) ∧ sv = .int .i64 (t : Int) ∧ t + stF (kids.drop k) = N ∧ Blk wr w.heap.size 35 [.int .i64 kk, .slice sa S sc, .slice a L cap] ∧ Below w.heap.size w wr) (fun _ iv _ => L - (intOf iv).toNat)
  case atStart => exact ⟨0, 0, Nat.zero_le _, rfl, rfl, by rw [← hN.out]; simp [Fo.drop], hA0, hb0⟩
  case round =>
    obtain ⟨k, t, hk, rfl, rfl, hc, hA1, hb1⟩ := hrel
    have Hc := Lib.hid hc
    clear hc x0 x1 x2 xl hA0 hb0
    have x0 := hA1.cell 0
    have x1 := hA1.cell 1
    have x2 := hA1.cell 2
    have xl := hA1.lt
    simp only [List.getElem?_cons_zero, List.getElem?_cons_succ] at x0 x1 x2
    have htN : t ≤ N := by have := Hc.out; omega
    by_cases hlt : k < L
    · have hkI : (k : Int) < (L : Int) := by omega
      have hkI0 : (0 : Int) ≤ (k : Int) := by omega
      obtain ⟨b, off, hd, ks, ya, yc, xa, xcap, rfl, hat⟩ := (hI.grown hb1).at (k := k) (by rw [HL.out]; exact hlt)
      obtain ⟨y0, y1, y2, hsp, hIk, hcut⟩ := hat
      have hblt : b < wr.heap.size := World.block_lt_of_cell? wr _ y0
      have hmx : ks.len ≤ xcap ∧ xcap ≤ 9223372036854775807 := ⟨hIk.le, hIk.max⟩
      have hmx2 : hd.set.length ≤ yc ∧ yc ≤ 9223372036854775807 := ⟨hsp.le, hsp.max⟩
      have hPk := AllB.drop k kids HP.out
      rw [hcut] at hPk
      have hst : stE hd ks + stF (kids.drop (k + 1)) + t = N := by have := Hc.out; rw [hcut] at this; have e : stF (.cons hd ks (kids.drop (k + 1))) = stE hd ks + stF (kids.drop (k + 1)) := rfl; rw [e] at this; omega
      have hnx := (Below.refl wr.heap.size wr).alloc (Nat.le_refl _) (.cells #[.int .i64 hd.k, .slice ya hd.set.length yc, .slice xa ks.len xcap] 35)
      have Hcl := Lib.hid (hPk.1 ya yc xa xcap _ (hsp.grown hnx) (hIk.grown hnx) (by omega))
      have hbx := hb1.trans (hnx.mono hb1.size)
      have hAx := hA1.alloc (.cells #[.int .i64 hd.k, .slice ya hd.set.length yc, .slice xa ks.len xcap] 35)
      have hxl := hAx.lt
      clear hnx hPk hsp hIk hcut Hc
      generalize stE hd ks = G at hst Hcl
      dsimp only [itemV] at Hcl
      have hGI : (t : Int) + (G : Int) ≤ 1000000000000 := by omega
      have hGI0 : (0 : Int) ≤ (t : Int) + (G : Int) := by omega
      go_wp2_with (fail)
      refine Hcl.out.mono ?_
      rintro e w4 ⟨rfl, hb4⟩
      have hA4 := hAx.below hb4 hAx.lt
      have hb04 := hbx.trans (hb4.mono hbx.size)
      clear x0 x1 x2 xl hb4 hA1 hAx
      go_wp2_with (fail)
      exact ⟨⟨k + 1, t + G, by omega, by simp, by simp, by omega, hA4, hb04⟩, by simp [intOf]; omega⟩
    · obtain rfl : k = L := by omega
      have hkI : ¬ (k : Int) < (k : Int) := by omega
      have hd0 : kids.drop k = .nil := Fo.drop_all (by rw [HL.out]; exact Nat.le_refl _)
      have htN2 : t = N := by have := Hc.out; rw [hd0] at this; simpa [stF] using this
      subst htN2
      have hsk : Hid (stK kk k = if kk = 1 ∨ kk = 2 then 1 else if kk = 4 then k + 1 else if kk = 5 ∨ kk = 6 ∨ kk = 7 then 2 else 0) := Lib.hid rfl
      clear hd0 HP
      by_cases h1 : kk = 1
      · subst h1
        have hq : Hid ((t : Int) + 1 = (Q : Int)) := Lib.hid (by rw [← hQ.out, hsk.out]; simp)
        have hqI : (t : Int) + 1 ≤ 1000000000000 := by rw [hq.out]; omega
        go_wp2_with (fail)
        exact bodyPost_ret (v := _) (by simp [results, Try.results37, go_sem]; try first | rfl | assumption | omega) rfl ⟨by rw [← hq.out], hb1⟩
      by_cases h2 : kk = 2
      · subst h2
        have hq : Hid ((t : Int) + 1 = (Q : Int)) := Lib.hid (by rw [← hQ.out, hsk.out]; simp)
        have hqI : (t : Int) + 1 ≤ 1000000000000 := by rw [hq.out]; omega
        go_wp2_with (fail)
        exact bodyPost_ret (v := _) (by simp [results, Try.results37, go_sem]; try first | rfl | assumption | omega) rfl ⟨by rw [← hq.out], hb1⟩
      by_cases h4 : kk = 4
      · subst h4
        have hq : Hid ((t : Int) + ((k : Int) + 1) = (Q : Int)) := Lib.hid (by rw [← hQ.out, hsk.out]; simp)
        have hqI : (t : Int) + ((k : Int) + 1) ≤ 1000000000000 := by rw [hq.out]; omega
        have hqI2 : (k : Int) + 1 ≤ 1000000000000 := by omega
        go_wp2_with (fail)
        exact bodyPost_ret (v := _) (by simp [results, Try.results37, go_sem]; try first | rfl | assumption | omega) rfl ⟨by rw [← hq.out], hb1⟩
      by_cases h5 : kk = 5
      · subst h5
        have hq : Hid ((t : Int) + 2 = (Q : Int)) := Lib.hid (by rw [← hQ.out, hsk.out]; simp)
        have hqI : (t : Int) + 2 ≤ 1000000000000 := by rw [hq.out]; omega
        go_wp2_with (fail)
        exact bodyPost_ret (v := _) (by simp [results, Try.results37, go_sem]; try first | rfl | assumption | omega) rfl ⟨by rw [← hq.out], hb1⟩
      by_cases h6 : kk = 6
      · subst h6
        have hq : Hid ((t : Int) + 2 = (Q : Int)) := Lib.hid (by rw [← hQ.out, hsk.out]; simp)
        have hqI : (t : Int) + 2 ≤ 1000000000000 := by rw [hq.out]; omega
        go_wp2_with (fail)
        exact bodyPost_ret (v := _) (by simp [results, Try.results37, go_sem]; try first | rfl | assumption | omega) rfl ⟨by rw [← hq.out], hb1⟩
      by_cases h7 : kk = 7
      · subst h7
        have hq : Hid ((t : Int) + 2 = (Q : Int)) := Lib.hid (by rw [← hQ.out, hsk.out]; simp)
        have hqI : (t : Int) + 2 ≤ 1000000000000 := by rw [hq.out]; omega
        go_wp2_with (fail)
        exact bodyPost_ret (v := _) (by simp [results, Try.results37, go_sem]; try first | rfl | assumption | omega) rfl ⟨by rw [← hq.out], hb1⟩
      have hq : Hid ((t : Int) = (Q : Int)) := Lib.hid (by rw [← hQ.out, hsk.out]; simp [h1, h2, h4, h5, h6, h7])
      go_wp2_with (fail)
      exact bodyPost_ret (v := _) (by simp [results, Try.results37, go_sem]; try first | rfl | assumption | omega) rfl ⟨by rw [← hq.out], hb1⟩

theorem states_all : ∀ (f : Fo), AllB StP f := by
  intro f
  induction f with
  | nil => trivial
  | cons h k r ihk ihr =>
    refine ⟨?_, ihr⟩
    intro sa sc a cap w hss hit hb
    obtain ⟨kk, q⟩ := h
    exact states_step kk q.length sc k.len cap sa a k w rfl hit ihk hb ⟨hss.le, hss.max⟩
end Go.Proofs.Ytpbceejjkdmclaa
