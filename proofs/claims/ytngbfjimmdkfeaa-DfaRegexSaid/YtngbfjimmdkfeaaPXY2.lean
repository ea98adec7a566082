/- Texts joined: Yd Ye. -/
import Derived.Test.YtngbfjimmdkfeaaPXY1
import Derived.Test.YtngbfjimmdkfeaaPXN4
set_option linter.unusedVariables false
set_option linter.unusedSimpArgs false
namespace Go.Proofs.Ytngbfjimmdkfeaa
open Go.RowKit Go.Shelf

attribute [local go_sem] Oper.semAt_some

set_option maxRecDepth 100000 in
set_option maxHeartbeats 1000000 in
theorem rmk_cat (w0 : World) (bm S sc : Nat) (sa : Option Addr) (L cap : Nat) (a : Option Addr) (kids : Fo) (hL : kids.len = L) (hI : Items w0 a cap kids) (hP : AllB (MkO w0 bm) kids) (f : Nat) (s : Bs) (ev : Value) (ga : Option Addr) (gc : Nat) (w : World) (hb : Below w0.heap.size w0 w) (hM : MkAt 95 w w0.heap.size bm (s.1 : Int) 0 ev ga gc s.2) (hn : s.1 + stF kids ≤ 1000000) (hl : s.2.length + 2 * stF kids ≤ 10000000) :
    Calls Try.prog 47 #[.pointer (some ⟨bm, 0, none⟩), .agg #[.int .i64 3, .slice sa S sc, .slice a L cap], .int .i64 (f : Int)] w (MqN w0 bm w ev s (stF kids) (2 * stF kids) ((bF kids).cat f s)) := by
  have hlm : L ≤ cap ∧ cap ≤ 9223372036854775807 := ⟨hL ▸ hI.le, hI.max⟩
  have HL := Lib.hid hL
  have HP := Lib.hid hP
  clear hP hL
  have m0 := hM.box.cell 0
  have ml := hM.box.lt
  simp only [List.getElem?_cons_zero] at m0
  have hA0 := Blk.new w 45 #[.int .i64 3, .slice sa S sc, .slice a L cap]
  have hbn : Below w.heap.size w (w.alloc (.cells #[.int .i64 3, .slice sa S sc, .slice a L cap] 45)) := (Below.refl _ w).alloc (Nat.le_refl _) _
  have hM0 := hM.alloc (.cells #[.int .i64 3, .slice sa S sc, .slice a L cap] 45)
  have hS0 : Spares w0.heap.size (mkT 95) w (w.alloc (.cells #[.int .i64 3, .slice sa S sc, .slice a L cap] 45)) := Below.spares hbn hM.base_le
  have hb0 := hb.trans hS0.below
  obtain ⟨W0, hW0⟩ : ∃ W, Hid (w.alloc (.cells #[.int .i64 3, .slice sa S sc, .slice a L cap] 45) = W) := ⟨_, Lib.hid rfl⟩
  rw [hW0.out] at hM0 hS0 hb0
  have hA0 : Blk W0 w.heap.size 45 [.int .i64 3, .slice sa S sc, .slice a L cap] := by rw [← hW0.out]; exact hA0
  have hws : w.heap.size + 1 = W0.heap.size := by rw [← hW0.out]; simp
  have HS0 := Lib.hid hS0
  have HB0 := Lib.hid hb0
  have HM0 := Lib.hid hM0
  have HA0 := Lib.hid hA0
  clear hbn hM0 hM hS0 hb0 hb
  have x0 := HA0.out.cell 0
  have x1 := HA0.out.cell 1
  have x2 := HA0.out.cell 2
  have xl := HA0.out.lt
  simp only [List.getElem?_cons_zero, List.getElem?_cons_succ] at x0 x1 x2
  by_cases hgt : 2000 < s.1
  · have hgI : (2000 : Int) < (s.1 : Int) := by omega
    have HU := Lib.hid hgt
    generalize (bF kids).cat f s = R
    obtain ⟨s1, s2⟩ := s
    dsimp only at *
    clear hgt
    go_enter Try.func47, Try.ntmps47
    go_wp2_with (fail)
    rw [hW0.out]
    exact bodyPost_ret (v := .int .i64 ((0 : Nat) : Int)) (by simp [results, Try.results47, go_sem]; try first | rfl | assumption | omega) rfl ⟨(0, (s1, s2)), Mad.up 0 HU.out, rfl, ga, gc, HM0.out, HS0.out⟩
  have hgI : ¬ (2000 : Int) < (s.1 : Int) := by omega
  obtain ⟨R, hR⟩ : ∃ R, Hid ((bF kids).cat f s = R) := ⟨_, Lib.hid rfl⟩
  rw [hR.out]
  obtain ⟨N, hN⟩ : ∃ N, Hid (stF kids = N) := ⟨_, Lib.hid rfl⟩
  rw [hN.out] at hn hl ⊢
  go_enter Try.func47, Try.ntmps47
  go_wp2_with (fail)
  rw [hW0.out]
  go_loopw [2, 50] (fun fv iv wr => ∃ (k g D : Nat) (t : Bs) (P : Nat × Bs) (ga' : Option Addr) (gc' : Nat), k ≤ L ∧ iv = .int .i64 (k : Int) ∧ fv = .int .i64 (g : Int) ∧ D + stF (kids.drop k) = N ∧ Mad s D (2 * D) P (g, t) ∧ (bF (kids.drop k)).cat P.1 P.2 = R ∧ MkAt 95 wr w0.heap.size bm (t.1 : Int) 0 ev ga' gc' t.2 ∧ Spares w0.heap.size (mkT 95) W0 wr) (fun _ iv _ => L - (intOf iv).toNat)
  case atStart => exact ⟨0, f, 0, s, (f, s), ga, gc, Nat.zero_le _, rfl, rfl, by rw [← hN.out]; simp [Fo.drop], Mad.of (Grows.refl s), hR.out, HM0.out, Spares.refl _ _ _⟩
  case round =>
    obtain ⟨k, g, D, t, P, ga1, gc1, hk, rfl, rfl, hD, hmad, hc, hM1, hS1⟩ := hrel
    clear x0 x1 x2 xl m0 ml
    have hA1 := Lib.hid (hS1.blk HA0.out rfl)
    have hb1 := HB0.out.trans hS1.below
    have Hc := Lib.hid hc
    have HD := Lib.hid hD
    have HM1 := Lib.hid hM1
    have HS1 := Lib.hid hS1
    have hsz := hS1.size
    have Hmad := Lib.hid hmad
    have q1 := hmad.hi
    have q2 := hmad.len
    clear hc hM1 hS1 hmad hD
    have x0 := hA1.out.cell 0
    have x1 := hA1.out.cell 1
    have x2 := hA1.out.cell 2
    have xl := hA1.out.lt
    simp only [List.getElem?_cons_zero, List.getElem?_cons_succ] at x0 x1 x2
    by_cases hlt : k < L
    · have hkI : (k : Int) < (L : Int) := by omega
      have hkI0 : (0 : Int) ≤ (k : Int) := by omega
      obtain ⟨b, off, hd, ks, ya, yc, xa, xcap, rfl, hat⟩ := hI.at (k := k) (by rw [HL.out]; exact hlt)
      obtain ⟨e0, e1, e2, hsp, hIk, hcut⟩ := hat
      have ebl : b < w0.heap.size := World.block_lt_of_cell? w0 _ e0
      have y0 := (hb1.cell (p := ⟨b, off + k * 3, none⟩) ebl).trans e0
      have y1 := (hb1.cell (p := ⟨b, off + k * 3 + 1, none⟩) ebl).trans e1
      have y2 := (hb1.cell (p := ⟨b, off + k * 3 + 2, none⟩) ebl).trans e2
      have hblt : b < wr.heap.size := World.block_lt_of_cell? wr _ y0
      have hmx : ks.len ≤ xcap ∧ xcap ≤ 9223372036854775807 := ⟨hIk.le, hIk.max⟩
      have hmx2 : hd.set.length ≤ yc ∧ yc ≤ 9223372036854775807 := ⟨hsp.le, hsp.max⟩
      have hPk := AllB.drop k kids HP.out
      rw [hcut] at hPk
      obtain ⟨⟨hPe, hge⟩, _⟩ := hPk
      have q3 : D + (stE hd ks + stF (kids.drop (k + 1))) = N := by have := HD.out; rw [hcut] at this; exact this
      have hnx := (Below.refl wr.heap.size wr).alloc (Nat.le_refl _) (.cells #[.int .i64 hd.k, .slice ya hd.set.length yc, .slice xa ks.len xcap] 45)
      have HSx : Hid (Spares w0.heap.size (mkT 95) wr (wr.alloc (.cells #[.int .i64 hd.k, .slice ya hd.set.length yc, .slice xa ks.len xcap] 45))) := Lib.hid (Below.spares hnx HM1.out.base_le)
      dsimp only at q1 q2
      have Hcl := Lib.hid (hPe ya yc xa xcap g t ev ga1 gc1 _ hsp hIk (hb1.trans HSx.out.below) (HM1.out.alloc (.cells #[.int .i64 hd.k, .slice ya hd.set.length yc, .slice xa ks.len xcap] 45)) (by omega) (by omega))
      have HR2 : Hid ((bF (kids.drop (k + 1))).cat (bE hd ks P.1 P.2).1 (bE hd ks P.1 P.2).2 = R) := Lib.hid (by have := Hc.out; rw [hcut] at this; exact this)
      obtain ⟨E, hE⟩ : ∃ E, Hid (stE hd ks = E) := ⟨_, Lib.hid rfl⟩
      rw [hE.out] at Hcl q3
      have HT := Lib.hid (fun (r' : Nat × Bs) (h : Mad t E (2 * E) (bE hd ks g t) r') => (Mad.trans (bE hd ks) Hmad.out h).cast (d' := D + E) (c' := 2 * (D + E)) rfl (by omega))
      clear hnx hPe hge hb1 hsp hIk e0 e1 e2 hcut HD
      generalize bE hd ks g t = G at Hcl HT
      generalize bE hd ks P.1 P.2 = G2 at HR2 HT
      dsimp only [itemV] at *
      go_wp2_with (fail)
      refine Hcl.out.mono ?_
      rintro e w4 ⟨⟨t4, s4⟩, hmad, rfl, ga2, gc2, hM4, hS4⟩
      have HT4 := Lib.hid (HT.out _ hmad)
      have HM4 := Lib.hid hM4
      have HS4 := Lib.hid hS4
      clear hM4 hS4 hmad
      dsimp only
      go_wp2_with (fail)
      exact ⟨⟨k + 1, t4, D + E, s4, G2, ga2, gc2, by omega, by simp, rfl, by omega, HT4.out, HR2.out, HM4.out, HS1.out.trans (HSx.out.trans HS4.out)⟩, by simp [intOf]; omega⟩
    · obtain rfl : k = L := by omega
      have hkI : ¬ (k : Int) < (k : Int) := by omega
      have hd0 : kids.drop k = .nil := Fo.drop_all (by rw [HL.out]; exact Nat.le_refl _)
      have HF : Hid (R = P) := Lib.hid (by rw [← Hc.out, hd0]; rfl)
      have hDN : D = N := by have := HD.out; rw [hd0] at this; simpa [stF] using this
      subst hDN
      clear hd0
      go_wp2_with (fail)
      exact bodyPost_ret (v := .int .i64 (g : Int)) (by simp [results, Try.results47, go_sem]; try first | rfl | assumption | omega) rfl ⟨(g, t), by rw [HF.out]; exact Hmad.out, rfl, ga1, gc1, HM1.out, HS0.out.trans HS1.out⟩
end Go.Proofs.Ytngbfjimmdkfeaa

namespace Go.Proofs.Ytngbfjimmdkfeaa
open Go.RowKit Go.Shelf

attribute [local go_sem] Oper.semAt_some

theorem Mad.map {α β : Type} (φ : α → β) {s : Bs} {d c : Nat} {r r' : α × Bs} (h : Mad s d c r r') : Mad s d c (φ r.1, r.2) (φ r'.1, r'.2) :=
  ⟨fun e => ⟨by rw [(h.ex e).1], (h.ex e).2⟩, h.ov, h.lo, h.hi, h.len⟩
/-- One alternative more. -/
def altG (hd : Hd) (ks : Fo) (f : Nat) (l : List Nat) (s : Bs) : List Nat × Bs := (l ++ [(bE hd ks (grw f [] s).1 (grw f [] s).2).1], (bE hd ks (grw f [] s).1 (grw f [] s).2).2)
theorem Mad.altG {s : Bs} {D C E : Nat} {P : List Nat × Bs} {l : List Nat} {t : Bs} {hd : Hd} {ks : Fo} {f : Nat} {r' : Nat × Bs} (h : Mad s D C P (l, t)) (k : Mad (grw f [] t).2 E (2 * E) (bE hd ks (grw f [] t).1 (grw f [] t).2) r') : Mad s (D + (1 + E)) (C + (1 + 2 * E)) (altG hd ks f P.1 P.2) (l ++ [r'.1], r'.2) :=
  Mad.trans (Go.Proofs.Ytngbfjimmdkfeaa.altG hd ks f) h (((Mad.of (grows_grw f [] t)).trans (bE hd ks) k).map (fun x => l ++ [x]))
theorem altG_drop (hd : Hd) (ks r : Fo) (f : Nat) (P : List Nat × Bs) : (P.1 ++ ((bF (.cons hd ks r)).alt f P.2).1, ((bF (.cons hd ks r)).alt f P.2).2) = ((altG hd ks f P.1 P.2).1 ++ ((bF r).alt f (altG hd ks f P.1 P.2).2).1, ((bF r).alt f (altG hd ks f P.1 P.2).2).2) := by
  rw [alt_cons]
  simp [altG]

set_option maxRecDepth 100000 in
set_option maxHeartbeats 1000000 in
theorem rmk_alt (w0 : World) (bm S sc : Nat) (sa : Option Addr) (L cap : Nat) (a : Option Addr) (kids : Fo) (hL : kids.len = L) (hI : Items w0 a cap kids) (hP : AllB (MkO w0 bm) kids) (f : Nat) (s : Bs) (ev : Value) (ga : Option Addr) (gc : Nat) (w : World) (hb : Below w0.heap.size w0 w) (hM : MkAt 95 w w0.heap.size bm (s.1 : Int) 0 ev ga gc s.2) (hne : ((bF kids).alt f s).1 ≠ []) (hn : s.1 + (stF kids + L) + 1 ≤ 1000000) (hl : s.2.length + 2 * (stF kids + L + 1) ≤ 10000000) :
    Calls Try.prog 47 #[.pointer (some ⟨bm, 0, none⟩), .agg #[.int .i64 4, .slice sa S sc, .slice a L cap], .int .i64 (f : Int)] w (MqN w0 bm w ev s (stF kids + L + 1) (2 * (stF kids + L + 1)) (altEnd ((bF kids).alt f s))) := by
  have hlm : L ≤ cap ∧ cap ≤ 9223372036854775807 := ⟨hL ▸ hI.le, hI.max⟩
  have HL := Lib.hid hL
  have HP := Lib.hid hP
  have HE : Hid (altEnd ((bF kids).alt f s) = altR ((bF kids).alt f s).1 ((bF kids).alt f s).2) := Lib.hid (altR_is _ hne)
  rw [HE.out]
  clear hP hL HE hne
  have m0 := hM.box.cell 0
  have ml := hM.box.lt
  simp only [List.getElem?_cons_zero] at m0
  have hA0 := Blk.new w 45 #[.int .i64 4, .slice sa S sc, .slice a L cap]
  have hbn : Below w.heap.size w (w.alloc (.cells #[.int .i64 4, .slice sa S sc, .slice a L cap] 45)) := (Below.refl _ w).alloc (Nat.le_refl _) _
  have hM0 := hM.alloc (.cells #[.int .i64 4, .slice sa S sc, .slice a L cap] 45)
  have hS0 : Spares w0.heap.size (mkT 95) w (w.alloc (.cells #[.int .i64 4, .slice sa S sc, .slice a L cap] 45)) := Below.spares hbn hM.base_le
  have hb0 := hb.trans hS0.below
  obtain ⟨W0, hW0⟩ : ∃ W, Hid (w.alloc (.cells #[.int .i64 4, .slice sa S sc, .slice a L cap] 45) = W) := ⟨_, Lib.hid rfl⟩
  rw [hW0.out] at hM0 hS0 hb0
  have hA0 : Blk W0 w.heap.size 45 [.int .i64 4, .slice sa S sc, .slice a L cap] := by rw [← hW0.out]; exact hA0
  have hws : w.heap.size + 1 = W0.heap.size := by rw [← hW0.out]; simp
  have HS0 := Lib.hid hS0
  have HB0 := Lib.hid hb0
  have HM0 := Lib.hid hM0
  have HA0 := Lib.hid hA0
  clear hbn hM0 hM hS0 hb0 hb
  have x0 := HA0.out.cell 0
  have x1 := HA0.out.cell 1
  have x2 := HA0.out.cell 2
  have xl := HA0.out.lt
  simp only [List.getElem?_cons_zero, List.getElem?_cons_succ] at x0 x1 x2
  by_cases hgt : 2000 < s.1
  · have hgI : (2000 : Int) < (s.1 : Int) := by omega
    have HU := Lib.hid hgt
    generalize altR ((bF kids).alt f s).1 ((bF kids).alt f s).2 = R
    obtain ⟨s1, s2⟩ := s
    dsimp only at *
    clear hgt
    go_enter Try.func47, Try.ntmps47
    go_wp2_with (fail)
    rw [hW0.out]
    exact bodyPost_ret (v := .int .i64 ((0 : Nat) : Int)) (by simp [results, Try.results47, go_sem]; try first | rfl | assumption | omega) rfl ⟨(0, (s1, s2)), Mad.up 0 HU.out, rfl, ga, gc, HM0.out, HS0.out⟩
  have hgI : ¬ (2000 : Int) < (s.1 : Int) := by omega
  obtain ⟨R, hR⟩ : ∃ R, Hid ((bF kids).alt f s = R) := ⟨_, Lib.hid rfl⟩
  rw [hR.out]
  obtain ⟨N, hN⟩ : ∃ N, Hid (stF kids + L = N) := ⟨_, Lib.hid rfl⟩
  rw [hN.out] at hn hl ⊢
  go_enter Try.func47, Try.ntmps47
  go_wp2_with (fail)
  rw [hW0.out]
  go_loopw [10, 65] (fun ov iv wr => ∃ (k D C : Nat) (l : List Nat) (t : Bs) (P : List Nat × Bs) (ga' : Option Addr) (gc' : Nat) (ea : Option Addr) (ec : Nat), k ≤ L ∧ iv = .int .i64 (k : Int) ∧ ov = .slice ea l.length ec ∧ l.length = k ∧ OwnI wr W0.heap.size ea l.length ec l ∧ D + (stF (kids.drop k) + (L - k)) = N ∧ C + k = 2 * D ∧ Mad s D C P (l, t) ∧ (P.1 ++ ((bF (kids.drop k)).alt f P.2).1, ((bF (kids.drop k)).alt f P.2).2) = R ∧ MkAt 95 wr w0.heap.size bm (t.1 : Int) 0 ev ga' gc' t.2 ∧ Spares w0.heap.size (mkT 95) W0 wr) (fun _ iv _ => L - (intOf iv).toNat)
  case atStart => exact ⟨0, 0, 0, [], s, ([], s), ga, gc, none, 0, Nat.zero_le _, rfl, rfl, rfl, World.ownsRow_nil _ _ _ _, by rw [← hN.out]; simp [Fo.drop], rfl, Mad.of (Grows.refl s), hR.out, HM0.out, Spares.refl _ _ _⟩
  case round =>
    obtain ⟨k, D, C, l, t, P, ga1, gc1, ea, ec, hk, rfl, rfl, hlk, ho1, hD, hC, hmad, hc, hM1, hS1⟩ := hrel
    clear x0 x1 x2 xl m0 ml
    have hA1 := Lib.hid (hS1.blk HA0.out rfl)
    have hb1 := HB0.out.trans hS1.below
    have Hc := Lib.hid hc
    have HD := Lib.hid hD
    have HM1 := Lib.hid hM1
    have HS1 := Lib.hid hS1
    have HO1 := Lib.hid ho1
    have Hlk := Lib.hid hlk
    have HC := Lib.hid hC
    have hsz := hS1.size
    have Hmad := Lib.hid hmad
    have q1 := hmad.hi
    have q2 := hmad.len
    clear hc hM1 hS1 hmad hD ho1 hlk hC
    have x0 := hA1.out.cell 0
    have x1 := hA1.out.cell 1
    have x2 := hA1.out.cell 2
    have xl := hA1.out.lt
    simp only [List.getElem?_cons_zero, List.getElem?_cons_succ] at x0 x1 x2
    by_cases hlt : k < L
    · have hkI : (k : Int) < (L : Int) := by omega
      have hkI0 : (0 : Int) ≤ (k : Int) := by omega
      obtain ⟨b, off, hd, ks, ya, yc, xa, xcap, rfl, hat⟩ := hI.at (k := k) (by rw [HL.out]; exact hlt)
      obtain ⟨e0, e1, e2, hsp, hIk, hcut⟩ := hat
      have ebl : b < w0.heap.size := World.block_lt_of_cell? w0 _ e0
      have y0 := (hb1.cell (p := ⟨b, off + k * 3, none⟩) ebl).trans e0
      have y1 := (hb1.cell (p := ⟨b, off + k * 3 + 1, none⟩) ebl).trans e1
      have y2 := (hb1.cell (p := ⟨b, off + k * 3 + 2, none⟩) ebl).trans e2
      have hblt : b < wr.heap.size := World.block_lt_of_cell? wr _ y0
      have hmx : ks.len ≤ xcap ∧ xcap ≤ 9223372036854775807 := ⟨hIk.le, hIk.max⟩
      have hmx2 : hd.set.length ≤ yc ∧ yc ≤ 9223372036854775807 := ⟨hsp.le, hsp.max⟩
      have hPk := AllB.drop k kids HP.out
      rw [hcut] at hPk
      obtain ⟨⟨hPe, hge⟩, _⟩ := hPk
      have q3 : D + (stE hd ks + stF (kids.drop (k + 1)) + (L - k)) = N := by have := HD.out; rw [hcut] at this; exact this
      have q4 := HC.out
      have hnx := (Below.refl wr.heap.size wr).alloc (Nat.le_refl _) (.cells #[.int .i64 hd.k, .slice ya hd.set.length yc, .slice xa ks.len xcap] 45)
      have HSx : Hid (Spares w0.heap.size (mkT 95) W0 (wr.alloc (.cells #[.int .i64 hd.k, .slice ya hd.set.length yc, .slice xa ks.len xcap] 45))) := Lib.hid (HS1.out.trans (Below.spares hnx HM1.out.base_le))
      have HBx : Hid (Below w0.heap.size w0 (wr.alloc (.cells #[.int .i64 hd.k, .slice ya hd.set.length yc, .slice xa ks.len xcap] 45))) := Lib.hid (HB0.out.trans HSx.out.below)
      have HOx : Hid (OwnI (wr.alloc (.cells #[.int .i64 hd.k, .slice ya hd.set.length yc, .slice xa ks.len xcap] 45)) W0.heap.size ea l.length ec l) := Lib.hid ((Below.spares (T := mkT 95) hnx HM1.out.base_le).own HO1.out rfl)
      have HEx : Hid (Blk (wr.alloc (.cells #[.int .i64 hd.k, .slice ya hd.set.length yc, .slice xa ks.len xcap] 45)) wr.heap.size 45 [.int .i64 hd.k, .slice ya hd.set.length yc, .slice xa ks.len xcap]) := Lib.hid (Blk.new wr 45 #[.int .i64 hd.k, .slice ya hd.set.length yc, .slice xa ks.len xcap])
      dsimp only at q1 q2
      have Hc1 := Lib.hid (ahead0 w0 bm t ev ga1 gc1 _ (HM1.out.alloc (.cells #[.int .i64 hd.k, .slice ya hd.set.length yc, .slice xa ks.len xcap] 45)) f (by omega) (by omega))
      obtain ⟨gr1, gr2, _⟩ := grows_grw f [] t
      obtain ⟨E, hE⟩ : ∃ E, Hid (stE hd ks = E) := ⟨_, Lib.hid rfl⟩
      have HT := Lib.hid (fun (r' : Nat × Bs) (h : Mad (grw f [] t).2 E (2 * E) (bE hd ks (grw f [] t).1 (grw f [] t).2) r') => Hmad.out.altG h)
      have HR2 : Hid (((altG hd ks f P.1 P.2).1 ++ ((bF (kids.drop (k + 1))).alt f (altG hd ks f P.1 P.2).2).1, ((bF (kids.drop (k + 1))).alt f (altG hd ks f P.1 P.2).2).2) = R) := Lib.hid (by have := Hc.out; rw [hcut, altG_drop] at this; exact this)
      generalize altG hd ks f P.1 P.2 = G2 at HR2 HT
      have HPe := Lib.hid (fun (s2 : Bs) g ga1 gc1 w1 h1 h2 h3 h4 => hPe ya yc xa xcap g s2 ev ga1 gc1 w1 hsp hIk h1 h2 h3 h4)
      rw [hE.out] at HPe q3
      clear hnx hPe hge hb1 hsp hIk e0 e1 e2 hcut HD hE
      generalize grw f [] t = G at Hc1 HT gr1 gr2
      obtain ⟨G1, G3⟩ := G
      dsimp only [itemV] at *
      have HPg := Lib.hid (fun ga1 gc1 w1 h1 h2 h3 h4 => HPe.out G3 G1 ga1 gc1 w1 h1 h2 h3 h4)
      clear HPe
      generalize bE hd ks G1 G3 = H at HPg HT
      go_wp2_with (fail)
      refine Hc1.out.mono ?_
      rintro e w1 ⟨rfl, ga2, gc2, hM2, hS2⟩
      have HO2 : Hid (OwnI w1 W0.heap.size ea l.length ec l) := Lib.hid (hS2.own HOx.out rfl)
      have HE2 := Lib.hid (hS2.blk HEx.out rfl)
      have HB2 := Lib.hid (HBx.out.trans hS2.below)
      have HM2 := Lib.hid hM2
      have HS2 := Lib.hid (HSx.out.trans hS2)
      clear hM2 hS2 x0 x1 x2 xl y0 y1 y2 HOx HEx HBx HSx
      have z0 := HE2.out.cell 0
      have z1 := HE2.out.cell 1
      have z2 := HE2.out.cell 2
      have zl := HE2.out.lt
      simp only [List.getElem?_cons_zero, List.getElem?_cons_succ] at z0 z1 z2
      go_wp2_with (fail)
      refine (HPg.out ga2 gc2 w1 HB2.out HM2.out (by omega) (by omega)).mono ?_
      rintro e w4 ⟨⟨t4, s4⟩, hmad, rfl, ga4, gc4, hM4, hS4⟩
      have HT4 := Lib.hid (HT.out _ hmad)
      obtain ⟨ea', ec', w5, hrun, ho5, hM5, hS5, _⟩ := hM4.pushI 23 t4 (hS4.own HO2.out rfl) (by have := Hlk.out; have := hlm; omega) (HS2.out.trans hS4) HM0.out.base_le (by decide)
      have Hrun := Lib.hid hrun
      have HO5 := Lib.hid ho5
      have HM5 := Lib.hid hM5
      have HS5 := Lib.hid hS5
      clear hM4 hS4 hmad z0 z1 z2 zl hrun ho5 hM5 hS5
      dsimp only
      go_wp2_with (at_builtin; refine wpList_append_run rfl _ _ 23 23 rfl _ _ _ _ rfl rfl Hrun.out ?_)
      exact ⟨⟨k + 1, D + (1 + E), C + (1 + 2 * E), l ++ [t4], s4, G2, ga4, gc4, ea', ec', by omega, by simp, by simp, by have := Hlk.out; simp; omega, by rw [List.length_append]; exact HO5.out, by omega, by omega, HT4.out, HR2.out, HM5.out, HS5.out⟩, by simp [intOf]; omega⟩
    · obtain rfl : k = L := by omega
      have hkI : ¬ (k : Int) < (k : Int) := by omega
      have hd0 : kids.drop k = .nil := Fo.drop_all (by rw [HL.out]; exact Nat.le_refl _)
      have HF : Hid (R = P) := Lib.hid (by rw [← Hc.out, hd0]; show (P.1 ++ [], P.2) = P; rw [List.append_nil])
      have hDN : D = N := by have := HD.out; rw [hd0] at this; simpa [stF] using this
      subst hDN
      have q4 := HC.out
      dsimp only at q1 q2
      have HT := Lib.hid ((Hmad.out.trans (fun l s => altR l s) (Mad.of (altR_grows l t))).cast (d' := D + 1) (c' := 2 * (D + 1)) rfl (by have := Hlk.out; omega))
      have Hc1 := Lib.hid (fresh0 w0 bm t ev ga1 gc1 wr HM1.out (by omega))
      clear hd0 Hc HD
      go_wp2_with (fail)
      refine Hc1.out.mono ?_
      rintro e w2 ⟨rfl, hM2, hS2⟩
      have HO2 : Hid (OwnI w2 W0.heap.size ea l.length ec l) := Lib.hid (hS2.own HO1.out rfl)
      have HM2 := Lib.hid hM2
      have HS2 := Lib.hid (HS1.out.trans hS2)
      clear hM2 hS2 x0 x1 x2 xl
      obtain ⟨E, hE⟩ : ∃ E, Hid (t.1 = E) := ⟨_, Lib.hid rfl⟩
      obtain ⟨Q, hQ⟩ : ∃ Q, Hid (lnkAll t.1 l (t.1 + 1, t.2) = Q) := ⟨_, Lib.hid rfl⟩
      have HQ0 : Hid (altR l t = (E, Q)) := Lib.hid (by rw [← hQ.out, ← hE.out]; rfl)
      rw [HQ0.out] at HT
      have HM2' : Hid (MkAt 95 w2 w0.heap.size bm (((t.1 + 1, t.2) : Bs).1 : Int) 0 ev ga1 gc1 ((t.1 + 1, t.2) : Bs).2) := Lib.hid HM2.out
      have hT0 : ((t.1 + 1, t.2) : Bs).2.length + (k - 0) ≤ 10900000 := by show t.2.length + _ ≤ _; omega
      rw [hE.out] at hQ HM2' hT0 ⊢
      generalize ((E + 1, t.2) : Bs) = T0 at hQ HM2' hT0
      have hlm2 : k ≤ ec ∧ ec ≤ 9223372036854775807 ∧ k ≤ 10000000 := by
        refine ⟨?_, ?_, by omega⟩
        · have h := HO2.out.ints.le; rw [List.length_map, Hlk.out] at h; exact h
        · exact HO2.out.ints.max
      rw [Hlk.out]
      go_wp2_with (fail)
      go_loopw [85] (fun iv wr2 => ∃ (j : Nat) (T : Bs) (ga' : Option Addr) (gc' : Nat), j ≤ k ∧ iv = .int .i64 (j : Int) ∧ lnkAll E (l.drop j) T = Q ∧ T.2.length + (k - j) ≤ 10900000 ∧ MkAt 95 wr2 w0.heap.size bm (T.1 : Int) 0 ev ga' gc' T.2 ∧ Spares w0.heap.size (mkT 95) w2 wr2) (fun iv _ => k - (intOf iv).toNat)
      case atStart => exact ⟨0, T0, ga1, gc1, Nat.zero_le _, rfl, hQ.out, hT0, HM2'.out, Spares.refl _ _ _⟩
      case round =>
        obtain ⟨j, t3, ga3, gc3, hj, rfl, hq3, hl3, hM3, hS3⟩ := hrel
        have HQ3 := Lib.hid hq3
        have HM3 := Lib.hid hM3
        have HS3 := Lib.hid hS3
        have ho3 : OwnI wr W0.heap.size ea l.length ec l := hS3.own HO2.out rfl
        clear hq3 hM3 hS3
        by_cases hjl : j < k
        · have hjI : (j : Int) < (k : Int) := by omega
          have hjI0 : (0 : Int) ≤ (j : Int) := by omega
          have hjr : j < l.length := by have := Hlk.out; omega
          obtain ⟨g, rfl, cj, _⟩ := ho3.nth (i := j) hjr
          have hdr : Hid (l.drop j = l[j] :: l.drop (j + 1)) := Lib.hid (List.drop_eq_getElem_cons hjr)
          obtain ⟨v, hv⟩ : ∃ v, Hid (l[j] = v) := ⟨_, Lib.hid rfl⟩
          rw [hv.out] at cj
          have hgl := World.block_lt_of_cell? wr _ cj
          have Hc3 := Lib.hid (edge0 w0 bm t3 ev ga3 gc3 wr HM3.out v E (by omega))
          have HQ4 : Hid (lnkAll E (l.drop (j + 1)) (lnk v E [] t3) = Q) := Lib.hid (by rw [← HQ3.out, hdr.out, hv.out]; rfl)
          obtain ⟨gl1, gl2, _⟩ := grows_lnk v E [] t3
          clear ho3
          generalize lnk v E [] t3 = T at Hc3 HQ4 gl1 gl2
          go_wp2_with (fail)
          refine Hc3.out.mono ?_
          rintro e w5 ⟨rfl, ga5, gc5, hM5, hS5⟩
          have HM5 := Lib.hid hM5
          have HS5 := Lib.hid hS5
          clear hM5 hS5
          go_wp2_with (fail)
          exact ⟨⟨j + 1, T, ga5, gc5, by omega, by simp, HQ4.out, by omega, HM5.out, HS3.out.trans HS5.out⟩, by simp [intOf]; omega⟩
        · obtain rfl : j = k := by omega
          have hjI : ¬ (j : Int) < (j : Int) := by omega
          have HF2 : Hid (Q = t3) := Lib.hid (by rw [← HQ3.out, List.drop_eq_nil_of_le (by rw [Hlk.out]; exact Nat.le_refl _)]; rfl)
          clear ho3
          go_wp2_with (fail)
          exact bodyPost_ret (v := .int .i64 (E : Int)) (by simp [results, Try.results47, go_sem]; try first | rfl | assumption | omega) rfl ⟨(E, Q), by rw [HF.out]; exact HT.out, rfl, ga3, gc3, by rw [HF2.out]; exact HM3.out, HS0.out.trans (HS2.out.trans HS3.out)⟩
end Go.Proofs.Ytngbfjimmdkfeaa

