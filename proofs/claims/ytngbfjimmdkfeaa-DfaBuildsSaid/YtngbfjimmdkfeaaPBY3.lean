/- Texts joined: Yf Yg. -/
import Derived.Test.YtngbfjimmdkfeaaPBY1
import Derived.Test.YtngbfjimmdkfeaaPBY2
import Derived.Test.YtngbfjimmdkfeaaPBN4
import Derived.Test.YtngbfjimmdkfeaaPBM
set_option linter.unusedVariables false
set_option linter.unusedSimpArgs false
namespace Go.Proofs.Ytngbfjimmdkfeaa
open Go.RowKit Go.Shelf

theorem mkAll_any (w0 : World) (bm : Nat) : ∀ (f : Fo), okF f → AllB (MkO w0 bm) f := by
  intro f
  induction f with
  | nil => intro _; trivial
  | cons h k r ihk ihr =>
    rintro ⟨o1, o2, o3⟩
    refine ⟨⟨?_, bE_grows h k o1 o2⟩, ihr o3⟩
    have hK := ihk o2
    intro sa sc a cap f s ev ga gc w hss hit hb hM hn hl
    rcases plain_cases o1 with ⟨rfl, rfl⟩ | ⟨h2, rfl, _, ho⟩ | ⟨h34, hl2⟩ | ⟨h567, c, ck, rfl⟩
    · exact rmk_leaf1 w0 bm 0 sc sa 0 cap a f s ev ga gc w hb hM (by simp [stE, stX, stF] at hn; omega) (by simp [stE, stX, stF] at hl; omega)
    · obtain ⟨k, q⟩ := h
      simp only at h2
      subst h2
      exact rmk_leaf2 w0 bm sc 0 cap sa a q hss f s ev ga gc w hb hM (by simp [stE, stX, stF] at hn; omega) (by simp [stE, stX, stF] at hl; omega)
    · rcases h34 with rfl | rfl
      · have e : stE ⟨3, []⟩ k = stF k := by simp [stE, stX]
        rw [e] at hn hl ⊢
        exact rmk_cat w0 bm 0 sc sa k.len cap a k rfl hit hK f s ev ga gc w hb hM hn hl
      · have e : stE ⟨4, []⟩ k = stF k + k.len + 1 := by simp [stE, stX]; omega
        rw [e] at hn hl ⊢
        exact rmk_alt w0 bm 0 sc sa k.len cap a k rfl hit hK f s ev ga gc w hb hM (fun e0 => by have := ((bF_grows k o2).2.1 f s).2; rw [e0] at this; simp at this; omega) (by omega) (by omega)
    · obtain ⟨⟨hPc, hgc⟩, _⟩ := hK
      have e0 : stF (.cons c ck .nil) = stE c ck := rfl
      obtain ⟨b, off, hd, ks, esa, esc, ea, ec, rfl, x0, x1, x2, hsp, hI, hcut⟩ := hit.at (k := 0) (by simp [Fo.len])
      simp only [Fo.drop] at hcut
      cases hcut
      have hcap := hit.le
      have hcap2 := hit.max
      have es : ∀ k, (k = 5 ∨ k = 6 ∨ k = 7) → stE ⟨k, []⟩ (.cons c ck .nil) = stE c ck + 2 := by
        rintro k (rfl | rfl | rfl) <;> simp [stE, stX, stF]
      rcases h567 with rfl | rfl | rfl
      · rw [es 5 (by simp)] at hn hl ⊢
        exact rmk_rep5 w0 bm 0 sc sa cap b off c ck esa ea esc ec hcap hcap2 x0 x1 x2 hsp hI hPc f s ev ga gc w hb hM (by omega) (by omega)
      · rw [es 6 (by simp)] at hn hl ⊢
        exact rmk_rep6 w0 bm 0 sc sa cap b off c ck esa ea esc ec hcap hcap2 x0 x1 x2 hsp hI hPc f s ev ga gc w hb hM (by omega) (by omega)
      · rw [es 7 (by simp)] at hn hl ⊢
        exact rmk_rep7 w0 bm 0 sc sa cap b off c ck esa ea esc ec hcap hcap2 x0 x1 x2 hsp hI hPc f s ev ga gc w hb hM (by omega) (by omega)
end Go.Proofs.Ytngbfjimmdkfeaa

namespace Go.Proofs.Ytngbfjimmdkfeaa
open Go.RowKit Go.Shelf

attribute [local go_sem] Oper.semAt_some

theorem bL_cons (hd : Hd) (ks r : Fo) (P : List Nat × Bs) : (P.1 ++ (bL (.cons hd ks r) P.2).1, (bL (.cons hd ks r) P.2).2) = ((P.1 ++ [(bE hd ks 0 P.2).1]) ++ (bL r (bE hd ks 0 P.2).2).1, (bL r (bE hd ks 0 P.2).2).2) := by simp [bL]
theorem Mad.bL {s : Bs} {D C E : Nat} {P : List Nat × Bs} {l : List Nat} {t : Bs} {hd : Hd} {ks : Fo} {r' : Nat × Bs} (h : Mad s D C P (l, t)) (k : Mad t E (2 * E) (bE hd ks 0 t) r') : Mad s (D + E) (C + 2 * E) (P.1 ++ [(bE hd ks 0 P.2).1], (bE hd ks 0 P.2).2) (l ++ [r'.1], r'.2) :=
  Mad.trans (fun l s => (l ++ [(bE hd ks 0 s).1], (bE hd ks 0 s).2)) h (k.map (fun x => l ++ [x]))

set_option maxRecDepth 100000 in
set_option maxHeartbeats 2000000 in
theorem refBuild_any (a : Option Addr) (L cap : Nat) (f : Fo) (w : World) (hL : f.len = L) (hI : Items w a cap f) (hN : f.size ≤ 1000000) (hst : stF f ≤ 900000) :
    Calls Try.prog 25 #[.slice a L cap] w (BuQ w (buildP f)) := by
  have hlm : L ≤ cap ∧ cap ≤ 9223372036854775807 := ⟨hL ▸ hI.le, hI.max⟩
  have HL := Lib.hid hL
  have hA0 := Blk.new w 32 #[.int .i64 0, .int .i64 0, .slice none 0 0, .slice none 0 0]
  have hb0 : Below w.heap.size w (w.alloc (.cells #[.int .i64 0, .int .i64 0, .slice none 0 0, .slice none 0 0] 32)) := (Below.refl _ w).alloc (Nat.le_refl _) _
  obtain ⟨W0, hW0⟩ : ∃ W, Hid (w.alloc (.cells #[.int .i64 0, .int .i64 0, .slice none 0 0, .slice none 0 0] 32) = W) := ⟨_, Lib.hid rfl⟩
  rw [hW0.out] at hA0 hb0
  obtain ⟨R, hR⟩ : ∃ R, Hid (buildP f = R) := ⟨_, Lib.hid rfl⟩
  rw [hR.out]
  obtain ⟨E, hE⟩ : ∃ E, Hid (errF f = E) := ⟨_, Lib.hid rfl⟩
  obtain ⟨N, hNN⟩ : ∃ N, Hid (stF f = N) := ⟨_, Lib.hid rfl⟩
  have hNb : N ≤ 900000 := by rw [← hNN.out]; exact hst
  have HA0 := Lib.hid hA0
  have Hb0 := Lib.hid hb0
  clear hL hA0 hb0 hst
  go_enter Try.func25, Try.ntmps25
  go_wp2_with (fail)
  rw [hW0.out]
  go_loopw [13] (fun iv wr => ∃ (k : Nat), k ≤ L ∧ iv = .int .i64 (k : Int) ∧ errF (f.drop k) = E ∧ Blk wr w.heap.size 32 [.int .i64 0, .int .i64 0, .slice none 0 0, .slice none 0 0] ∧ Below w.heap.size w wr) (fun iv _ => L - (intOf iv).toNat)
  case atStart => exact ⟨0, Nat.zero_le _, rfl, hE.out, HA0.out, Hb0.out⟩
  case round =>
    obtain ⟨k, hk, rfl, he, hA1, hb1⟩ := hrel
    have He := Lib.hid he
    clear he HA0 Hb0
    by_cases hlt : k < L
    · have hkI : (k : Int) < (L : Int) := by omega
      have hkI0 : (0 : Int) ≤ (k : Int) := by omega
      obtain ⟨b, off, hd, ks, ya, yc, xa, xcap, rfl, hat⟩ := (hI.grown hb1).at (k := k) (by rw [HL.out]; exact hlt)
      have hsz := hat.size
      obtain ⟨y0, y1, y2, hsp, hIk, hcut⟩ := hat
      have hblt : b < wr.heap.size := World.block_lt_of_cell? wr _ y0
      have hmx : ks.len ≤ xcap ∧ xcap ≤ 9223372036854775807 := ⟨hIk.le, hIk.max⟩
      have hmx2 : hd.set.length ≤ yc ∧ yc ≤ 9223372036854775807 := ⟨hsp.le, hsp.max⟩
      have He2 : Hid ((if checkE (Fo.pre 1 (.cons hd ks .nil)) = 0 then errF (f.drop (k + 1)) else checkE (Fo.pre 1 (.cons hd ks .nil))) = E) := Lib.hid (by have := He.out; rw [hcut] at this; exact this)
      have hnx := (Below.refl wr.heap.size wr).alloc (Nat.le_refl _) (.cells #[.int .i64 hd.k, .slice ya hd.set.length yc, .slice xa ks.len xcap] 45)
      have Hcl := Lib.hid (refCheck_any hd ks ya yc xa xcap _ (hsp.grown hnx) (hIk.grown hnx) (by omega))
      have HAx := Lib.hid (hA1.alloc (.cells #[.int .i64 hd.k, .slice ya hd.set.length yc, .slice xa ks.len xcap] 45))
      have Hbx := Lib.hid (hb1.trans (hnx.mono hb1.size))
      clear hsp hIk hcut He hnx hA1 hb1 hsz
      generalize checkE (Fo.pre 1 (.cons hd ks .nil)) = C at Hcl He2
      dsimp only [itemV] at Hcl
      go_wp2_with (fail)
      refine Hcl.out.mono ?_
      rintro e w4 ⟨rfl, hb4⟩
      have hA4 := HAx.out.below hb4 HAx.out.lt
      have hb04 := Hbx.out.trans (hb4.mono Hbx.out.size)
      have hlw := hA4.lt
      have fw := hA4.frozen
      clear y0 y1 y2 hb4 HAx Hbx
      have x0 := hA4.cell 0
      have x1 := hA4.cell 1
      have x2 := hA4.cell 2
      have x3 := hA4.cell 3
      have xl := hA4.lt
      simp only [List.getElem?_cons_zero, List.getElem?_cons_succ] at x0 x1 x2 x3
      by_cases hC : C = 0
      · subst hC
        have He3 : Hid (errF (f.drop (k + 1)) = E) := Lib.hid (by have := He2.out; rw [if_pos rfl] at this; exact this)
        go_wp2_with (fail)
        exact ⟨⟨k + 1, by omega, by simp, He3.out, hA4, hb04⟩, by simp [intOf]; omega⟩
      · have hRR : Hid (R = (nf0, C)) := Lib.hid (by
          have he : E = C := by have := He2.out; rw [if_neg hC] at this; exact this.symm
          have hE0 : ¬ errF f = 0 := by rw [hE.out, he]; exact hC
          rw [← hR.out, buildP, if_neg hE0, hE.out, he])
        have HB5 := Lib.hid (put4 (a' := .int .i64 0) (b' := .int .i64 0) (c' := .slice none 0 0) (d' := .slice none 0 0) hA4)
        have Hb5 := Lib.hid (put4_below (w' := w4) (B := w.heap.size) (a' := .int .i64 0) (b' := .int .i64 0) (c' := .slice none 0 0) (d' := .slice none 0 0) hb04 (Nat.le_refl _))
        go_wp2_with (fail)
        generalize (((w4.setCell ⟨w.heap.size, 0, none⟩ (.int .i64 0)).setCell ⟨w.heap.size, 1, none⟩ (.int .i64 0)).setCell ⟨w.heap.size, 2, none⟩ (.slice none 0 0)).setCell ⟨w.heap.size, 3, none⟩ (.slice none 0 0) = W5 at HB5 Hb5 ⊢
        have y0 := HB5.out.cell 0
        have y1 := HB5.out.cell 1
        have y2 := HB5.out.cell 2
        have y3 := HB5.out.cell 3
        simp only [List.getElem?_cons_zero, List.getElem?_cons_succ] at y0 y1 y2 y3
        exact bodyPost_ret (v := .tuple #[nfV nf0 ⟨none, 0, none, 0⟩, .int .i64 C]) (by simp [results, Try.results25, go_sem, nf0, y0, y1, y2, y3]) rfl ⟨⟨⟨none, 0, none, 0⟩, by rw [hRR.out], by rw [hRR.out]; exact NfAt.zero _⟩, Hb5.out⟩
    · obtain rfl : k = L := by omega
      have hkI : ¬ (k : Int) < (k : Int) := by omega
      have hd0 : f.drop k = .nil := Fo.drop_all (by rw [HL.out]; exact Nat.le_refl _)
      have hE0 : E = 0 := by have := He.out; rw [hd0] at this; exact this.symm
      clear hd0 He
      obtain ⟨Q, hQ⟩ : ∃ Q, Hid (bL f (1, []) = Q) := ⟨_, Lib.hid rfl⟩
      have hRgo : Hid (1 + N ≤ 2000 → R = (⟨(Q.2.1 : Nat), 0, Q.1.map (fun v : Nat => (v : Int)), Q.2.2⟩, 0)) := Lib.hid (fun h => by
        have hE1 : errF f = 0 := by rw [hE.out]; exact hE0
        rw [← hR.out, buildP, if_pos hE1, if_pos (by rw [hNN.out]; omega), hQ.out])
      have hRbad : Hid (2000 < 1 + N → R = (nf0, 40)) := Lib.hid (fun h => by
        have hE1 : errF f = 0 := by rw [hE.out]; exact hE0
        rw [← hR.out, buildP, if_pos hE1, if_neg (by rw [hNN.out]; omega)])
      have hok : okF f := okF_err f (by rw [hE.out]; exact hE0)
      have HP := Lib.hid (mkAll_any w (wr.heap.size) f hok)
      have HM0 : Hid (MkAt 95 (wr.alloc (.cells #[.int .i64 1, .int .i64 0, .slice none 0 0, .slice none 0 0] 95)) w.heap.size wr.heap.size ((1 : Nat) : Int) 0 (.slice none 0 0) none 0 []) := Lib.hid ⟨Blk.new wr 95 #[.int .i64 1, .int .i64 0, .slice none 0 0, .slice none 0 0], OwnG.nil _ _, hb1.size, by decide, by decide⟩
      have hnx := (Below.refl wr.heap.size wr).alloc (Nat.le_refl _) (.cells #[.int .i64 1, .int .i64 0, .slice none 0 0, .slice none 0 0] 95)
      have HB1 := Lib.hid (hb1.trans (hnx.mono hb1.size))
      have HA1 := Lib.hid (hA1.alloc (.cells #[.int .i64 1, .int .i64 0, .slice none 0 0, .slice none 0 0] 95))
      have HI := Lib.hid hI
      have HLm : Hid (k ≤ 1000000) := Lib.hid (by have := f.len_le; rw [HL.out] at this; omega)
      clear hnx hb1 hA1 hok hI
      go_wp2_with (fail)
      obtain ⟨V, hV⟩ : ∃ V, Hid (wr.alloc (.cells #[.int .i64 1, .int .i64 0, .slice none 0 0, .slice none 0 0] 95) = V) := ⟨_, Lib.hid rfl⟩
      rw [hV.out] at HM0 HB1 HA1 ⊢
      obtain ⟨BM, hBM⟩ : ∃ BM, Hid (wr.heap.size = BM) := ⟨_, Lib.hid rfl⟩
      rw [hBM.out] at HM0 HP ⊢
      have HBw := Lib.hid HB1.out.size
      go_loopw [29] (fun iv wr2 => ∃ (k2 D : Nat) (l : List Nat) (t2 : Bs) (P : List Nat × Bs) (ga' : Option Addr) (gc' : Nat) (ea : Option Addr) (ec : Nat), k2 ≤ k ∧ iv = .int .i64 (k2 : Int) ∧ l.length = k2 ∧ OwnI wr2 V.heap.size ea l.length ec l ∧ D + stF (f.drop k2) = N ∧ Mad (1, []) D (2 * D) P (l, t2) ∧ (P.1 ++ (bL (f.drop k2) P.2).1, (bL (f.drop k2) P.2).2) = Q ∧ t2.1 ≤ 2000 ∧ MkAt 95 wr2 w.heap.size BM (t2.1 : Int) 0 (.slice ea l.length ec) ga' gc' t2.2 ∧ Spares w.heap.size (mkT 95) V wr2) (fun iv _ => k - (intOf iv).toNat)
      case atStart => exact ⟨0, 0, [], (1, []), ([], (1, [])), none, 0, none, 0, Nat.zero_le _, rfl, rfl, World.ownsRow_nil _ _ _ _, by rw [← hNN.out]; simp [Fo.drop], Mad.of (Grows.refl _), hQ.out, by decide, HM0.out, Spares.refl _ _ _⟩
      case round =>
        obtain ⟨k2, D, l, t2, P, ga1, gc1, ea, ec, hk2, rfl, hlk, ho1, hD, hmad, hc2, ht2, hM1, hS1⟩ := hrel
        have hb1 := HB1.out.trans hS1.below
        have Hc2 := Lib.hid hc2
        have HM1 := Lib.hid hM1
        have HS1 := Lib.hid hS1
        have HO1 := Lib.hid ho1
        have Hlk := Lib.hid hlk
        have HD := Lib.hid hD
        have Hmad := Lib.hid hmad
        have q2 := hmad.len
        have hsz := Lib.hid (Nat.le_trans HBw.out hS1.size)
        have hk6 := HLm.out
        clear hc2 hM1 hS1 ho1 hlk hmad hD
        dsimp only at q2
        simp only [List.length_nil, Nat.zero_add] at q2
        by_cases hlt : k2 < k
        · have hkI2 : (k2 : Int) < (k : Int) := by omega
          have hkI0 : (0 : Int) ≤ (k2 : Int) := by omega
          obtain ⟨b, off, hd, ks, ya, yc, xa, xcap, rfl, hat⟩ := HI.out.at (k := k2) (by rw [HL.out]; exact hlt)
          obtain ⟨e0, e1, e2, hsp, hIk, hcut⟩ := hat
          have ebl : b < w.heap.size := World.block_lt_of_cell? w _ e0
          have y0 := (hb1.cell (p := ⟨b, off + k2 * 3, none⟩) ebl).trans e0
          have y1 := (hb1.cell (p := ⟨b, off + k2 * 3 + 1, none⟩) ebl).trans e1
          have y2 := (hb1.cell (p := ⟨b, off + k2 * 3 + 2, none⟩) ebl).trans e2
          have hblt : b < wr.heap.size := World.block_lt_of_cell? wr _ y0
          have hmx : ks.len ≤ xcap ∧ xcap ≤ 9223372036854775807 := ⟨hIk.le, hIk.max⟩
          have hmx2 : hd.set.length ≤ yc ∧ yc ≤ 9223372036854775807 := ⟨hsp.le, hsp.max⟩
          have hPk := AllB.drop k2 f HP.out
          rw [hcut] at hPk
          obtain ⟨⟨hPe, _⟩, _⟩ := hPk
          have q3 : D + (stE hd ks + stF (f.drop (k2 + 1))) = N := by have := HD.out; rw [hcut] at this; exact this
          have hnx := (Below.refl wr.heap.size wr).alloc (Nat.le_refl _) (.cells #[.int .i64 hd.k, .slice ya hd.set.length yc, .slice xa ks.len xcap] 45)
          have hSx : Spares w.heap.size (mkT 95) wr (wr.alloc (.cells #[.int .i64 hd.k, .slice ya hd.set.length yc, .slice xa ks.len xcap] 45)) := Below.spares hnx HM1.out.base_le
          have HSx := Lib.hid (HS1.out.trans hSx)
          have HOx : Hid (OwnI (wr.alloc (.cells #[.int .i64 hd.k, .slice ya hd.set.length yc, .slice xa ks.len xcap] 45)) V.heap.size ea l.length ec l) := Lib.hid (hSx.own HO1.out rfl)
          have Hcl := Lib.hid (hPe ya yc xa xcap 0 t2 (.slice ea l.length ec) ga1 gc1 _ hsp hIk (hb1.trans hSx.below) (HM1.out.alloc (.cells #[.int .i64 hd.k, .slice ya hd.set.length yc, .slice xa ks.len xcap] 45)) (by omega) (by omega))
          have HR2 : Hid (((P.1 ++ [(bE hd ks 0 P.2).1]) ++ (bL (f.drop (k2 + 1)) (bE hd ks 0 P.2).2).1, (bL (f.drop (k2 + 1)) (bE hd ks 0 P.2).2).2) = Q) := Lib.hid (by have := Hc2.out; rw [hcut, bL_cons] at this; exact this)
          obtain ⟨G, hG⟩ : ∃ G, Hid (stE hd ks = G) := ⟨_, Lib.hid rfl⟩
          rw [hG.out] at Hcl q3
          have HT := Lib.hid (fun (r' : Nat × Bs) (h : Mad t2 G (2 * G) (bE hd ks 0 t2) r') => (Hmad.out.bL h).cast (d' := D + G) (c' := 2 * (D + G)) rfl (by omega))
          clear hnx hSx hPe hb1 hsp hIk e0 e1 e2 hcut Hc2 HD
          generalize bE hd ks 0 t2 = H at Hcl HT
          generalize bE hd ks 0 P.2 = P2 at HR2 HT
          dsimp only [itemV] at *
          go_wp2_with (fail)
          refine Hcl.out.mono ?_
          rintro e w4 ⟨⟨t4, s4⟩, hmad, rfl, ga4, gc4, hM4, hS4⟩
          have HT4 := Lib.hid (HT.out _ hmad)
          have q5 := hmad.hi
          obtain ⟨ea', ec', w5, hrun, ho5, hM5, hS5, _⟩ := hM4.pushI 23 t4 (hS4.own HOx.out rfl) (by have := Hlk.out; omega) (HSx.out.trans hS4) HB1.out.size (by decide)
          have hM6 := hM5.set2 (.slice ea' (l.length + 1) ec')
          have hS6 := hS5.trans (hM5.spares_set 2 (.slice ea' (l.length + 1) ec'))
          have ho6 : OwnI (w5.setCell ⟨BM, 2, none⟩ (.slice ea' (l.length + 1) ec')) V.heap.size ea' (l.length + 1) ec' (l ++ [t4]) := ho5.kept (grownBy_set w5 BM 2 _) (.inr (fun e => by
            obtain ⟨_, cur, h2⟩ := ho5.typ BM (by rw [ownBlock_obk]; exact e)
            have := hM5.box
            unfold Blk at this
            rw [h2] at this
            cases this))
          have Hrun := Lib.hid hrun
          have x2 := hM4.box.cell 2
          have x2l := hM4.box.lt
          have z2 := hM5.box.cell 2
          have z0 := hM5.box.cell 0
          have zl := hM5.box.lt
          have zf := hM5.box.frozen
          simp only [List.getElem?_cons_zero, List.getElem?_cons_succ] at x2 z2 z0
          have HO6 := Lib.hid ho6
          have HM6 := Lib.hid hM6
          have HS6 := Lib.hid hS6
          have hA6 := hS6.blk HA1.out rfl
          have hb6 := HB1.out.trans hS6.below
          dsimp only at q5
          clear hM4 hS4 hmad hrun ho5 hM5 hS5 ho6 hM6 hS6 y0 y1 y2
          by_cases h20 : 2000 < s4.1
          · have h20I : (2000 : Int) < (s4.1 : Int) := by omega
            have hRR : Hid (R = (nf0, 40)) := Lib.hid (hRbad.out (by have := HT4.out.hi; dsimp only at this; omega))
            have hlw := hA6.lt
            have fw := hA6.frozen
            have w0 := hA6.cell 0
            have w1 := hA6.cell 1
            have w2 := hA6.cell 2
            have w3 := hA6.cell 3
            have wl := hA6.lt
            simp only [List.getElem?_cons_zero, List.getElem?_cons_succ] at w0 w1 w2 w3
            have HA6 := Lib.hid hA6
            have Hb6 := Lib.hid hb6
            clear hA6 hb6
            go_wp2_with (at_builtin; refine wpList_append_run rfl _ _ 23 23 rfl _ _ _ _ rfl rfl Hrun.out ?_)
            have HB5 := Lib.hid (put4 (a' := .int .i64 0) (b' := .int .i64 0) (c' := .slice none 0 0) (d' := .slice none 0 0) HA6.out)
            have Hb5 := Lib.hid (put4_below (w' := (w5.setCell ⟨BM, 2, none⟩ (.slice ea' (l.length + 1) ec'))) (B := w.heap.size) (a' := .int .i64 0) (b' := .int .i64 0) (c' := .slice none 0 0) (d' := .slice none 0 0) Hb6.out (Nat.le_refl _))
            generalize ((((w5.setCell ⟨BM, 2, none⟩ (.slice ea' (l.length + 1) ec')).setCell ⟨w.heap.size, 0, none⟩ (.int .i64 0)).setCell ⟨w.heap.size, 1, none⟩ (.int .i64 0)).setCell ⟨w.heap.size, 2, none⟩ (.slice none 0 0)).setCell ⟨w.heap.size, 3, none⟩ (.slice none 0 0) = W5 at HB5 Hb5 ⊢
            have y0 := HB5.out.cell 0
            have y1 := HB5.out.cell 1
            have y2 := HB5.out.cell 2
            have y3 := HB5.out.cell 3
            simp only [List.getElem?_cons_zero, List.getElem?_cons_succ] at y0 y1 y2 y3
            exact bodyPost_ret (v := .tuple #[nfV nf0 ⟨none, 0, none, 0⟩, .int .i64 40]) (by simp [results, Try.results25, go_sem, nf0, y0, y1, y2, y3]) rfl ⟨⟨⟨none, 0, none, 0⟩, by rw [hRR.out], by rw [hRR.out]; exact NfAt.zero _⟩, Hb5.out⟩
          · have h20I : ¬ (2000 : Int) < (s4.1 : Int) := by omega
            clear hA6 hb6
            go_wp2_with (at_builtin; refine wpList_append_run rfl _ _ 23 23 rfl _ _ _ _ rfl rfl Hrun.out ?_)
            exact ⟨⟨k2 + 1, D + G, l ++ [t4], s4, _, ga4, gc4, ea', ec', by omega, by simp, by rw [List.length_append, Hlk.out]; rfl, by rw [List.length_append]; exact HO6.out, by omega, HT4.out, HR2.out, by omega, by rw [List.length_append]; exact HM6.out, HS6.out⟩, by simp [intOf]; omega⟩
        · obtain rfl : k2 = k := by omega
          have hkI2 : ¬ (k2 : Int) < (k2 : Int) := by omega
          have hd0 : f.drop k2 = .nil := Fo.drop_all (by rw [HL.out]; exact Nat.le_refl _)
          have hDN : D = N := by have := HD.out; rw [hd0] at this; simpa [stF] using this
          subst hDN
          have hfit : 1 + D ≤ 2000 := by
            rcases Nat.lt_or_ge 2000 (1 + D) with h | h
            · have := Hmad.out.ov h; dsimp only at this; omega
            · exact h
          have hRR := Lib.hid (hRgo.out hfit)
          have HF : Hid (Q = (l, t2)) := Lib.hid (by
            have := Hc2.out; rw [hd0] at this; rw [← this, (Hmad.out.ex hfit).1]; show (P.1 ++ [], P.2) = P; rw [List.append_nil])
          clear hd0 Hc2 hfit
          have x0 := HM1.out.box.cell 0
          have x1 := HM1.out.box.cell 1
          have x2 := HM1.out.box.cell 2
          have x3 := HM1.out.box.cell 3
          have xl := HM1.out.box.lt
          simp only [List.getElem?_cons_zero, List.getElem?_cons_succ] at x0 x1 x2 x3
          have hI5 : Ints wr ea ec (l.map (fun v : Nat => (v : Int))) := HO1.out.ints
          have hG5 : Egs wr ga1 gc1 t2.2 := HM1.out.row.egs
          have hA1 : Blk wr w.heap.size 32 [.int .i64 0, .int .i64 0, .slice none 0 0, .slice none 0 0] := HS1.out.blk HA1.out rfl
          have hlw := hA1.lt
          have fw := hA1.frozen
          have w0 := hA1.cell 0
          have w1 := hA1.cell 1
          have w2 := hA1.cell 2
          have w3 := hA1.cell 3
          simp only [List.getElem?_cons_zero, List.getElem?_cons_succ] at w0 w1 w2 w3
          have HB5 := Lib.hid (put4 (a' := .int .i64 (t2.1 : Int)) (b' := .int .i64 0) (c' := .slice ea l.length ec) (d' := .slice ga1 t2.2.length gc1) hA1)
          have hp4 := put4_below (w' := wr) (B := w.heap.size) (a' := .int .i64 (t2.1 : Int)) (b' := .int .i64 0) (c' := .slice ea l.length ec) (d' := .slice ga1 t2.2.length gc1) hb1 (Nat.le_refl _)
          have Hb5 := Lib.hid hp4
          have hgr := put4_grow wr w.heap.size (.int .i64 (t2.1 : Int)) (.int .i64 0) (.slice ea l.length ec) (.slice ga1 t2.2.length gc1)
          have hM6 := HM1.out.other hgr (fun r e => by cases e; exact ⟨Nat.le_refl _, fun cs t fr hk => by
            have := hA1
            unfold Blk at this
            rw [hk] at this
            cases this
            decide⟩)
          have hO6 := HO1.out.kept hgr (.inr (fun e => by
            obtain ⟨_, cur, h2⟩ := HO1.out.typ w.heap.size (by rw [ownBlock_obk]; exact e)
            have := hA1
            unfold Blk at this
            rw [h2] at this
            cases this))
          have HI5 := Lib.hid hO6.ints
          have HG5 := Lib.hid hM6.row.egs
          clear hI5 hG5 hA1 hp4 hgr hM6 hO6
          go_wp2_with (fail)
          generalize (((wr.setCell ⟨w.heap.size, 0, none⟩ (.int .i64 (t2.1 : Int))).setCell ⟨w.heap.size, 1, none⟩ (.int .i64 0)).setCell ⟨w.heap.size, 2, none⟩ (.slice ea l.length ec)).setCell ⟨w.heap.size, 3, none⟩ (.slice ga1 t2.2.length gc1) = W5 at HB5 Hb5 HI5 HG5 ⊢
          have y0 := HB5.out.cell 0
          have y1 := HB5.out.cell 1
          have y2 := HB5.out.cell 2
          have y3 := HB5.out.cell 3
          simp only [List.getElem?_cons_zero, List.getElem?_cons_succ] at y0 y1 y2 y3
          exact bodyPost_ret (v := .tuple #[.agg #[.int .i64 (t2.1 : Int), .int .i64 0, .slice ea l.length ec, .slice ga1 t2.2.length gc1], .int .i64 0]) (by simp [results, Try.results25, go_sem, y0, y1, y2, y3]) rfl ⟨⟨⟨ea, ec, ga1, gc1⟩, by rw [hRR.out, HF.out]; simp [nfV], by rw [hRR.out, HF.out]; exact ⟨HI5.out, HG5.out⟩⟩, Hb5.out⟩
end Go.Proofs.Ytngbfjimmdkfeaa

