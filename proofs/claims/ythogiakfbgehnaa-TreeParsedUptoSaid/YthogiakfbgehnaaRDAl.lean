/- Texts joined: Wt Wu Wv Wy. -/
import Derived.Test.YthogiakfbgehnaaRDAk
set_option linter.unusedVariables false
set_option linter.unusedSimpArgs false
namespace Go.Proofs.Ythogiakfbgehnaa
open Go.RowKit Go.Maps
attribute [local go_sem] Oper.semAt_some
/-- Where a round over rules and alternatives stands: what was kept is kept, what is known is true, what could be known is. -/
structure NuK (al : List (List (List Int))) (V0 V : Nat → Bool) (k j : Nat) : Prop where
 mono : ∀ r, V0 r = true → V r = true
 sound : ∀ r, V r = true → nulB al r = true
 done : ∀ r, r < k → ∀ a ∈ al.getD r [], emp V0 a = true → V r = true
 part : ∀ a ∈ (al.getD k []).take j, emp V0 a = true → V k = true
theorem NuK.start {al : List (List (List Int))} {V : Nat → Bool} (h : ∀ r, V r = true → nulB al r = true) : NuK al V V 0 0 := ⟨fun _ h => h, h, fun r hr => absurd hr (by omega), fun a ha => by simp at ha⟩
theorem NuK.put {al : List (List (List Int))} {V0 V : Nat → Bool} {k j : Nat} (h : NuK al V0 V k j) (hk : k < al.length) {a : List Int} (ha : (al.getD k [])[j]? = some a) {b : Bool} (hb : b = (V k || emp V a)) : NuK al V0 (fun s => if s = k then b else V s) k (j + 1) := by
 have hm : ∀ r, V r = true → (if r = k then b else V r) = true := fun r hr => by
  split
  ·next e => subst e; rw [hb, hr]; rfl
  ·exact hr
 refine ⟨fun r hr => hm r (h.mono r hr), fun r hr => ?_, fun r hr a ha he => hm r (h.done r hr a ha he), fun c hc he => ?_⟩
 ·split at hr
  ·next e =>
   subst e
   rw [hb, Bool.or_eq_true] at hr
   rcases hr with hr | hr
   ·exact h.sound _ hr
   ·exact (nul_iff hk).2 ⟨a, List.mem_of_getElem? ha, emp_mono h.sound hr⟩
  ·exact h.sound r hr
 ·rw [List.take_add_one, List.mem_append] at hc
  rcases hc with hc | hc
  ·exact hm k (h.part c hc he)
  ·rw [ha] at hc
   have : c = a := by simpa using hc
   subst this
   rw [if_pos rfl, hb, emp_mono h.mono he, Bool.or_true]
theorem NuK.row {al : List (List (List Int))} {V0 V : Nat → Bool} {k j : Nat} (h : NuK al V0 V k j) (hj : (al.getD k []).length ≤ j) : NuK al V0 V (k + 1) 0 :=
 ⟨h.mono, h.sound, fun r hr a ha he => by
  by_cases e : r = k
  ·subst e
   exact h.part a (by rwa [List.take_of_length_le hj]) he
  ·exact h.done r (by omega) a ha he, fun a ha => by simp at ha⟩
set_option maxRecDepth 100000 in
set_option maxHeartbeats 16000000 in
theorem nul9_any (d : CfD) (w : World) (hd : CfAt w d) (hf : FitC d) :
 Calls Try.prog 19 #[d.v] w (NulQ w d.alts.length (nulB (d.alts.map IrD.p))) := by
 have hAl : Hid (∀ k (h : k < d.alts.length), (d.alts.map IrD.p).getD k [] = (d.alts[k]).ds.map (fun x => x.l)) := Lib.hid (fun k h => by
  rw [List.getD_eq_getElem?_getD, List.getElem?_map, List.getElem?_eq_getElem h]
  rfl)
 have Hem := Lib.hid (fun (s : List Int) sa sc na nc (f : Nat → Bool) W (hb : Below w.heap.size w W) (hs : Ints W sa sc s) (hn : BlsF W na nc d.alts.length f) (hx : ∀ x ∈ s, -(d.alts.length : Int) ≤ x ∧ x ≤ 1000000000) => emp9_any d s sa sc na nc f W (hd.grown hb) hs hn hx (by have := hf.r; omega))
 have hpl : (d.alts.map IrD.p).length = d.alts.length := List.length_map _
 have hNB : Hid (∀ r : Nat, d.alts.length ≤ r → nulB (d.alts.map IrD.p) r = false) := Lib.hid (fun r h => by
  cases e : nulB (d.alts.map IrD.p) r
  ·rfl
  ·have := nulB_lt e
   rw [hpl] at this
   omega)
 obtain ⟨xt, xta, xtc, xn, xna, xnc, xa, xaa, xac⟩ := d
 obtain ⟨hx1, hx2, hx3, hx4⟩ := hd
 obtain ⟨hf1, hf2, hf3, hf4, hf5⟩ := hf
 dsimp only [CfD.v] at *
 have hxm : xa.length ≤ xac ∧ xac ≤ 9223372036854775807 := ⟨by have := hx3.le; rwa [List.length_map] at this, hx3.max⟩
 have HX3 := Lib.hid hx3
 have HX4 := Lib.hid hx4
 have HF4 := Lib.hid hf4
 have HF5 := Lib.hid hf5
 obtain ⟨al, hal9⟩ : ∃ q, Hid (xa.map IrD.p = q) := ⟨_, Lib.hid rfl⟩
 rw [hal9.out] at hAl hpl hNB ⊢
 obtain ⟨Q, hQ⟩ : ∃ Q, Hid (NulQ w xa.length (nulB al) = Q) := ⟨_, Lib.hid rfl⟩
 rw [hQ.out]
 have hb1 : Below w.heap.size w (w.alloc (.cells #[.slice xta xt.length xtc, .slice xna xn.length xnc, .slice xaa xa.length xac] 25)) := (Below.refl _ w).alloc (Nat.le_refl _) _
 have hA := Blk.new w 25 #[.slice xta xt.length xtc, .slice xna xn.length xnc, .slice xaa xa.length xac]
 obtain ⟨T, HT⟩ : ∃ q, Hid (xt.length = q) := ⟨_, Lib.hid rfl⟩
 obtain ⟨N, HN⟩ : ∃ q, Hid (xn.length = q) := ⟨_, Lib.hid rfl⟩
 obtain ⟨L, HL⟩ : ∃ q, Hid (xa.length = q) := ⟨_, Lib.hid rfl⟩
 rw [HT.out, HN.out, HL.out] at hA hb1
 rw [HT.out, HN.out, HL.out]
 have x0 := hA.cell 0
 have x1 := hA.cell 1
 have x2 := hA.cell 2
 have xl := hA.lt
 simp only [List.getElem?_cons_zero, List.getElem?_cons_succ] at x0 x1 x2
 have HA := Lib.hid hA
 have Hb1 := Lib.hid hb1
 rw [HL.out] at hxm hf1 hf2 hQ hpl hNB
 rw [HL.out, HT.out] at HF5
 rw [HT.out, HN.out, HL.out] at Hem
 have HQ := Lib.hid hQ.out
 have Hpl := Lib.hid hpl
 have hround := Lib.hid (fun V0 V h1 h2 k hk => nul_round (al := al) (V0 := V0) (V := V) h1 h2 k hk)
 obtain ⟨iE, hiE, hzE, hsE, hbE⟩ := info_parts info_elB
 have Hmk := Lib.hid (fun (W : World) => run_makeSlice_full (P := Try.prog) (w := W) w.heap.size 29 4 iE (.bool false) 1 Try.underlying29 hiE hzE hsE .i64 .i64 L (by omega) (by rw [hbE]; omega) (by unfold maxLen; omega))
 rw [HT.out] at hf3
 clear hA hx1 hx2 hx3 hx4 hf4 hf5 hQ hb1 hpl x0 x1 hiE hzE hsE hbE
 obtain ⟨w2, hrun2, ho2, hg2⟩ := Hmk.out _ Hb1.out.size
 rw [made_fill _ rfl, rng_const] at ho2
 have HA2 := Lib.hid (HA.out.kept hg2 (by simp))
 have Hb2 := Lib.hid (Hb1.out.trans (belowAt hg2 (B := w.heap.size) (fun i e => by cases e) Hb1.out.size))
 have HO2 : Hid (OwnBl w2 w.heap.size (some ⟨w.heap.size + 1, 0, none⟩) L L (fun _ => false)) := Lib.hid (by simpa using ho2)
 rw [show (w.alloc (.cells #[.slice xta T xtc, .slice xna N xnc, .slice xaa L xac] 25)).heap.size = w.heap.size + 1 by simp] at hrun2
 clear ho2 hg2 Hmk
 go_enter Try.func19, Try.ntmps19
 go_wp2_with (fail)
 clear hrun2 x2 xl
 obtain ⟨bx, hbx⟩ : ∃ q, Hid (w.heap.size = q) := ⟨_, Lib.hid rfl⟩
 have hbW : bx ≤ w.heap.size := by rw [hbx.out]; exact Nat.le_refl _
 have hbW2 : w.heap.size ≤ bx := by rw [hbx.out]; exact Nat.le_refl _
 rw [hbx.out] at HA2 HO2 ⊢
 obtain ⟨g, hg⟩ : ∃ q, Hid (bx + 1 = q) := ⟨_, Lib.hid rfl⟩
 have hgb : bx ≠ g := by rw [← hg.out]; omega
 rw [hg.out] at HO2 ⊢
 have Hst0 : Hid (nulL al (fun _ => false) ≤ L) := Lib.hid (by
  unfold nulL
  have := List.countP_le_length (p := fun r => nulB al r && !(fun _ : Nat => false) r) (l := List.range al.length)
  rw [List.length_range] at this
  exact Nat.le_trans this (Nat.le_of_eq Hpl.out))
 go_loopw [14] (fun iv wr => ∃ (i : Nat) (V : Nat → Bool), i ≤ L ∧ iv = .int .i64 (i : Int) ∧ Hid (∀ r, V r = true → nulB al r = true) ∧ Hid (nulL al V ≤ L - i) ∧ Hid (OwnBl wr bx (some ⟨g, 0, none⟩) L L V) ∧ Hid (Blk wr bx 25 [.slice xta T xtc, .slice xna N xnc, .slice xaa L xac]) ∧ Below w.heap.size w wr) (fun iv _ => L - (RowKit.intOf iv).toNat)
 case atStart => exact ⟨0, _, Nat.zero_le _, rfl, Lib.hid (fun r h => by cases h), Hst0, HO2, HA2, Hb2.out⟩
 case round =>
  clear HO2 HA2 Hb2 Hst0
  obtain ⟨i, V0, hi, rfl, Hsd, Hct, HO, HAr, hbr⟩ := hrel
  obtain ⟨U0, rfl⟩ : ∃ U, U = wr := ⟨_, rfl⟩
  by_cases hlti : i < L
  ·have hiI : (i : Int) < (L : Int) := by omega
   have x2 := HAr.out.cell 2
   have xl := HAr.out.lt
   simp only [List.getElem?_cons_zero, List.getElem?_cons_succ] at x2
   have Hnk := Lib.hid (NuK.start (V := V0) Hsd.out)
   go_wp2_with (fail)
   clear x2 xl
   go_loopw [19] (fun iv wr => ∃ (k : Nat) (V : Nat → Bool), k ≤ L ∧ iv = .int .i64 (k : Int) ∧ Hid (NuK al V0 V k 0) ∧ Hid (OwnBl wr bx (some ⟨g, 0, none⟩) L L V) ∧ Hid (Blk wr bx 25 [.slice xta T xtc, .slice xna N xnc, .slice xaa L xac]) ∧ Below w.heap.size w wr) (fun iv _ => L - (RowKit.intOf iv).toNat)
   case atStart => exact ⟨0, V0, Nat.zero_le _, rfl, Hnk, HO, HAr, hbr⟩
   case round =>
    clear HO HAr hbr Hnk
    obtain ⟨k, V, hk, rfl, HK, HO, HAr, hbr⟩ := hrel
    obtain ⟨U, rfl⟩ : ∃ U, U = wr := ⟨_, rfl⟩
    by_cases hlt : k < L
    ·have hkI : (k : Int) < (L : Int) := by omega
     have hkI0 : (0 : Int) ≤ (k : Int) := by omega
     have hkl : k < xa.length := by rw [HL.out]; exact hlt
     have hrow := HX3.out.grown hbr
     have hst := hAl.out k hkl
     obtain ⟨p, po, hp⟩ := hrow.at_ k (by rw [List.length_map]; exact hkl)
     have cp := hrow.cell p po hp k (by rw [List.length_map]; exact hkl)
     rw [List.getElem_map] at cp
     have hm : xa[k] ∈ xa := List.getElem_mem hkl
     obtain ⟨e, he⟩ : ∃ v, Hid (xa[k] = v) := ⟨_, Lib.hid rfl⟩
     rw [he.out] at cp hm hst
     have hblp := World.block_lt_of_cell? _ _ cp
     obtain ⟨ed, ea, ec⟩ := e
     change _ = some (Value.slice ea ed.length ec) at cp
     have hal : AltsI w ea ec ed := HX4.out _ hm
     have hdm : ed.length ≤ ec ∧ ec ≤ 9223372036854775807 := ⟨by have := hal.row.le; rwa [List.length_map] at this, hal.row.max⟩
     have hd30 : ed.length ≤ 30 := HF4.out _ hm
     have hok := Lib.hid (HF5.out _ hm)
     have Hal := Lib.hid hal
     have Hst := Lib.hid hst
     obtain ⟨M, hM⟩ : ∃ q, Hid (ed.length = q) := ⟨_, Lib.hid rfl⟩
     rw [hM.out] at cp hdm hd30
     subst hp
     clear hm hal hrow hst
     go_wp2_with (fail)
     clear cp hblp
     go_loopw [26] (fun jv wr => ∃ (j : Nat) (V : Nat → Bool), j ≤ M ∧ jv = .int .i64 (j : Int) ∧ Hid (NuK al V0 V k j) ∧ Hid (OwnBl wr bx (some ⟨g, 0, none⟩) L L V) ∧ Hid (Blk wr bx 25 [.slice xta T xtc, .slice xna N xnc, .slice (some ⟨p, po, none⟩) L xac]) ∧ Below w.heap.size w wr) (fun jv _ => M - (RowKit.intOf jv).toNat)
     case atStart => exact ⟨0, V, Nat.zero_le _, rfl, HK, HO, HAr, hbr⟩
     case round =>
      clear HK HO HAr hbr
      obtain ⟨j, V, hj, rfl, HK, HO, HAr, hbr⟩ := hrel
      obtain ⟨U2, rfl⟩ : ∃ U, U = wr := ⟨_, rfl⟩
      by_cases hltj : j < M
      ·have hjI : (j : Int) < (M : Int) := by omega
       have hjI0 : (0 : Int) ≤ (j : Int) := by omega
       have hjl : j < ed.length := by rw [hM.out]; exact hltj
       have hrow := Hal.out.row.grown hbr
       have hok2 := hok.out _ (List.getElem_mem hjl)
       have hin : (al.getD k [])[j]? = some (ed[j]).l := by rw [Hst.out, List.getElem?_map, List.getElem?_eq_getElem hjl]; rfl
       have hnm := (Hal.out.nms _ (List.getElem_mem hjl)).grown hbr
       obtain ⟨c, co, hc⟩ := hrow.at_ j (by rw [List.length_map]; exact hjl)
       have cc := hrow.cell c co hc j (by rw [List.length_map]; exact hjl)
       rw [List.getElem_map] at cc
       obtain ⟨e, he⟩ : ∃ v, Hid (ed[j] = v) := ⟨_, Lib.hid rfl⟩
       rw [he.out] at cc hok2 hin hnm
       have hblc := World.block_lt_of_cell? _ _ cc
       obtain ⟨el, ela, elc⟩ := e
       change _ = some (Value.slice ela el.length elc) at cc
       dsimp only at hok2 hin hnm
       have hpt := Lib.hid (fun (b : Bool) (hb : b = (V k || emp V el)) => HK.out.put (by rw [Hpl.out]; exact hlt) hin hb)
       have Hcl := Lib.hid (Hem.out el ela elc (some ⟨g, 0, none⟩) L V U2 hbr hnm HO.out.bls (fun x hx => ⟨(hok2.2 x hx).1, by have := (hok2.2 x hx).2; omega⟩))
       have z0 := HO.out.cellAt k (by rw [Nat.mul_one]; exact hlt)
       rw [rng_cell _ _ hlt] at z0
       have zl : g < U2.heap.size := (World.ownsRow.lt HO.out g rfl).2
       have x0 := HAr.out.cell 0
       have x1 := HAr.out.cell 1
       have x2 := HAr.out.cell 2
       have xl := HAr.out.lt
       simp only [List.getElem?_cons_zero, List.getElem?_cons_succ] at x0 x1 x2
       obtain ⟨EL, hEL⟩ : ∃ q, Hid (el.length = q) := ⟨_, Lib.hid rfl⟩
       rw [hEL.out] at Hcl cc
       obtain ⟨y, hy⟩ : ∃ q, Hid (V k = q) := ⟨_, Lib.hid rfl⟩
       rw [hy.out] at z0 hpt
       obtain ⟨E, hE⟩ : ∃ q, Hid (emp V el = q) := ⟨_, Lib.hid rfl⟩
       rw [hE.out] at hpt Hcl
       subst hc
       clear hrow hnm hin hok2
       cases y
       ·have HK2 : Hid (NuK al V0 (fun s => if s = k then E else V s) k (j + 1)) := Lib.hid (hpt.out E (by rw [Bool.false_or]))
        have zf := own_frz (j := k) HO.out
        go_wp2_with (fail)
        refine Hcl.out.mono ?_
        rintro e w5 ⟨rfl, hb5⟩
        have hO5 := World.ownsRow.kept HO.out (below_grownBy hb5 none) (by cases e : (Value.slice (some ⟨g, 0, none⟩) L L).ownBlock <;> simp)
        have HA5 := Lib.hid (HAr.out.below hb5 HAr.out.lt)
        have hbr5 := hbr.trans (hb5.mono hbr.size)
        clear z0 zl zf x0 x1 x2 xl hb5 hbr
        have zf := own_frz (j := k) hO5
        have zl : g < w5.heap.size := (World.ownsRow.lt hO5 g rfl).2
        have z0 := hO5.cellAt k (by rw [Nat.mul_one]; exact hlt)
        rw [rng_cell _ _ hlt, hy.out] at z0
        obtain ⟨hO7, hg7⟩ := hO5.stored k (.bool E)
        have HO7 : Hid (OwnBl (w5.setCell ⟨g, k, none⟩ (.bool E)) bx (some ⟨g, 0, none⟩) L L (fun s => if s = k then E else V s)) := Lib.hid (by
         rw [set_rng] at hO7
         unfold OwnBl
         refine (congrArg (fun l => (w5.setCell ⟨g, k, none⟩ (.bool E)).ownsRow bx 4 1 (.slice (some ⟨g, 0, none⟩) L L) L l) (List.map_congr_left (fun s _ => ?_))).mp hO7
         dsimp only
         split <;> rfl)
        have HA7 := Lib.hid (HA5.out.kept hg7 (by simpa using hgb))
        have Hb7 := Lib.hid (hbr5.trans (belowAt hg7 (B := w.heap.size) (fun i e => by injection e with e; have := (World.ownsRow.lt hO5 g rfl).1; omega) hbr5.size))
        clear hO7 hg7 hbr5 hO5
        go_wp2_with (fail)
        exact ⟨⟨j + 1, _, by omega, by go_num, HK2, HO7, HA7, Hb7.out⟩, by simp [RowKit.intOf]; omega⟩
       ·have HK2 : Hid (NuK al V0 (fun s => if s = k then true else V s) k (j + 1)) := Lib.hid (hpt.out true (by rw [Bool.true_or]))
        have zf := own_frz (j := k) HO.out
        obtain ⟨hO7, hg7⟩ := HO.out.stored k (.bool true)
        have HO7 : Hid (OwnBl (U2.setCell ⟨g, k, none⟩ (.bool true)) bx (some ⟨g, 0, none⟩) L L (fun s => if s = k then true else V s)) := Lib.hid (by
         rw [set_rng] at hO7
         unfold OwnBl
         refine (congrArg (fun l => (U2.setCell ⟨g, k, none⟩ (.bool true)).ownsRow bx 4 1 (.slice (some ⟨g, 0, none⟩) L L) L l) (List.map_congr_left (fun s _ => ?_))).mp hO7
         dsimp only
         split <;> rfl)
        have HA7 := Lib.hid (HAr.out.kept hg7 (by simpa using hgb))
        have Hb7 := Lib.hid (hbr.trans (belowAt hg7 (B := w.heap.size) (fun i e => by injection e with e; have := (World.ownsRow.lt HO.out g rfl).1; omega) hbr.size))
        clear hO7 hg7 hbr HO HAr
        go_wp2_with (fail)
        exact ⟨⟨j + 1, _, by omega, by go_num, HK2, HO7, HA7, Hb7.out⟩, by simp [RowKit.intOf]; omega⟩
      ·have hje : j = M := by omega
       have hjI : ¬ (j : Int) < (M : Int) := by omega
       have HK2 : Hid (NuK al V0 V (k + 1) 0) := Lib.hid (HK.out.row (by rw [Hst.out, List.length_map, hM.out, hje]; exact Nat.le_refl _))
       clear hje
       go_wp2_with (fail)
       exact ⟨⟨k + 1, V, by omega, by go_num, HK2, HO, HAr, hbr⟩, by simp [RowKit.intOf]; omega⟩
    ·have hke : k = L := by omega
     have hkI : ¬ (k : Int) < (L : Int) := by omega
     have Hct2 : Hid (nulL al V ≤ L - (i + 1)) := Lib.hid (by
      have := hround.out V0 V HK.out.mono (fun r hr a ha he => HK.out.done r (by rw [hke, ← Hpl.out]; exact hr) a ha he) (L - i) Hct.out
      omega)
     have Hsd2 : Hid (∀ r, V r = true → nulB al r = true) := Lib.hid HK.out.sound
     clear hke
     go_wp2_with (fail)
     exact ⟨⟨i + 1, V, by omega, by go_num, Hsd2, Hct2, HO, HAr, hbr⟩, by simp [RowKit.intOf]; omega⟩
  ·have hie : i = L := by omega
   have hiI : ¬ (i : Int) < (L : Int) := by omega
   have HOe : Hid (OwnBl U0 w.heap.size (some ⟨g, 0, none⟩) L L (nulB al)) := Lib.hid (by
    have h1 := nul_all (al := al) (V := V0) (by have := Hct.out; omega) Hsd.out
    have h2 := HO.out
    rw [← hbx.out] at h2
    unfold OwnBl at h2 ⊢
    refine (congrArg (fun l => U0.ownsRow w.heap.size 4 1 (.slice (some ⟨g, 0, none⟩) L L) L l) (List.map_congr_left (fun r hr => ?_))).mp h2
    rw [h1 r (by rw [Hpl.out]; exact List.mem_range.1 hr)])
   clear hie
   go_wp2_with (fail)
   first | (change Q (.returned (.slice (some ⟨g, 0, none⟩) L L)) U0; rw [← HQ.out]; exact ⟨some ⟨g, 0, none⟩, L, rfl, HOe.out, hbr⟩) | exact bodyPost_ret (v := .slice (some ⟨g, 0, none⟩) L L) (by simp [results, Try.results19, go_sem]; try first | rfl | assumption | omega) rfl (by rw [← HQ.out]; exact ⟨some ⟨g, 0, none⟩, L, rfl, HOe.out, hbr⟩)
end Go.Proofs.Ythogiakfbgehnaa
namespace Go.Proofs.Ythogiakfbgehnaa
open Go.RowKit Go.Maps
attribute [local go_sem] Oper.semAt_some
/-- How many numbers lists have. -/
def szL (ds : List IltD) : Nat := (ds.map (fun d => d.l.length)).sum
theorem szL_take (ds : List IltD) (i : Nat) (h : i < ds.length) : szL (ds.take (i + 1)) = szL (ds.take i) + ds[i].l.length := by
 unfold szL
 rw [List.take_add_one, List.getElem?_eq_getElem h, List.map_append, List.sum_append_nat]
 simp
theorem szL_le (ds : List IltD) (i : Nat) : szL (ds.take i) ≤ szL ds := by
 have h : szL ds = szL (ds.take i) + szL (ds.drop i) := by
  unfold szL
  conv => lhs; rw [← List.take_append_drop i ds]
  rw [List.map_append, List.sum_append_nat]
 omega
set_option maxRecDepth 100000 in
set_option maxHeartbeats 16000000 in
theorem size9_any (ds : List IltD) (a : Option Addr) (c : Nat) (w : World) (hd : AltsI w a c ds) (hb : szL ds ≤ 1000000000) :
 Calls Try.prog 65 #[.slice a ds.length c] w fun e w' => e = .returned (.int .i64 (szL ds : Int)) ∧ w' = w := by
 have hm : ds.length ≤ c ∧ c ≤ 9223372036854775807 := ⟨by have := hd.row.le; rwa [List.length_map] at this, hd.row.max⟩
 have Hd := Lib.hid hd
 obtain ⟨R, hR⟩ : ∃ R : Nat → Nat, Hid ((fun k => szL (ds.take k)) = R) := ⟨_, Lib.hid rfl⟩
 have hR0 : Hid (R 0 = 0) := Lib.hid (by rw [← hR.out]; rfl)
 have hRl : Hid (∀ k, R k ≤ 1000000000) := Lib.hid (fun k => by rw [← hR.out]; exact Nat.le_trans (szL_le ds k) hb)
 have hRs : Hid (∀ k (h : k < ds.length), R (k + 1) = R k + ds[k].l.length) := Lib.hid (fun k h => by rw [← hR.out]; exact szL_take ds k h)
 have hRe : Hid (szL ds = R ds.length) := Lib.hid (by rw [← hR.out]; show _ = szL (ds.take ds.length); rw [List.take_length])
 rw [hRe.out]
 obtain ⟨L, HL⟩ : ∃ q, Hid (ds.length = q) := ⟨_, Lib.hid rfl⟩
 rw [HL.out] at hm ⊢
 clear hd hb hR hRe
 go_enter Try.func65, Try.ntmps65
 go_wp2_with (fail)
 go_loopw [3, 8] (fun sv iv wr => ∃ k : Nat, k ≤ L ∧ iv = .int .i64 (k : Int) ∧ sv = .int .i64 (R k : Int) ∧ wr = w) (fun _ iv _ => L - (RowKit.intOf iv).toNat)
 case atStart => exact ⟨0, Nat.zero_le _, rfl, by rw [hR0.out]; rfl, rfl⟩
 case round =>
  obtain ⟨k, hk, rfl, rfl, hwr⟩ := hrel
  subst hwr
  have hb1 := hRl.out k
  have hb2 := hRl.out (k + 1)
  by_cases hlt : k < L
  ·have hkI : (k : Int) < (L : Int) := by omega
   have hkI0 : (0 : Int) ≤ (k : Int) := by omega
   have hkl : k < ds.length := by rw [HL.out]; exact hlt
   have hst := hRs.out k hkl
   have hrow := Hd.out.row
   obtain ⟨b, bo, hb⟩ := hrow.at_ k (by rw [List.length_map]; exact hkl)
   have cb := hrow.cell b bo hb k (by rw [List.length_map]; exact hkl)
   rw [List.getElem_map] at cb
   obtain ⟨e, he⟩ : ∃ v, Hid (ds[k] = v) := ⟨_, Lib.hid rfl⟩
   rw [he.out] at cb hst
   have hblb := World.block_lt_of_cell? _ _ cb
   obtain ⟨el, ea, ec⟩ := e
   change _ = some (Value.slice ea el.length ec) at cb
   dsimp only at hst
   obtain ⟨E, hE⟩ : ∃ q, Hid (el.length = q) := ⟨_, Lib.hid rfl⟩
   rw [hE.out] at cb hst
   subst hb
   obtain ⟨rk, hrk⟩ : ∃ q, Hid (R k = q) := ⟨_, Lib.hid rfl⟩
   rw [hrk.out] at hst hb1 ⊢
   have HST : Hid (((R (k + 1) : Nat) : Int) = (rk : Int) + (E : Int)) := Lib.hid (by rw [hst]; omega)
   have hw : IntKind.i64.wrap ((rk : Int) + (E : Int)) = (rk : Int) + (E : Int) := IntWalk.i64_in _ (by omega)
   clear hst hrow
   go_wp2_with (fail)
   exact ⟨⟨k + 1, by omega, by go_num, by rw [HST.out], by first | rfl | trivial⟩, by simp [RowKit.intOf]; omega⟩
  ·have hke : k = L := by omega
   have hkI : ¬ (k : Int) < (L : Int) := by omega
   rw [hke]
   obtain ⟨rk, hrk⟩ : ∃ q, Hid (R L = q) := ⟨_, Lib.hid rfl⟩
   rw [hke] at hkI
   clear hke
   go_wp2_with (fail)
   exact bodyPost_ret (v := .int .i64 (R L : Int)) (by simp [results, Try.results65, go_sem]; try first | rfl | assumption | omega) rfl ⟨rfl, rfl⟩
end Go.Proofs.Ythogiakfbgehnaa
namespace Go.Proofs.Ythogiakfbgehnaa
open Go.RowKit
/-- A rule's list in a row of lists. -/
def rowL (es : List IltD) (r : Nat) : List Int := (es.map (fun e => e.l)).getD r []
theorem rowL_at {es : List IltD} {r : Nat} (h : r < es.length) : rowL es r = es[r].l := by
 unfold rowL
 rw [List.getD_eq_getElem?_getD, List.getElem?_map, List.getElem?_eq_getElem h]
 rfl
theorem rowL_out {es : List IltD} {r : Nat} (h : es.length ≤ r) : rowL es r = [] := by
 unfold rowL
 rw [List.getD_eq_getElem?_getD, List.getElem?_eq_none (by rw [List.length_map]; exact h)]
 rfl
theorem rowL_set {es : List IltD} {k : Nat} (e : IltD) (h : k < es.length) (r : Nat) : rowL (es.set k e) r = if r = k then e.l else rowL es r := by
 unfold rowL
 rw [List.getD_eq_getElem?_getD, List.getElem?_map, List.getElem?_set]
 by_cases hr : r = k
 ·subst hr
  rw [if_pos rfl, if_pos h, if_pos rfl]
  rfl
 ·rw [if_neg (fun e => hr e.symm), if_neg hr, List.getD_eq_getElem?_getD, List.getElem?_map]
/-- Of rows of lists, each in the other's, that have as many numbers: they have the same. -/
theorem rows_same : ∀ {l m : List (List Int)}, l.length = m.length → (∀ r, (l.getD r []).Nodup) → (∀ r t, t ∈ l.getD r [] → t ∈ m.getD r []) → (m.map List.length).sum ≤ (l.map List.length).sum → ∀ r t, t ∈ m.getD r [] → t ∈ l.getD r []
 | [], [], _, _, _, _, r, t, h => by simp at h
 | [], _ :: _, h, _, _, _, _, _, _ => by cases h
 | _ :: _, [], h, _, _, _, _, _, _ => by cases h
 | a :: l, b :: m, h, hn, hs, hz, r, t, ht => by
  have h1 : l.length = m.length := by simpa using h
  have hsub : ∀ t ∈ a, t ∈ b := fun t ht => by have := hs 0 t (by simpa using ht); simpa using this
  have hna : a.Nodup := by have := hn 0; simpa using this
  have hab : a.length ≤ b.length := nodupLe a b hna hsub
  have hall : ∀ {l m : List (List Int)}, l.length = m.length → (∀ r, (l.getD r []).Nodup) → (∀ r t, t ∈ l.getD r [] → t ∈ m.getD r []) → (l.map List.length).sum ≤ (m.map List.length).sum := by
   intro l
   induction l with
   | nil => intro m _ _ _; simp
   | cons a l ih =>
    intro m h hn hs
    cases m with
    | nil => cases h
    | cons b m =>
     have h2 := ih (m := m) (by simpa using h) (fun r => by have := hn (r + 1); simpa using this) (fun r t ht => by have := hs (r + 1) t (by simpa using ht); simpa using this)
     have h3 : a.length ≤ b.length := nodupLe a b (by have := hn 0; simpa using this) (fun t ht => by have := hs 0 t (by simpa using ht); simpa using this)
     simp only [List.map_cons, List.sum_cons]
     omega
  have hn2 : ∀ r, (l.getD r []).Nodup := fun r => by have := hn (r + 1); simpa using this
  have hs2 : ∀ r t, t ∈ l.getD r [] → t ∈ m.getD r [] := fun r t ht => by have := hs (r + 1) t (by simpa using ht); simpa using this
  have h4 := hall h1 hn2 hs2
  simp only [List.map_cons, List.sum_cons] at hz
  have h5 : b.length ≤ a.length := by omega
  cases r with
  | zero =>
   have ht : t ∈ b := by simpa using ht
   have : t ∈ a := by
    by_cases hc : t ∈ a
    ·exact hc
    ·exfalso
     have := nodupLe (t :: a) b (List.nodup_cons.2 ⟨hc, hna⟩) (fun x hx => (List.mem_cons.1 hx).elim (fun e => e ▸ ht) (hsub x))
     rw [List.length_cons] at this
     omega
   simpa using this
  | succ r =>
   have := rows_same h1 hn2 hs2 (by omega) r t (by simpa using ht)
   simpa using this
/-- Where a round of First stands. -/
structure FiK (al : List (List (List Int))) (f : Nat → Bool) (E0 E : Nat → List Int) (k j : Nat) : Prop where
 up : ∀ r, (E r).Pairwise (· < ·)
 sound : ∀ r t, t ∈ E r → TokP al f [-1 - (r : Int)] t
 mono : ∀ r t, t ∈ E0 r → t ∈ E r
 done : ∀ r, r < k → ∀ a ∈ al.getD r [], ∀ t, ldP (fun r t => t ∈ E0 r) f a t → t ∈ E r
 part : ∀ a ∈ (al.getD k []).take j, ∀ t, ldP (fun r t => t ∈ E0 r) f a t → t ∈ E k
theorem FiK.start {al : List (List (List Int))} {f : Nat → Bool} {E : Nat → List Int} (h1 : ∀ r, (E r).Pairwise (· < ·)) (h2 : ∀ r t, t ∈ E r → TokP al f [-1 - (r : Int)] t) : FiK al f E E 0 0 := ⟨h1, h2, fun _ _ h => h, fun r hr => absurd hr (by omega), fun a ha => by simp at ha⟩
theorem ldP_mono {f : Nat → Bool} {K K2 : Nat → Int → Prop} (h : ∀ r t, K r t → K2 r t) {s : List Int} {t : Int} (hl : ldP K f s t) : ldP K2 f s t := by
 obtain ⟨y, hy, h1 | ⟨h0, h1⟩⟩ := hl
 ·exact ⟨y, hy, .inl h1⟩
 ·exact ⟨y, hy, .inr ⟨h0, h _ _ h1⟩⟩
theorem FiK.put {al : List (List (List Int))} {f : Nat → Bool} {E0 E : Nat → List Int} {k j : Nat} (h : FiK al f E0 E k j) {a : List Int} (ha : (al.getD k [])[j]? = some a) {r2 : List Int} (hr : Ris r2 (fun t => t ∈ E k ∨ ldP (fun r t => t ∈ E r) f a t)) : FiK al f E0 (fun s => if s = k then r2 else E s) k (j + 1) := by
 have hm : ∀ r t, t ∈ E r → t ∈ (if r = k then r2 else E r) := fun r t ht => by
  split
  ·next e => subst e; exact (hr.mem t).2 (.inl ht)
  ·exact ht
 refine ⟨fun r => ?_, fun r t ht => ?_, fun r t ht => hm r t (h.mono r t ht), fun r hrk c hc t ht => hm r t (h.done r hrk c hc t ht), fun c hc t ht => ?_⟩
 ·split
  ·exact hr.up
  ·exact h.up r
 ·split at ht
  ·next e =>
   subst e
   rcases (hr.mem t).1 ht with h1 | ⟨y, hy, ⟨h1, rfl⟩ | ⟨h1, h2⟩⟩
   ·exact h.sound _ t h1
   ·exact tok_rule (List.mem_of_getElem? ha) (tok_iff.2 ⟨_, hy, tok_self h1⟩)
   ·refine tok_rule (List.mem_of_getElem? ha) (tok_iff.2 ⟨y, hy, ?_⟩)
    have := h.sound _ t h2
    rwa [of_ruL h1] at this
  ·exact h.sound r t ht
 ·rw [List.take_add_one, List.mem_append] at hc
  rcases hc with hc | hc
  ·exact hm k t (h.part c hc t ht)
  ·rw [ha] at hc
   have : c = a := by simpa using hc
   subst this
   rw [if_pos rfl]
   exact (hr.mem t).2 (.inr (ldP_mono h.mono ht))
theorem FiK.row {al : List (List (List Int))} {f : Nat → Bool} {E0 E : Nat → List Int} {k j : Nat} (h : FiK al f E0 E k j) (hj : (al.getD k []).length ≤ j) : FiK al f E0 E (k + 1) 0 :=
 ⟨h.up, h.sound, h.mono, fun r hr a ha => by
  by_cases e : r = k
  ·subst e
   exact h.part a (by rwa [List.take_of_length_le hj])
  ·exact h.done r (by omega) a ha, fun a ha => by simp at ha⟩
/-- What is closed has all. -/
theorem fi_all {al : List (List (List Int))} {f : Nat → Bool} {E : Nat → List Int} (hc : ∀ r, ∀ a ∈ al.getD r [], ∀ t, ldP (fun r t => t ∈ E r) f a t → t ∈ E r) {r : Nat} {t : Int} (h : TokP al f [-1 - (r : Int)] t) : t ∈ E r := by
 have := first_all (F := fun r t => t ∈ E r) (fun r a ha y hy => ⟨fun h0 => hc r a ha y ⟨y, hy, .inl ⟨h0, rfl⟩⟩, fun h0 t ht => hc r a ha t ⟨y, hy, .inr ⟨h0, ht⟩⟩⟩) (by omega) h
 rwa [ruL_of] at this
end Go.Proofs.Ythogiakfbgehnaa
namespace Go.Proofs.Ythogiakfbgehnaa
open Go.RowKit Go.Maps
section
variable {P : Program} {ops : Array Oper} {Q : Exit → Act → World → Prop} {md : Region.Mode} {S : World → Prop} {z : Nat}
/-- A load that z waits for is taken ahead of all that is apart from it. -/
theorem till_firstY {i : Nat} (Y : List Nat) {oi : Oper} {v : Value} (hi : ops[i]? = some oi) (hs : Region.noSelect ops = true) (hQ : ∀ c a w, Q (.panic c) (a.put oi.dst v) w → Q (.panic c) a w)
 (hiz : i ≠ z) (hYw : ∀ y ∈ Y, ∃ m, (m = i ∨ m ∈ Y) ∧ ∀ oy, ops[y]? = some oy → ∃ e ∈ oy.after, Region.binds md e = true ∧ e.on = m) (hzY : z ∈ Y) :
 ∀ (n : Nat) (L : Array Bool) (a : Act) (w : World), (∀ j oj, ops[j]? = some oj → j ≠ i → L.getD j true = false → (∀ e ∈ oj.after, Region.binds md e = true → e.on ≠ i) → oi.apart ops oj = true) →
  i ∈ Region.ready md ops L → L.getD z true = false → (∀ y ∈ Y, L.getD y true = false) → YieldsIf P ops S oi v a → S w → wpTill P md ops Q z S n (L.setIfInBounds i true) (a.put oi.dst v) w → wpTill P md ops Q z S (n + 1) L a w := by
 intro n
 induction n with
 | zero =>
  intro L a w _ hr _ _ hy hS hH
  refine ⟨fun h0 => absurd hr (by rw [h0]; exact List.not_mem_nil), fun j hj => ?_⟩
  by_cases e : j = i
  ·rw [e]
   exact hy.wpOp hi hS ⟨fun _ => hS, hH⟩
  ·have k := ready_mono hj e
   rw [hH.1] at k
   exact absurd k List.not_mem_nil
 | succ n ih =>
  intro L a w hfr hr hzL hyL hy hS hH
  refine ⟨fun h0 => absurd hr (by rw [h0]; exact List.not_mem_nil), fun j hj => ?_⟩
  by_cases e : j = i
  ·rw [e]
   exact hy.wpOp hi hS ⟨fun _ => hS, hH⟩
  have hun := (mem_ready.1 hr).1
  obtain ⟨hju, oj, hoj, hal⟩ := mem_ready.1 hj
  have hset : ∀ {m : Nat}, L.getD m true = false → ∀ q ∈ oj.after, Region.binds md q = true → q.on ≠ m := by
   intro m hm q hq hb hqi
   have k := hal q hq hb
   rw [hqi] at k
   by_cases hlt : m < L.size
   ·simp [hlt] at k hm
    rw [k] at hm
    cases hm
   ·simp [hlt] at k
  have hwait := hset hun
  have hjY : j ∉ Y := by
   intro hjy
   obtain ⟨m, hm, hw⟩ := hYw j hjy
   obtain ⟨q, hq, hb, hqi⟩ := hw oj hoj
   rcases hm with hm | hm
   ·exact hwait q hq hb (hqi.trans hm)
   ·exact hset (hyL m hm) q hq hb hqi
  have hjz : j ≠ z := fun e => hjY (e ▸ hzY)
  have step := wpOp_putIf hoj (hfr j oj hoj e hju hwait) (fun cs b => Region.noSelect_spec hs i oi cs b hi) (fun cs b => Region.noSelect_spec hs j oj cs b hoj) hQ hy (hH.2 j (ready_mono hj e))
  refine wpOp_mono (fun b u k => ?_) step
  obtain ⟨k1, k2, k3⟩ := k
  have hu : S u := k2 (by rw [getD_set_ne true hjz, getD_set_ne true hiz]; exact hzL)
  refine ⟨fun _ => hu, ih _ b u (fun q oq hoq hqi hqu hqw => ?_) (ready_mono hr (Ne.symm e)) (by rw [getD_set_ne true hjz]; exact hzL) (fun y hy => by have hjy : j ≠ y := (fun e => hjY (by rw [e]; exact hy)); rw [getD_set_ne true hjy]; exact hyL y hy) k1 hu (by rw [Array.setIfInBounds_comm _ _ e]; exact k3)⟩
  refine hfr q oq hoq hqi ?_ hqw
  by_cases hjq : j = q
  ·rw [← hjq]; exact hju
  ·rwa [getD_set_ne true hjq] at hqu
/-- The same, by reckoning: Y is the way from what waits for i to z. -/
theorem till_takeY {i : Nat} (Y : List Nat) {oi : Oper} {v : Value} {n : Nat} {L : Array Bool} {a : Act} {w : World} (hi : ops[i]? = some oi) (hs : Region.noSelect ops = true) (hf : Region.free md ops L i = true) (hr : (Region.ready md ops L).contains i = true)
 (hQ : ∀ c a w, Q (.panic c) (a.put oi.dst v) w → Q (.panic c) a w) (hiz : i ≠ z) (hYw : Y.all (fun y => waitsFor md ops y i || Y.any (fun m => waitsFor md ops y m)) = true) (hzY : z ∈ Y) (hLY : Y.all (fun y => L.getD y true == false) = true)
 (hy : YieldsIf P ops S oi v a) (hS : S w) (h : wpTill P md ops Q z S n (L.setIfInBounds i true) (a.put oi.dst v) w) : wpTill P md ops Q z S (n + 1) L a w := by
 have hL : ∀ y ∈ Y, L.getD y true = false := fun y hy => by
  have := List.all_eq_true.1 hLY y hy
  simpa using this
 refine till_firstY Y hi hs hQ hiz (fun y hy => ?_) hzY n L a w (fun j oj hoj hji hju hno => Region.free_spec hi hf j oj hoj hji hju hno) (by simpa using hr) (hL z hzY) hL hy hS h
 have h1 := List.all_eq_true.1 hYw y hy
 rw [Bool.or_eq_true] at h1
 rcases h1 with h1 | h1
 ·exact ⟨i, .inl rfl, waits_spec h1⟩
 ·obtain ⟨m, hm, h2⟩ := List.any_eq_true.1 h1
  exact ⟨m, .inr hm, waits_spec h2⟩
end
end Go.Proofs.Ythogiakfbgehnaa
