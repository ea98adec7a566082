/- Texts joined: Wx Wo Fe. -/
import Derived.Test.YthogiakfbgehnaaRDAl
set_option linter.unusedVariables false
set_option linter.unusedSimpArgs false
namespace Go.Proofs.Ythogiakfbgehnaa
open Go.RowKit Go.Maps
attribute [local go_sem] Oper.semAt_some
/-- A row of lists that the rounds store into. -/
structure FsA (W : World) (base g L : Nat) (es : List IltD) : Prop where
 own : W.ownsRow base 35 1 (.slice (some ⟨g, 0, none⟩) L L) L (es.map IltD.v)
 len : es.length = L
 ints : ∀ e ∈ es, Ints W e.a e.c e.l
 apart : ∀ e ∈ es, ∀ b off, e.a = some ⟨b, off, none⟩ → g < b
theorem FsA.below {W W' : World} {base g L : Nat} {es : List IltD} (h : FsA W base g L es) (hb : Below W.heap.size W W') : FsA W' base g L es :=
 ⟨World.ownsRow.kept h.own (below_grownBy hb none) (by cases e : (Value.slice (some ⟨g, 0, none⟩) L L).ownBlock <;> simp), h.len, fun e he => (h.ints e he).grown hb, h.apart⟩
theorem FsA.alts {W : World} {base g L : Nat} {es : List IltD} (h : FsA W base g L es) : AltsI W (some ⟨g, 0, none⟩) L es := ⟨own_vals h.own (by rw [List.length_map, h.len]), h.ints⟩
theorem vs_far {W : World} {a : Option Addr} {c : Nat} {l : List Value} (h : Vs W a c l) (p : Addr) (v : Value) (hp : ∀ b off, a = some ⟨b, off, none⟩ → p.block < b) : Vs (W.setCell p v) a c l :=
 ⟨h.le, h.max, h.nil_, h.at_, fun b off e i hi => (World.cell?_setCell_far W p ⟨b, off + i, none⟩ v (by have := hp b off e; show p.block ≠ b; omega)).trans (h.cell b off e i hi)⟩
theorem vs_ne {W : World} {a : Option Addr} {c : Nat} {l : List Value} (h : Vs W a c l) (p : Addr) (v : Value) (hp : ∀ b off, a = some ⟨b, off, none⟩ → p.block ≠ b) : Vs (W.setCell p v) a c l :=
 ⟨h.le, h.max, h.nil_, h.at_, fun b off e i hi => (World.cell?_setCell_far W p ⟨b, off + i, none⟩ v (hp b off e)).trans (h.cell b off e i hi)⟩
theorem FsA.set {W : World} {base g L : Nat} {es : List IltD} (h : FsA W base g L es) {k : Nat} (e : IltD) (he : Ints W e.a e.c e.l) (ha : ∀ b off, e.a = some ⟨b, off, none⟩ → g < b) : FsA (W.setCell ⟨g, k, none⟩ (.slice e.a e.l.length e.c)) base g L (es.set k e) := by
 refine ⟨?_, by rw [List.length_set]; exact h.len, fun x hx => ?_, fun x hx => ?_⟩
 ·have := (h.own.stored k (.slice e.a e.l.length e.c)).1
  rw [List.map_set]
  exact this
 ·rcases List.mem_or_eq_of_mem_set hx with hx | rfl
  ·exact vs_far (h.ints x hx) _ _ (h.apart x hx)
  ·exact vs_far he _ _ ha
 ·rcases List.mem_or_eq_of_mem_set hx with hx | rfl
  ·exact h.apart x hx
  ·exact ha
theorem rows_le : ∀ {l m : List (List Int)}, l.length = m.length → (∀ r, (l.getD r []).Nodup) → (∀ r t, t ∈ l.getD r [] → t ∈ m.getD r []) → (l.map List.length).sum ≤ (m.map List.length).sum
 | [], m, _, _, _ => by simp
 | a :: l, [], h, _, _ => by cases h
 | a :: l, b :: m, h, hn, hs => by
  have h2 := rows_le (l := l) (m := m) (by simpa using h) (fun r => by have := hn (r + 1); simpa using this) (fun r t ht => by have := hs (r + 1) t (by simpa using ht); simpa using this)
  have h3 : a.length ≤ b.length := nodupLe a b (by have := hn 0; simpa using this) (fun t ht => by have := hs 0 t (by simpa using ht); simpa using this)
  simp only [List.map_cons, List.sum_cons]
  omega
theorem szL_map (es : List IltD) : szL es = ((es.map (fun e => e.l)).map List.length).sum := by unfold szL; rw [List.map_map]; rfl
theorem szL_bound : ∀ {es : List IltD}, (∀ e ∈ es, e.l.length ≤ 300) → szL es ≤ es.length * 300
 | [], _ => by simp [szL]
 | e :: es, h => by
  have h1 := szL_bound (es := es) (fun x hx => h x (List.mem_cons_of_mem _ hx))
  have h2 := h e (by simp)
  have h3 : szL (e :: es) = e.l.length + szL es := by simp [szL]
  rw [h3, List.length_cons]
  omega
set_option maxRecDepth 100000 in
set_option maxHeartbeats 16000000 in
theorem first9_any (d : CfD) (w : World) (hd : CfAt w d) (hf : FitC d) :
 Calls Try.prog 22 #[d.v] w (LstQ w d.alts.length (fun r => TokP (d.alts.map IrD.p) (nulB (d.alts.map IrD.p)) [-1 - (r : Int)])) := by
 have hAl : Hid (∀ k (h : k < d.alts.length), (d.alts.map IrD.p).getD k [] = (d.alts[k]).ds.map (fun x => x.l)) := Lib.hid (fun k h => by
  rw [List.getD_eq_getElem?_getD, List.getElem?_map, List.getElem?_eq_getElem h]
  rfl)
 have hAo : Hid (∀ r, d.alts.length ≤ r → (d.alts.map IrD.p).getD r [] = []) := Lib.hid (fun r h => by
  rw [List.getD_eq_getElem?_getD, List.getElem?_eq_none (by rw [List.length_map]; exact h)]
  rfl)
 have Htn := Lib.hid (fun (r : Nat) (hr : r < d.alts.length) (t : Int) (ht : TokP (d.alts.map IrD.p) (nulB (d.alts.map IrD.p)) [-1 - (r : Int)] t) => tok_near hf (l := [-1 - (r : Int)]) (fun x hx => by rw [List.mem_singleton] at hx; subst hx; omega) ht)
 have Hnul := Lib.hid (fun W (hb : Below w.heap.size w W) => nul9_any d W (hd.grown hb) hf)
 have Hlead := Lib.hid (fun (s : List Int) sa sc na nc (f : Nat → Bool) ka kc ds K W (hb : Below w.heap.size w W) (hs : Ints W sa sc s) (hn : BlsF W na nc d.alts.length f) (hx : ∀ x ∈ s, -(d.alts.length : Int) ≤ x ∧ x ≤ 100) (hk : AltsI W ka kc ds) (hkl : ds.length = d.alts.length) (hK : ∀ r (h : r < ds.length), Ris ds[r].l (K r)) (hKb : ∀ r t, K r t → 0 ≤ t ∧ t ≤ 100) => lead9_any d s sa sc na nc f ka kc ds K W (hd.grown hb) hs hn hx (by have := hf.r; omega) hk hkl hK hKb)
 obtain ⟨xt, xta, xtc, xn, xna, xnc, xa, xaa, xac⟩ := d
 obtain ⟨hx1, hx2, hx3, hx4⟩ := hd
 obtain ⟨hf1, hf2, hf3, hf4, hf5⟩ := hf
 dsimp only [CfD.v] at *
 have hxm : xa.length ≤ xac ∧ xac ≤ 9223372036854775807 := ⟨by have := hx3.le; rwa [List.length_map] at this, hx3.max⟩
 have HX3 := Lib.hid hx3
 have HX4 := Lib.hid hx4
 have HF4 := Lib.hid hf4
 have HF5 := Lib.hid hf5
 obtain ⟨al, hal9⟩ : ∃ q, Hid (xa.map IrD.p = q) := ⟨_, Lib.hid rfl⟩
 rw [hal9.out] at hAl hAo Htn Hnul ⊢
 obtain ⟨f, hf9⟩ : ∃ q, Hid (nulB al = q) := ⟨_, Lib.hid rfl⟩
 rw [hf9.out] at Htn Hnul ⊢
 obtain ⟨P, hP⟩ : ∃ q : Nat → Int → Prop, Hid ((fun r : Nat => TokP al f [-1 - (r : Int)]) = q) := ⟨_, Lib.hid rfl⟩
 have HP : Hid (∀ (r : Nat) t, TokP al f [-1 - (r : Int)] t ↔ P r t) := Lib.hid (fun r t => Iff.of_eq (congrFun (congrFun hP.out r) t))
 rw [hP.out]
 obtain ⟨Q, hQ⟩ : ∃ Q, Hid (LstQ w xa.length P = Q) := ⟨_, Lib.hid rfl⟩
 rw [hQ.out]
 have hb1 : Below w.heap.size w (w.alloc (.cells #[.slice xta xt.length xtc, .slice xna xn.length xnc, .slice xaa xa.length xac] 25)) := (Below.refl _ w).alloc (Nat.le_refl _) _
 have hA := Blk.new w 25 #[.slice xta xt.length xtc, .slice xna xn.length xnc, .slice xaa xa.length xac]
 obtain ⟨T, HT⟩ : ∃ q, Hid (xt.length = q) := ⟨_, Lib.hid rfl⟩
 obtain ⟨N, HN⟩ : ∃ q, Hid (xn.length = q) := ⟨_, Lib.hid rfl⟩
 obtain ⟨L, HL⟩ : ∃ q, Hid (xa.length = q) := ⟨_, Lib.hid rfl⟩
 rw [HT.out, HN.out, HL.out] at hA hb1
 rw [HT.out, HN.out, HL.out]
 have x0 := hA.cell 0
 have x1 := hA.cell 1
 have x2 := hA.cell 2
 have xl := hA.lt
 simp only [List.getElem?_cons_zero, List.getElem?_cons_succ] at x0 x1 x2
 have HA := Lib.hid hA
 have Hb1 := Lib.hid hb1
 rw [HL.out] at hxm hf1 hf2 hQ Htn hAo
 rw [HL.out, HT.out] at HF5
 rw [HT.out] at hf3
 rw [HT.out, HN.out, HL.out] at Hlead Hnul
 have HQ := Lib.hid hQ.out
 obtain ⟨iO, hiO, hzO, hsO, hbO⟩ := info_parts info_rowI
 have Hmk := Lib.hid (fun (W : World) => run_makeSlice_full (P := Try.prog) (w := W) w.heap.size 32 35 iO (.slice none 0 0) 1 Try.underlying32 hiO hzO hsO .i64 .i64 L (by omega) (by rw [hbO]; omega) (by unfold maxLen; omega))
 have Hc1 := Lib.hid (Hnul.out _ Hb1.out)
 clear hA hx1 hx2 hx3 hx4 hf4 hf5 hQ hb1 hiO hzO hsO hbO Hnul hP
 go_enter Try.func22, Try.ntmps22
 go_wp2_with (fail)
 obtain ⟨bx, hbx⟩ : ∃ q, Hid (w.heap.size = q) := ⟨_, Lib.hid rfl⟩
 have hbW : bx ≤ w.heap.size := by rw [hbx.out]; exact Nat.le_refl _
 have hbW2 : w.heap.size ≤ bx := by rw [hbx.out]; exact Nat.le_refl _
 rw [hbx.out] at HA x0 x1 x2 xl Hmk ⊢
 generalize hV : World.alloc w _ = V at HA x0 x1 x2 xl Hb1 Hc1 ⊢
 clear hV
 refine Hc1.out.mono ?_
 rintro e w2 ⟨na, nc, rfl, ho, hb⟩
 have Hn2 := Lib.hid ho.bls
 have hnb0 : ∀ b off, na = some ⟨b, off, none⟩ → b < w2.heap.size := fun b off e => by
  subst e
  rcases ho.2 with ⟨e1, _⟩ | ⟨g', cp, cur, e1, _, hk, _⟩
  ·cases e1
  ·injection e1 with e1
   injection e1 with e1
   injection e1 with e1
   subst e1
   exact (Array.getElem?_eq_some_iff.1 hk).1
 have HA2 := Lib.hid (HA.out.below hb HA.out.lt)
 have Hb2 := Lib.hid (Hb1.out.trans (hb.mono Hb1.out.size))
 clear x0 x1 x2 xl hb ho Hc1
 have hnm : L ≤ nc ∧ nc ≤ 9223372036854775807 := ⟨by have := Hn2.out.le; simpa using this, Hn2.out.max⟩
 have x2 := HA2.out.cell 2
 have xl := HA2.out.lt
 simp only [List.getElem?_cons_zero, List.getElem?_cons_succ] at x2
 obtain ⟨w3, hrun3, ho3, hg3⟩ := Hmk.out w2 (Nat.le_trans hbW Hb2.out.size)
 rw [made_fill _ rfl] at ho3
 have HA3 := Lib.hid (HA2.out.kept hg3 (by simp))
 have hb23 := belowAt hg3 (B := w2.heap.size) (fun i e => by cases e) (Nat.le_refl _)
 have Hn3 := Lib.hid (Vs.grown Hn2.out hb23)
 have Hb3 := Lib.hid (Hb2.out.trans (hb23.mono Hb2.out.size))
 obtain ⟨g, hg⟩ : ∃ q, Hid (w2.heap.size = q) := ⟨_, Lib.hid rfl⟩
 have hbg : bx < g := by rw [← hg.out]; exact HA2.out.lt
 rw [hg.out] at hrun3 ho3
 have hnb : ∀ b off, na = some ⟨b, off, none⟩ → b < g := fun b off e => by rw [← hg.out]; exact hnb0 b off e
 have HF3 : Hid (FsA w3 bx g L (List.replicate L ⟨[], none, 0⟩)) := Lib.hid ⟨by rw [List.map_replicate]; exact ho3, List.length_replicate .., fun e he => by rw [List.mem_replicate] at he; rw [he.2]; exact Vs.nil _, fun e he b off h => by rw [List.mem_replicate] at he; rw [he.2] at h; cases h⟩
 have hr0 : ∀ r, rowL (List.replicate L ⟨[], none, 0⟩) r = [] := fun r => by
  by_cases h : r < L
  ·rw [rowL_at (by rw [List.length_replicate]; exact h)]; simp
  ·exact rowL_out (by rw [List.length_replicate]; omega)
 have HU3 : Hid (∀ r, (rowL (List.replicate L ⟨[], none, 0⟩) r).Pairwise (· < ·)) := Lib.hid (fun r => by rw [hr0]; exact List.Pairwise.nil)
 have HS3 : Hid (∀ r t, t ∈ rowL (List.replicate L ⟨[], none, 0⟩) r → TokP al f [-1 - (r : Int)] t) := Lib.hid (fun r t h => by rw [hr0] at h; cases h)
 have HH3 : Hid (((-1 : Int) = szL (List.replicate L (⟨[], none, 0⟩ : IltD)) → ∀ r, ∀ a ∈ al.getD r [], ∀ t, ldP (fun r t => t ∈ rowL (List.replicate L ⟨[], none, 0⟩) r) f a t → t ∈ rowL (List.replicate L ⟨[], none, 0⟩) r)) := Lib.hid (fun h => by omega)
 have hfar : ∀ (es : List IltD), es.length = L → (∀ r, (rowL es r).Pairwise (· < ·)) → (∀ r t, t ∈ rowL es r → TokP al f [-1 - (r : Int)] t) → szL es ≤ L * 300 := fun es hl hu hs => by
  rw [← hl]
  refine szL_bound (fun e he => ?_)
  obtain ⟨r, hr, rfl⟩ := List.getElem_of_mem he
  have := ris_len101 (l := es[r].l) (P := fun t => t ∈ rowL es r) ⟨by have := hu r; rwa [rowL_at hr] at this, fun t => by rw [rowL_at hr]⟩ (fun t ht => Htn.out r (by omega) t (hs r t ht))
  exact this
 have Hfar := Lib.hid hfar
 clear ho3 hg3 hb23 hr0 hfar Hmk hnb0
 go_wp2_with (fail)
 clear hrun3 x2 xl
 obtain ⟨CL, hCL⟩ : ∃ q : List IltD → Prop, Hid ((fun es : List IltD => ∀ r, ∀ a ∈ al.getD r [], ∀ t, ldP (fun r t => t ∈ rowL es r) f a t → t ∈ rowL es r) = q) := ⟨_, Lib.hid rfl⟩
 have HCL : Hid (∀ es : List IltD, (∀ r, ∀ a ∈ al.getD r [], ∀ t, ldP (fun r t => t ∈ rowL es r) f a t → t ∈ rowL es r) = CL es) := Lib.hid (fun es => congrFun hCL.out es)
 rw [HCL.out] at HH3
 go_loopw [5] (fun sv wr => ∃ (hv : Int) (es : List IltD), sv = .int .i64 hv ∧ Hid (FsA wr bx g L es) ∧ Hid (∀ r, (rowL es r).Pairwise (· < ·)) ∧ Hid (∀ r t, t ∈ rowL es r → TokP al f [-1 - (r : Int)] t) ∧ -1 ≤ hv ∧ hv ≤ szL es ∧ Hid (hv = szL es → CL es) ∧ Hid (Blk wr bx 25 [.slice xta T xtc, .slice xna N xnc, .slice xaa L xac]) ∧ Hid (BlsF wr na nc L f) ∧ Below w.heap.size w wr) (fun sv _ => L * 300 + 2 - ((RowKit.intOf sv) + 1).toNat)
 case atStart => exact ⟨-1, _, rfl, HF3, HU3, HS3, by omega, by omega, HH3, HA3, Hn3, Hb3.out⟩
 case round =>
  clear HF3 HU3 HS3 HH3 HA3 Hn3 Hb3
  obtain ⟨hv, es, rfl, HF, HU, HS, hv1, hv2, HH, HA, Hn, hbr⟩ := hrel
  obtain ⟨U, rfl⟩ : ∃ U, U = wr := ⟨_, rfl⟩
  have hsz := Hfar.out es HF.out.len HU.out HS.out
  have Hsz := Lib.hid (size9_any es (some ⟨g, 0, none⟩) L U HF.out.alts (by omega))
  rw [HF.out.len] at Hsz
  obtain ⟨Z, hZ⟩ : ∃ q, Hid (szL es = q) := ⟨_, Lib.hid rfl⟩
  rw [hZ.out] at Hsz hsz hv2 HH
  by_cases he : hv = (Z : Int)
  ·have HC := HH.out he
   have Hfin : Hid (Q (.returned (.slice (some ⟨g, 0, none⟩) L L)) U) := Lib.hid (by
    rw [← HQ.out]
    rw [← HCL.out] at HC
    refine ⟨some ⟨g, 0, none⟩, L, es, rfl, HF.out.len, HF.out.alts, fun r h => ⟨by have := HU.out r; rwa [rowL_at h] at this, fun t => ?_⟩, hbr⟩
    rw [← HP.out, ← rowL_at h]
    exact ⟨HS.out r t, fun ht => fi_all HC ht⟩)
   subst he
   clear HC HH
   go_wp2_with (fail)
   refine Hsz.out.mono ?_
   rintro e w4 ⟨rfl, rfl⟩
   go_wp2_with (fail)
   first | exact Hfin.out | exact bodyPost_ret (v := .slice (some ⟨g, 0, none⟩) L L) (by simp [results, Try.results22, go_sem]; try first | rfl | assumption | omega) rfl Hfin.out
  ·have hne : (hv != (Z : Int)) = true := by rw [bne_iff_ne]; exact he
   have x2 := HA.out.cell 2
   have xl := HA.out.lt
   simp only [List.getElem?_cons_zero, List.getElem?_cons_succ] at x2
   have HK0 := Lib.hid (FiK.start (al := al) (f := f) HU.out HS.out)
   go_wp2_with (fail)
   refine Hsz.out.mono ?_
   rintro e w4 ⟨rfl, rfl⟩
   go_wp2_with (fail)
   refine Hsz.out.mono ?_
   rintro e w5 ⟨rfl, rfl⟩
   go_wp2_with (fail)
   have hesl : Hid (es.length = L) := Lib.hid HF.out.len
   clear x2 xl
   go_loopw [25] (fun iv wr => ∃ (k : Nat) (es2 : List IltD), k ≤ L ∧ iv = .int .i64 (k : Int) ∧ Hid (FiK al f (rowL es) (rowL es2) k 0) ∧ Hid (FsA wr bx g L es2) ∧ Hid (Blk wr bx 25 [.slice xta T xtc, .slice xna N xnc, .slice xaa L xac]) ∧ Hid (BlsF wr na nc L f) ∧ Below w.heap.size w wr) (fun iv _ => L - (RowKit.intOf iv).toNat)
   case atStart => exact ⟨0, es, Nat.zero_le _, rfl, HK0, HF, HA, Hn, hbr⟩
   case round =>
    clear HF HA Hn hbr HK0 Hsz
    obtain ⟨k, es2, hk, rfl, HK, HF, HA, Hn, hbr⟩ := hrel
    obtain ⟨U1, rfl⟩ : ∃ U, U = wr := ⟨_, rfl⟩
    by_cases hlt : k < L
    ·have hkI : (k : Int) < (L : Int) := by omega
     have hkI0 : (0 : Int) ≤ (k : Int) := by omega
     have hkl : k < xa.length := by rw [HL.out]; exact hlt
     have hrow := HX3.out.grown hbr
     have hst := hAl.out k hkl
     obtain ⟨p, po, hp⟩ := hrow.at_ k (by rw [List.length_map]; exact hkl)
     have cp := hrow.cell p po hp k (by rw [List.length_map]; exact hkl)
     rw [List.getElem_map] at cp
     have hm : xa[k] ∈ xa := List.getElem_mem hkl
     obtain ⟨e, he⟩ : ∃ v, Hid (xa[k] = v) := ⟨_, Lib.hid rfl⟩
     rw [he.out] at cp hm hst
     have hblp := World.block_lt_of_cell? _ _ cp
     obtain ⟨ed, ea, ec⟩ := e
     change _ = some (Value.slice ea ed.length ec) at cp
     have hal : AltsI w ea ec ed := HX4.out _ hm
     have hdm : ed.length ≤ ec ∧ ec ≤ 9223372036854775807 := ⟨by have := hal.row.le; rwa [List.length_map] at this, hal.row.max⟩
     have hd30 : ed.length ≤ 30 := HF4.out _ hm
     have hok := Lib.hid (HF5.out _ hm)
     have Hal := Lib.hid hal
     have Hst := Lib.hid hst
     obtain ⟨M, hM⟩ : ∃ q, Hid (ed.length = q) := ⟨_, Lib.hid rfl⟩
     rw [hM.out] at cp hdm hd30
     subst hp
     clear hm hal hrow hst
     go_wp2_with (fail)
     clear cp hblp
     go_loopw [32] (fun jv wr => ∃ (j : Nat) (es2 : List IltD), j ≤ M ∧ jv = .int .i64 (j : Int) ∧ Hid (FiK al f (rowL es) (rowL es2) k j) ∧ Hid (FsA wr bx g L es2) ∧ Hid (Blk wr bx 25 [.slice xta T xtc, .slice xna N xnc, .slice (some ⟨p, po, none⟩) L xac]) ∧ Hid (BlsF wr na nc L f) ∧ Below w.heap.size w wr) (fun jv _ => M - (RowKit.intOf jv).toNat)
     case atStart => exact ⟨0, es2, Nat.zero_le _, rfl, HK, HF, HA, Hn, hbr⟩
     case round =>
      clear HK HF HA Hn hbr
      obtain ⟨j, es2, hj, rfl, HK, HF, HA, Hn, hbr⟩ := hrel
      obtain ⟨U2, rfl⟩ : ∃ U, U = wr := ⟨_, rfl⟩
      by_cases hltj : j < M
      ·have hjI : (j : Int) < (M : Int) := by omega
       have hjI0 : (0 : Int) ≤ (j : Int) := by omega
       have hjl : j < ed.length := by rw [hM.out]; exact hltj
       have hrow := Hal.out.row.grown hbr
       have hok2 := hok.out _ (List.getElem_mem hjl)
       have hin : (al.getD k [])[j]? = some (ed[j]).l := by rw [Hst.out, List.getElem?_map, List.getElem?_eq_getElem hjl]; rfl
       have hnm := (Hal.out.nms _ (List.getElem_mem hjl)).grown hbr.drew
       obtain ⟨c, co, hc⟩ := hrow.at_ j (by rw [List.length_map]; exact hjl)
       have cc := hrow.cell c co hc j (by rw [List.length_map]; exact hjl)
       rw [List.getElem_map] at cc
       obtain ⟨e, he⟩ : ∃ v, Hid (ed[j] = v) := ⟨_, Lib.hid rfl⟩
       rw [he.out] at cc hok2 hin hnm
       have hblc := World.block_lt_of_cell? _ _ cc
       obtain ⟨el, ela, elc⟩ := e
       change _ = some (Value.slice ela el.length elc) at cc
       dsimp only at hok2 hin hnm
       have hel : es2.length = L := HF.out.len
       have hke : k < es2.length := by rw [hel]; exact hlt
       have HFd := Lib.hid (HF.out.below (Below.refl _ U2).drew)
       have HAd := Lib.hid (HA.out.below (Below.refl _ U2).drew HA.out.lt)
       have Hnd := Lib.hid (Vs.grown Hn.out (Below.refl _ U2).drew)
       have Hbd := Lib.hid hbr.drew
       have hKb : ∀ r t, t ∈ rowL es2 r → 0 ≤ t ∧ t ≤ 100 := fun r t ht => by
        by_cases h : r < L
        ·exact Htn.out r h t (HK.out.sound r t ht)
        ·rw [rowL_out (by omega)] at ht; cases ht
       have HKb := Lib.hid hKb
       have Hl := Lib.hid (Hlead.out el ela elc na nc f (some ⟨g, 0, none⟩) L es2 (fun r t => t ∈ rowL es2 r) U2.drew Hbd.out hnm Hnd.out (fun x hx => ⟨(hok2.2 x hx).1, by have := (hok2.2 x hx).2; omega⟩) HFd.out.alts hel (fun r h => ⟨by have := HK.out.up r; rwa [rowL_at h] at this, fun t => by rw [rowL_at h]⟩) hKb)
       rw [hel] at Hl
       have Hlb : Hid (∀ t, ldP (fun r t => t ∈ rowL es2 r) f el t → 0 ≤ t ∧ t ≤ 100) := Lib.hid (fun t ht => by
        obtain ⟨y, hy, ⟨h1, rfl⟩ | ⟨_, h1⟩⟩ := ht
        ·exact ⟨h1, by have := (hok2.2 _ (ahd_sub hy)).2; omega⟩
        ·exact hKb _ _ h1)
       have Hin := Lib.hid hin
       have ck := HFd.out.alts.row.cell g 0 rfl k (by rw [List.length_map]; exact hke)
       rw [List.getElem_map, Nat.zero_add] at ck
       have Hei := Lib.hid (HFd.out.ints _ (List.getElem_mem hke))
       have Hea := Lib.hid (HFd.out.apart _ (List.getElem_mem hke))
       have Her := Lib.hid (rowL_at hke)
       obtain ⟨u, hu⟩ : ∃ v, Hid (es2[k] = v) := ⟨_, Lib.hid rfl⟩
       rw [hu.out] at ck Hei Hea Her
       obtain ⟨ul, ua, uc⟩ := u
       change _ = some (Value.slice ua ul.length uc) at ck
       dsimp only at Hei Hea Her
       obtain ⟨UL, hUL⟩ : ∃ q, Hid (ul.length = q) := ⟨_, Lib.hid rfl⟩
       rw [hUL.out] at ck
       obtain ⟨EL, hEL⟩ : ∃ q, Hid (el.length = q) := ⟨_, Lib.hid rfl⟩
       rw [hEL.out] at Hl cc
       have HS0 : Hid (U2.drew.cell? ⟨bx, 0, none⟩ = some (.slice xta T xtc) ∧ U2.drew.cell? ⟨bx, 1, none⟩ = some (.slice xna N xnc) ∧ U2.drew.cell? ⟨bx, 2, none⟩ = some (.slice (some ⟨p, po, none⟩) L xac) ∧ U2.drew.cell? ⟨g, k, none⟩ = some (.slice ua UL uc)) := Lib.hid ⟨HAd.out.cell 0, HAd.out.cell 1, HAd.out.cell 2, ck⟩
       subst hc
       clear hrow hok2 hin hnm hKb ck
       go_wp2_with (fail)
       clear cc hblc
       refine region_till 13 (fun w' => w'.cell? ⟨bx, 0, none⟩ = some (.slice xta T xtc) ∧ w'.cell? ⟨bx, 1, none⟩ = some (.slice xna N xnc) ∧ w'.cell? ⟨bx, 2, none⟩ = some (.slice (some ⟨p, po, none⟩) L xac) ∧ w'.cell? ⟨g, k, none⟩ = some (.slice ua UL uc)) (by kernel_rfl) ?_
       refine till_takeY (i := 0) [12, 13] (v := ?_) (iatLS iatZS) (by kernel_rfl) (by kernel_rfl) (by kernel_rfl) (fun _ _ _ h => h) (by decide) (by kernel_rfl) (by decide) (by kernel_rfl) (Or.inl ⟨by rfl, ?_⟩) HS0.out ?_
       rotate_left
       ·intro w hSw
        try dsimp only at hSw
        go_simp
        all_goals with_reducible rfl
       try simp only [Act.put, List.setIfInBounds_toArray, List.set_cons_zero, List.set_cons_succ]
       refine till_takeY (i := 1) [12, 13] (v := ?_) (iatLS (iatSS iatZS)) (by kernel_rfl) (by kernel_rfl) (by kernel_rfl) (fun _ _ _ h => h) (by decide) (by kernel_rfl) (by decide) (by kernel_rfl) (Or.inl ⟨by rfl, ?_⟩) HS0.out ?_
       rotate_left
       ·intro w hSw
        try dsimp only at hSw
        go_simp
        all_goals with_reducible rfl
       try simp only [Act.put, List.setIfInBounds_toArray, List.set_cons_zero, List.set_cons_succ]
       refine till_takeY (i := 2) [4, 5, 11, 13] (v := ?_) (iatLS (iatSS (iatSS iatZS))) (by kernel_rfl) (by kernel_rfl) (by kernel_rfl) (fun _ _ _ h => h) (by decide) (by kernel_rfl) (by decide) (by kernel_rfl) (Or.inl ⟨by rfl, ?_⟩) HS0.out ?_
       rotate_left
       ·intro w hSw
        try dsimp only at hSw
        go_simp
        all_goals with_reducible rfl
       try simp only [Act.put, List.setIfInBounds_toArray, List.set_cons_zero, List.set_cons_succ]
       refine till_takeY (i := 3) [4, 5, 11, 13] (v := ?_) (iatLS (iatSS (iatSS (iatSS iatZS)))) (by kernel_rfl) (by kernel_rfl) (by kernel_rfl) (fun _ _ _ h => h) (by decide) (by kernel_rfl) (by decide) (by kernel_rfl) (Or.inl ⟨by rfl, ?_⟩) HS0.out ?_
       rotate_left
       ·intro w hSw
        try dsimp only at hSw
        go_simp
        all_goals with_reducible rfl
       try simp only [Act.put, List.setIfInBounds_toArray, List.set_cons_zero, List.set_cons_succ]
       refine till_takeY (i := 4) [5, 11, 13] (v := ?_) (iatLS (iatSS (iatSS (iatSS (iatSS iatZS))))) (by kernel_rfl) (by kernel_rfl) (by kernel_rfl) (fun _ _ _ h => h) (by decide) (by kernel_rfl) (by decide) (by kernel_rfl) (Or.inl ⟨by rfl, ?_⟩) HS0.out ?_
       rotate_left
       ·intro w hSw
        try dsimp only at hSw
        go_simp
        all_goals with_reducible rfl
       try simp only [Act.put, List.setIfInBounds_toArray, List.set_cons_zero, List.set_cons_succ]
       refine till_takeY (i := 5) [11, 13] (v := ?_) (iatLS (iatSS (iatSS (iatSS (iatSS (iatSS iatZS)))))) (by kernel_rfl) (by kernel_rfl) (by kernel_rfl) (fun _ _ _ h => h) (by decide) (by kernel_rfl) (by decide) (by kernel_rfl) (Or.inl ⟨by rfl, ?_⟩) HS0.out ?_
       rotate_left
       ·intro w hSw
        try dsimp only at hSw
        go_simp
        all_goals with_reducible rfl
       try simp only [Act.put, List.setIfInBounds_toArray, List.set_cons_zero, List.set_cons_succ]
       refine till_takeY (i := 6) [10, 11, 13] (v := ?_) (iatLS (iatSS (iatSS (iatSS (iatSS (iatSS (iatSS iatZS))))))) (by kernel_rfl) (by kernel_rfl) (by kernel_rfl) (fun _ _ _ h => h) (by decide) (by kernel_rfl) (by decide) (by kernel_rfl) (Or.inl ⟨by rfl, ?_⟩) HS0.out ?_
       rotate_left
       ·intro w hSw
        try dsimp only at hSw
        go_simp
        all_goals with_reducible rfl
       try simp only [Act.put, List.setIfInBounds_toArray, List.set_cons_zero, List.set_cons_succ]
       refine till_takeY (i := 7) [10, 11, 13] (v := ?_) (iatLS (iatSS (iatSS (iatSS (iatSS (iatSS (iatSS (iatSS iatZS)))))))) (by kernel_rfl) (by kernel_rfl) (by kernel_rfl) (fun _ _ _ h => h) (by decide) (by kernel_rfl) (by decide) (by kernel_rfl) (Or.inl ⟨by rfl, ?_⟩) HS0.out ?_
       rotate_left
       ·intro w hSw
        try dsimp only at hSw
        go_simp
        all_goals with_reducible rfl
       try simp only [Act.put, List.setIfInBounds_toArray, List.set_cons_zero, List.set_cons_succ]
       refine till_takeY (i := 8) [10, 11, 13] (v := ?_) (iatLS (iatSS (iatSS (iatSS (iatSS (iatSS (iatSS (iatSS (iatSS iatZS))))))))) (by kernel_rfl) (by kernel_rfl) (by kernel_rfl) (fun _ _ _ h => h) (by decide) (by kernel_rfl) (by decide) (by kernel_rfl) (Or.inl ⟨by rfl, ?_⟩) HS0.out ?_
       rotate_left
       ·intro w hSw
        try dsimp only at hSw
        go_simp
        all_goals with_reducible rfl
       try simp only [Act.put, List.setIfInBounds_toArray, List.set_cons_zero, List.set_cons_succ]
       refine till_takeY (i := 9) [10, 11, 13] (v := ?_) (iatLS (iatSS (iatSS (iatSS (iatSS (iatSS (iatSS (iatSS (iatSS (iatSS iatZS)))))))))) (by kernel_rfl) (by kernel_rfl) (by kernel_rfl) (fun _ _ _ h => h) (by decide) (by kernel_rfl) (by decide) (by kernel_rfl) (Or.inl ⟨by rfl, ?_⟩) HS0.out ?_
       rotate_left
       ·intro w hSw
        try dsimp only at hSw
        go_simp
        all_goals with_reducible rfl
       try simp only [Act.put, List.setIfInBounds_toArray, List.set_cons_zero, List.set_cons_succ]
       refine till_ready (rs := [10]) (by kernel_rfl) (by simp) ?_
       refine TillAll.cons (iatLS (iatSS (iatSS (iatSS (iatSS (iatSS (iatSS (iatSS (iatSS (iatSS (iatSS iatZS))))))))))) (fun K hK => ?_) TillAll.nil
       go_simp
       (with_reducible refine Hl.out.mono ?_)
       rintro e8 W5 ⟨la, lc, l, rfl, hli, hlr, hb5⟩
       have Hli := Lib.hid hli
       have Hlr := Lib.hid hlr
       have HF5w := Lib.hid (HFd.out.below hb5)
       have HA5 := Lib.hid (HAd.out.below hb5 HAd.out.lt)
       have Hn5 := Lib.hid (Vs.grown Hnd.out hb5)
       have Hb5 := Lib.hid (Hbd.out.trans (hb5.mono Hbd.out.size))
       have Hei5 := Lib.hid (Hei.out.grown hb5)
       have ck5 := HF5w.out.alts.row.cell g 0 rfl k (by rw [List.length_map]; exact hke)
       rw [List.getElem_map, Nat.zero_add, hu.out] at ck5
       change _ = some (Value.slice ua ul.length uc) at ck5
       rw [hUL.out] at ck5
       have HS5 : Hid (W5.cell? ⟨bx, 0, none⟩ = some (.slice xta T xtc) ∧ W5.cell? ⟨bx, 1, none⟩ = some (.slice xna N xnc) ∧ W5.cell? ⟨bx, 2, none⟩ = some (.slice (some ⟨p, po, none⟩) L xac) ∧ W5.cell? ⟨g, k, none⟩ = some (.slice ua UL uc)) := Lib.hid ⟨HA5.out.cell 0, HA5.out.cell 1, HA5.out.cell 2, ck5⟩
       have Hall := Lib.hid (all9_any ul l ua la uc lc (fun t => t ∈ rowL es2 k) W5 Hei5.out Hli.out ⟨by have := HK.out.up k; rwa [Her.out] at this, fun t => by rw [Her.out]⟩ (fun t ht => HKb.out k t ht) (fun t ht => Hlb.out t ((Hlr.out.mem t).1 ht)))
       rw [hUL.out] at Hall
       obtain ⟨LL, hLL⟩ : ∃ q, Hid (l.length = q) := ⟨_, Lib.hid rfl⟩
       rw [hLL.out] at Hall ⊢
       clear hli hlr hb5 ck5
       try dsimp only
       refine hK.out _ _ ?_ ?_
       ·exact fun _ => HS5.out
       clear hK K
       try simp only [Act.put, List.setIfInBounds_toArray, List.set_cons_zero, List.set_cons_succ]
       refine till_ready (rs := [11]) (by kernel_rfl) (by simp) ?_
       refine TillAll.cons (iatLS (iatSS (iatSS (iatSS (iatSS (iatSS (iatSS (iatSS (iatSS (iatSS (iatSS (iatSS iatZS)))))))))))) (fun K hK => ?_) TillAll.nil
       go_simp
       (with_reducible refine Hall.out.mono ?_)
       rintro e8 W6 ⟨oa, oc, r2, rfl, hoi, hor, hof, hb6⟩
       have HF6 := Lib.hid (HF5w.out.below hb6)
       have HA6 := Lib.hid (HA5.out.below hb6 HA5.out.lt)
       have Hn6 := Lib.hid (Vs.grown Hn5.out hb6)
       have Hb6 := Lib.hid (Hb5.out.trans (hb6.mono Hb5.out.size))
       have hgW : g < W5.heap.size := (World.ownsRow.lt HF5w.out.own g rfl).2
       have hap : ∀ b off, oa = some ⟨b, off, none⟩ → g < b := fun b off e => by
        rcases hof with h | h
        ·subst h; exact Hea.out b off e
        ·exact Nat.lt_of_lt_of_le hgW (h b off e)
       have HK6 : Hid (FiK al f (rowL es) (rowL (es2.set k ⟨r2, oa, oc⟩)) k (j + 1)) := Lib.hid (by
        have h1 := HK.out.put Hin.out (r2 := r2) (ris_or hor (fun t => or_congr Iff.rfl (Hlr.out.mem t)))
        rwa [← funext (rowL_set (⟨r2, oa, oc⟩ : IltD) hke)] at h1)
       have HF7 : Hid (FsA (W6.setCell ⟨g, k, none⟩ (.slice oa r2.length oc)) bx g L (es2.set k ⟨r2, oa, oc⟩)) := Lib.hid (HF6.out.set ⟨r2, oa, oc⟩ hoi hap)
       have HA7 := Lib.hid (HA6.out.setOther (b' := g) (j := k) (by omega) (.slice oa r2.length oc))
       have Hn7 : Hid (BlsF (W6.setCell ⟨g, k, none⟩ (.slice oa r2.length oc)) na nc L f) := Lib.hid (vs_ne Hn6.out _ _ (fun b off e => by have := hnb b off e; show g ≠ b; omega))
       have Hb7 := Lib.hid (Hb6.out.setCell (p := ⟨g, k, none⟩) (by show w.heap.size ≤ g; omega) (.slice oa r2.length oc))
       have z0 := HF6.out.alts.row.cell g 0 rfl k (by rw [List.length_map]; exact hke)
       rw [List.getElem_map, Nat.zero_add, hu.out] at z0
       change _ = some (Value.slice ua ul.length uc) at z0
       rw [hUL.out] at z0
       have HS6 : Hid (W6.cell? ⟨bx, 0, none⟩ = some (.slice xta T xtc) ∧ W6.cell? ⟨bx, 1, none⟩ = some (.slice xna N xnc) ∧ W6.cell? ⟨bx, 2, none⟩ = some (.slice (some ⟨p, po, none⟩) L xac) ∧ W6.cell? ⟨g, k, none⟩ = some (.slice ua UL uc)) := Lib.hid ⟨HA6.out.cell 0, HA6.out.cell 1, HA6.out.cell 2, z0⟩
       have zf := own_frz (j := k) HF6.out.own
       have zl : g < W6.heap.size := (World.ownsRow.lt HF6.out.own g rfl).2
       obtain ⟨RL, hRL⟩ : ∃ q, Hid (r2.length = q) := ⟨_, Lib.hid rfl⟩
       rw [hRL.out] at HF7 HA7 Hn7 Hb7 ⊢
       clear hoi hor hof hb6 hap
       try dsimp only
       refine hK.out _ _ ?_ ?_
       ·exact fun _ => HS6.out
       clear hK K
       try simp only [Act.put, List.setIfInBounds_toArray, List.set_cons_zero, List.set_cons_succ]
       refine till_takeY (i := 12) [13] (v := ?_) (iatLS (iatSS (iatSS (iatSS (iatSS (iatSS (iatSS (iatSS (iatSS (iatSS (iatSS (iatSS (iatSS iatZS))))))))))))) (by kernel_rfl) (by kernel_rfl) (by kernel_rfl) (fun _ _ _ h => h) (by decide) (by kernel_rfl) (by decide) (by kernel_rfl) (Or.inl ⟨by rfl, ?_⟩) HS6.out ?_
       rotate_left
       ·intro w hSw
        try dsimp only at hSw
        go_simp
        all_goals with_reducible rfl
       try simp only [Act.put, List.setIfInBounds_toArray, List.set_cons_zero, List.set_cons_succ]
       refine till_ready (rs := [13]) (by kernel_rfl) (by simp) ?_
       refine TillAll.cons (iatLS (iatSS (iatSS (iatSS (iatSS (iatSS (iatSS (iatSS (iatSS (iatSS (iatSS (iatSS (iatSS (iatSS iatZS)))))))))))))) (fun K hK => ?_) TillAll.nil
       go_simp
       generalize hW : World.setCell W6 _ _ = W7 at HF7 HA7 Hn7 Hb7 ⊢
       clear hW z0 zf zl
       refine hK.out _ _ ?_ ?_
       ·exact fun h => nomatch (show (true : Bool) = false from h)
       clear hK K
       try simp only [Act.put, List.setIfInBounds_toArray, List.set_cons_zero, List.set_cons_succ]
       refine till_done (by kernel_rfl) ?_ _
       go_wp2_with (fail)
       exact ⟨⟨j + 1, _, by omega, by go_num, HK6, HF7, HA7, Hn7, Hb7.out⟩, by simp [RowKit.intOf]; omega⟩
      ·have hje : j = M := by omega
       have hjI : ¬ (j : Int) < (M : Int) := by omega
       have HK2 : Hid (FiK al f (rowL es) (rowL es2) (k + 1) 0) := Lib.hid (HK.out.row (by rw [Hst.out, List.length_map, hM.out, hje]; exact Nat.le_refl _))
       clear hje
       go_wp2_with (fail)
       exact ⟨⟨k + 1, es2, by omega, by go_num, HK2, HF, HA, Hn, hbr⟩, by simp [RowKit.intOf]; omega⟩
    ·have hke : k = L := by omega
     have hkI : ¬ (k : Int) < (L : Int) := by omega
     have HU2 : Hid (∀ r, (rowL es2 r).Pairwise (· < ·)) := Lib.hid HK.out.up
     have HS2 : Hid (∀ r t, t ∈ rowL es2 r → TokP al f [-1 - (r : Int)] t) := Lib.hid HK.out.sound
     have hll : (es.map (fun e => e.l)).length = (es2.map (fun e => e.l)).length := by rw [List.length_map, List.length_map, HF.out.len]; exact hesl.out
     have hnd : ∀ r, ((es.map (fun e => e.l)).getD r []).Nodup := fun r => pair_nodup (HU.out r)
     have hle : Z ≤ szL es2 := by
      rw [← hZ.out, szL_map, szL_map]
      exact rows_le hll hnd HK.out.mono
     have HH2 : Hid (((Z : Nat) : Int) = szL es2 → CL es2) := Lib.hid (fun h => by
      rw [← HCL.out]
      have hback := rows_same hll hnd HK.out.mono (by rw [← szL_map, ← szL_map, hZ.out]; omega)
      intro r a ha t ht
      by_cases hr : r < L
      ·exact HK.out.done r (by rw [hke]; exact hr) a ha t (ldP_mono (fun r t h => hback r t h) ht)
      ·rw [hAo.out r (by omega)] at ha; cases ha)
     have hvZ : hv < (Z : Int) := by omega
     clear hke hll hnd
     go_wp2_with (fail)
     exact ⟨⟨(Z : Int), es2, rfl, HF, HU2, HS2, by omega, by omega, HH2, HA, Hn, hbr⟩, by simp [RowKit.intOf]; omega⟩
end Go.Proofs.Ythogiakfbgehnaa
namespace Go.Proofs.Ythogiakfbgehnaa
open Go.RowKit Go.Maps
attribute [local go_sem] Oper.semAt_some
theorem ld_tok {al : List (List (List Int))} {f : Nat → Bool} {s : List Int} {t : Int} : ldP (fun r t => TokP al f [-1 - (r : Int)] t) f s t ↔ TokP al f (ahd f s) t := by
 rw [tok_iff]
 constructor
 ·rintro ⟨y, hy, ⟨h1, rfl⟩ | ⟨h0, h1⟩⟩
  ·exact ⟨_, hy, tok_self h1⟩
  ·have h1 : TokP al f [-1 - (ruL y : Int)] t := h1
   rw [of_ruL h0] at h1
   exact ⟨y, hy, h1⟩
 ·rintro ⟨y, hy, h⟩
  by_cases h0 : y < 0
  ·exact ⟨y, hy, .inr ⟨h0, by show TokP al f [-1 - (ruL y : Int)] t; rw [of_ruL h0]; exact h⟩⟩
  ·exact ⟨y, hy, .inl ⟨by omega, tok_tok (by omega) h⟩⟩
end Go.Proofs.Ythogiakfbgehnaa
namespace Go.Proofs.Ythogiakfbgehnaa
open Go.RowKit
/-- What stands behind a place of an alternative is with the rule that stands there. -/
def FoD (al : List (List (List Int))) (f : Nat → Bool) (E0 E : Nat → List Int) (r : Nat) (a : List Int) (i : Nat) : Prop :=
 ∀ s : Nat, a[i]? = some (-1 - (s : Int)) → (∀ t, TokP al f (ahd f (a.drop (i + 1))) t → t ∈ E s) ∧ (emp f (a.drop (i + 1)) = true → ∀ t, t ∈ E0 r → t ∈ E s)
theorem FoD.mono {al : List (List (List Int))} {f : Nat → Bool} {E0 E E2 : Nat → List Int} {r : Nat} {a : List Int} {i : Nat} (h : FoD al f E0 E r a i) (hm : ∀ r t, t ∈ E r → t ∈ E2 r) : FoD al f E0 E2 r a i :=
 fun s hs => ⟨fun t ht => hm _ _ ((h s hs).1 t ht), fun he t ht => hm _ _ ((h s hs).2 he t ht)⟩
/-- Where a round of Follow stands. -/
structure FoK (al : List (List (List Int))) (f : Nat → Bool) (T : Nat) (E0 E : Nat → List Int) (k j i : Nat) : Prop where
 up : ∀ r, (E r).Pairwise (· < ·)
 sound : ∀ r t, t ∈ E r → FolP al f T r t
 mono : ∀ r t, t ∈ E0 r → t ∈ E r
 done : ∀ r, r < k → ∀ a ∈ al.getD r [], ∀ i, FoD al f E0 E r a i
 part : ∀ a ∈ (al.getD k []).take j, ∀ i, FoD al f E0 E k a i
 here : ∀ a, (al.getD k [])[j]? = some a → ∀ i2, i2 < i → FoD al f E0 E k a i2
theorem FoK.start {al : List (List (List Int))} {f : Nat → Bool} {T : Nat} {E : Nat → List Int} (h1 : ∀ r, (E r).Pairwise (· < ·)) (h2 : ∀ r t, t ∈ E r → FolP al f T r t) : FoK al f T E E 0 0 0 :=
 ⟨h1, h2, fun _ _ h => h, fun r hr => absurd hr (by omega), fun a ha => by simp at ha, fun a _ i2 h => absurd h (by omega)⟩
theorem FoK.put {al : List (List (List Int))} {f : Nat → Bool} {T : Nat} {E0 E : Nat → List Int} {k j i s : Nat} {a : List Int} (h : FoK al f T E0 E k j i) (hk : k < al.length) (ha : (al.getD k [])[j]? = some a) (hi : a[i]? = some (-1 - (s : Int))) {r2 : List Int}
 (hu : r2.Pairwise (· < ·)) (hs : ∀ t, t ∈ r2 → t ∈ E s ∨ TokP al f (ahd f (a.drop (i + 1))) t ∨ (emp f (a.drop (i + 1)) = true ∧ t ∈ E k)) (h0 : ∀ t, t ∈ E s → t ∈ r2) (h1 : ∀ t, TokP al f (ahd f (a.drop (i + 1))) t → t ∈ r2) (h2 : emp f (a.drop (i + 1)) = true → ∀ t, t ∈ E k → t ∈ r2) :
 FoK al f T E0 (fun r => if r = s then r2 else E r) k j (i + 1) := by
 have hm : ∀ r t, t ∈ E r → t ∈ (if r = s then r2 else E r) := fun r t ht => by
  split
  ·next e => subst e; exact h0 t ht
  ·exact ht
 have hmem := List.mem_of_getElem? ha
 refine ⟨fun r => ?_, fun r t ht => ?_, fun r t ht => hm r t (h.mono r t ht), fun r hr c hc i => (h.done r hr c hc i).mono hm, fun c hc i => (h.part c hc i).mono hm, fun c hc i2 hi2 => ?_⟩
 ·split
  ·exact hu
  ·exact h.up r
 ·split at ht
  ·next e =>
   subst e
   rcases hs t ht with h3 | h3 | ⟨he, h3⟩
   ·exact h.sound _ t h3
   ·exact fol_beh hk hmem hi h3
   ·exact fol_last ⟨hk, a, hmem, i, hi, he⟩ (h.sound _ t h3)
  ·exact h.sound r t ht
 ·rw [ha] at hc
  obtain rfl : a = c := by simpa using hc
  by_cases e : i2 = i
  ·subst e
   intro s2 hs2
   rw [hi] at hs2
   have e2 : s2 = s := by
    have : (-1 - (s : Int)) = -1 - (s2 : Int) := by simpa using hs2
    omega
   subst e2
   dsimp only
   rw [if_pos rfl]
   exact ⟨h1, fun he t ht => h2 he t (h.mono _ t ht)⟩
  ·exact (h.here a ha i2 (by omega)).mono hm
theorem FoK.skip {al : List (List (List Int))} {f : Nat → Bool} {T : Nat} {E0 E : Nat → List Int} {k j i : Nat} {a : List Int} (h : FoK al f T E0 E k j i) (ha : (al.getD k [])[j]? = some a) {x : Int} (hi : a[i]? = some x) (hx : 0 ≤ x) : FoK al f T E0 E k j (i + 1) := by
 refine ⟨h.up, h.sound, h.mono, h.done, h.part, fun c hc i2 hi2 => ?_⟩
 by_cases e : i2 = i
 ·subst e
  rw [ha] at hc
  obtain rfl : a = c := by simpa using hc
  intro s hs
  rw [hi] at hs
  have : x = -1 - (s : Int) := by simpa using hs
  omega
 ·exact h.here c hc i2 (by omega)
theorem FoK.alt {al : List (List (List Int))} {f : Nat → Bool} {T : Nat} {E0 E : Nat → List Int} {k j i : Nat} {a : List Int} (h : FoK al f T E0 E k j i) (ha : (al.getD k [])[j]? = some a) (hi : a.length ≤ i) : FoK al f T E0 E k (j + 1) 0 := by
 refine ⟨h.up, h.sound, h.mono, h.done, fun c hc i2 => ?_, fun c _ i2 h => absurd h (by omega)⟩
 rw [List.take_add_one, List.mem_append] at hc
 rcases hc with hc | hc
 ·exact h.part c hc i2
 ·rw [ha] at hc
  obtain rfl : c = a := by simpa using hc
  by_cases e : i2 < i
  ·exact h.here c ha i2 e
  ·intro s hs
   rw [List.getElem?_eq_none (by omega)] at hs
   cases hs
theorem FoK.row {al : List (List (List Int))} {f : Nat → Bool} {T : Nat} {E0 E : Nat → List Int} {k j : Nat} (h : FoK al f T E0 E k j 0) (hj : (al.getD k []).length ≤ j) : FoK al f T E0 E (k + 1) 0 0 :=
 ⟨h.up, h.sound, h.mono, fun r hr a ha i => by
  by_cases e : r = k
  ·subst e
   exact h.part a (by rwa [List.take_of_length_le hj]) i
  ·exact h.done r (by omega) a ha i, fun a ha => by simp at ha, fun c _ i2 h => absurd h (by omega)⟩
/-- What is closed has all. -/
theorem fo_all {al : List (List (List Int))} {f : Nat → Bool} {T : Nat} {E : Nat → List Int} (h0 : (T : Int) ∈ E 0) (hc : ∀ r, ∀ a ∈ al.getD r [], ∀ i, FoD al f E E r a i) {r : Nat} {t : Int} (h : FolP al f T r t) : t ∈ E r :=
 fol_all (F := fun r t => t ∈ E r) h0 (fun s r a i _ ha hi t ht => (hc r a ha i s hi).1 t ht) (fun s r hl t ht => by
  obtain ⟨_, a, ha, i, hi, he⟩ := hl
  exact (hc r a ha i s hi).2 he t ht) h
theorem FoD.back {al : List (List (List Int))} {f : Nat → Bool} {E0 E : Nat → List Int} {r : Nat} {a : List Int} {i : Nat} (h : FoD al f E0 E r a i) (hm : ∀ r t, t ∈ E r → t ∈ E0 r) : FoD al f E0 E0 r a i := h.mono hm
/-- A rule that is not there begins nothing. -/
theorem tok_none {al : List (List (List Int))} {f : Nat → Bool} {r : Nat} {t : Int} (hr : al.length ≤ r) (h : TokP al f [-1 - (r : Int)] t) : False := by
 have key := first_all (F := fun r t => r < al.length) (fun r a ha y hy => ⟨fun _ => ?_, fun _ t ht => ?_⟩) (by omega) h
 ·rw [ruL_of] at key
  omega
 ·refine Classical.byContradiction fun hn => ?_
  rw [List.getD_eq_getElem?_getD, List.getElem?_eq_none (by omega)] at ha
  cases ha
 ·refine Classical.byContradiction fun hn => ?_
  rw [List.getD_eq_getElem?_getD, List.getElem?_eq_none (by omega)] at ha
  cases ha
/-- What follows is a token or the end. -/
theorem fol_near {d : CfD} (hf : FitC d) {f : Nat → Bool} {r : Nat} {t : Int} (h : FolP (d.alts.map IrD.p) f d.toks.length r t) : 0 ≤ t ∧ t ≤ 100 := by
 refine ⟨h.1, ?_⟩
 refine fol_all (F := fun _ t => t ≤ 100) (by have := hf.t; omega) (fun s r a i hr ha hi t ht => ?_) (fun s r hl t ht => ht) h
 rw [List.length_map] at hr
 have e : (d.alts.map IrD.p).getD r [] = (d.alts[r]).ds.map (fun x => x.l) := by
  rw [List.getD_eq_getElem?_getD, List.getElem?_map, List.getElem?_eq_getElem hr]
  rfl
 rw [e, List.mem_map] at ha
 obtain ⟨x, hx, rfl⟩ := ha
 exact (tok_near hf (l := ahd f (x.l.drop (i + 1))) (fun y hy => (hf.l _ (List.getElem_mem hr) x hx).2 y (List.mem_of_mem_drop (ahd_sub hy))) ht).2
end Go.Proofs.Ythogiakfbgehnaa
