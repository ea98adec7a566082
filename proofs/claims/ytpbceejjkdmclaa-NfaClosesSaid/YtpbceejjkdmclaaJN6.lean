/- Texts of layer 2 joined: Gk. -/
import Derived.Test.YtpbceejjkdmclaaJN5
set_option linter.unusedVariables false
set_option linter.unusedSimpArgs false
/- Layer 3: Build, the plain one; what is refused. -/
namespace Go.Proofs.Ytpbceejjkdmclaa
open Go.RowKit Go.Shelf

attribute [local go_sem] Oper.semAt_some

/-- The error of the first that has one. -/
def errF : Fo → Int
  | .nil => 0
  | .cons h k r => if checkE (Fo.pre 1 (.cons h k .nil)) = 0 then errF r else checkE (Fo.pre 1 (.cons h k .nil))
/-- The ends, one after the other, and what was made. -/
def bL : Fo → Bs → List Nat × Bs
  | .nil, s => ([], s)
  | .cons h k r, s => ((bE h k 0 s).1 :: (bL r (bE h k 0 s).2).1, (bL r (bE h k 0 s).2).2)
def nf0 : Nf := ⟨0, 0, [], []⟩
/-- Build's answer. -/
def buildP (f : Fo) : Nf × Int :=
  if errF f = 0 then (if 1 + stF f ≤ 2000 then (⟨((bL f (1, [])).2.1 : Nat), 0, (bL f (1, [])).1.map (fun v : Nat => (v : Int)), (bL f (1, [])).2.2⟩, 0) else (nf0, 40)) else (nf0, errF f)
/-- An automaton as a value. -/
abbrev nfV (x : Nf) (p : NfL) : Value := .agg #[.int .i64 x.n, .int .i64 x.s, .slice p.ea x.ends.length p.ec, .slice p.ga x.es.length p.gc]
def BuQ (w : World) (r : Nf × Int) : Ending → World → Prop := fun e w' => (∃ p, e = .returned (.tuple #[nfV r.1 p, .int .i64 r.2]) ∧ NfAt w' r.1 p) ∧ Below w.heap.size w w'
theorem Ints.nil (w : World) : Ints w none 0 [] := ⟨by simp, by omega, fun _ => rfl, fun i h => by simp at h, fun b off e => by cases e⟩
theorem Egs.nil (w : World) : Egs w none 0 [] := ⟨by simp, by omega, fun _ => rfl, fun i h => by simp at h, fun b off e => by cases e⟩
theorem NfAt.zero (w : World) : NfAt w nf0 ⟨none, 0, none, 0⟩ := ⟨Ints.nil w, Egs.nil w⟩
theorem okF_err : ∀ (f : Fo), errF f = 0 → okF f := by
  intro f
  induction f with
  | nil => intro _; trivial
  | cons h k r _ ihr =>
    intro he
    unfold errF at he
    split at he
    · rename_i hc
      refine ⟨?_, ?_, ihr he⟩
      · have := hc
        unfold checkE at this
        split at this
        · rename_i ha
          simp only [Fo.pre, List.all_cons, Bool.and_eq_true] at ha
          exact ha.1
        · omega
      · have := hc
        unfold checkE at this
        split at this
        · rename_i ha
          simp only [Fo.pre, List.append_nil, List.all_cons, Bool.and_eq_true] at ha
          exact okF_of_pre k 2 ha.2
        · omega
    · rename_i hc; exact absurd he hc

theorem put4_grow (w : World) (B : Nat) (a' b' c' d' : Value) : w.grownBy ((((w.setCell ⟨B, 0, none⟩ a').setCell ⟨B, 1, none⟩ b').setCell ⟨B, 2, none⟩ c').setCell ⟨B, 3, none⟩ d') (some B) :=
  grownBy_trans (grownBy_trans (grownBy_trans (grownBy_set w B 0 a') (grownBy_set _ B 1 b') (fun i e => .inl e)) (grownBy_set _ B 2 c') (fun i e => .inl e)) (grownBy_set _ B 3 d') (fun i e => .inl e)
theorem OwnI.ints {w : World} {base n cap : Nat} {a : Option Addr} {l : List Nat} (h : OwnI w base a n cap l) : Ints w a cap (l.map (fun v : Nat => (v : Int))) := by
  have hn := h.len
  refine ⟨?_, ?_, ?_, fun i hi => ?_, fun b off e i hi => ?_⟩
  · rw [List.length_map]; rcases h.2 with ⟨e, e0⟩ | ⟨g, cap', cur, e, hb, hk, hnc, hcm, _⟩
    · injection e with e1 e2 e3; omega
    · injection e with e1 e2 e3; omega
  · rcases h.2 with ⟨e, e0⟩ | ⟨g, cap', cur, e, hb, hk, hnc, hcm, _⟩
    · injection e with e1 e2 e3; omega
    · injection e with e1 e2 e3; unfold maxLen at hcm; omega
  · intro ea; rcases h.2 with ⟨e, e0⟩ | ⟨g, cap', cur, e, _⟩
    · injection e with e1 e2 e3
    · injection e with e1 e2 e3; rw [ea] at e1; cases e1
  · rw [List.length_map] at hi
    obtain ⟨g, e, _⟩ := h.nth hi
    exact ⟨g, 0, e⟩
  · rw [List.length_map] at hi
    obtain ⟨g, e2, hc, _⟩ := h.nth hi
    rw [e] at e2
    cases e2
    rw [Nat.zero_add, hc, List.getElem_map]
theorem put4 {w : World} {B : Nat} {T : TypeId} {a b c d a' b' c' d' : Value} (h : Blk w B T [a, b, c, d]) :
    Blk ((((w.setCell ⟨B, 0, none⟩ a').setCell ⟨B, 1, none⟩ b').setCell ⟨B, 2, none⟩ c').setCell ⟨B, 3, none⟩ d') B T [a', b', c', d'] := by
  have := (((h.set 0 a').set 1 b').set 2 c').set 3 d'
  simpa using this
theorem put4_below {w w' : World} {B n : Nat} {a' b' c' d' : Value} (h : Below n w w') (hn : n ≤ B) :
    Below n w ((((w'.setCell ⟨B, 0, none⟩ a').setCell ⟨B, 1, none⟩ b').setCell ⟨B, 2, none⟩ c').setCell ⟨B, 3, none⟩ d') :=
  (((h.setCell (p := ⟨B, 0, none⟩) hn _).setCell (p := ⟨B, 1, none⟩) hn _).setCell (p := ⟨B, 2, none⟩) hn _).setCell (p := ⟨B, 3, none⟩) hn _
set_option maxRecDepth 100000 in
set_option maxHeartbeats 1000000 in
theorem build_any (a : Option Addr) (L cap : Nat) (f : Fo) (w : World) (hL : f.len = L) (hI : Items w a cap f) (hN : f.size ≤ 1000000) (hst : stF f ≤ 100000000) :
    Calls Try.prog 13 #[.slice a L cap] w (BuQ w (buildP f)) := by
  have hlm : L ≤ cap ∧ cap ≤ 9223372036854775807 := ⟨hL ▸ hI.le, hI.max⟩
  have HL := Lib.hid hL
  have hA0 := Blk.new w 25 #[.int .i64 0, .int .i64 0, .slice none 0 0, .slice none 0 0]
  have hb0 : Below w.heap.size w (w.alloc (.cells #[.int .i64 0, .int .i64 0, .slice none 0 0, .slice none 0 0] 25)) := (Below.refl _ w).alloc (Nat.le_refl _) _
  obtain ⟨W0, hW0⟩ : ∃ W, Hid (w.alloc (.cells #[.int .i64 0, .int .i64 0, .slice none 0 0, .slice none 0 0] 25) = W) := ⟨_, Lib.hid rfl⟩
  rw [hW0.out] at hA0 hb0
  obtain ⟨R, hR⟩ : ∃ R, Hid (buildP f = R) := ⟨_, Lib.hid rfl⟩
  rw [hR.out]
  obtain ⟨E, hE⟩ : ∃ E, Hid (errF f = E) := ⟨_, Lib.hid rfl⟩
  obtain ⟨N, hNN⟩ : ∃ N, Hid (1 + stF f = N) := ⟨_, Lib.hid rfl⟩
  have hNb : N ≤ 100000001 := by rw [← hNN.out]; omega
  clear hL
  go_enter Try.func13, Try.ntmps13
  go_wp2_with (fail)
  rw [hW0.out]
  go_loopw [4, 7, 13] (fun sv _ iv wr => ∃ (k t : Nat), k ≤ L ∧ iv = .int .i64 (k : Int) ∧ sv = .int .i64 (t : Int) ∧ t + stF (f.drop k) = N ∧ errF (f.drop k) = E ∧ Blk wr w.heap.size 25 [.int .i64 0, .int .i64 0, .slice none 0 0, .slice none 0 0] ∧ Below w.heap.size w wr) (fun _ _ iv _ => L - (intOf iv).toNat)
  case atStart => exact ⟨0, 1, Nat.zero_le _, rfl, rfl, hNN.out, hE.out, hA0, hb0⟩
  case round =>
    obtain ⟨k, t, hk, rfl, rfl, hc, he, hA1, hb1⟩ := hrel
    have Hc := Lib.hid hc
    have He := Lib.hid he
    clear hc he hA0 hb0
    have x0 := hA1.cell 0
    have x1 := hA1.cell 1
    have x2 := hA1.cell 2
    have x3 := hA1.cell 3
    have xl := hA1.lt
    have xf := hA1.frozen
    simp only [List.getElem?_cons_zero, List.getElem?_cons_succ] at x0 x1 x2 x3
    have htN : t ≤ N := by have := Hc.out; omega
    by_cases hlt : k < L
    · have hkI : (k : Int) < (L : Int) := by omega
      have hkI0 : (0 : Int) ≤ (k : Int) := by omega
      obtain ⟨b, off, hd, ks, ya, yc, xa, xcap, rfl, hat⟩ := (hI.grown hb1).at (k := k) (by rw [HL.out]; exact hlt)
      have hsz := hat.size
      obtain ⟨y0, y1, y2, hsp, hIk, hcut⟩ := hat
      have hblt : b < wr.heap.size := World.block_lt_of_cell? wr _ y0
      have hmx : ks.len ≤ xcap ∧ xcap ≤ 9223372036854775807 := ⟨hIk.le, hIk.max⟩
      have hmx2 : hd.set.length ≤ yc ∧ yc ≤ 9223372036854775807 := ⟨hsp.le, hsp.max⟩
      have hst2 : stE hd ks + stF (f.drop (k + 1)) + t = N := by have := Hc.out; rw [hcut] at this; have e : stF (.cons hd ks (f.drop (k + 1))) = stE hd ks + stF (f.drop (k + 1)) := rfl; rw [e] at this; omega
      have He2 : Hid ((if checkE (Fo.pre 1 (.cons hd ks .nil)) = 0 then errF (f.drop (k + 1)) else checkE (Fo.pre 1 (.cons hd ks .nil))) = E) := Lib.hid (by have := He.out; rw [hcut] at this; exact this)
      have hnx := (Below.refl wr.heap.size wr).alloc (Nat.le_refl _) (.cells #[.int .i64 hd.k, .slice ya hd.set.length yc, .slice xa ks.len xcap] 35)
      have Hcl := Lib.hid (rcheck_any hd ks ya yc xa xcap _ (hsp.grown hnx) (hIk.grown hnx) (by omega))
      have hbx := hb1.trans (hnx.mono hb1.size)
      have hAx := hA1.alloc (.cells #[.int .i64 hd.k, .slice ya hd.set.length yc, .slice xa ks.len xcap] 35)
      have hEx := Blk.new wr 35 #[.int .i64 hd.k, .slice ya hd.set.length yc, .slice xa ks.len xcap]
      have Hs2 := Lib.hid (fun W (h : Below w.heap.size w W) (hb : Below wr.heap.size wr W) => states_all (.cons hd ks .nil) |>.1 ya yc xa xcap W (hsp.grown hb) (hIk.grown hb) (by omega))
      clear hsp hIk hcut Hc He
      generalize stE hd ks = G at hst2 Hs2
      generalize checkE (Fo.pre 1 (.cons hd ks .nil)) = C at Hcl He2
      dsimp only [itemV] at Hcl Hs2
      have hGI : (t : Int) + (G : Int) ≤ 1000000000000 := by omega
      have hGI0 : (0 : Int) ≤ (t : Int) + (G : Int) := by omega
      go_wp2_with (fail)
      refine Hcl.out.mono ?_
      rintro e w4 ⟨rfl, hb4⟩
      have hA4 := hAx.below hb4 hAx.lt
      have hE4 := hEx.below hb4 hEx.lt
      have hb04 := hbx.trans (hb4.mono hbx.size)
      have hb14 : Below wr.heap.size wr w4 := hnx.trans (hb4.mono hnx.size)
      clear x0 x1 x2 x3 xl xf hb4 hA1 hAx hEx
      have x0 := hA4.cell 0
      have x1 := hA4.cell 1
      have x2 := hA4.cell 2
      have x3 := hA4.cell 3
      have xl := hA4.lt
      have xf := hA4.frozen
      have z0 := hE4.cell 0
      have z1 := hE4.cell 1
      have z2 := hE4.cell 2
      have zl := hE4.lt
      simp only [List.getElem?_cons_zero, List.getElem?_cons_succ] at x0 x1 x2 x3 z0 z1 z2
      by_cases hC : C = 0
      · subst hC
        have Hcl2 := Lib.hid (Hs2.out w4 hb04 hb14)
        have He3 : Hid (errF (f.drop (k + 1)) = E) := Lib.hid (by have := He2.out; rw [if_pos rfl] at this; exact this)
        go_wp2_with (fail)
        refine Hcl2.out.mono ?_
        rintro e w5 ⟨rfl, hb5⟩
        have hA5 := hA4.below hb5 hA4.lt
        have hb05 := hb04.trans (hb5.mono hb04.size)
        clear x0 x1 x2 x3 xl xf z0 z1 z2 zl
        go_wp2_with (fail)
        exact ⟨⟨k + 1, t + G, by omega, by simp, by simp, by omega, He3.out, hA5, hb05⟩, by simp [intOf]; omega⟩
      · have hRR : Hid (R = (nf0, C)) := Lib.hid (by
          have he : E = C := by have := He2.out; rw [if_neg hC] at this; exact this.symm
          have hE0 : ¬ errF f = 0 := by rw [hE.out, he]; exact hC
          rw [← hR.out, buildP, if_neg hE0, hE.out, he])
        have hE4 := hA4
        have hB5 := put4 (a' := .int .i64 0) (b' := .int .i64 0) (c' := .slice none 0 0) (d' := .slice none 0 0) hA4
        have hb5 := put4_below (a' := .int .i64 0) (b' := .int .i64 0) (c' := .slice none 0 0) (d' := .slice none 0 0) hb04 (Nat.le_refl _)
        have HB5 := Lib.hid hB5
        have Hb5 := Lib.hid hb5
        clear hB5 hb5
        go_wp2_with (fail)
        generalize (((w4.setCell ⟨w.heap.size, 0, none⟩ (.int .i64 0)).setCell ⟨w.heap.size, 1, none⟩ (.int .i64 0)).setCell ⟨w.heap.size, 2, none⟩ (.slice none 0 0)).setCell ⟨w.heap.size, 3, none⟩ (.slice none 0 0) = W5 at HB5 Hb5 ⊢
        have y0 := HB5.out.cell 0
        have y1 := HB5.out.cell 1
        have y2 := HB5.out.cell 2
        have y3 := HB5.out.cell 3
        simp only [List.getElem?_cons_zero, List.getElem?_cons_succ] at y0 y1 y2 y3
        exact bodyPost_ret (v := .tuple #[nfV nf0 ⟨none, 0, none, 0⟩, .int .i64 C]) (by simp [results, Try.results13, go_sem, nf0, y0, y1, y2, y3]) rfl ⟨⟨⟨none, 0, none, 0⟩, by rw [hRR.out], by rw [hRR.out]; exact NfAt.zero _⟩, Hb5.out⟩
    · obtain rfl : k = L := by omega
      have hkI : ¬ (k : Int) < (k : Int) := by omega
      have hd0 : f.drop k = .nil := Fo.drop_all (by rw [HL.out]; exact Nat.le_refl _)
      have hE0 : E = 0 := by have := He.out; rw [hd0] at this; exact this.symm
      have htN2 : t = N := by have := Hc.out; rw [hd0] at this; simpa [stF] using this
      subst htN2
      clear hd0 He Hc
      by_cases h20 : 2000 < t
      · have h20I : (2000 : Int) < (t : Int) := by omega
        have hRR : Hid (R = (nf0, 40)) := Lib.hid (by
          have hE1 : errF f = 0 := by rw [hE.out]; exact hE0
          rw [← hR.out, buildP, if_pos hE1, if_neg (by rw [hNN.out]; omega)])
        have hB5 := put4 (a' := .int .i64 0) (b' := .int .i64 0) (c' := .slice none 0 0) (d' := .slice none 0 0) hA1
        have hb5 := put4_below (a' := .int .i64 0) (b' := .int .i64 0) (c' := .slice none 0 0) (d' := .slice none 0 0) hb1 (Nat.le_refl _)
        have HB5 := Lib.hid hB5
        have Hb5 := Lib.hid hb5
        clear hB5 hb5
        go_wp2_with (fail)
        generalize (((wr.setCell ⟨w.heap.size, 0, none⟩ (.int .i64 0)).setCell ⟨w.heap.size, 1, none⟩ (.int .i64 0)).setCell ⟨w.heap.size, 2, none⟩ (.slice none 0 0)).setCell ⟨w.heap.size, 3, none⟩ (.slice none 0 0) = W5 at HB5 Hb5 ⊢
        have y0 := HB5.out.cell 0
        have y1 := HB5.out.cell 1
        have y2 := HB5.out.cell 2
        have y3 := HB5.out.cell 3
        simp only [List.getElem?_cons_zero, List.getElem?_cons_succ] at y0 y1 y2 y3
        exact bodyPost_ret (v := .tuple #[nfV nf0 ⟨none, 0, none, 0⟩, .int .i64 40]) (by simp [results, Try.results13, go_sem, nf0, y0, y1, y2, y3]) rfl ⟨⟨⟨none, 0, none, 0⟩, by rw [hRR.out], by rw [hRR.out]; exact NfAt.zero _⟩, Hb5.out⟩
      have h20I : ¬ (2000 : Int) < (t : Int) := by omega
      obtain ⟨Q, hQ⟩ : ∃ Q, Hid (bL f (1, []) = Q) := ⟨_, Lib.hid rfl⟩
      have hRR : Hid (R = (⟨(Q.2.1 : Nat), 0, Q.1.map (fun v : Nat => (v : Int)), Q.2.2⟩, 0)) := Lib.hid (by
        have hE1 : errF f = 0 := by rw [hE.out]; exact hE0
        rw [← hR.out, buildP, if_pos hE1, if_pos (by rw [hNN.out]; omega), hQ.out])
      have hok : okF f := okF_err f (by rw [hE.out]; exact hE0)
      have HP := Lib.hid (allB_any w (wr.heap.size) f hok)
      have HM0 : Hid (MkAt 62 (wr.alloc (.cells #[.int .i64 1, .int .i64 0, .slice none 0 0, .slice none 0 0] 62)) w.heap.size wr.heap.size ((1 : Nat) : Int) 0 (.slice none 0 0) none 0 []) := Lib.hid ⟨Blk.new wr 62 #[.int .i64 1, .int .i64 0, .slice none 0 0, .slice none 0 0], OwnG.nil _ _, hb1.size, by decide, by decide⟩
      have hnx := (Below.refl wr.heap.size wr).alloc (Nat.le_refl _) (.cells #[.int .i64 1, .int .i64 0, .slice none 0 0, .slice none 0 0] 62)
      have HB1 := Lib.hid (hb1.trans (hnx.mono hb1.size))
      have HA1 := Lib.hid (hA1.alloc (.cells #[.int .i64 1, .int .i64 0, .slice none 0 0, .slice none 0 0] 62))
      have hwz := Lib.hid hb1.size
      have HI := Lib.hid hI
      have HLm : Hid (k ≤ 1000000) := Lib.hid (by have := f.len_le; rw [HL.out] at this; omega)
      clear hnx hb1 hA1 hok x0 x1 x2 x3 xl xf hI
      go_wp2_with (fail)
      obtain ⟨V, hV⟩ : ∃ V, Hid (wr.alloc (.cells #[.int .i64 1, .int .i64 0, .slice none 0 0, .slice none 0 0] 62) = V) := ⟨_, Lib.hid rfl⟩
      rw [hV.out] at HM0 HB1 HA1 ⊢
      obtain ⟨BM, hBM⟩ : ∃ BM, Hid (wr.heap.size = BM) := ⟨_, Lib.hid rfl⟩
      rw [hBM.out] at HM0 HP ⊢
      have HBw := Lib.hid HB1.out.size
      go_loopw [35] (fun iv wr2 => ∃ (k2 : Nat) (l : List Nat) (t2 : Bs) (ga' : Option Addr) (gc' : Nat) (ea : Option Addr) (ec : Nat), k2 ≤ k ∧ iv = .int .i64 (k2 : Int) ∧ l.length = k2 ∧ OwnI wr2 V.heap.size ea l.length ec l ∧ (l ++ (bL (f.drop k2) t2).1, (bL (f.drop k2) t2).2) = Q ∧ (t2.1 + stF (f.drop k2) ≤ 2000 ∧ t2.2.length + 2 * stF (f.drop k2) ≤ 4000) ∧ MkAt 62 wr2 w.heap.size BM (t2.1 : Int) 0 (.slice ea l.length ec) ga' gc' t2.2 ∧ Spares w.heap.size (mkT 62) V wr2) (fun iv _ => k - (intOf iv).toNat)
      case atStart => exact ⟨0, [], (1, []), none, 0, none, 0, Nat.zero_le _, rfl, rfl, World.ownsRow_nil _ _ _ _, hQ.out, ⟨by have := hNN.out; simp only [Fo.drop]; omega, by have := hNN.out; simp only [Fo.drop]; simp; omega⟩, HM0.out, Spares.refl _ _ _⟩
      case round =>
        obtain ⟨k2, l, t2, ga1, gc1, ea, ec, hk2, rfl, hlk, ho1, hc2, ⟨hn1, hl1⟩, hM1, hS1⟩ := hrel
        have hb1 := HB1.out.trans hS1.below
        have Hc2 := Lib.hid hc2
        have HM1 := Lib.hid hM1
        have HS1 := Lib.hid hS1
        have HO1 := Lib.hid ho1
        have Hlk := Lib.hid hlk
        have hsz := Lib.hid (Nat.le_trans HBw.out hS1.size)
        have hk6 := HLm.out
        clear hc2 hM1 hS1 ho1 hlk
        by_cases hlt : k2 < k
        · have hkI2 : (k2 : Int) < (k : Int) := by omega
          have hkI0 : (0 : Int) ≤ (k2 : Int) := by omega
          obtain ⟨b, off, hd, ks, ya, yc, xa, xcap, rfl, hat⟩ := HI.out.at (k := k2) (by rw [HL.out]; exact hlt)
          obtain ⟨e0, e1, e2, hsp, hIk, hcut⟩ := hat
          have ebl : b < w.heap.size := World.block_lt_of_cell? w _ e0
          have y0 := (hb1.cell (p := ⟨b, off + k2 * 3, none⟩) ebl).trans e0
          have y1 := (hb1.cell (p := ⟨b, off + k2 * 3 + 1, none⟩) ebl).trans e1
          have y2 := (hb1.cell (p := ⟨b, off + k2 * 3 + 2, none⟩) ebl).trans e2
          have hblt : b < wr.heap.size := World.block_lt_of_cell? wr _ y0
          have hmx : ks.len ≤ xcap ∧ xcap ≤ 9223372036854775807 := ⟨hIk.le, hIk.max⟩
          have hmx2 : hd.set.length ≤ yc ∧ yc ≤ 9223372036854775807 := ⟨hsp.le, hsp.max⟩
          have hPk := AllB.drop k2 f HP.out
          rw [hcut] at hPk hn1 hl1
          obtain ⟨⟨hPe, hge⟩, _⟩ := hPk
          rw [stF] at hn1 hl1
          have q3 : stE hd ks = stX hd ks.len (stF ks) := rfl
          have hnx := (Below.refl wr.heap.size wr).alloc (Nat.le_refl _) (.cells #[.int .i64 hd.k, .slice ya hd.set.length yc, .slice xa ks.len xcap] 35)
          have hSx : Spares w.heap.size (mkT 62) wr (wr.alloc (.cells #[.int .i64 hd.k, .slice ya hd.set.length yc, .slice xa ks.len xcap] 35)) := Below.spares hnx HM1.out.base_le
          have hSd : Spares w.heap.size (mkT 62) wr (wr.alloc (.cells #[.int .i64 hd.k, .slice ya hd.set.length yc, .slice xa ks.len xcap] 35)).drew := hSx.trans (Below.spares (Below.refl _ _).drew (Nat.le_trans HM1.out.base_le hSx.size))
          have HSd := Lib.hid (HS1.out.trans hSd)
          have HBd := Lib.hid (hb1.trans hSd.below)
          have HMd := Lib.hid (HM1.out.alloc (.cells #[.int .i64 hd.k, .slice ya hd.set.length yc, .slice xa ks.len xcap] 35)).drew
          have HOd : Hid (OwnI (wr.alloc (.cells #[.int .i64 hd.k, .slice ya hd.set.length yc, .slice xa ks.len xcap] 35)).drew V.heap.size ea l.length ec l) := Lib.hid (hSd.own HO1.out rfl)
          have HEd : Hid (Blk (wr.alloc (.cells #[.int .i64 hd.k, .slice ya hd.set.length yc, .slice xa ks.len xcap] 35)).drew wr.heap.size 35 [.int .i64 hd.k, .slice ya hd.set.length yc, .slice xa ks.len xcap]) := Lib.hid (Blk.new wr 35 #[.int .i64 hd.k, .slice ya hd.set.length yc, .slice xa ks.len xcap])
          have HSt : Hid (∀ (W : World) {n : Int} {ev : Value} {ga : Option Addr} {gc : Nat} {es : List Eg}, Blk W wr.heap.size 35 [.int .i64 hd.k, .slice ya hd.set.length yc, .slice xa ks.len xcap] → MkAt 62 W w.heap.size BM n 0 ev ga gc es → (W.cell? ⟨wr.heap.size, 0, none⟩ = some (.int .i64 hd.k) ∧ W.cell? ⟨wr.heap.size, 1, none⟩ = some (.slice ya hd.set.length yc) ∧ W.cell? ⟨wr.heap.size, 2, none⟩ = some (.slice xa ks.len xcap) ∧ W.cell? ⟨BM, 1, none⟩ = some (.int .i64 0))) := Lib.hid (fun W {n ev ga gc es} hB hM => ⟨by simpa using hB.cell 0, by simpa using hB.cell 1, by simpa using hB.cell 2, by simpa using hM.box.cell 1⟩)
          have HR2 : Hid (((l ++ [(bE hd ks 0 t2).1]) ++ (bL (f.drop (k2 + 1)) (bE hd ks 0 t2).2).1, (bL (f.drop (k2 + 1)) (bE hd ks 0 t2).2).2) = Q) := Lib.hid (by rw [← Hc2.out, hcut]; simp [bL])
          obtain ⟨he1, he2, _⟩ := hge 0 t2
          have HP2 : Hid (∀ (ga1 : Option Addr) (gc1 : Nat) (w1 : World), Below w.heap.size w w1 → MkAt 62 w1 w.heap.size BM (t2.1 : Int) 0 (.slice ea l.length ec) ga1 gc1 t2.2 → Calls Try.prog 38 #[.pointer (some ⟨BM, 0, none⟩), itemV hd ya yc xa ks.len xcap, .int .i64 0] w1 (BldQ w BM w1 (.slice ea l.length ec) (bE hd ks 0 t2))) := Lib.hid (fun ga1 gc1 w1 hb1 hM1 => hPe ya yc xa xcap 0 t2 (.slice ea l.length ec) ga1 gc1 w1 hsp hIk hb1 hM1 (by omega) (by omega))
          clear hnx hSx hSd hPe hge hb1 hsp hIk e0 e1 e2 hcut Hc2
          generalize bE hd ks 0 t2 = H at he1 he2 HP2 HR2
          obtain ⟨H1, H2⟩ := H
          dsimp only [itemV] at *
          go_wp2_with (fail)
          refine wp_region_held_drew (S := fun w' => (w'.cell? ⟨wr.heap.size, 0, none⟩ = some (.int .i64 hd.k) ∧ w'.cell? ⟨wr.heap.size, 1, none⟩ = some (.slice ya hd.set.length yc) ∧ w'.cell? ⟨wr.heap.size, 2, none⟩ = some (.slice xa ks.len xcap) ∧ w'.cell? ⟨BM, 1, none⟩ = some (.int .i64 0))) (by kernel_rfl) ?_ (fun hHeld => ?_)
          · exact HSt.out _ HEd.out HMd.out
          refine wpAnyH_take (i := 0) (v := ?_) (gatL gatZ) (by kernel_rfl) (by kernel_rfl) (by kernel_rfl) (fun _ _ _ h => h) (Or.inl ⟨by rfl, ?_⟩) (by assumption) ?_
          rotate_left
          · intro w hSw
            try dsimp only at hSw
            go_simp
            all_goals with_reducible rfl
          try simp only [Act.put, List.setIfInBounds_toArray, List.set_cons_zero, List.set_cons_succ]
          refine wpAnyH_take (i := 1) (v := ?_) (gatL (gatS gatZ)) (by kernel_rfl) (by kernel_rfl) (by kernel_rfl) (fun _ _ _ h => h) (Or.inl ⟨by rfl, ?_⟩) (by assumption) ?_
          rotate_left
          · intro w hSw
            try dsimp only at hSw
            go_simp
            all_goals with_reducible rfl
          try simp only [Act.put, List.setIfInBounds_toArray, List.set_cons_zero, List.set_cons_succ]
          refine wpAnyH_take (i := 3) (v := ?_) (gatL (gatS (gatS (gatS gatZ)))) (by kernel_rfl) (by kernel_rfl) (by kernel_rfl) (fun _ _ _ h => h) (Or.inl ⟨by rfl, ?_⟩) (by assumption) ?_
          rotate_left
          · intro w hSw
            try dsimp only at hSw
            go_simp
            all_goals with_reducible rfl
          try simp only [Act.put, List.setIfInBounds_toArray, List.set_cons_zero, List.set_cons_succ]
          refine wpAnyH_take (i := 4) (v := ?_) (gatL (gatS (gatS (gatS (gatS gatZ))))) (by kernel_rfl) (by kernel_rfl) (by kernel_rfl) (fun _ _ _ h => h) (Or.inl ⟨by rfl, ?_⟩) (by assumption) ?_
          rotate_left
          · intro w hSw
            try dsimp only at hSw
            go_simp
            all_goals with_reducible rfl
          try simp only [Act.put, List.setIfInBounds_toArray, List.set_cons_zero, List.set_cons_succ]
          refine wpAnyH_take (i := 5) (v := ?_) (gatL (gatS (gatS (gatS (gatS (gatS gatZ)))))) (by kernel_rfl) (by kernel_rfl) (by kernel_rfl) (fun _ _ _ h => h) (Or.inl ⟨by rfl, ?_⟩) (by assumption) ?_
          rotate_left
          · intro w hSw
            try dsimp only at hSw
            go_simp
            all_goals with_reducible rfl
          try simp only [Act.put, List.setIfInBounds_toArray, List.set_cons_zero, List.set_cons_succ]
          refine wpAnyH_take (i := 6) (v := ?_) (gatL (gatS (gatS (gatS (gatS (gatS (gatS gatZ))))))) (by kernel_rfl) (by kernel_rfl) (by kernel_rfl) (fun _ _ _ h => h) (Or.inl ⟨by rfl, ?_⟩) (by assumption) ?_
          rotate_left
          · intro w hSw
            try dsimp only at hSw
            go_simp
            all_goals with_reducible rfl
          try simp only [Act.put, List.setIfInBounds_toArray, List.set_cons_zero, List.set_cons_succ]
          refine wpAnyH_ready (rs := [2, 7]) (by kernel_rfl) (by simp) ?_
          refine AllReadyH.cons (gatL (gatS (gatS gatZ))) (fun K hK => ?_) (AllReadyH.cons (gatL (gatS (gatS (gatS (gatS (gatS (gatS (gatS gatZ)))))))) (fun K hK => ?_) (AllReadyH.nil))
          ·
            have x2 := HMd.out.box.cell 2
            have xl2 := HMd.out.box.lt
            simp only [List.getElem?_cons_zero, List.getElem?_cons_succ] at x2
            go_simp
            clear x2 xl2
            refine hK.out _ _ ?_ (fun hHeld => ?_)
            · exact HSt.out _ HEd.out HMd.out
            clear hK K
            try simp only [Act.put, List.setIfInBounds_toArray, List.set_cons_zero, List.set_cons_succ]
            refine wpAnyH_ready (rs := [7]) (by kernel_rfl) (by simp) ?_
            refine AllReadyH.cons (gatL (gatS (gatS (gatS (gatS (gatS (gatS (gatS gatZ)))))))) (fun K hK => ?_) AllReadyH.nil
            go_simp
            go_at_call 38
            (with_reducible refine (HP2.out _ _ _ HBd.out HMd.out).mono ?_)
            rintro e w3 ⟨rfl, ga3, gc3, hM3, hS3⟩
            have HE3 := Lib.hid (hS3.blk HEd.out rfl)
            have hSw := HSd.out.trans hS3
            have ho3 : OwnI w3 V.heap.size ea l.length ec l := hS3.own HOd.out rfl
            obtain ⟨ea', ec', w5, hrun, ho5, hM5, hS5, hk5⟩ := hM3.pushI 22 H1 ho3 (by have := Hlk.out; omega) hSw HBw.out (by decide)
            have HE4 := Lib.hid (HE3.out.alloc (.cells #[.int .i64 (H1 : Int)] 3))
            have HE5 := Lib.hid (hk5 _ _ _ HE3.out (by decide))
            have HR5 := Lib.hid hrun
            have HO5 := Lib.hid ho5
            have HM3 := Lib.hid hM3
            have HM4 := Lib.hid (hM3.alloc (.cells #[.int .i64 (H1 : Int)] 3))
            have HM5 := Lib.hid hM5
            have HS5 := Lib.hid hS5
            clear hM3 hS3 hSw ho3 hrun ho5 hM5 hS5 hk5
            dsimp only
            refine hK.out _ _ ?_ (fun hHeld => ?_)
            · exact HSt.out _ HE3.out HM3.out
            clear hK K
            try simp only [Act.put, List.setIfInBounds_toArray, List.set_cons_zero, List.set_cons_succ]
            refine wpAnyH_ready (rs := [8]) (by kernel_rfl) (by simp) ?_
            refine AllReadyH.cons (gatL (gatS (gatS (gatS (gatS (gatS (gatS (gatS (gatS gatZ))))))))) (fun K hK => ?_) AllReadyH.nil
            go_simp
            refine hK.out _ _ ?_ (fun hHeld => ?_)
            · exact HSt.out _ HE4.out HM4.out
            clear hK K
            try simp only [Act.put, List.setIfInBounds_toArray, List.set_cons_zero, List.set_cons_succ]
            refine wpAnyH_ready (rs := [9]) (by kernel_rfl) (by simp) ?_
            refine AllReadyH.cons (gatL (gatS (gatS (gatS (gatS (gatS (gatS (gatS (gatS (gatS gatZ)))))))))) (fun K hK => ?_) AllReadyH.nil
            refine step_append_run rfl _ _ 22 22 rfl _ _ _ _ rfl rfl HR5.out ?_
            refine hK.out _ _ ?_ (fun hHeld => ?_)
            · exact HSt.out _ HE5.out HM5.out
            clear hK K
            try simp only [Act.put, List.setIfInBounds_toArray, List.set_cons_zero, List.set_cons_succ]
            refine wpAnyH_take (i := 10) (v := ?_) (gatL (gatS (gatS (gatS (gatS (gatS (gatS (gatS (gatS (gatS (gatS gatZ))))))))))) (by kernel_rfl) (by kernel_rfl) (by kernel_rfl) (fun _ _ _ h => h) (Or.inl ⟨by rfl, ?_⟩) (by assumption) ?_
            rotate_left
            · intro w hSw
              try dsimp only at hSw
              go_simp
              all_goals with_reducible rfl
            try simp only [Act.put, List.setIfInBounds_toArray, List.set_cons_zero, List.set_cons_succ]
            refine wpAnyH_take (i := 11) (v := ?_) (gatL (gatS (gatS (gatS (gatS (gatS (gatS (gatS (gatS (gatS (gatS (gatS gatZ)))))))))))) (by kernel_rfl) (by kernel_rfl) (by kernel_rfl) (fun _ _ _ h => h) (Or.inl ⟨by rfl, ?_⟩) (by assumption) ?_
            rotate_left
            · intro w hSw
              try dsimp only at hSw
              go_simp
              all_goals with_reducible rfl
            try simp only [Act.put, List.setIfInBounds_toArray, List.set_cons_zero, List.set_cons_succ]
            refine wpAnyH_ready (rs := [12]) (by kernel_rfl) (by simp) ?_
            refine AllReadyH.cons (gatL (gatS (gatS (gatS (gatS (gatS (gatS (gatS (gatS (gatS (gatS (gatS (gatS gatZ))))))))))))) (fun K hK => ?_) AllReadyH.nil
            have x5 := HM5.out.box.cell 2
            have f5 := HM5.out.box.frozen 2
            have l5 := HM5.out.box.lt
            simp only [List.getElem?_cons_zero, List.getElem?_cons_succ] at x5
            go_simp
            have HM6 := Lib.hid (HM5.out.set2 (.slice ea' (l.length + 1) ec'))
            have hS6 := HM5.out.spares_set 2 (.slice ea' (l.length + 1) ec')
            have HE6 := Lib.hid (hS6.blk HE5.out rfl)
            have HO6 : Hid (OwnI (w5.setCell ⟨BM, 2, none⟩ (.slice ea' (l.length + 1) ec')) V.heap.size ea' (l.length + 1) ec' (l ++ [H1])) := Lib.hid (hS6.own HO5.out rfl)
            have HS6 := Lib.hid (HS5.out.trans hS6)
            clear hS6 x5 f5 l5
            refine hK.out _ _ ?_ (fun hHeld => ?_)
            · exact HSt.out _ HE6.out HM6.out
            clear hK K
            try simp only [Act.put, List.setIfInBounds_toArray, List.set_cons_zero, List.set_cons_succ]
            refine wpAnyH_done (by kernel_rfl) ?_ _
            go_wp2_with (fail)
            exact ⟨⟨k2 + 1, l ++ [H1], H2, ga3, gc3, ea', ec', by omega, by simp, by rw [List.length_append, Hlk.out]; rfl, by rw [List.length_append]; exact HO6.out, HR2.out, ⟨by omega, by omega⟩, by rw [List.length_append]; exact HM6.out, HS6.out⟩, by simp [intOf]; omega⟩
          ·
            go_simp
            go_at_call 38
            (with_reducible refine (HP2.out _ _ _ HBd.out HMd.out).mono ?_)
            rintro e w3 ⟨rfl, ga3, gc3, hM3, hS3⟩
            have HE3 := Lib.hid (hS3.blk HEd.out rfl)
            have hSw := HSd.out.trans hS3
            have ho3 : OwnI w3 V.heap.size ea l.length ec l := hS3.own HOd.out rfl
            obtain ⟨ea', ec', w5, hrun, ho5, hM5, hS5, hk5⟩ := hM3.pushI 22 H1 ho3 (by have := Hlk.out; omega) hSw HBw.out (by decide)
            have HE4 := Lib.hid (HE3.out.alloc (.cells #[.int .i64 (H1 : Int)] 3))
            have HE5 := Lib.hid (hk5 _ _ _ HE3.out (by decide))
            have HR5 := Lib.hid hrun
            have HO5 := Lib.hid ho5
            have HM3 := Lib.hid hM3
            have HM4 := Lib.hid (hM3.alloc (.cells #[.int .i64 (H1 : Int)] 3))
            have HM5 := Lib.hid hM5
            have HS5 := Lib.hid hS5
            clear hM3 hS3 hSw ho3 hrun ho5 hM5 hS5 hk5
            dsimp only
            refine hK.out _ _ ?_ (fun hHeld => ?_)
            · exact HSt.out _ HE3.out HM3.out
            clear hK K
            try simp only [Act.put, List.setIfInBounds_toArray, List.set_cons_zero, List.set_cons_succ]
            refine wpAnyH_ready (rs := [2, 8]) (by kernel_rfl) (by simp) ?_
            refine AllReadyH.cons (gatL (gatS (gatS gatZ))) (fun K hK => ?_) (AllReadyH.cons (gatL (gatS (gatS (gatS (gatS (gatS (gatS (gatS (gatS gatZ))))))))) (fun K hK => ?_) (AllReadyH.nil))
            ·
              have x2 := HM3.out.box.cell 2
              have xl2 := HM3.out.box.lt
              simp only [List.getElem?_cons_zero, List.getElem?_cons_succ] at x2
              go_simp
              clear x2 xl2
              refine hK.out _ _ ?_ (fun hHeld => ?_)
              · exact HSt.out _ HE3.out HM3.out
              clear hK K
              try simp only [Act.put, List.setIfInBounds_toArray, List.set_cons_zero, List.set_cons_succ]
              refine wpAnyH_ready (rs := [8]) (by kernel_rfl) (by simp) ?_
              refine AllReadyH.cons (gatL (gatS (gatS (gatS (gatS (gatS (gatS (gatS (gatS gatZ))))))))) (fun K hK => ?_) AllReadyH.nil
              go_simp
              refine hK.out _ _ ?_ (fun hHeld => ?_)
              · exact HSt.out _ HE4.out HM4.out
              clear hK K
              try simp only [Act.put, List.setIfInBounds_toArray, List.set_cons_zero, List.set_cons_succ]
              refine wpAnyH_ready (rs := [9]) (by kernel_rfl) (by simp) ?_
              refine AllReadyH.cons (gatL (gatS (gatS (gatS (gatS (gatS (gatS (gatS (gatS (gatS gatZ)))))))))) (fun K hK => ?_) AllReadyH.nil
              refine step_append_run rfl _ _ 22 22 rfl _ _ _ _ rfl rfl HR5.out ?_
              refine hK.out _ _ ?_ (fun hHeld => ?_)
              · exact HSt.out _ HE5.out HM5.out
              clear hK K
              try simp only [Act.put, List.setIfInBounds_toArray, List.set_cons_zero, List.set_cons_succ]
              refine wpAnyH_take (i := 10) (v := ?_) (gatL (gatS (gatS (gatS (gatS (gatS (gatS (gatS (gatS (gatS (gatS gatZ))))))))))) (by kernel_rfl) (by kernel_rfl) (by kernel_rfl) (fun _ _ _ h => h) (Or.inl ⟨by rfl, ?_⟩) (by assumption) ?_
              rotate_left
              · intro w hSw
                try dsimp only at hSw
                go_simp
                all_goals with_reducible rfl
              try simp only [Act.put, List.setIfInBounds_toArray, List.set_cons_zero, List.set_cons_succ]
              refine wpAnyH_take (i := 11) (v := ?_) (gatL (gatS (gatS (gatS (gatS (gatS (gatS (gatS (gatS (gatS (gatS (gatS gatZ)))))))))))) (by kernel_rfl) (by kernel_rfl) (by kernel_rfl) (fun _ _ _ h => h) (Or.inl ⟨by rfl, ?_⟩) (by assumption) ?_
              rotate_left
              · intro w hSw
                try dsimp only at hSw
                go_simp
                all_goals with_reducible rfl
              try simp only [Act.put, List.setIfInBounds_toArray, List.set_cons_zero, List.set_cons_succ]
              refine wpAnyH_ready (rs := [12]) (by kernel_rfl) (by simp) ?_
              refine AllReadyH.cons (gatL (gatS (gatS (gatS (gatS (gatS (gatS (gatS (gatS (gatS (gatS (gatS (gatS gatZ))))))))))))) (fun K hK => ?_) AllReadyH.nil
              have x5 := HM5.out.box.cell 2
              have f5 := HM5.out.box.frozen 2
              have l5 := HM5.out.box.lt
              simp only [List.getElem?_cons_zero, List.getElem?_cons_succ] at x5
              go_simp
              have HM6 := Lib.hid (HM5.out.set2 (.slice ea' (l.length + 1) ec'))
              have hS6 := HM5.out.spares_set 2 (.slice ea' (l.length + 1) ec')
              have HE6 := Lib.hid (hS6.blk HE5.out rfl)
              have HO6 : Hid (OwnI (w5.setCell ⟨BM, 2, none⟩ (.slice ea' (l.length + 1) ec')) V.heap.size ea' (l.length + 1) ec' (l ++ [H1])) := Lib.hid (hS6.own HO5.out rfl)
              have HS6 := Lib.hid (HS5.out.trans hS6)
              clear hS6 x5 f5 l5
              refine hK.out _ _ ?_ (fun hHeld => ?_)
              · exact HSt.out _ HE6.out HM6.out
              clear hK K
              try simp only [Act.put, List.setIfInBounds_toArray, List.set_cons_zero, List.set_cons_succ]
              refine wpAnyH_done (by kernel_rfl) ?_ _
              go_wp2_with (fail)
              exact ⟨⟨k2 + 1, l ++ [H1], H2, ga3, gc3, ea', ec', by omega, by simp, by rw [List.length_append, Hlk.out]; rfl, by rw [List.length_append]; exact HO6.out, HR2.out, ⟨by omega, by omega⟩, by rw [List.length_append]; exact HM6.out, HS6.out⟩, by simp [intOf]; omega⟩
            ·
              go_simp
              refine hK.out _ _ ?_ (fun hHeld => ?_)
              · exact HSt.out _ HE4.out HM4.out
              clear hK K
              try simp only [Act.put, List.setIfInBounds_toArray, List.set_cons_zero, List.set_cons_succ]
              refine wpAnyH_ready (rs := [2]) (by kernel_rfl) (by simp) ?_
              refine AllReadyH.cons (gatL (gatS (gatS gatZ))) (fun K hK => ?_) AllReadyH.nil
              have x2 := HM4.out.box.cell 2
              have xl2 := HM4.out.box.lt
              simp only [List.getElem?_cons_zero, List.getElem?_cons_succ] at x2
              go_simp
              clear x2 xl2
              refine hK.out _ _ ?_ (fun hHeld => ?_)
              · exact HSt.out _ HE4.out HM4.out
              clear hK K
              try simp only [Act.put, List.setIfInBounds_toArray, List.set_cons_zero, List.set_cons_succ]
              refine wpAnyH_ready (rs := [9]) (by kernel_rfl) (by simp) ?_
              refine AllReadyH.cons (gatL (gatS (gatS (gatS (gatS (gatS (gatS (gatS (gatS (gatS gatZ)))))))))) (fun K hK => ?_) AllReadyH.nil
              refine step_append_run rfl _ _ 22 22 rfl _ _ _ _ rfl rfl HR5.out ?_
              refine hK.out _ _ ?_ (fun hHeld => ?_)
              · exact HSt.out _ HE5.out HM5.out
              clear hK K
              try simp only [Act.put, List.setIfInBounds_toArray, List.set_cons_zero, List.set_cons_succ]
              refine wpAnyH_take (i := 10) (v := ?_) (gatL (gatS (gatS (gatS (gatS (gatS (gatS (gatS (gatS (gatS (gatS gatZ))))))))))) (by kernel_rfl) (by kernel_rfl) (by kernel_rfl) (fun _ _ _ h => h) (Or.inl ⟨by rfl, ?_⟩) (by assumption) ?_
              rotate_left
              · intro w hSw
                try dsimp only at hSw
                go_simp
                all_goals with_reducible rfl
              try simp only [Act.put, List.setIfInBounds_toArray, List.set_cons_zero, List.set_cons_succ]
              refine wpAnyH_take (i := 11) (v := ?_) (gatL (gatS (gatS (gatS (gatS (gatS (gatS (gatS (gatS (gatS (gatS (gatS gatZ)))))))))))) (by kernel_rfl) (by kernel_rfl) (by kernel_rfl) (fun _ _ _ h => h) (Or.inl ⟨by rfl, ?_⟩) (by assumption) ?_
              rotate_left
              · intro w hSw
                try dsimp only at hSw
                go_simp
                all_goals with_reducible rfl
              try simp only [Act.put, List.setIfInBounds_toArray, List.set_cons_zero, List.set_cons_succ]
              refine wpAnyH_ready (rs := [12]) (by kernel_rfl) (by simp) ?_
              refine AllReadyH.cons (gatL (gatS (gatS (gatS (gatS (gatS (gatS (gatS (gatS (gatS (gatS (gatS (gatS gatZ))))))))))))) (fun K hK => ?_) AllReadyH.nil
              have x5 := HM5.out.box.cell 2
              have f5 := HM5.out.box.frozen 2
              have l5 := HM5.out.box.lt
              simp only [List.getElem?_cons_zero, List.getElem?_cons_succ] at x5
              go_simp
              have HM6 := Lib.hid (HM5.out.set2 (.slice ea' (l.length + 1) ec'))
              have hS6 := HM5.out.spares_set 2 (.slice ea' (l.length + 1) ec')
              have HE6 := Lib.hid (hS6.blk HE5.out rfl)
              have HO6 : Hid (OwnI (w5.setCell ⟨BM, 2, none⟩ (.slice ea' (l.length + 1) ec')) V.heap.size ea' (l.length + 1) ec' (l ++ [H1])) := Lib.hid (hS6.own HO5.out rfl)
              have HS6 := Lib.hid (HS5.out.trans hS6)
              clear hS6 x5 f5 l5
              refine hK.out _ _ ?_ (fun hHeld => ?_)
              · exact HSt.out _ HE6.out HM6.out
              clear hK K
              try simp only [Act.put, List.setIfInBounds_toArray, List.set_cons_zero, List.set_cons_succ]
              refine wpAnyH_done (by kernel_rfl) ?_ _
              go_wp2_with (fail)
              exact ⟨⟨k2 + 1, l ++ [H1], H2, ga3, gc3, ea', ec', by omega, by simp, by rw [List.length_append, Hlk.out]; rfl, by rw [List.length_append]; exact HO6.out, HR2.out, ⟨by omega, by omega⟩, by rw [List.length_append]; exact HM6.out, HS6.out⟩, by simp [intOf]; omega⟩
        · obtain rfl : k2 = k := by omega
          have hkI2 : ¬ (k2 : Int) < (k2 : Int) := by omega
          have hd0 : f.drop k2 = .nil := Fo.drop_all (by rw [HL.out]; exact Nat.le_refl _)
          have HF : Hid (Q = (l, t2)) := Lib.hid (by have := Hc2.out; rw [hd0] at this; rw [← this]; show (l ++ [], t2) = (l, t2); rw [List.append_nil])
          clear hd0 Hc2
          have x0 := HM1.out.box.cell 0
          have x1 := HM1.out.box.cell 1
          have x2 := HM1.out.box.cell 2
          have x3 := HM1.out.box.cell 3
          have xl := HM1.out.box.lt
          simp only [List.getElem?_cons_zero, List.getElem?_cons_succ] at x0 x1 x2 x3
          have hI5 : Ints wr ea ec (l.map (fun v : Nat => (v : Int))) := HO1.out.ints
          have hG5 : Egs wr ga1 gc1 t2.2 := HM1.out.row.egs
          have hA1 : Blk wr w.heap.size 25 [.int .i64 0, .int .i64 0, .slice none 0 0, .slice none 0 0] := HS1.out.blk HA1.out rfl
          have hlw := hA1.lt
          have fw := hA1.frozen
          have w0 := hA1.cell 0
          have w1 := hA1.cell 1
          have w2 := hA1.cell 2
          have w3 := hA1.cell 3
          simp only [List.getElem?_cons_zero, List.getElem?_cons_succ] at w0 w1 w2 w3
          have HB5 := Lib.hid (put4 (a' := .int .i64 (t2.1 : Int)) (b' := .int .i64 0) (c' := .slice ea l.length ec) (d' := .slice ga1 t2.2.length gc1) hA1)
          have hp4 := put4_below (w' := wr) (B := w.heap.size) (a' := .int .i64 (t2.1 : Int)) (b' := .int .i64 0) (c' := .slice ea l.length ec) (d' := .slice ga1 t2.2.length gc1) hb1 (Nat.le_refl _)
          have Hb5 := Lib.hid hp4
          have hgr := put4_grow wr w.heap.size (.int .i64 (t2.1 : Int)) (.int .i64 0) (.slice ea l.length ec) (.slice ga1 t2.2.length gc1)
          have hM6 := HM1.out.other hgr (fun r e => by cases e; exact ⟨Nat.le_refl _, fun cs t fr hk => by
            have := hA1
            unfold Blk at this
            rw [hk] at this
            cases this
            decide⟩)
          have hO6 := HO1.out.kept hgr (.inr (fun e => by
            obtain ⟨_, cur, h2⟩ := HO1.out.typ w.heap.size (by rw [ownBlock_obk]; exact e)
            have := hA1
            unfold Blk at this
            rw [h2] at this
            cases this))
          have HI5 := Lib.hid hO6.ints
          have HG5 := Lib.hid hM6.row.egs
          clear hI5 hG5 hA1 hp4 hgr hM6 hO6
          go_wp2_with (fail)
          generalize (((wr.setCell ⟨w.heap.size, 0, none⟩ (.int .i64 (t2.1 : Int))).setCell ⟨w.heap.size, 1, none⟩ (.int .i64 0)).setCell ⟨w.heap.size, 2, none⟩ (.slice ea l.length ec)).setCell ⟨w.heap.size, 3, none⟩ (.slice ga1 t2.2.length gc1) = W5 at HB5 Hb5 HI5 HG5 ⊢
          have y0 := HB5.out.cell 0
          have y1 := HB5.out.cell 1
          have y2 := HB5.out.cell 2
          have y3 := HB5.out.cell 3
          simp only [List.getElem?_cons_zero, List.getElem?_cons_succ] at y0 y1 y2 y3
          exact bodyPost_ret (v := .tuple #[.agg #[.int .i64 (t2.1 : Int), .int .i64 0, .slice ea l.length ec, .slice ga1 t2.2.length gc1], .int .i64 0]) (by simp [results, Try.results13, go_sem, y0, y1, y2, y3]) rfl ⟨⟨⟨ea, ec, ga1, gc1⟩, by rw [hRR.out, HF.out]; simp [nfV], by rw [hRR.out, HF.out]; exact ⟨HI5.out, HG5.out⟩⟩, Hb5.out⟩
end Go.Proofs.Ytpbceejjkdmclaa
