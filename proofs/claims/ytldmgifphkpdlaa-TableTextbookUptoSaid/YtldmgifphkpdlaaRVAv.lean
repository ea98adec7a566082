/- Texts joined: Fj Qe. -/
import Derived.Test.YtldmgifphkpdlaaRVAq
import Derived.Test.YtldmgifphkpdlaaRVAu
set_option linter.unusedVariables false
set_option linter.unusedSimpArgs false
namespace Go.Proofs.Ytldmgifphkpdlaa
open Go.RowKit Go.Maps
attribute [local go_sem] Oper.semAt_some
/-- What tells of each rule some numbers, rising, in rows of its own. -/
def LstO (w : World) (n : Nat) (P : Nat → Int → Prop) (e : Ending) (W' : World) : Prop := ∃ a c, ∃ ds : List IltD, e = .returned (.slice a n c) ∧ ds.length = n ∧ OwnXI W' w.heap.size a c ds ∧ (∀ r (h : r < ds.length), Ris ds[r].l (P r)) ∧ Below w.heap.size w W'
set_option maxRecDepth 100000 in
set_option maxHeartbeats 16000000 in
theorem sFollow2_any (d : CfD) (w : World) (hd : CfAt w d) (hf : FitC d) :
 Calls Try.prog 21 #[d.v] w (LstO w d.alts.length (fun r => FolP (d.alts.map IrD.p) (nulB (d.alts.map IrD.p)) d.toks.length r)) := by
 have Hfit := Lib.hid (fun W (hb : Below w.heap.size w W) => fits_any d W (hd.grown hb) hf)
 have hft := hf.t
 have hfr := hf.r
 have hf0 := hf.r0
 have Hnb := Lib.hid (fun W (hb : Below w.heap.size w W) => newB_any d W (hd.grown hb) hf)
 have Hng := Lib.hid (fun W (hb : Below w.heap.size w W) na nc (hn : BlsF W na nc d.alts.length (nulB (d.alts.map IrD.p))) => neigh_any d na nc (nulB (d.alts.map IrD.p)) W (hd.grown hb) hn hf)
 have Htk := Lib.hid (fun W (hb : Below w.heap.size w W) na nc (hn : BlsF W na nc d.alts.length (nulB (d.alts.map IrD.p))) (l : List Int) la lc (hi : Ints W la lc l) (hl : ∀ x ∈ l, -(d.alts.length : Int) ≤ x ∧ x ≤ 100) (hll : l.length ≤ 1000) (hlb : l ≠ [] → ∀ g off, la = some ⟨g, off, none⟩ → g < W.heap.size) => tokens_any d na nc (nulB (d.alts.map IrD.p)) l la lc W (hd.grown hb) hn hf hi hl hll hlb)
 have HMLb : Hid (∀ r y, mlO (nulB (d.alts.map IrD.p)) (occG (d.alts.map IrD.p) d.alts.length) r y = true → 0 ≤ y ∧ y < (d.alts.length : Int)) := Lib.hid (fun r y h => by
  have e : d.alts.length = (d.alts.map IrD.p).length := (List.length_map _).symm
  rw [e] at h
  obtain ⟨s, rfl, hs⟩ := ml_last.1 h
  have := hs.1
  rw [← e] at this
  omega)
 have HMBb : Hid (∀ r y, mbE (mbO (nulB (d.alts.map IrD.p)) (occG (d.alts.map IrD.p) d.alts.length)) d.toks.length r y = true → -(d.alts.length : Int) ≤ y ∧ y ≤ 60) := Lib.hid (fun r y h => by
  have e : d.alts.length = (d.alts.map IrD.p).length := (List.length_map _).symm
  rw [e] at h
  rcases mb_beh.1 h with ⟨_, rfl⟩ | ⟨s, _, a, ha, u, _, hy⟩
  ·omega
  ·obtain ⟨x, hx, q, hq, rfl⟩ := al_mem ha
   have := (hf.l x hx q hq).2 _ (List.mem_of_mem_drop (ahd_sub hy))
   omega)
 have Hfol : Hid (∀ (r : Nat), r < d.alts.length → ∀ (l : List Int) (MM : Int → Bool), (∀ x, MM x = true ↔ Rchd [(r : Int)] (StL (mlO (nulB (d.alts.map IrD.p)) (occG (d.alts.map IrD.p) d.alts.length)) d.alts.length) x) → (∀ y, y ∈ l ↔ nxB MM (fun _ => false) (mbE (mbO (nulB (d.alts.map IrD.p)) (occG (d.alts.map IrD.p) d.alts.length)) d.toks.length) y = true) → ∀ t, TokP (d.alts.map IrD.p) (nulB (d.alts.map IrD.p)) l t ↔ FolP (d.alts.map IrD.p) (nulB (d.alts.map IrD.p)) d.toks.length r t) := Lib.hid (fun r hr l MM hM hl t => by
  have e : d.alts.length = (d.alts.map IrD.p).length := (List.length_map _).symm
  rw [e] at hM hl hr
  exact fol_of hr hM hl t)
 have HUp : Hid (∀ (r : Nat), r < d.alts.length → ∀ x, Rchd [(r : Int)] (StL (mlO (nulB (d.alts.map IrD.p)) (occG (d.alts.map IrD.p) d.alts.length)) d.alts.length) x → ∃ o : Nat, x = (o : Int) ∧ o < d.alts.length) := Lib.hid (fun r hr x h => by
  have e : d.alts.length = (d.alts.map IrD.p).length := (List.length_map _).symm
  rw [e] at h hr ⊢
  obtain ⟨o, h1, h2, _⟩ := (up_rchd hr x).1 h
  exact ⟨o, h1, h2⟩)
 obtain ⟨xt, xta, xtc, xn, xna, xnc, xa, xaa, xac⟩ := d
 have hxm : xa.length ≤ xac ∧ xac ≤ 9223372036854775807 := ⟨by have := hd.alts.le; rwa [List.length_map] at this, hd.alts.max⟩
 have htm : xt.length ≤ xtc ∧ xtc ≤ 9223372036854775807 := ⟨by have := hd.toks.le; rwa [List.length_map] at this, hd.toks.max⟩
 dsimp only [CfD.v] at *
 obtain ⟨NB, hNB2⟩ : ∃ q, Hid (nulB (xa.map IrD.p) = q) := ⟨_, Lib.hid rfl⟩
 rw [hNB2.out] at Hnb Htk Hng HMLb HMBb Hfol HUp ⊢
 obtain ⟨P, hP⟩ : ∃ q : Nat → Int → Prop, Hid ((fun r : Nat => FolP (xa.map IrD.p) NB xt.length r) = q) := ⟨_, Lib.hid rfl⟩
 have HP : Hid (∀ r : Nat, FolP (xa.map IrD.p) NB xt.length r = P r) := Lib.hid (fun r => congrFun hP.out r)
 rw [hP.out]
 obtain ⟨Q, hQ⟩ : ∃ Q, Hid (LstO w xa.length P = Q) := ⟨_, Lib.hid rfl⟩
 rw [hQ.out]
 have hb1 : Below w.heap.size w (w.alloc (.cells #[.slice xta xt.length xtc, .slice xna xn.length xnc, .slice xaa xa.length xac] 25)) := (Below.refl _ w).alloc (Nat.le_refl _) _
 have hA := Blk.new w 25 #[.slice xta xt.length xtc, .slice xna xn.length xnc, .slice xaa xa.length xac]
 obtain ⟨MB, hMB⟩ : ∃ q, Hid (mbO NB (occG (xa.map IrD.p) xa.length) = q) := ⟨_, Lib.hid rfl⟩
 obtain ⟨ML, hML⟩ : ∃ q, Hid (mlO NB (occG (xa.map IrD.p) xa.length) = q) := ⟨_, Lib.hid rfl⟩
 rw [hMB.out, hML.out] at Hng Hfol
 rw [hMB.out] at HMBb
 rw [hML.out] at HMLb HUp
 obtain ⟨T, HT⟩ : ∃ q, Hid (xt.length = q) := ⟨_, Lib.hid rfl⟩
 obtain ⟨N, HN⟩ : ∃ q, Hid (xn.length = q) := ⟨_, Lib.hid rfl⟩
 obtain ⟨L, HL⟩ : ∃ q, Hid (xa.length = q) := ⟨_, Lib.hid rfl⟩
 rw [HT.out, HN.out, HL.out] at hA hb1 Hnb Hfit ⊢
 rw [HL.out] at Htk hQ hfr hf0 hxm Hng HMLb HUp
 rw [HL.out, HT.out] at HMBb
 rw [HT.out] at hft htm HP
 have Hfol' : Hid (∀ (r : Nat), r < L → ∀ (l : List Int) (MM : Int → Bool), (∀ x, MM x = true ↔ Rchd [(r : Int)] (StL ML L) x) → (∀ y, y ∈ l ↔ nxB MM (fun _ => false) (mbE MB T) y = true) → ∀ t, TokP (xa.map IrD.p) NB l t ↔ P r t) := Lib.hid (by
  have h := Hfol.out
  rw [HL.out, HT.out] at h
  intro r hr l MM hM hl t
  rw [← HP.out]
  exact h r hr l MM hM hl t)
 have HQ := Lib.hid hQ.out
 obtain ⟨iO, hiO, hzO, hsO, hbO⟩ := info_parts info_rowI
 have Hmk := Lib.hid (fun (W : World) => run_makeSlice_full (P := Try.prog) (w := W) W.heap.size 32 35 iO (.slice none 0 0) 1 Try.underlying32 hiO hzO hsO .i64 .i64 L (by omega) (by rw [hbO]; omega) (by unfold maxLen; omega) (Nat.le_refl _))
 have x0 := hA.cell 0
 have x1 := hA.cell 1
 have x2 := hA.cell 2
 have xl := hA.lt
 simp only [List.getElem?_cons_zero, List.getElem?_cons_succ] at x0 x1 x2
 have HA := Lib.hid hA
 have Hb1 := Lib.hid hb1
 clear hd hf hQ hA hb1 hiO hzO hsO hbO hP Hfol
 go_enter Try.func21, Try.ntmps21
 go_wp2_with (fail)
 have Hc1 := Lib.hid (Hfit.out _ Hb1.out)
 obtain ⟨bx, hbx⟩ : ∃ q, Hid (w.heap.size = q) := ⟨_, Lib.hid rfl⟩
 rw [hbx.out] at HA xl x0 x1 x2 ⊢
 generalize hV : World.alloc w _ = V at HA x0 x1 x2 xl Hb1 Hc1 ⊢
 clear hV
 refine Hc1.out.mono ?_
 rintro e w2 ⟨rfl, hb2⟩
 have HA2 := Lib.hid (HA.out.below hb2 HA.out.lt)
 have Hb2 := Lib.hid (Hb1.out.trans (hb2.mono Hb1.out.size))
 clear x0 x1 x2 xl hb2 Hc1
 have x0 := HA2.out.cell 0
 have x1 := HA2.out.cell 1
 have x2 := HA2.out.cell 2
 have xl := HA2.out.lt
 simp only [List.getElem?_cons_zero, List.getElem?_cons_succ] at x0 x1 x2
 have Hc3 := Lib.hid (Hnb.out _ Hb2.out)
 go_wp2_with (fail)
 refine Hc3.out.mono ?_
 rintro e w4 ⟨na, nc, rfl, hn4, hb4⟩
 have Hb4 := Lib.hid (Hb2.out.trans (hb4.mono Hb2.out.size))
 have hb5 : Below w4.heap.size w4 (w4.alloc (.cells #[.slice xaa L xac, .slice na L nc] 68)) := (Below.refl _ w4).alloc (Nat.le_refl _) _
 have HB5 := Lib.hid (Blk.new w4 68 #[.slice xaa L xac, .slice na L nc])
 have HA5 := Lib.hid ((HA2.out.below hb4 HA2.out.lt).below hb5 (HA2.out.below hb4 HA2.out.lt).lt)
 have HN5 := Lib.hid (hn4.grown hb5)
 have Hb5 := Lib.hid (Hb4.out.trans (hb5.mono Hb4.out.size))
 obtain ⟨bb, hbb⟩ : ∃ q, Hid (w4.heap.size = q) := ⟨_, Lib.hid rfl⟩
 rw [hbb.out] at HB5
 clear hn4 hb4 hb5 x0 x1 x2 xl Hc3
 have hy0 := HB5.out.cell 0
 have hy1 := HB5.out.cell 1
 have hyl := HB5.out.lt
 simp only [List.getElem?_cons_zero, List.getElem?_cons_succ] at hy0 hy1
 go_wp2_with (fail)
 rw [hbb.out]
 generalize hV : World.alloc w4 _ = V5 at HB5 HA5 HN5 Hb5 hy0 hy1 hyl ⊢
 clear hV
 refine (Hng.out V5 Hb5.out na nc HN5.out).mono ?_
 rintro e w6 ⟨B, hb, lb, n6, ba, bc, la, lc, p, q, rfl, hn6, hN6, hB6, hb6⟩
 have hb7 : Below w6.heap.size w6 (w6.alloc (.cells #[.slice la L lc] 75)) := (Below.refl _ w6).alloc (Nat.le_refl _) _
 have HL7 := Lib.hid (Blk.new w6 75 #[.slice la L lc])
 have HN7 := Lib.hid (hN6.below hb7)
 have hbb7 := hb6.trans (hb7.mono hb6.size)
 have hb57 := hbb7
 have HB7 := Lib.hid (HB5.out.below hbb7 HB5.out.lt)
 have HA7 := Lib.hid (HA5.out.below hbb7 HA5.out.lt)
 have HNu7 := Lib.hid (HN5.out.grown hbb7)
 have Hb7 := Lib.hid (Hb5.out.trans (hbb7.mono Hb5.out.size))
 obtain ⟨l5, hl5⟩ : ∃ q, Hid (w6.heap.size = q) := ⟨_, Lib.hid rfl⟩
 rw [hl5.out] at HL7
 have hb57' := Lib.hid hb57
 clear hN6 hb6 hb7 hbb7 hy0 hy1 hyl hb57
 go_wp2_with (fail)
 rw [hl5.out]
 generalize hV : World.alloc w6 _ = V7 at HL7 HN7 HB7 HA7 HNu7 Hb7 hb57' ⊢
 clear hV
 obtain ⟨g1, hg1, hc1⟩ := row_at HN7.out.r1 hf0
 have hleb := row_le HN7.out.r1
 have Hadd := Lib.hid (zAdd_any V7.drew (p 0) n6 (MB 0) (T : Int) (HN7.out.s1 0 hf0) (wf9 (by omega)) (by unfold maxLen; omega))
 have HS7 : Hid (V7.drew.cell? ⟨g1, 0, none⟩ = some (.map (some (p 0))) ∧ V7.drew.cell? ⟨bx, 0, none⟩ = some (.slice xta T xtc)) := Lib.hid ⟨hc1, HA7.out.cell 0⟩
 obtain ⟨p0, hp0⟩ : ∃ x, Hid (p 0 = x) := ⟨_, Lib.hid rfl⟩
 have hlo0 := (HN7.out.lo.2.2.2 0 hf0).1
 rw [hp0.out] at Hadd HS7 hlo0
 obtain ⟨Z0, hZ0⟩ : ∃ x, Hid ((!(MB 0 (T : Int))) = x) := ⟨_, Lib.hid rfl⟩
 rw [hZ0.out] at Hadd
 have hL0I : (0 : Int) < (L : Int) := by omega
 subst hg1
 clear hc1
 refine wp_region_held_drew (S := fun w' => w'.cell? ⟨g1, 0, none⟩ = some (.map (some p0)) ∧ w'.cell? ⟨bx, 0, none⟩ = some (.slice xta T xtc)) (by kernel_rfl) ?_ (fun hHeld => ?_)
 ·exact HS7.out
 refine wpAnyH_take (i := 0) (v := ?_) (iatLS iatZS) (by kernel_rfl) (by kernel_rfl) (by kernel_rfl) (fun _ _ _ h => h) (Or.inl ⟨by rfl, ?_⟩) (by assumption) ?_
 rotate_left
 ·intro w hSw
  try dsimp only at hSw
  go_simp
  all_goals with_reducible rfl
 try simp only [Act.put, List.setIfInBounds_toArray, List.set_cons_zero, List.set_cons_succ]
 refine wpAnyH_take (i := 1) (v := ?_) (iatLS (iatSS iatZS)) (by kernel_rfl) (by kernel_rfl) (by kernel_rfl) (fun _ _ _ h => h) (Or.inl ⟨by rfl, ?_⟩) (by assumption) ?_
 rotate_left
 ·intro w hSw
  try dsimp only at hSw
  go_simp
  all_goals with_reducible rfl
 try simp only [Act.put, List.setIfInBounds_toArray, List.set_cons_zero, List.set_cons_succ]
 refine wpAnyH_take (i := 2) (v := ?_) (iatLS (iatSS (iatSS iatZS))) (by kernel_rfl) (by kernel_rfl) (by kernel_rfl) (fun _ _ _ h => h) (Or.inl ⟨by rfl, ?_⟩) (by assumption) ?_
 rotate_left
 ·intro w hSw
  try dsimp only at hSw
  go_simp
  all_goals with_reducible rfl
 try simp only [Act.put, List.setIfInBounds_toArray, List.set_cons_zero, List.set_cons_succ]
 refine wpAnyH_take (i := 3) (v := ?_) (iatLS (iatSS (iatSS (iatSS iatZS)))) (by kernel_rfl) (by kernel_rfl) (by kernel_rfl) (fun _ _ _ h => h) (Or.inl ⟨by rfl, ?_⟩) (by assumption) ?_
 rotate_left
 ·intro w hSw
  try dsimp only at hSw
  go_simp
  all_goals with_reducible rfl
 try simp only [Act.put, List.setIfInBounds_toArray, List.set_cons_zero, List.set_cons_succ]
 refine wpAnyH_take (i := 4) (v := ?_) (iatLS (iatSS (iatSS (iatSS (iatSS iatZS))))) (by kernel_rfl) (by kernel_rfl) (by kernel_rfl) (fun _ _ _ h => h) (Or.inl ⟨by rfl, ?_⟩) (by assumption) ?_
 rotate_left
 ·intro w hSw
  try dsimp only at hSw
  go_simp
  all_goals with_reducible rfl
 try simp only [Act.put, List.setIfInBounds_toArray, List.set_cons_zero, List.set_cons_succ]
 refine wpAnyH_take (i := 5) (v := ?_) (iatLS (iatSS (iatSS (iatSS (iatSS (iatSS iatZS)))))) (by kernel_rfl) (by kernel_rfl) (by kernel_rfl) (fun _ _ _ h => h) (Or.inl ⟨by rfl, ?_⟩) (by assumption) ?_
 rotate_left
 ·intro w hSw
  try dsimp only at hSw
  go_simp
  all_goals with_reducible rfl
 try simp only [Act.put, List.setIfInBounds_toArray, List.set_cons_zero, List.set_cons_succ]
 refine wpAnyH_ready (rs := [6]) (by kernel_rfl) (by simp) ?_
 refine AllReadyH.cons (iatLS (iatSS (iatSS (iatSS (iatSS (iatSS (iatSS iatZS))))))) (fun K hK => ?_) AllReadyH.nil
 go_simp
 (with_reducible refine Hadd.out.mono ?_)
 rintro e8 w8 ⟨rfl, hs8, hg8⟩
 have hN7d : NbAt V7.drew B hb lb L n6 (some ⟨g1, 0, none⟩) bc la lc p q MB ML := HN7.out.below (Below.refl _ V7).drew
 have HN8 : Hid (NbAt w8 B hb lb L (n6 + 1) (some ⟨g1, 0, none⟩) bc la lc p q (mbE MB T) ML) := Lib.hid ((hN7d.turn1 hf0 (by rw [hp0.out]; exact hs8) (by rw [hp0.out]; exact hg8)).congr (fun s y => by
  unfold mbE
  by_cases e : s = 0
  ·subst e; rw [if_pos rfl]; cases MB 0 y <;> simp
  ·rw [if_neg e]; simp [e]) (fun s y => rfl))
 have hb78 : Below B V7 w8 := (Below.refl B V7).drew.trans (belowAt hg8 (fun i e => by injection e with e; omega) (by have := hN7d.lo; have := hN7d.hbx.lt; omega))
 have hb58 : Below V5.heap.size V5 w8 := hb57'.out.trans (hb78.mono hB6)
 have HB8 := Lib.hid (HB5.out.below hb58 HB5.out.lt)
 have HA8 := Lib.hid (HA5.out.below hb58 HA5.out.lt)
 have HNu8 := Lib.hid (HN5.out.grown hb58)
 have HL8 := Lib.hid ((show Blk V7.drew l5 75 [.slice la L lc] from HL7.out).kept hg8 (fun e => mapZ_ne_blk (hN7d.s1 0 hf0) (show Blk V7.drew l5 75 [.slice la L lc] from HL7.out) (by rw [hp0.out]; injection e)))
 have Hb8 := Lib.hid (Hb5.out.trans (hb58.mono Hb5.out.size))
 obtain ⟨g3, hg3, hc3⟩ := row_at HN8.out.r1 hf0
 injection hg3 with hg3
 injection hg3 with hg3
 subst hg3
 rw [hp0.out] at hc3
 have HS8 : Hid (w8.cell? ⟨g1, 0, none⟩ = some (.map (some p0)) ∧ w8.cell? ⟨bx, 0, none⟩ = some (.slice xta T xtc)) := Lib.hid ⟨hc3, HA8.out.cell 0⟩
 clear hs8 hg8 hN7d hb78 hb58 hc3
 try dsimp only
 refine hK.out _ _ ?_ (fun hHeld => ?_)
 ·exact HS8.out
 clear hK K
 try simp only [Act.put, List.setIfInBounds_toArray, List.set_cons_zero, List.set_cons_succ]
 refine wpAnyH_done (by kernel_rfl) ?_ _
 have x2 := HA8.out.cell 2
 have xl := HA8.out.lt
 simp only [List.getElem?_cons_zero, List.getElem?_cons_succ] at x2
 obtain ⟨w9, hrun9, ho9, hg9⟩ := Hmk.out w8
 rw [made_fill _ rfl] at ho9
 have hb9 := belowAt hg9 (fun i e => by cases e) (Nat.le_refl _)
 obtain ⟨base, hbase⟩ : ∃ q, Hid (w8.heap.size = q) := ⟨_, Lib.hid rfl⟩
 rw [hbase.out] at hrun9 ho9 hb9
 have HO9 := Lib.hid ho9
 have Hb9 := Lib.hid hb9
 have hbbl : bb < base := by rw [← hbase.out]; exact HB8.out.lt
 have hl5l : l5 < base := by rw [← hbase.out]; exact HL8.out.lt
 clear ho9 hg9 hb9
 go_wp2_with (fail)
 clear hrun9 x2 xl
 go_loopw [35] (fun iv wr => ∃ (i : Nat) (dn : List IltD), i ≤ L ∧ iv = .int .i64 (i : Int) ∧ Hid (∀ r (h : r < dn.length), Ris dn[r].l (P r)) ∧ Hid (dn.length = i) ∧
  Hid (wr.ownsRow base 35 1 (.slice (some ⟨base, 0, none⟩) L L) L (dn.map IltD.v ++ List.replicate (L - i) (.slice none 0 0))) ∧ Hid (∀ d ∈ dn, OwnKZ wr base d.a d.c d.l) ∧ Below base w8 wr) (fun iv _ => L - (RowKit.intOf iv).toNat)
 case atStart => exact ⟨0, [], Nat.zero_le _, rfl, Lib.hid (fun r h => by cases h), Lib.hid rfl, HO9, Lib.hid (fun d h => by cases h), Hb9.out⟩
 case round =>
  clear HO9 Hb9
  obtain ⟨i, dn, hi, rfl, hdn, hdl, HO, HD, hbr⟩ := hrel
  obtain ⟨U, rfl⟩ : ∃ U, U = wr := ⟨_, rfl⟩
  have hbr8 : Below w8.heap.size w8 U := by rw [hbase.out]; exact hbr
  have hbU : base ≤ U.heap.size := by rw [← hbase.out]; exact hbr.size
  by_cases hlt : i < L
  ·have hiI : (i : Int) < (L : Int) := by omega
   have hiI0 : (0 : Int) ≤ (i : Int) := by omega
   have hmm := @run_makeMap Try.prog
   have hba : Below U.heap.size U ((U.alloc (.map #[] 0)).alloc (.cells #[.int .i64 (i : Int)] 3)) := ((Below.refl _ U).alloc (Nat.le_refl _) _).alloc (by simp) _
   have hsa : (U.alloc (.map #[] 0)).heap.size = U.heap.size + 1 := by simp
   have hi1 := one_vs (U.alloc (.map #[] 0)) (i : Int)
   rw [hsa] at hi1
   have hnx := (SetZ.new U).kept (World.grownBy_alloc (U.alloc (.map #[] 0)) (.cells #[.int .i64 (i : Int)] 3) none) (by simp)
   have hNa := (HN8.out.below hbr8).below hba
   have hLa := (HL8.out.below hbr8 HL8.out.lt).below hba (HL8.out.below hbr8 HL8.out.lt).lt
   have HNx := Lib.hid hnx
   have Hba := Lib.hid hba
   have HNU := Lib.hid (HN8.out.below hbr8)
   have hgl : U.heap.size + 1 < ((U.alloc (.map #[] 0)).alloc (.cells #[.int .i64 (i : Int)] 3)).heap.size := by simp
   have hK : ∀ (args : Array Value) (w : World), (callFunc 62 args).run Try.prog w = .ok (.enter 62 args) w := fun args w => by kernel_rfl
   have Hrc := Lib.hid (reach_anyZ ((U.alloc (.map #[] 0)).alloc (.cells #[.int .i64 (i : Int)] 3)) 62 (.pointer (some ⟨l5, 0, none⟩)) [(i : Int)] (some ⟨U.heap.size + 1, 0, none⟩) 1 hi1 (fun _ g off e => by cases e; exact hgl) (fun x hx => by rw [List.mem_singleton] at hx; subst hx; exact wf9 (by omega))
    (StL ML L) ((List.range L).map (fun r : Nat => (r : Int))) (fun x hx => by
     obtain ⟨o, e, ho⟩ := HUp.out i hlt x hx
     exact List.mem_map.2 ⟨o, List.mem_range.2 ho, e.symm⟩) (by rw [List.length_map, List.length_range]; omega) (by simp) hK (fun W' n2 a2 c2 F O x hb hxU hxf hO hn2 hR => by
     obtain ⟨r, hr, rfl⟩ := List.mem_map.1 hxU
     exact up_any _ W' l5 _ lb L n2 (n6 + 1) (some ⟨g1, 0, none⟩) bc la lc p q _ ML B a2 c2 F O r hLa hNa (by omega) HMLb.out hfr hb (List.mem_range.1 hr) hR hO hn2))
   rw [List.length_singleton] at Hrc
   obtain ⟨nx, hnx⟩ : ∃ x, Hid (U.heap.size = x) := ⟨_, Lib.hid rfl⟩
   rw [hnx.out] at HNx Hba
   have Hnb : Hid (∀ r, r < L → p r < nx) := Lib.hid (fun r hr => by rw [← hnx.out]; exact (HNU.out.s1 r hr).lt)
   have hbn : base ≤ nx := by rw [← hnx.out]; exact hbU
   clear hba hsa hi1 hNa hLa hgl hK
   go_wp2_with (fail)
   refine Hrc.out.mono ?_
   rintro e w3 ⟨sb, ns, MM, rfl, hs3, hns, hM3, hlo3, hb3⟩
   rw [hnx.out]
   have HS3 := Lib.hid hs3
   have HM3 := Lib.hid hM3
   have HNx3 := Lib.hid (HNx.out.kept (below_grownBy hb3 none) (by simp))
   have hnxl := HNx.out.lt
   have Hb3 := Lib.hid (Hba.out.trans (hb3.mono (by rw [← hnx.out]; exact Hba.out.size)))
   have hnsb : nx < sb := by omega
   clear hs3 hM3 hb3 HNx Hba Hrc hnxl
   go_wp2_with (at_range; refine range_setZ rfl _ rfl sb ns MM rfl HS3.out ?_; intro w4 cnt4 hrg4 hg4 hs4)
   go_frame
   have hcl := rng_few hrg4 ((List.range L).map (fun r : Nat => (r : Int))) (fun x hx => by
    obtain ⟨o, e, ho⟩ := HUp.out i hlt x ((HM3.out x).1 hx)
    exact List.mem_map.2 ⟨o, List.mem_range.2 ho, e.symm⟩)
   rw [List.length_map, List.length_range] at hcl
   have HR4 := Lib.hid hrg4
   have HNx4 : Hid (SetZ w4 nx 0 (nxB MM MM (mbE MB T))) := Lib.hid ((HNx3.out.kept hg4 (by simp)).congr (fun z => (nxB_start MM (mbE MB T) z).symm))
   have hs3U := Hb3.out.size
   have Hb4 := Lib.hid (Hb3.out.trans (belowAt hg4 (B := nx) (fun i e => by cases e) (by have := HNx3.out.lt; omega)))
   obtain ⟨it, hit⟩ : ∃ q, Hid (w3.heap.size = q) := ⟨_, Lib.hid rfl⟩
   rw [hit.out] at HR4 ⊢
   have hitn : nx < it := by rw [← hit.out]; exact HNx3.out.lt
   clear hrg4 hg4 hs4 HS3 HNx3 Hb3
   go_loopw [44] (fun _ wr => ∃ (left : Int → Bool) (cnt nd : Nat), Hid (RngZ wr sb it ns MM left cnt) ∧ Hid (SetZ wr nx nd (nxB MM left (mbE MB T))) ∧ nd + cnt * 200000000 ≤ 60 * 200000000 ∧ Below nx U wr) (fun _ wr => wr.rangeLeft sb it)
   case atStart => exact ⟨MM, cnt4, 0, HR4, HNx4, by omega, Hb4.out⟩
   case round =>
    clear HR4 HNx4 Hb4 hcl
    obtain ⟨left, cnt, nd, HR, HX, hnd, hbx⟩ := hrel
    obtain ⟨U5, rfl⟩ : ∃ U, U = wr := ⟨_, rfl⟩
    have hbx2 : Below U.heap.size U U5 := by rw [hnx.out]; exact hbx
    go_wp2_with (at_next; refine next_setZ rfl _ rfl sb it ns MM left cnt rfl HR.out ?_ ?_)
    ·intro hl0
     have HXe : Hid (SetZ U5 nx nd (nxB MM (fun _ => false) (mbE MB T))) := Lib.hid (HX.out.congr (fun z => by rw [show left = fun _ => false from funext hl0]))
     have HB5' := Lib.hid ((HB8.out.below hbr8 HB8.out.lt).below hbx2 (HB8.out.below hbr8 HB8.out.lt).lt)
     have HNu5 := Lib.hid ((HNu8.out.grown hbr8).grown hbx2)
     have hb85 : Below base w8 U5 := hbr.trans (hbx.mono hbn)
     have Hb85 := Lib.hid hb85
     have Hbw5 := Lib.hid (Hb8.out.trans ((show Below w8.heap.size w8 U5 from by rw [hbase.out]; exact hb85).mono Hb8.out.size))
     have HO5 := Lib.hid (World.ownsRow.kept HO.out (below_grownBy hbx2 none) (by cases e : (Value.slice (some ⟨base, 0, none⟩) L L).ownBlock <;> simp))
     have HD5 : Hid (∀ d ∈ dn, OwnKZ U5 base d.a d.c d.l) := Lib.hid (fun d hd => World.ownsRow.kept (HD.out d hd) (below_grownBy hbx2 none) (by cases e : (Value.slice d.a d.l.length d.c).ownBlock <;> simp))
     have HS0 : Hid (U5.drew.cell? ⟨bb, 0, none⟩ = some (.slice xaa L xac) ∧ U5.drew.cell? ⟨bb, 1, none⟩ = some (.slice na L nc)) := Lib.hid ⟨HB5'.out.cell 0, HB5'.out.cell 1⟩
     have Hord := Lib.hid (ordered_any nx nd _ U5.drew (show SetZ U5.drew nx nd (nxB MM (fun _ => false) (mbE MB T)) from HXe.out) (by omega))
     have hU5b : base ≤ U5.drew.heap.size := by rw [← hbase.out]; exact Hb85.out.size
     clear hl0 HX HR hbx hbx2 hb85 HO HD
     go_wp2_with (fail)
     refine wp_region_held_drew (S := fun w' => w'.cell? ⟨bb, 0, none⟩ = some (.slice xaa L xac) ∧ w'.cell? ⟨bb, 1, none⟩ = some (.slice na L nc)) (by kernel_rfl) ?_ (fun hHeld => ?_)
     ·exact HS0.out
     refine wpAnyH_take (i := 0) (v := ?_) (iatLS iatZS) (by kernel_rfl) (by kernel_rfl) (by kernel_rfl) (fun _ _ _ h => h) (Or.inl ⟨by rfl, ?_⟩) (by assumption) ?_
     rotate_left
     ·intro w hSw
      try dsimp only at hSw
      go_simp
      all_goals with_reducible rfl
     try simp only [Act.put, List.setIfInBounds_toArray, List.set_cons_zero, List.set_cons_succ]
     refine wpAnyH_take (i := 1) (v := ?_) (iatLS (iatSS iatZS)) (by kernel_rfl) (by kernel_rfl) (by kernel_rfl) (fun _ _ _ h => h) (Or.inl ⟨by rfl, ?_⟩) (by assumption) ?_
     rotate_left
     ·intro w hSw
      try dsimp only at hSw
      go_simp
      all_goals with_reducible rfl
     try simp only [Act.put, List.setIfInBounds_toArray, List.set_cons_zero, List.set_cons_succ]
     refine wpAnyH_take (i := 2) (v := ?_) (iatLS (iatSS (iatSS iatZS))) (by kernel_rfl) (by kernel_rfl) (by kernel_rfl) (fun _ _ _ h => h) (Or.inl ⟨by rfl, ?_⟩) (by assumption) ?_
     rotate_left
     ·intro w hSw
      try dsimp only at hSw
      go_simp
      all_goals with_reducible rfl
     try simp only [Act.put, List.setIfInBounds_toArray, List.set_cons_zero, List.set_cons_succ]
     refine wpAnyH_take (i := 3) (v := ?_) (iatLS (iatSS (iatSS (iatSS iatZS)))) (by kernel_rfl) (by kernel_rfl) (by kernel_rfl) (fun _ _ _ h => h) (Or.inl ⟨by rfl, ?_⟩) (by assumption) ?_
     rotate_left
     ·intro w hSw
      try dsimp only at hSw
      go_simp
      all_goals with_reducible rfl
     try simp only [Act.put, List.setIfInBounds_toArray, List.set_cons_zero, List.set_cons_succ]
     refine wpAnyH_ready (rs := [4]) (by kernel_rfl) (by simp) ?_
     refine AllReadyH.cons (iatLS (iatSS (iatSS (iatSS (iatSS iatZS))))) (fun K hK => ?_) AllReadyH.nil
     go_simp
     (with_reducible refine Hord.out.mono ?_)
     rintro e6 W6 ⟨oa, oc, ol, rfl, hor, hoo, hob⟩
     have HB6 := Lib.hid ((show Blk U5.drew bb 68 [.slice xaa L xac, .slice na L nc] from HB5'.out).below hob HB5'.out.lt)
     have HNu6 := Lib.hid (((HNu5.out.grown (Below.refl _ U5).drew)).grown hob)
     have Hbw6 := Lib.hid (Hbw5.out.drew.trans (hob.mono Hbw5.out.drew.size))
     have Hb86 := Lib.hid (Hb85.out.drew.trans (hob.mono hU5b))
     have HO6 := Lib.hid (World.ownsRow.kept (show U5.drew.ownsRow base 35 1 (.slice (some ⟨base, 0, none⟩) L L) L _ from HO5.out) (below_grownBy hob none) (by cases e : (Value.slice (some ⟨base, 0, none⟩) L L).ownBlock <;> simp))
     have HD6 : Hid (∀ d ∈ dn, OwnKZ W6 base d.a d.c d.l) := Lib.hid (fun d hd => World.ownsRow.kept (show OwnKZ U5.drew base d.a d.c d.l from HD5.out d hd) (below_grownBy hob none) (by cases e : (Value.slice d.a d.l.length d.c).ownBlock <;> simp))
     have HS6 : Hid (W6.cell? ⟨bb, 0, none⟩ = some (.slice xaa L xac) ∧ W6.cell? ⟨bb, 1, none⟩ = some (.slice na L nc)) := Lib.hid ⟨HB6.out.cell 0, HB6.out.cell 1⟩
     have hoi : Ints W6 oa oc ol := hoo.vs
     have hob2 : ∀ x ∈ ol, -(L : Int) ≤ x ∧ x ≤ 60 := fun x hx => by
      obtain ⟨o, _, _, h3⟩ := nxB_iff.1 ((hor.mem x).1 hx)
      exact HMBb.out o x h3
     have holl := ris_len hor (nearU L) (fun x hx => nearU_mem.2 (by have := hob2 x ((hor.mem x).2 hx); omega))
     have hnl : (nearU L).length = 300 := by unfold nearU; rw [List.length_map, List.length_range]
     rw [hnl] at holl
     have Htc := Lib.hid (Htk.out W6 Hbw6.out na nc HNu6.out ol oa oc hoi (fun x hx => by have := hob2 x hx; omega) (by omega) (fun hz g off e => by
      subst e
      exact (World.ownsRow.lt hoo g (by have := (own_typ hoo); cases off with
       | zero => rfl
       | succ n => exact absurd hoo (by intro h; rcases h.2 with ⟨e1, _⟩ | ⟨_, _, _, e1, _⟩ <;> cases e1))).2))
     have HFe : Hid (∀ t, TokP (xa.map IrD.p) NB ol t ↔ P i t) := Lib.hid (Hfol'.out i hlt ol MM HM3.out hor.mem)
     obtain ⟨OL, hOL⟩ : ∃ q, Hid (ol.length = q) := ⟨_, Lib.hid rfl⟩
     rw [hOL.out] at Htc ⊢
     clear hor hoo hob hoi hob2 holl hnl
     try dsimp only
     refine hK.out _ _ ?_ (fun hHeld => ?_)
     ·exact HS6.out
     clear hK K
     try simp only [Act.put, List.setIfInBounds_toArray, List.set_cons_zero, List.set_cons_succ]
     refine wpAnyH_ready (rs := [5]) (by kernel_rfl) (by simp) ?_
     refine AllReadyH.cons (iatLS (iatSS (iatSS (iatSS (iatSS (iatSS iatZS)))))) (fun K hK => ?_) AllReadyH.nil
     go_simp
     (with_reducible refine Htc.out.mono ?_)
     rintro e8 W8 ⟨ra, rc, l, rfl, hr8, ho8, hb8⟩
     have HR8 : Hid (Ris l (P i)) := Lib.hid ⟨hr8.up, fun x => (hr8.mem x).trans (HFe.out x)⟩
     have HB8w := Lib.hid (HB6.out.below hb8 HB6.out.lt)
     have HS8w : Hid (W8.cell? ⟨bb, 0, none⟩ = some (.slice xaa L xac) ∧ W8.cell? ⟨bb, 1, none⟩ = some (.slice na L nc)) := Lib.hid ⟨HB8w.out.cell 0, HB8w.out.cell 1⟩
     have hbV : base ≤ W6.heap.size := by rw [← hbase.out]; exact Hb86.out.size
     have HO8 := Lib.hid (World.ownsRow.kept HO6.out (below_grownBy hb8 none) (by cases e : (Value.slice (some ⟨base, 0, none⟩) L L).ownBlock <;> simp))
     have HD8 : Hid (∀ d ∈ dn, OwnKZ W8 base d.a d.c d.l) := Lib.hid (fun d hd => World.ownsRow.kept (HD6.out d hd) (below_grownBy hb8 none) (by cases e : (Value.slice d.a d.l.length d.c).ownBlock <;> simp))
     have Ho8 : Hid (OwnKZ W8 base ra rc l) := Lib.hid (own_mono ho8 hbV)
     have Hb8f := Lib.hid (Hb86.out.trans (hb8.mono hbV))
     have z0 := HO8.out.cellAt i (by omega)
     rw [List.getElem?_append_right (by rw [List.length_map, hdl.out]; exact Nat.le_refl _), List.length_map, hdl.out, Nat.sub_self, List.getElem?_replicate, if_pos (by omega)] at z0
     have zf := own_frz (j := i) HO8.out
     have zl : base < W8.heap.size := (World.ownsRow.lt HO8.out base rfl).2
     obtain ⟨hO9, hg9⟩ := HO8.out.stored i (.slice ra l.length rc)
     rw [set_fill _ _ _ L i (by rw [List.length_map, hdl.out]) hlt] at hO9
     have hne : ∀ (a : Option Addr) (c : Nat) (m : List Int), OwnKZ W8 base a c m → (Value.slice a m.length c).ownBlock ≠ some base := fun a c m h => own_ne_ty h (own_typ HO8.out base rfl).2.choose_spec (by decide)
     have HO9 : Hid ((W8.setCell ⟨base, i, none⟩ (.slice ra l.length rc)).ownsRow base 35 1 (.slice (some ⟨base, 0, none⟩) L L) L ((dn ++ [(⟨l, ra, rc⟩ : IltD)]).map IltD.v ++ List.replicate (L - (i + 1)) (.slice none 0 0))) := Lib.hid (by rw [List.map_append]; exact hO9)
     have HD9 : Hid (∀ d ∈ dn ++ [(⟨l, ra, rc⟩ : IltD)], OwnKZ (W8.setCell ⟨base, i, none⟩ (.slice ra l.length rc)) base d.a d.c d.l) := Lib.hid (fun d hd => (List.mem_append.1 hd).elim (fun h => World.ownsRow.kept (HD8.out d h) hg9 (.inr (hne _ _ _ (HD8.out d h)))) (fun h => by rw [List.mem_singleton] at h; subst h; exact World.ownsRow.kept Ho8.out hg9 (.inr (hne _ _ _ Ho8.out))))
     have HP9 : Hid (∀ r (h : r < (dn ++ [(⟨l, ra, rc⟩ : IltD)]).length), Ris (dn ++ [(⟨l, ra, rc⟩ : IltD)])[r].l (P r)) := Lib.hid (fun r h => by
      by_cases hr : r < dn.length
      ·rw [List.getElem_append_left hr]; exact hdn.out r hr
      ·have e9 : r = dn.length := by rw [List.length_append] at h; simp at h; omega
       subst e9
       rw [List.getElem_append_right (Nat.le_refl _)]
       simp only [Nat.sub_self, List.getElem_cons_zero]
       rw [hdl.out]; exact HR8.out)
     have HL9 : Hid ((dn ++ [(⟨l, ra, rc⟩ : IltD)]).length = i + 1) := Lib.hid (by rw [List.length_append, hdl.out]; rfl)
     have Hb9 := Lib.hid (Hb8f.out.setCell (p := ⟨base, i, none⟩) (Nat.le_refl _) (.slice ra l.length rc))
     have HB9 := Lib.hid (HB8w.out.setOther (b' := base) (j := i) (by omega) (.slice ra l.length rc))
     clear hr8 ho8 hb8 hO9 hg9 hne
     obtain ⟨RL, hRL⟩ : ∃ q, Hid (l.length = q) := ⟨_, Lib.hid rfl⟩
     rw [hRL.out] at HO9 HD9 Hb9 HB9 ⊢
     try dsimp only
     refine hK.out _ _ ?_ (fun hHeld => ?_)
     ·exact HS8w.out
     clear hK K
     try simp only [Act.put, List.setIfInBounds_toArray, List.set_cons_zero, List.set_cons_succ]
     refine wpAnyH_take (i := 6) (v := ?_) (iatLS (iatSS (iatSS (iatSS (iatSS (iatSS (iatSS iatZS))))))) (by kernel_rfl) (by kernel_rfl) (by kernel_rfl) (fun _ _ _ h => h) (Or.inl ⟨by rfl, ?_⟩) (by assumption) ?_
     rotate_left
     ·intro w hSw
      try dsimp only at hSw
      go_simp
      all_goals with_reducible rfl
     try simp only [Act.put, List.setIfInBounds_toArray, List.set_cons_zero, List.set_cons_succ]
     refine wpAnyH_ready (rs := [7]) (by kernel_rfl) (by simp) ?_
     refine AllReadyH.cons (iatLS (iatSS (iatSS (iatSS (iatSS (iatSS (iatSS (iatSS iatZS)))))))) (fun K hK => ?_) AllReadyH.nil
     go_simp
     generalize hW : World.setCell W8 _ _ = W9 at HO9 HD9 Hb9 HB9 ⊢
     clear hW z0 zf zl
     refine hK.out _ _ ?_ (fun hHeld => ?_)
     ·exact ⟨HB9.out.cell 0, HB9.out.cell 1⟩
     clear hK K
     try simp only [Act.put, List.setIfInBounds_toArray, List.set_cons_zero, List.set_cons_succ]
     refine wpAnyH_done (by kernel_rfl) ?_ _
     go_wp2_with (fail)
     exact ⟨⟨i + 1, _, by omega, by go_num, HP9, HL9, HO9, HD9, Hb9.out⟩, by simp [RowKit.intOf]; omega⟩
    ·intro x w10 cnt6 hwf hlx hMx hrg6 hlt6 hg6 hs6 hen6
     obtain ⟨o, rfl, hol⟩ := HUp.out i hlt x ((HM3.out x).1 hMx)
     have hN6 := HNU.out.below (show Below U.heap.size U U5 from hbx2)
     have hgN := belowAt hg6 (B := nx) (fun j e => by injection e with e; omega) (by have := HX.out.lt; omega)
     have hbx6 := hbx.trans hgN
     have hN7 := HNU.out.below (show Below U.heap.size U w10 from by rw [hnx.out]; exact hbx6)
     obtain ⟨g2, hg2, hc2⟩ := row_at hN7.r1 hol
     have hc2l := World.block_lt_of_cell? _ _ hc2
     injection hg2 with hg2
     injection hg2 with hg2
     subst hg2
     have hX6 := HX.out.kept hg6 (fun e => by injection e with e; omega)
     have Hcp := Lib.hid (copyZ_any nx (p o) nd (n6 + 1) _ _ w10 hX6 (hN7.s1 o hol) (fun e => by have := Hnb.out o hol; omega) (by omega))
     have hpo := Hnb.out o hol
     obtain ⟨po, hpoe⟩ : ∃ x, Hid (p o = x) := ⟨_, Lib.hid rfl⟩
     rw [hpoe.out] at hc2 Hcp hpo
     have Hst : Hid (∀ W, SetZ W nx (nd + (n6 + 1)) (fun z => nxB MM left (mbE MB T) z || mbE MB T o z) → SetZ W nx (nd + (n6 + 1)) (nxB MM (fun y => left y && !decide (y = (o : Int))) (mbE MB T))) := Lib.hid (fun W h => h.congr (fun z => (nxB_step hMx z).symm))
     have HR6 := Lib.hid hrg6
     have Hb6 := Lib.hid hbx6
     have Hl := Lib.hid (HR.out.left_eq)
     have hoI : (o : Int) < (L : Int) := by omega
     have hoI0 : (0 : Int) ≤ (o : Int) := by omega
     have Hlt6 := Lib.hid hlt6
     clear hN6 hgN hbx6 hN7 hX6 hrg6 hg6 hs6 hMx hlx hbx hbx2
     go_wp2_with (fail)
     refine Hcp.out.mono ?_
     rintro e w11 ⟨rfl, hs11, hg11⟩
     have HX11 := Lib.hid (Hst.out w11 hs11)
     have HR11 := Lib.hid (HR6.out.kept hg11 (by intro e; injection e with e; omega) (by intro e; injection e with e; omega))
     have Hb11 := Lib.hid (Hb6.out.trans (belowAt hg11 (B := nx) (fun j e => by injection e with e; omega) (by have := Hb6.out.size; have := hnx.out; omega)))
     have Hlt : Hid (w11.rangeLeft sb it < U5.rangeLeft sb it) := Lib.hid (by rw [HR11.out.left_eq, Hl.out]; exact Hlt6.out)
     have hnd2 : nd + (n6 + 1) + cnt6 * 200000000 ≤ 60 * 200000000 := by have := Hlt6.out; omega
     clear hs11 hg11 hc2 hc2l
     go_wp2_with (fail)
     exact ⟨⟨_, cnt6, nd + (n6 + 1), HR11, HX11, hnd2, Hb11.out⟩, Hlt.out⟩
  ·have hie : i = L := by omega
   have hiI : ¬ (i : Int) < (L : Int) := by omega
   have Hfin : Hid (Q (.returned (.slice (some ⟨base, 0, none⟩) L L)) U) := Lib.hid (by
    rw [← HQ.out]
    have ho := HO.out
    have hbw9 : w.heap.size ≤ base := by rw [← hbase.out]; exact Hb8.out.size
    rw [hie, Nat.sub_self, List.replicate_zero, List.append_nil] at ho
    refine ⟨some ⟨base, 0, none⟩, L, dn, rfl, by rw [hdl.out, hie], ⟨own_mono (by rw [hdl.out, hie]; exact ho) hbw9, fun d hd => own_mono (HD.out d hd) hbw9⟩, hdn.out, Hb8.out.trans (hbr8.mono Hb8.out.size)⟩)
   clear hie hbr8 hbr
   go_wp2_with (fail)
   first | exact Hfin.out | exact bodyPost_ret (v := .slice (some ⟨base, 0, none⟩) L L) (by simp [results, Try.results21, go_sem]; try first | rfl | assumption | omega) rfl Hfin.out
end Go.Proofs.Ytldmgifphkpdlaa
namespace Go.Proofs.Ytldmgifphkpdlaa
open Go.RowKit Go.Maps
attribute [local go_sem] Oper.semAt_some
/-- A grammar, and what follows each of its rules. -/
abbrev guV (d : CfD) (fa : Option Addr) (fc : Nat) : Value := .agg #[.slice d.ta d.toks.length d.tc, .slice d.na d.names.length d.nc, .slice d.aa d.alts.length d.ac, .slice fa d.alts.length fc]
structure FolAt (W : World) (d : CfD) (fa : Option Addr) (fc : Nat) (fs : List IltD) : Prop where
 len : fs.length = d.alts.length
 at_ : AltsI W fa fc fs
 ris : ∀ r (h : r < fs.length), Ris fs[r].l (FolP (d.alts.map IrD.p) (nulB (d.alts.map IrD.p)) d.toks.length r)
theorem FolAt.grown {W W' : World} {d : CfD} {fa : Option Addr} {fc : Nat} {fs : List IltD} (h : FolAt W d fa fc fs) (hb : Below W.heap.size W W') : FolAt W' d fa fc fs := ⟨h.len, h.at_.grown hb, h.ris⟩
def GuQ (w : World) (d : CfD) (e : Ending) (W' : World) : Prop := ∃ fa fc fs, e = .returned (guV d fa fc) ∧ FolAt W' d fa fc fs ∧ Below w.heap.size w W'
/-- All that a row of lists holds lies from a block on. -/
def FrA (X : Nat) (a : Option Addr) (ds : List IltD) : Prop := (∀ b off, a = some ⟨b, off, none⟩ → X ≤ b) ∧ ∀ d ∈ ds, ∀ b off, d.a = some ⟨b, off, none⟩ → X ≤ b
theorem alts_far {W : World} {a : Option Addr} {c : Nat} {ds : List IltD} {X : Nat} (h : AltsI W a c ds) (hf : FrA X a ds) (g j : Nat) (v : Value) (hg : g < X) : AltsI (W.setCell ⟨g, j, none⟩ v) a c ds :=
 ⟨vs_ne h.row ⟨g, j, none⟩ v (fun b off e => by have := hf.1 b off e; show g ≠ b; omega), fun d hd => vs_ne (h.nms d hd) ⟨g, j, none⟩ v (fun b off e => by have := hf.2 d hd b off e; show g ≠ b; omega)⟩
theorem fr_own {W : World} {base e n c : Nat} {a : Option Addr} {xs : List Value} (h : W.ownsRow base e 1 (.slice a n c) n xs) : ∀ b off, a = some ⟨b, off, none⟩ → base ≤ b := by
 intro b off e
 subst e
 rcases h.2 with ⟨e1, _⟩ | ⟨g, cp, cur, e1, hb, _⟩
 ·cases e1
 ·injection e1 with e1
  injection e1 with e1
  injection e1 with e1
  omega
theorem OwnXI.fr {W : World} {base c : Nat} {a : Option Addr} {ds : List IltD} (h : OwnXI W base a c ds) : FrA base a ds := ⟨fr_own h.out, fun d hd => fr_own (h.ins d hd)⟩
set_option maxRecDepth 100000 in
set_option maxHeartbeats 16000000 in
theorem newGuide_any (d : CfD) (w : World) (hd : CfAt w d) (hf : FitC d) :
 Calls Try.prog 72 #[d.v] w (GuQ w d) := by
 have Hfol := Lib.hid (fun W (hb : Below w.heap.size w W) => sFollow2_any d W (hd.grown hb) hf)
 obtain ⟨FO, hFO⟩ : ∃ FO : Nat → Int → Prop, Hid ((fun r => FolP (d.alts.map IrD.p) (nulB (d.alts.map IrD.p)) d.toks.length r) = FO) := ⟨_, Lib.hid rfl⟩
 rw [hFO.out] at Hfol
 obtain ⟨Q, hQ⟩ : ∃ Q : Ending → World → Prop, Hid (GuQ w d = Q) := ⟨_, Lib.hid rfl⟩
 rw [hQ.out]
 have HQ : Hid (∀ fa fc fs W', fs.length = d.alts.length → AltsI W' fa fc fs → (∀ r (h : r < fs.length), Ris fs[r].l (FO r)) → Below w.heap.size w W' → Q (.returned (guV d fa fc)) W') := Lib.hid (fun fa fc fs W' h1 h2 h3 h4 => by
  rw [← hQ.out]
  refine ⟨fa, fc, fs, rfl, ⟨h1, h2, fun r h => ?_⟩, h4⟩
  have := h3 r h
  rw [← hFO.out] at this
  exact this)
 clear hQ hFO
 obtain ⟨xt, xta, xtc, xn, xna, xnc, xa, xaa, xac⟩ := d
 dsimp only [CfD.v, guV] at *
 have hb0 : Below w.heap.size w (w.alloc (.cells #[.slice xta xt.length xtc, .slice xna xn.length xnc, .slice xaa xa.length xac] 25)) := (Below.refl _ w).alloc (Nat.le_refl _) _
 have hb1 : Below w.heap.size w ((w.alloc (.cells #[.slice xta xt.length xtc, .slice xna xn.length xnc, .slice xaa xa.length xac] 25)).alloc (.cells #[.slice none 0 0, .slice none 0 0, .slice none 0 0, .slice none 0 0] 95)) := hb0.alloc hb0.size _
 have hA := (Blk.new w 25 #[.slice xta xt.length xtc, .slice xna xn.length xnc, .slice xaa xa.length xac]).alloc (.cells #[.slice none 0 0, .slice none 0 0, .slice none 0 0, .slice none 0 0] 95)
 have hR := Blk.new (w.alloc (.cells #[.slice xta xt.length xtc, .slice xna xn.length xnc, .slice xaa xa.length xac] 25)) 95 #[.slice none 0 0, .slice none 0 0, .slice none 0 0, .slice none 0 0]
 rw [show (w.alloc (.cells #[.slice xta xt.length xtc, .slice xna xn.length xnc, .slice xaa xa.length xac] 25)).heap.size = w.heap.size + 1 by simp] at hR
 obtain ⟨T, HT⟩ : ∃ q, Hid (xt.length = q) := ⟨_, Lib.hid rfl⟩
 obtain ⟨N, HN⟩ : ∃ q, Hid (xn.length = q) := ⟨_, Lib.hid rfl⟩
 obtain ⟨L, HL⟩ : ∃ q, Hid (xa.length = q) := ⟨_, Lib.hid rfl⟩
 rw [HT.out, HN.out, HL.out] at hA hR hb1 Hfol HQ
 rw [HT.out, HN.out, HL.out]
 obtain ⟨base, hbase⟩ : ∃ q, Hid (w.heap.size = q) := ⟨_, Lib.hid rfl⟩
 have hbW2 : w.heap.size ≤ base := by rw [hbase.out]; exact Nat.le_refl _
 obtain ⟨rb, hrb⟩ : ∃ q, Hid (base + 1 = q) := ⟨_, Lib.hid rfl⟩
 rw [hbase.out] at hA hR
 rw [hrb.out] at hR
 have hrbb : base < rb := by rw [← hrb.out]; exact Nat.lt_succ_self _
 clear hd hf hb0
 go_enter Try.func72, Try.ntmps72
 go_wp2_with (fail)
 rw [hbase.out, hrb.out]
 generalize hV : World.alloc (World.alloc w _) _ = V at hA hR hb1 ⊢
 clear hV
 have HS0 : Hid (V.drew.cell? ⟨base, 0, none⟩ = some (.slice xta T xtc) ∧ V.drew.cell? ⟨base, 1, none⟩ = some (.slice xna N xnc) ∧ V.drew.cell? ⟨base, 2, none⟩ = some (.slice xaa L xac)) := Lib.hid ⟨hA.cell 0, hA.cell 1, hA.cell 2⟩
 have HA := Lib.hid (show Blk V.drew base 25 [.slice xta T xtc, .slice xna N xnc, .slice xaa L xac] from hA)
 have HR := Lib.hid (show Blk V.drew rb 95 [.slice none 0 0, .slice none 0 0, .slice none 0 0, .slice none 0 0] from hR)
 have Hb1 := Lib.hid hb1.drew
 have Hc := Lib.hid (Hfol.out V.drew Hb1.out)
 clear hA hR hb1
 refine wp_region_held_drew (S := fun w' => w'.cell? ⟨base, 0, none⟩ = some (.slice xta T xtc) ∧ w'.cell? ⟨base, 1, none⟩ = some (.slice xna N xnc) ∧ w'.cell? ⟨base, 2, none⟩ = some (.slice xaa L xac)) (by kernel_rfl) ?_ (fun hHeld => ?_)
 ·exact HS0.out
 refine wpAnyH_take (i := 0) (v := ?_) (iatLS iatZS) (by kernel_rfl) (by kernel_rfl) (by kernel_rfl) (fun _ _ _ h => h) (Or.inl ⟨by rfl, ?_⟩) (by assumption) ?_
 rotate_left
 ·intro w hSw
  try dsimp only at hSw
  go_simp
  all_goals with_reducible rfl
 try simp only [Act.put, List.setIfInBounds_toArray, List.set_cons_zero, List.set_cons_succ]
 refine wpAnyH_take (i := 1) (v := ?_) (iatLS (iatSS iatZS)) (by kernel_rfl) (by kernel_rfl) (by kernel_rfl) (fun _ _ _ h => h) (Or.inl ⟨by rfl, ?_⟩) (by assumption) ?_
 rotate_left
 ·intro w hSw
  try dsimp only at hSw
  go_simp
  all_goals with_reducible rfl
 try simp only [Act.put, List.setIfInBounds_toArray, List.set_cons_zero, List.set_cons_succ]
 refine wpAnyH_ready (rs := [2]) (by kernel_rfl) (by simp) ?_
 refine AllReadyH.cons (iatLS (iatSS (iatSS iatZS))) (fun K hK => ?_) AllReadyH.nil
 go_simp
 (with_reducible refine Hc.out.mono ?_)
 rintro e2 V2 ⟨fa, fc, fs, rfl, hfl, hfo, hfr, hb2⟩
 have hfa := hfo.alts
 have Hfrs := Lib.hid hfo.fr
 have hrbX : rb < V.drew.heap.size := HR.out.lt
 clear hfo
 have HA2 := Lib.hid (HA.out.below hb2 HA.out.lt)
 have HR2 := HR.out.below hb2 HR.out.lt
 have HS2 : Hid (V2.cell? ⟨base, 0, none⟩ = some (.slice xta T xtc) ∧ V2.cell? ⟨base, 1, none⟩ = some (.slice xna N xnc) ∧ V2.cell? ⟨base, 2, none⟩ = some (.slice xaa L xac)) := Lib.hid ⟨HA2.out.cell 0, HA2.out.cell 1, HA2.out.cell 2⟩
 have Hb2 := Lib.hid (Hb1.out.trans (hb2.mono Hb1.out.size))
 have Hfl := Lib.hid hfl
 have Hfr := Lib.hid hfr
 have Hfa := Lib.hid hfa
 have Hbf := Lib.hid hb2
 have y0 := HR2.cell 0
 have y1 := HR2.cell 1
 have y2 := HR2.cell 2
 have y3 := HR2.cell 3
 have yl := HR2.lt
 have yf0 : V2.frozen? ⟨rb, 0, none⟩ = false := HR2.frozen 0
 have yf1 : V2.frozen? ⟨rb, 1, none⟩ = false := HR2.frozen 1
 have yf2 : V2.frozen? ⟨rb, 2, none⟩ = false := HR2.frozen 2
 have yf3 : V2.frozen? ⟨rb, 3, none⟩ = false := HR2.frozen 3
 simp only [List.getElem?_cons_zero, List.getElem?_cons_succ] at y0 y1 y2 y3
 clear hb2 hfl hfr hfa
 try dsimp only
 refine hK.out _ _ ?_ (fun hHeld => ?_)
 ·exact HS2.out
 clear hK K
 try simp only [Act.put, List.setIfInBounds_toArray, List.set_cons_zero, List.set_cons_succ]
 refine wpAnyH_take (i := 3) (v := ?_) (iatLS (iatSS (iatSS (iatSS iatZS)))) (by kernel_rfl) (by kernel_rfl) (by kernel_rfl) (fun _ _ _ h => h) (Or.inl ⟨by rfl, ?_⟩) (by assumption) ?_
 rotate_left
 ·intro w hSw
  try dsimp only at hSw
  go_simp
  all_goals with_reducible rfl
 try simp only [Act.put, List.setIfInBounds_toArray, List.set_cons_zero, List.set_cons_succ]
 refine wpAnyH_ready (rs := [4]) (by kernel_rfl) (by simp) ?_
 refine AllReadyH.cons (iatLS (iatSS (iatSS (iatSS (iatSS iatZS))))) (fun K hK => ?_) AllReadyH.nil
 go_simp
 have HR3 : Hid (Blk ((((V2.setCell ⟨rb, 0, none⟩ (.slice xta T xtc)).setCell ⟨rb, 1, none⟩ (.slice xna N xnc)).setCell ⟨rb, 2, none⟩ (.slice xaa L xac)).setCell ⟨rb, 3, none⟩ (.slice fa L fc)) rb 95 [.slice xta T xtc, .slice xna N xnc, .slice xaa L xac, .slice fa L fc]) := Lib.hid ((((HR2.set 0 (.slice xta T xtc)).set 1 (.slice xna N xnc)).set 2 (.slice xaa L xac)).set 3 (.slice fa L fc))
 have HA3 : Hid (Blk ((((V2.setCell ⟨rb, 0, none⟩ (.slice xta T xtc)).setCell ⟨rb, 1, none⟩ (.slice xna N xnc)).setCell ⟨rb, 2, none⟩ (.slice xaa L xac)).setCell ⟨rb, 3, none⟩ (.slice fa L fc)) base 25 [.slice xta T xtc, .slice xna N xnc, .slice xaa L xac]) := Lib.hid ((((HA2.out.setOther (by omega) _).setOther (by omega) _).setOther (by omega) _).setOther (by omega) _)
 have Hb3 : Hid (Below w.heap.size w ((((V2.setCell ⟨rb, 0, none⟩ (.slice xta T xtc)).setCell ⟨rb, 1, none⟩ (.slice xna N xnc)).setCell ⟨rb, 2, none⟩ (.slice xaa L xac)).setCell ⟨rb, 3, none⟩ (.slice fa L fc))) := Lib.hid ((((Hb2.out.setCell (p := ⟨rb, 0, none⟩) (by dsimp only; omega) _).setCell (p := ⟨rb, 1, none⟩) (by dsimp only; omega) _).setCell (p := ⟨rb, 2, none⟩) (by dsimp only; omega) _).setCell (p := ⟨rb, 3, none⟩) (by dsimp only; omega) _)
 have Hfa3 : Hid (AltsI ((((V2.setCell ⟨rb, 0, none⟩ (.slice xta T xtc)).setCell ⟨rb, 1, none⟩ (.slice xna N xnc)).setCell ⟨rb, 2, none⟩ (.slice xaa L xac)).setCell ⟨rb, 3, none⟩ (.slice fa L fc)) fa fc fs) := Lib.hid (alts_far (alts_far (alts_far (alts_far Hfa.out Hfrs.out rb 0 _ hrbX) Hfrs.out rb 1 _ hrbX) Hfrs.out rb 2 _ hrbX) Hfrs.out rb 3 _ hrbX)
 clear HA2 HR2 Hb2 Hfa y0 y1 y2 y3 yl yf0 yf1 yf2 yf3
 generalize hV3 : World.setCell (World.setCell (World.setCell (World.setCell V2 _ _) _ _) _ _) _ _ = V3 at HR3 HA3 Hfa3 Hb3 ⊢
 clear hV3
 refine hK.out _ _ ?_ (fun hHeld => ?_)
 ·exact ⟨HA3.out.cell 0, HA3.out.cell 1, HA3.out.cell 2⟩
 clear hK K
 try simp only [Act.put, List.setIfInBounds_toArray, List.set_cons_zero, List.set_cons_succ]
 refine wpAnyH_done (by kernel_rfl) ?_ _
 have y0 := HR3.out.cell 0
 have y1 := HR3.out.cell 1
 have y2 := HR3.out.cell 2
 have y3 := HR3.out.cell 3
 have yl := HR3.out.lt
 simp only [List.getElem?_cons_zero, List.getElem?_cons_succ] at y0 y1 y2 y3
 have Hfin := Lib.hid (HQ.out fa fc fs V3 (Hfl.out) Hfa3.out Hfr.out Hb3.out)
 go_wp2_with (fail)
 refine bodyPost_ret (v := .agg #[.slice xta T xtc, .slice xna N xnc, .slice xaa L xac, .slice fa L fc]) (by simp [results, Try.results72, go_sem, y0, y1, y2, y3]; try first | rfl | assumption | omega) rfl Hfin.out
end Go.Proofs.Ytldmgifphkpdlaa
