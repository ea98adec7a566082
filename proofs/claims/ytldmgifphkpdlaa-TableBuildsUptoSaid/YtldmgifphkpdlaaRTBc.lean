/- The row TableBuilds in its second form: for every grammar by numbers whose reading is of bulk at most 1048576: the law answers true and changes nothing that was there. -/
/- The row TablePredicts in its second form: for every grammar by numbers and two numbers whose reading is of bulk at most 1048576: the law answers true and changes nothing that was there. -/
/- Texts joined: Qs Kk PTp PTb. -/
import Derived.Test.YtldmgifphkpdlaaRTBb
import Derived.Test.YtldmgifphkpdlaaRTAi
import Derived.Test.YtldmgifphkpdlaaRTAa
set_option linter.unusedVariables false
set_option linter.unusedSimpArgs false
namespace Go.Proofs.Ytldmgifphkpdlaa
open Go.RowKit Go.Maps
attribute [local go_sem] Oper.semAt_some
set_option maxRecDepth 100000 in
set_option maxHeartbeats 16000000 in
theorem lawPredicts_any (d : CfD) (x y : Int) (w : World) (hd : CfAt w d) (h1 : ∀ t ∈ d.toks, t.size ≤ maxLen) (h2 : ∀ t ∈ d.names, t.size ≤ maxLen) (h3 : ∀ r ∈ d.alts, ∀ a ∈ r.ds, ∀ x ∈ a.l, -9223372036854775808 ≤ x ∧ x ≤ 9223372036854775807) (hs : d.toks.length + d.names.length + szC (d.alts.map IrD.p) ≤ 1000000000000) (hx : -9223372036854775808 ≤ x ∧ x ≤ 9223372036854775807) (hy : -9223372036854775808 ≤ y ∧ y ≤ 9223372036854775807) :
 Calls Try.prog 5 #[d.v, .int .i64 x, .int .i64 y] w fun e w' => e = .returned (.bool true) ∧ Below w.heap.size w w' := by
 have HF := Lib.hid (fun W (hb : Below w.heap.size w W) => few10_any d W (hd.grown hb) h1 h2 h3 hs)
 have Hsp := Lib.hid (fun (hf : FitC d) W (hb : Below w.heap.size w W) => predict_any d x y W (hd.grown hb) hf hx hy)
 have Hrp := Lib.hid (fun (hf : FitC d) W (hb : Below w.heap.size w W) => refPredict_any d x y W (hd.grown hb) hf hx hy)
 have Hfit : Hid (few10 d = true → FitC d) := Lib.hid few10_fit
 obtain ⟨B, hB⟩ : ∃ q, Hid (few10 d = q) := ⟨_, Lib.hid rfl⟩
 rw [hB.out] at HF Hfit
 obtain ⟨xt, xta, xtc, xn, xna, xnc, xa, xaa, xac⟩ := d
 dsimp only [CfD.v] at *
 have hb1 : Below w.heap.size w (w.alloc (.cells #[.slice xta xt.length xtc, .slice xna xn.length xnc, .slice xaa xa.length xac] 25)) := (Below.refl _ w).alloc (Nat.le_refl _) _
 have hA := Blk.new w 25 #[.slice xta xt.length xtc, .slice xna xn.length xnc, .slice xaa xa.length xac]
 obtain ⟨T, HT⟩ : ∃ q, Hid (xt.length = q) := ⟨_, Lib.hid rfl⟩
 obtain ⟨N, HN⟩ : ∃ q, Hid (xn.length = q) := ⟨_, Lib.hid rfl⟩
 obtain ⟨L, HL⟩ : ∃ q, Hid (xa.length = q) := ⟨_, Lib.hid rfl⟩
 rw [HT.out, HN.out, HL.out] at hA hb1 HF ⊢
 rw [HT.out, HN.out, HL.out] at Hsp
 rw [HT.out, HN.out, HL.out] at Hrp
 obtain ⟨Fit, hFit⟩ : ∃ v, Hid (FitC ⟨xt, xta, xtc, xn, xna, xnc, xa, xaa, xac⟩ = v) := ⟨_, Lib.hid rfl⟩
 rw [hFit.out] at Hfit Hsp Hrp
 have HF' : Hid (∀ W, Below w.heap.size w W → Calls Try.prog 30 #[.agg #[.slice xta T xtc, .slice xna N xnc, .slice xaa L xac]] W fun e w' => e = .returned (.bool B) ∧ Below W.heap.size W w') := HF
 have x0 := hA.cell 0
 have x1 := hA.cell 1
 have x2 := hA.cell 2
 have xl := hA.lt
 simp only [List.getElem?_cons_zero, List.getElem?_cons_succ] at x0 x1 x2
 have HA := Lib.hid hA
 have Hb1 := Lib.hid hb1
 clear hA hb1 h1 h2 h3 hs HF hd hx hy
 go_enter Try.func5, Try.ntmps5
 go_wp2_with (fail)
 obtain ⟨bx, hbx⟩ : ∃ q, Hid (w.heap.size = q) := ⟨_, Lib.hid rfl⟩
 rw [hbx.out] at HA xl x0 x1 x2 ⊢
 generalize hV : World.alloc w _ = V1 at HA x0 x1 x2 xl Hb1 ⊢
 clear hV
 refine (live10_any V1).mono ?_
 rintro e w2 ⟨rfl, hb⟩
 have HA2 := Lib.hid (HA.out.below hb HA.out.lt)
 have Hb2 := Lib.hid (Hb1.out.trans (hb.mono Hb1.out.size))
 clear x0 x1 x2 xl hb
 have x0 := HA2.out.cell 0
 have x1 := HA2.out.cell 1
 have x2 := HA2.out.cell 2
 have xl := HA2.out.lt
 simp only [List.getElem?_cons_zero, List.getElem?_cons_succ] at x0 x1 x2
 go_wp2_with (fail)
 refine (HF'.out w2 Hb2.out).mono ?_
 rintro e w3 ⟨rfl, hb⟩
 have HA3 := Lib.hid (HA2.out.below hb HA2.out.lt)
 have Hb3 := Lib.hid (Hb2.out.trans (hb.mono Hb2.out.size))
 clear x0 x1 x2 xl hb HF'
 cases B
 ·go_wp2_with (fail)
  exact bodyPost_ret (v := .bool true) (by simp [results, Try.results5, go_sem]; try first | rfl | assumption | omega) rfl ⟨rfl, Hb3.out⟩
 have hfit := Hfit.out rfl
 have Hsp2 := Lib.hid (Hsp.out hfit)
 have Hrp2 := Lib.hid (Hrp.out hfit)
 clear Hsp Hrp Hfit hfit
 have hd3 := (Below.refl w3.heap.size w3).drew
 go_wp2_with (fail)
 have HA3b := Lib.hid (HA3.out.below hd3 HA3.out.lt)
 have Hb3b := Lib.hid (Hb3.out.trans (hd3.mono Hb3.out.size))
 clear HA3 Hb3 hd3
 have HA3 := HA3b
 have Hb3 := Hb3b
 clear HA3b Hb3b
 have HS3 : Hid (w3.drew.cell? ⟨bx, 0, none⟩ = some (.slice xta T xtc) ∧ w3.drew.cell? ⟨bx, 1, none⟩ = some (.slice xna N xnc) ∧ w3.drew.cell? ⟨bx, 2, none⟩ = some (.slice xaa L xac)) := Lib.hid ⟨HA3.out.cell 0, HA3.out.cell 1, HA3.out.cell 2⟩
 refine wp_region_held_drew (S := fun w' => w'.cell? ⟨bx, 0, none⟩ = some (.slice xta T xtc) ∧ w'.cell? ⟨bx, 1, none⟩ = some (.slice xna N xnc) ∧ w'.cell? ⟨bx, 2, none⟩ = some (.slice xaa L xac)) (by kernel_rfl) ?_ (fun hHeld => ?_)
 ·exact HS3.out
 refine wpAnyH_take (i := 0) (v := ?_) (iatLS iatZS) (by kernel_rfl) (by kernel_rfl) (by kernel_rfl) (fun _ _ _ h => h) (Or.inl ⟨by rfl, ?_⟩) (by assumption) ?_
 rotate_left
 ·intro w hSw
  try dsimp only at hSw
  go_simp
  all_goals with_reducible rfl
 try simp only [Act.put, List.setIfInBounds_toArray, List.set_cons_zero, List.set_cons_succ]
 refine wpAnyH_take (i := 1) (v := ?_) (iatLS (iatSS iatZS)) (by kernel_rfl) (by kernel_rfl) (by kernel_rfl) (fun _ _ _ h => h) (Or.inl ⟨by rfl, ?_⟩) (by assumption) ?_
 rotate_left
 ·intro w hSw
  try dsimp only at hSw
  go_simp
  all_goals with_reducible rfl
 try simp only [Act.put, List.setIfInBounds_toArray, List.set_cons_zero, List.set_cons_succ]
 refine wpAnyH_take (i := 2) (v := ?_) (iatLS (iatSS (iatSS iatZS))) (by kernel_rfl) (by kernel_rfl) (by kernel_rfl) (fun _ _ _ h => h) (Or.inl ⟨by rfl, ?_⟩) (by assumption) ?_
 rotate_left
 ·intro w hSw
  try dsimp only at hSw
  go_simp
  all_goals with_reducible rfl
 try simp only [Act.put, List.setIfInBounds_toArray, List.set_cons_zero, List.set_cons_succ]
 refine wpAnyH_take (i := 3) (v := ?_) (iatLS (iatSS (iatSS (iatSS iatZS)))) (by kernel_rfl) (by kernel_rfl) (by kernel_rfl) (fun _ _ _ h => h) (Or.inl ⟨by rfl, ?_⟩) (by assumption) ?_
 rotate_left
 ·intro w hSw
  try dsimp only at hSw
  go_simp
  all_goals with_reducible rfl
 try simp only [Act.put, List.setIfInBounds_toArray, List.set_cons_zero, List.set_cons_succ]
 refine wpAnyH_take (i := 4) (v := ?_) (iatLS (iatSS (iatSS (iatSS (iatSS iatZS))))) (by kernel_rfl) (by kernel_rfl) (by kernel_rfl) (fun _ _ _ h => h) (Or.inl ⟨by rfl, ?_⟩) (by assumption) ?_
 rotate_left
 ·intro w hSw
  try dsimp only at hSw
  go_simp
  all_goals with_reducible rfl
 try simp only [Act.put, List.setIfInBounds_toArray, List.set_cons_zero, List.set_cons_succ]
 refine wpAnyH_take (i := 6) (v := ?_) (iatLS (iatSS (iatSS (iatSS (iatSS (iatSS (iatSS iatZS))))))) (by kernel_rfl) (by kernel_rfl) (by kernel_rfl) (fun _ _ _ h => h) (Or.inl ⟨by rfl, ?_⟩) (by assumption) ?_
 rotate_left
 ·intro w hSw
  try dsimp only at hSw
  go_simp
  all_goals with_reducible rfl
 try simp only [Act.put, List.setIfInBounds_toArray, List.set_cons_zero, List.set_cons_succ]
 refine wpAnyH_take (i := 7) (v := ?_) (iatLS (iatSS (iatSS (iatSS (iatSS (iatSS (iatSS (iatSS iatZS)))))))) (by kernel_rfl) (by kernel_rfl) (by kernel_rfl) (fun _ _ _ h => h) (Or.inl ⟨by rfl, ?_⟩) (by assumption) ?_
 rotate_left
 ·intro w hSw
  try dsimp only at hSw
  go_simp
  all_goals with_reducible rfl
 try simp only [Act.put, List.setIfInBounds_toArray, List.set_cons_zero, List.set_cons_succ]
 refine wpAnyH_take (i := 8) (v := ?_) (iatLS (iatSS (iatSS (iatSS (iatSS (iatSS (iatSS (iatSS (iatSS iatZS))))))))) (by kernel_rfl) (by kernel_rfl) (by kernel_rfl) (fun _ _ _ h => h) (Or.inl ⟨by rfl, ?_⟩) (by assumption) ?_
 rotate_left
 ·intro w hSw
  try dsimp only at hSw
  go_simp
  all_goals with_reducible rfl
 try simp only [Act.put, List.setIfInBounds_toArray, List.set_cons_zero, List.set_cons_succ]
 refine wpAnyH_ready (rs := [5]) (by kernel_rfl) (by simp) ?_
 refine AllReadyH.cons (iatLS (iatSS (iatSS (iatSS (iatSS (iatSS iatZS)))))) (fun K hK => ?_) AllReadyH.nil
 go_simp
 (with_reducible refine (Hsp2.out _ Hb3.out).mono ?_)
 rintro e8 W4 ⟨pa, pc, pl, rfl, hpr, hpo, hb⟩
 have HA4 := Lib.hid (HA3.out.below hb HA3.out.lt)
 have Hb4 := Lib.hid (Hb3.out.trans (hb.mono Hb3.out.size))
 have HR := Lib.hid hpr
 have HO := Lib.hid (OwnKZ.vs hpo)
 have HS4 : Hid (W4.cell? ⟨bx, 0, none⟩ = some (.slice xta T xtc) ∧ W4.cell? ⟨bx, 1, none⟩ = some (.slice xna N xnc) ∧ W4.cell? ⟨bx, 2, none⟩ = some (.slice xaa L xac)) := Lib.hid ⟨HA4.out.cell 0, HA4.out.cell 1, HA4.out.cell 2⟩
 clear hb hpr hpo
 try dsimp only
 refine hK.out _ _ ?_ (fun hHeld => ?_)
 ·exact HS4.out
 clear hK K
 try simp only [Act.put, List.setIfInBounds_toArray, List.set_cons_zero, List.set_cons_succ]
 refine wpAnyH_ready (rs := [9]) (by kernel_rfl) (by simp) ?_
 refine AllReadyH.cons (iatLS (iatSS (iatSS (iatSS (iatSS (iatSS (iatSS (iatSS (iatSS (iatSS iatZS)))))))))) (fun K hK => ?_) AllReadyH.nil
 go_simp
 (with_reducible refine (Hrp2.out _ Hb4.out).mono ?_)
 rintro e8 W5 ⟨qa, qc, ql, rfl, hqr, hqi, _, hb⟩
 have HA5 := Lib.hid (HA4.out.below hb HA4.out.lt)
 have Hb5 := Lib.hid (Hb4.out.trans (hb.mono Hb4.out.size))
 have hxe : pl = ql := HR.out.same hqr (fun _ => Iff.rfl)
 have Hs := Lib.hid (sameInts8_any pa qa pc qc pl ql W5 (HO.out.grown hb) hqi)
 rw [decide_eq_true hxe] at Hs
 have HS5 : Hid (W5.cell? ⟨bx, 0, none⟩ = some (.slice xta T xtc) ∧ W5.cell? ⟨bx, 1, none⟩ = some (.slice xna N xnc) ∧ W5.cell? ⟨bx, 2, none⟩ = some (.slice xaa L xac)) := Lib.hid ⟨HA5.out.cell 0, HA5.out.cell 1, HA5.out.cell 2⟩
 clear hb hqr hqi hxe HR HO
 try dsimp only
 refine hK.out _ _ ?_ (fun hHeld => ?_)
 ·exact HS5.out
 clear hK K
 try simp only [Act.put, List.setIfInBounds_toArray, List.set_cons_zero, List.set_cons_succ]
 refine wpAnyH_ready (rs := [10]) (by kernel_rfl) (by simp) ?_
 refine AllReadyH.cons (iatLS (iatSS (iatSS (iatSS (iatSS (iatSS (iatSS (iatSS (iatSS (iatSS (iatSS iatZS))))))))))) (fun K hK => ?_) AllReadyH.nil
 go_simp
 (with_reducible refine Hs.out.mono ?_)
 rintro e8 W6 ⟨rfl, hb⟩
 have HA6 := Lib.hid (HA5.out.below hb HA5.out.lt)
 have Hb6 := Lib.hid (Hb5.out.trans (hb.mono Hb5.out.size))
 have HS6 : Hid (W6.cell? ⟨bx, 0, none⟩ = some (.slice xta T xtc) ∧ W6.cell? ⟨bx, 1, none⟩ = some (.slice xna N xnc) ∧ W6.cell? ⟨bx, 2, none⟩ = some (.slice xaa L xac)) := Lib.hid ⟨HA6.out.cell 0, HA6.out.cell 1, HA6.out.cell 2⟩
 clear hb Hs
 try dsimp only
 refine hK.out _ _ ?_ (fun hHeld => ?_)
 ·exact HS6.out
 clear hK K
 try simp only [Act.put, List.setIfInBounds_toArray, List.set_cons_zero, List.set_cons_succ]
 refine wpAnyH_take (i := 11) (v := ?_) (iatLS (iatSS (iatSS (iatSS (iatSS (iatSS (iatSS (iatSS (iatSS (iatSS (iatSS (iatSS iatZS)))))))))))) (by kernel_rfl) (by kernel_rfl) (by kernel_rfl) (fun _ _ _ h => h) (Or.inl ⟨by rfl, ?_⟩) (by assumption) ?_
 rotate_left
 ·intro w hSw
  try dsimp only at hSw
  go_simp
  all_goals with_reducible rfl
 try simp only [Act.put, List.setIfInBounds_toArray, List.set_cons_zero, List.set_cons_succ]
 refine wpAnyH_take (i := 12) (v := ?_) (iatLS (iatSS (iatSS (iatSS (iatSS (iatSS (iatSS (iatSS (iatSS (iatSS (iatSS (iatSS (iatSS iatZS))))))))))))) (by kernel_rfl) (by kernel_rfl) (by kernel_rfl) (fun _ _ _ h => h) (Or.inl ⟨by rfl, ?_⟩) (by assumption) ?_
 rotate_left
 ·intro w hSw
  try dsimp only at hSw
  go_simp
  all_goals with_reducible rfl
 try simp only [Act.put, List.setIfInBounds_toArray, List.set_cons_zero, List.set_cons_succ]
 refine wpAnyH_done (by kernel_rfl) ?_ _
 go_wp2_with (fail)
 exact bodyPost_ret (v := .bool true) (by simp [results, Try.results5, go_sem]; try first | rfl | assumption | omega) rfl ⟨rfl, Hb6.out⟩
theorem rows_are {rs : List IltD} {L : Nat} {F : Nat → List Int} (hl : rs.length = L) (h : ∀ r, r < L → rowL rs r = F r) : rs.map (fun x => x.l) = (List.range L).map F := by
 apply List.ext_getElem (by simp [hl])
 intro i h1 h2
 rw [List.length_map] at h1
 rw [List.getElem_map, List.getElem_map, List.getElem_range, ← h i (by omega), rowL_at h1]
set_option maxRecDepth 100000 in
set_option maxHeartbeats 16000000 in
theorem lawBuilds_any (d : CfD) (w : World) (hd : CfAt w d) (h1 : ∀ t ∈ d.toks, t.size ≤ maxLen) (h2 : ∀ t ∈ d.names, t.size ≤ maxLen) (h3 : ∀ r ∈ d.alts, ∀ a ∈ r.ds, ∀ x ∈ a.l, -9223372036854775808 ≤ x ∧ x ≤ 9223372036854775807) (hs : d.toks.length + d.names.length + szC (d.alts.map IrD.p) ≤ 1000000000000) :
 Calls Try.prog 6 #[d.v] w fun e w' => e = .returned (.bool true) ∧ Below w.heap.size w w' := by
 have HF := Lib.hid (fun W (hb : Below w.heap.size w W) => few10_any d W (hd.grown hb) h1 h2 h3 hs)
 have Hsb := Lib.hid (fun (hf : FitC d) W (hb : Below w.heap.size w W) => build_any d W (hd.grown hb) hf)
 have Hrb := Lib.hid (fun (hf : FitC d) W (hb : Below w.heap.size w W) => refBuild_any10 d W (hd.grown hb) hf)
 have Hsc := Lib.hid (fun (hf : FitC d) W (hb : Below w.heap.size w W) => clashes_any d W (hd.grown hb) hf)
 have Hrc := Lib.hid (fun (hf : FitC d) W (hb : Below w.heap.size w W) => refClashes_any d W (hd.grown hb) hf)
 have Hfit : Hid (few10 d = true → FitC d) := Lib.hid few10_fit
 obtain ⟨B, hB⟩ : ∃ q, Hid (few10 d = q) := ⟨_, Lib.hid rfl⟩
 rw [hB.out] at HF Hfit
 obtain ⟨xt, xta, xtc, xn, xna, xnc, xa, xaa, xac⟩ := d
 dsimp only [CfD.v] at *
 have hb1 : Below w.heap.size w (w.alloc (.cells #[.slice xta xt.length xtc, .slice xna xn.length xnc, .slice xaa xa.length xac] 25)) := (Below.refl _ w).alloc (Nat.le_refl _) _
 have hA := Blk.new w 25 #[.slice xta xt.length xtc, .slice xna xn.length xnc, .slice xaa xa.length xac]
 obtain ⟨al, hal9⟩ : ∃ q, Hid (xa.map IrD.p = q) := ⟨_, Lib.hid rfl⟩
 rw [hal9.out] at Hsb Hrb Hsc Hrc
 have hpl : al.length = xa.length := by rw [← hal9.out]; exact List.length_map _
 obtain ⟨f, hf9⟩ : ∃ v, Hid (nulB al = v) := ⟨_, Lib.hid rfl⟩
 rw [hf9.out] at Hsb Hrb Hsc Hrc
 obtain ⟨CL, hCL⟩ : ∃ v, Hid (allCl al f xt.length = v) := ⟨_, Lib.hid rfl⟩
 rw [hCL.out] at Hsc Hrc
 obtain ⟨T, HT⟩ : ∃ q, Hid (xt.length = q) := ⟨_, Lib.hid rfl⟩
 obtain ⟨N, HN⟩ : ∃ q, Hid (xn.length = q) := ⟨_, Lib.hid rfl⟩
 obtain ⟨L, HL⟩ : ∃ q, Hid (xa.length = q) := ⟨_, Lib.hid rfl⟩
 rw [HT.out, HN.out, HL.out] at hA hb1 HF ⊢
 rw [HT.out, HN.out, HL.out] at Hsb
 rw [HT.out, HN.out, HL.out] at Hrb
 rw [HN.out, HL.out] at Hsc
 rw [HT.out] at Hsc
 rw [HN.out, HL.out] at Hrc
 rw [HT.out] at Hrc
 rw [HT.out] at hCL
 rw [HL.out] at hpl
 have Hpl := Lib.hid hpl
 clear hpl
 obtain ⟨Fit, hFit⟩ : ∃ v, Hid (FitC ⟨xt, xta, xtc, xn, xna, xnc, xa, xaa, xac⟩ = v) := ⟨_, Lib.hid rfl⟩
 rw [hFit.out] at Hfit Hsb Hrb Hsc Hrc
 have HF' : Hid (∀ W, Below w.heap.size w W → Calls Try.prog 30 #[.agg #[.slice xta T xtc, .slice xna N xnc, .slice xaa L xac]] W fun e w' => e = .returned (.bool B) ∧ Below W.heap.size W w') := HF
 have x0 := hA.cell 0
 have x1 := hA.cell 1
 have x2 := hA.cell 2
 have xl := hA.lt
 simp only [List.getElem?_cons_zero, List.getElem?_cons_succ] at x0 x1 x2
 have HA := Lib.hid hA
 have Hb1 := Lib.hid hb1
 clear hA hb1 h1 h2 h3 hs HF hd
 go_enter Try.func6, Try.ntmps6
 go_wp2_with (fail)
 obtain ⟨bx, hbx⟩ : ∃ q, Hid (w.heap.size = q) := ⟨_, Lib.hid rfl⟩
 rw [hbx.out] at HA xl x0 x1 x2 ⊢
 generalize hV : World.alloc w _ = V1 at HA x0 x1 x2 xl Hb1 ⊢
 clear hV
 refine (live10_any V1).mono ?_
 rintro e w2 ⟨rfl, hb⟩
 have HA2 := Lib.hid (HA.out.below hb HA.out.lt)
 have Hb2 := Lib.hid (Hb1.out.trans (hb.mono Hb1.out.size))
 clear x0 x1 x2 xl hb
 have x0 := HA2.out.cell 0
 have x1 := HA2.out.cell 1
 have x2 := HA2.out.cell 2
 have xl := HA2.out.lt
 simp only [List.getElem?_cons_zero, List.getElem?_cons_succ] at x0 x1 x2
 go_wp2_with (fail)
 refine (HF'.out w2 Hb2.out).mono ?_
 rintro e w3 ⟨rfl, hb⟩
 have HA3 := Lib.hid (HA2.out.below hb HA2.out.lt)
 have Hb3 := Lib.hid (Hb2.out.trans (hb.mono Hb2.out.size))
 clear x0 x1 x2 xl hb HF'
 cases B
 ·go_wp2_with (fail)
  exact bodyPost_ret (v := .bool true) (by simp [results, Try.results6, go_sem]; try first | rfl | assumption | omega) rfl ⟨rfl, Hb3.out⟩
 have hfit := Hfit.out rfl
 have Hsb2 := Lib.hid (Hsb.out hfit)
 have Hrb2 := Lib.hid (Hrb.out hfit)
 have Hsc2 := Lib.hid (Hsc.out hfit)
 have Hrc2 := Lib.hid (Hrc.out hfit)
 clear Hsb Hrb Hsc Hrc Hfit hfit
 have x0 := HA3.out.cell 0
 have x1 := HA3.out.cell 1
 have x2 := HA3.out.cell 2
 have xl := HA3.out.lt
 simp only [List.getElem?_cons_zero, List.getElem?_cons_succ] at x0 x1 x2
 go_wp2_with (fail)
 refine (Hsb2.out w3 Hb3.out).mono ?_
 rintro e w4 hB4
 have hBx : ∃ t1 t2 rs, e = .returned (.tuple #[.slice t1 (List.length rs) t2, .int .i64 (if CL = [] then 0 else 100)]) ∧ AltsI w4 t1 t2 rs ∧ (rs.map (fun x => x.l) = if CL = [] then (List.range L).map (fun r => rowT (fun t j => takB al f T r (t : Int) j) (al.getD r []).length (T + 1)) else []) ∧ Below w3.heap.size w3 w4 := by
  rcases hB4 with ⟨h1, rfl, h2⟩ | ⟨h1, g, rs, rfl, h2, h3, h4⟩
  ·rw [hCL.out] at h1
   exact ⟨none, 0, [], by rw [if_neg h1]; rfl, ⟨Vs.nil _, fun x hx => by cases hx⟩, by rw [if_neg h1]; rfl, h2⟩
  ·rw [hCL.out] at h1
   rw [Hpl.out] at h2 h3
   refine ⟨some ⟨g, 0, none⟩, L, rs, by rw [if_pos h1, h2.len, Hpl.out], h2.alts, ?_, h4⟩
   rw [if_pos h1]
   exact rows_are h2.len h3
 obtain ⟨t1, t2, rs, rfl, hal4, hrs4, hb⟩ := hBx
 have HR4 := Lib.hid hrs4
 have HI4 := Lib.hid hal4
 have HA4 := Lib.hid (HA3.out.below hb HA3.out.lt)
 have Hb4 := Lib.hid (Hb3.out.trans (hb.mono Hb3.out.size))
 clear x0 x1 x2 xl hb hal4 hrs4 hB4
 have x0 := HA4.out.cell 0
 have x1 := HA4.out.cell 1
 have x2 := HA4.out.cell 2
 have xl := HA4.out.lt
 simp only [List.getElem?_cons_zero, List.getElem?_cons_succ] at x0 x1 x2
 have hm4 : rs.length ≤ t2 ∧ t2 ≤ 9223372036854775807 := ⟨by have := HI4.out.row.le; rwa [List.length_map] at this, HI4.out.row.max⟩
 obtain ⟨rn, hrn⟩ : ∃ q, Hid (rs.length = q) := ⟨_, Lib.hid rfl⟩
 obtain ⟨EE, hEE⟩ : ∃ q : Int, Hid ((if CL = [] then (0 : Int) else 100) = q) := ⟨_, Lib.hid rfl⟩
 rw [hEE.out]
 rw [hrn.out] at hm4 ⊢
 go_wp2_with (fail)
 refine (Hrb2.out w4 Hb4.out).mono ?_
 rintro e w5 hB5
 have hBx : ∃ u1 u2 qs, e = .returned (.tuple #[.slice u1 (List.length qs) u2, .int .i64 (if CL = [] then 0 else 100)]) ∧ AltsI w5 u1 u2 qs ∧ (qs.map (fun x => x.l) = if CL = [] then (List.range L).map (fun r => rowT (fun t j => takB al f T r (t : Int) j) (al.getD r []).length (T + 1)) else []) ∧ Below w4.heap.size w4 w5 := by
  rcases hB5 with ⟨h1, rfl, h2⟩ | ⟨h1, oa, oc, rs, rfl, h5, h2, h3, h4⟩
  ·rw [hCL.out] at h1
   exact ⟨none, 0, [], by rw [if_neg h1]; rfl, ⟨Vs.nil _, fun x hx => by cases hx⟩, by rw [if_neg h1]; rfl, h2⟩
  ·rw [hCL.out] at h1
   rw [Hpl.out] at h3 h5
   refine ⟨oa, oc, rs, by rw [if_pos h1], h2, ?_, h4⟩
   rw [if_pos h1]
   exact rows_are h5 h3
 obtain ⟨u1, u2, qs, rfl, hal5, hrs5, hb⟩ := hBx
 rw [hEE.out]
 have HI5 := Lib.hid (HI4.out.grown hb)
 have HJ5 := Lib.hid hal5
 have Hse : Hid (rs.map (fun x => x.l) = qs.map (fun x => x.l)) := Lib.hid (by rw [HR4.out, hrs5])
 have HA5 := Lib.hid (HA4.out.below hb HA4.out.lt)
 have Hb5 := Lib.hid (Hb4.out.trans (hb.mono Hb4.out.size))
 clear x0 x1 x2 xl hb hal5 hrs5 hB5 HR4
 have hm5 : qs.length ≤ u2 ∧ u2 ≤ 9223372036854775807 := ⟨by have := HJ5.out.row.le; rwa [List.length_map] at this, HJ5.out.row.max⟩
 obtain ⟨qn, hqn⟩ : ∃ q, Hid (qs.length = q) := ⟨_, Lib.hid rfl⟩
 rw [hqn.out] at hm5 ⊢
 have hd5 := (Below.refl w5.heap.size w5).drew
 go_wp2_with (fail)
 have HI5b := Lib.hid (HI5.out.grown hd5)
 have HJ5b := Lib.hid (HJ5.out.grown hd5)
 have HA5b := Lib.hid (HA5.out.below hd5 HA5.out.lt)
 have Hb5b := Lib.hid (Hb5.out.trans (hd5.mono Hb5.out.size))
 clear HA5 Hb5 hd5 HI5 HJ5
 have HA5 := HA5b
 have Hb5 := Hb5b
 have Hq5 := Lib.hid (Below.refl w5.drew.heap.size w5.drew)
 clear HA5b Hb5b
 have HS5 : Hid (w5.drew.cell? ⟨bx, 0, none⟩ = some (.slice xta T xtc) ∧ w5.drew.cell? ⟨bx, 1, none⟩ = some (.slice xna N xnc) ∧ w5.drew.cell? ⟨bx, 2, none⟩ = some (.slice xaa L xac)) := Lib.hid ⟨HA5.out.cell 0, HA5.out.cell 1, HA5.out.cell 2⟩
 refine wp_region_held_drew (S := fun w' => w'.cell? ⟨bx, 0, none⟩ = some (.slice xta T xtc) ∧ w'.cell? ⟨bx, 1, none⟩ = some (.slice xna N xnc) ∧ w'.cell? ⟨bx, 2, none⟩ = some (.slice xaa L xac)) (by kernel_rfl) ?_ (fun hHeld => ?_)
 ·exact HS5.out
 refine wpAnyH_take (i := 0) (v := ?_) (iatLS iatZS) (by kernel_rfl) (by kernel_rfl) (by kernel_rfl) (fun _ _ _ h => h) (Or.inl ⟨by rfl, ?_⟩) (by assumption) ?_
 rotate_left
 ·intro w hSw
  try dsimp only at hSw
  go_simp
  all_goals with_reducible rfl
 try simp only [Act.put, List.setIfInBounds_toArray, List.set_cons_zero, List.set_cons_succ]
 refine wpAnyH_take (i := 1) (v := ?_) (iatLS (iatSS iatZS)) (by kernel_rfl) (by kernel_rfl) (by kernel_rfl) (fun _ _ _ h => h) (Or.inl ⟨by rfl, ?_⟩) (by assumption) ?_
 rotate_left
 ·intro w hSw
  try dsimp only at hSw
  go_simp
  all_goals with_reducible rfl
 try simp only [Act.put, List.setIfInBounds_toArray, List.set_cons_zero, List.set_cons_succ]
 refine wpAnyH_take (i := 2) (v := ?_) (iatLS (iatSS (iatSS iatZS))) (by kernel_rfl) (by kernel_rfl) (by kernel_rfl) (fun _ _ _ h => h) (Or.inl ⟨by rfl, ?_⟩) (by assumption) ?_
 rotate_left
 ·intro w hSw
  try dsimp only at hSw
  go_simp
  all_goals with_reducible rfl
 try simp only [Act.put, List.setIfInBounds_toArray, List.set_cons_zero, List.set_cons_succ]
 refine wpAnyH_take (i := 4) (v := ?_) (iatLS (iatSS (iatSS (iatSS (iatSS iatZS))))) (by kernel_rfl) (by kernel_rfl) (by kernel_rfl) (fun _ _ _ h => h) (Or.inl ⟨by rfl, ?_⟩) (by assumption) ?_
 rotate_left
 ·intro w hSw
  try dsimp only at hSw
  go_simp
  all_goals with_reducible rfl
 try simp only [Act.put, List.setIfInBounds_toArray, List.set_cons_zero, List.set_cons_succ]
 refine wpAnyH_ready (rs := [3]) (by kernel_rfl) (by simp) ?_
 refine AllReadyH.cons (iatLS (iatSS (iatSS (iatSS iatZS)))) (fun K hK => ?_) AllReadyH.nil
 go_simp
 (with_reducible refine (Hsc2.out _ Hb5.out).mono ?_)
 rintro e8 W6 ⟨pa, pc, rfl, hcl, hb⟩
 have HA6 := Lib.hid (HA5.out.below hb HA5.out.lt)
 have Hb6 := Lib.hid (Hb5.out.trans (hb.mono Hb5.out.size))
 have Hq6 := Lib.hid (Hq5.out.trans (hb.mono Hq5.out.size))
 have HO := Lib.hid hcl
 have HS6 : Hid (W6.cell? ⟨bx, 0, none⟩ = some (.slice xta T xtc) ∧ W6.cell? ⟨bx, 1, none⟩ = some (.slice xna N xnc) ∧ W6.cell? ⟨bx, 2, none⟩ = some (.slice xaa L xac)) := Lib.hid ⟨HA6.out.cell 0, HA6.out.cell 1, HA6.out.cell 2⟩
 clear hb hcl
 try dsimp only
 refine hK.out _ _ ?_ (fun hHeld => ?_)
 ·exact HS6.out
 clear hK K
 try simp only [Act.put, List.setIfInBounds_toArray, List.set_cons_zero, List.set_cons_succ]
 refine wpAnyH_ready (rs := [5]) (by kernel_rfl) (by simp) ?_
 refine AllReadyH.cons (iatLS (iatSS (iatSS (iatSS (iatSS (iatSS iatZS)))))) (fun K hK => ?_) AllReadyH.nil
 go_simp
 (with_reducible refine (Hrc2.out _ Hb6.out).mono ?_)
 rintro e8 W7 ⟨qa, qc, rfl, hcl, hb⟩
 have HA7 := Lib.hid (HA6.out.below hb HA6.out.lt)
 have Hb7 := Lib.hid (Hb6.out.trans (hb.mono Hb6.out.size))
 have Hq7 := Lib.hid (Hq6.out.trans (hb.mono Hq6.out.size))
 have Hs := Lib.hid (sameCl_any CL pa qa pc qc _ _ W7 (HO.out.below hb) hcl)
 obtain ⟨cn, hcn⟩ : ∃ q, Hid (CL.length = q) := ⟨_, Lib.hid rfl⟩
 rw [hcn.out] at Hs ⊢
 have HS7 : Hid (W7.cell? ⟨bx, 0, none⟩ = some (.slice xta T xtc) ∧ W7.cell? ⟨bx, 1, none⟩ = some (.slice xna N xnc) ∧ W7.cell? ⟨bx, 2, none⟩ = some (.slice xaa L xac)) := Lib.hid ⟨HA7.out.cell 0, HA7.out.cell 1, HA7.out.cell 2⟩
 clear hb hcl HO
 try dsimp only
 refine hK.out _ _ ?_ (fun hHeld => ?_)
 ·exact HS7.out
 clear hK K
 try simp only [Act.put, List.setIfInBounds_toArray, List.set_cons_zero, List.set_cons_succ]
 refine wpAnyH_ready (rs := [6]) (by kernel_rfl) (by simp) ?_
 refine AllReadyH.cons (iatLS (iatSS (iatSS (iatSS (iatSS (iatSS (iatSS iatZS))))))) (fun K hK => ?_) AllReadyH.nil
 go_simp
 (with_reducible refine Hs.out.mono ?_)
 rintro e8 W8 ⟨rfl, hb⟩
 have HA8 := Lib.hid (HA7.out.below hb HA7.out.lt)
 have Hb8 := Lib.hid (Hb7.out.trans (hb.mono Hb7.out.size))
 have Hq8 := Lib.hid (Hq7.out.trans (hb.mono Hq7.out.size))
 have Hs2 := Lib.hid (sameLists9_any t1 u1 t2 u2 rs qs W8 (HI5b.out.grown Hq8.out) (HJ5b.out.grown Hq8.out))
 rw [decide_eq_true Hse.out, hrn.out, hqn.out] at Hs2
 have HS8 : Hid (W8.cell? ⟨bx, 0, none⟩ = some (.slice xta T xtc) ∧ W8.cell? ⟨bx, 1, none⟩ = some (.slice xna N xnc) ∧ W8.cell? ⟨bx, 2, none⟩ = some (.slice xaa L xac)) := Lib.hid ⟨HA8.out.cell 0, HA8.out.cell 1, HA8.out.cell 2⟩
 clear hb Hs
 try dsimp only
 refine hK.out _ _ ?_ (fun hHeld => ?_)
 ·exact HS8.out
 clear hK K
 try simp only [Act.put, List.setIfInBounds_toArray, List.set_cons_zero, List.set_cons_succ]
 refine wpAnyH_take (i := 7) (v := ?_) (iatLS (iatSS (iatSS (iatSS (iatSS (iatSS (iatSS (iatSS iatZS)))))))) (by kernel_rfl) (by kernel_rfl) (by kernel_rfl) (fun _ _ _ h => h) (Or.inl ⟨by rfl, ?_⟩) (by assumption) ?_
 rotate_left
 ·intro w hSw
  try dsimp only at hSw
  go_simp
  all_goals with_reducible rfl
 try simp only [Act.put, List.setIfInBounds_toArray, List.set_cons_zero, List.set_cons_succ]
 refine wpAnyH_take (i := 8) (v := ?_) (iatLS (iatSS (iatSS (iatSS (iatSS (iatSS (iatSS (iatSS (iatSS iatZS))))))))) (by kernel_rfl) (by kernel_rfl) (by kernel_rfl) (fun _ _ _ h => h) (Or.inl ⟨by rfl, ?_⟩) (by assumption) ?_
 rotate_left
 ·intro w hSw
  try dsimp only at hSw
  go_simp
  all_goals with_reducible rfl
 try simp only [Act.put, List.setIfInBounds_toArray, List.set_cons_zero, List.set_cons_succ]
 refine wpAnyH_take (i := 9) (v := ?_) (iatLS (iatSS (iatSS (iatSS (iatSS (iatSS (iatSS (iatSS (iatSS (iatSS iatZS)))))))))) (by kernel_rfl) (by kernel_rfl) (by kernel_rfl) (fun _ _ _ h => h) (Or.inl ⟨by rfl, ?_⟩) (by assumption) ?_
 rotate_left
 ·intro w hSw
  try dsimp only at hSw
  go_simp
  all_goals with_reducible rfl
 try simp only [Act.put, List.setIfInBounds_toArray, List.set_cons_zero, List.set_cons_succ]
 refine wpAnyH_take (i := 10) (v := ?_) (iatLS (iatSS (iatSS (iatSS (iatSS (iatSS (iatSS (iatSS (iatSS (iatSS (iatSS iatZS))))))))))) (by kernel_rfl) (by kernel_rfl) (by kernel_rfl) (fun _ _ _ h => h) (Or.inl ⟨by rfl, ?_⟩) (by assumption) ?_
 rotate_left
 ·intro w hSw
  try dsimp only at hSw
  go_simp
  all_goals with_reducible rfl
 try simp only [Act.put, List.setIfInBounds_toArray, List.set_cons_zero, List.set_cons_succ]
 refine wpAnyH_ready (rs := [11]) (by kernel_rfl) (by simp) ?_
 refine AllReadyH.cons (iatLS (iatSS (iatSS (iatSS (iatSS (iatSS (iatSS (iatSS (iatSS (iatSS (iatSS (iatSS iatZS)))))))))))) (fun K hK => ?_) AllReadyH.nil
 go_simp
 (with_reducible refine Hs2.out.mono ?_)
 rintro e8 W9 ⟨rfl, hb⟩
 have HA9 := Lib.hid (HA8.out.below hb HA8.out.lt)
 have Hb9 := Lib.hid (Hb8.out.trans (hb.mono Hb8.out.size))
 have Hq9 := Lib.hid (Hq8.out.trans (hb.mono Hq8.out.size))
 have HS9 : Hid (W9.cell? ⟨bx, 0, none⟩ = some (.slice xta T xtc) ∧ W9.cell? ⟨bx, 1, none⟩ = some (.slice xna N xnc) ∧ W9.cell? ⟨bx, 2, none⟩ = some (.slice xaa L xac)) := Lib.hid ⟨HA9.out.cell 0, HA9.out.cell 1, HA9.out.cell 2⟩
 clear hb Hs2
 try dsimp only
 refine hK.out _ _ ?_ (fun hHeld => ?_)
 ·exact HS9.out
 clear hK K
 try simp only [Act.put, List.setIfInBounds_toArray, List.set_cons_zero, List.set_cons_succ]
 refine wpAnyH_take (i := 12) (v := ?_) (iatLS (iatSS (iatSS (iatSS (iatSS (iatSS (iatSS (iatSS (iatSS (iatSS (iatSS (iatSS (iatSS iatZS))))))))))))) (by kernel_rfl) (by kernel_rfl) (by kernel_rfl) (fun _ _ _ h => h) (Or.inl ⟨by rfl, ?_⟩) (by assumption) ?_
 rotate_left
 ·intro w hSw
  try dsimp only at hSw
  go_simp
  all_goals with_reducible rfl
 try simp only [Act.put, List.setIfInBounds_toArray, List.set_cons_zero, List.set_cons_succ]
 refine wpAnyH_take (i := 13) (v := ?_) (iatLS (iatSS (iatSS (iatSS (iatSS (iatSS (iatSS (iatSS (iatSS (iatSS (iatSS (iatSS (iatSS (iatSS iatZS)))))))))))))) (by kernel_rfl) (by kernel_rfl) (by kernel_rfl) (fun _ _ _ h => h) (Or.inl ⟨by rfl, ?_⟩) (by assumption) ?_
 rotate_left
 ·intro w hSw
  try dsimp only at hSw
  go_simp
  all_goals with_reducible rfl
 try simp only [Act.put, List.setIfInBounds_toArray, List.set_cons_zero, List.set_cons_succ]
 refine wpAnyH_take (i := 14) (v := ?_) (iatLS (iatSS (iatSS (iatSS (iatSS (iatSS (iatSS (iatSS (iatSS (iatSS (iatSS (iatSS (iatSS (iatSS (iatSS iatZS))))))))))))))) (by kernel_rfl) (by kernel_rfl) (by kernel_rfl) (fun _ _ _ h => h) (Or.inl ⟨by rfl, ?_⟩) (by assumption) ?_
 rotate_left
 ·intro w hSw
  try dsimp only at hSw
  go_simp
  all_goals with_reducible rfl
 try simp only [Act.put, List.setIfInBounds_toArray, List.set_cons_zero, List.set_cons_succ]
 refine wpAnyH_take (i := 15) (v := ?_) (iatLS (iatSS (iatSS (iatSS (iatSS (iatSS (iatSS (iatSS (iatSS (iatSS (iatSS (iatSS (iatSS (iatSS (iatSS (iatSS iatZS)))))))))))))))) (by kernel_rfl) (by kernel_rfl) (by kernel_rfl) (fun _ _ _ h => h) (Or.inl ⟨by rfl, ?_⟩) (by assumption) ?_
 rotate_left
 ·intro w hSw
  try dsimp only at hSw
  go_simp
  all_goals with_reducible rfl
 try simp only [Act.put, List.setIfInBounds_toArray, List.set_cons_zero, List.set_cons_succ]
 refine wpAnyH_take (i := 16) (v := ?_) (iatLS (iatSS (iatSS (iatSS (iatSS (iatSS (iatSS (iatSS (iatSS (iatSS (iatSS (iatSS (iatSS (iatSS (iatSS (iatSS (iatSS iatZS))))))))))))))))) (by kernel_rfl) (by kernel_rfl) (by kernel_rfl) (fun _ _ _ h => h) (Or.inl ⟨by rfl, ?_⟩) (by assumption) ?_
 rotate_left
 ·intro w hSw
  try dsimp only at hSw
  go_simp
  all_goals with_reducible rfl
 try simp only [Act.put, List.setIfInBounds_toArray, List.set_cons_zero, List.set_cons_succ]
 refine wpAnyH_take (i := 17) (v := ?_) (iatLS (iatSS (iatSS (iatSS (iatSS (iatSS (iatSS (iatSS (iatSS (iatSS (iatSS (iatSS (iatSS (iatSS (iatSS (iatSS (iatSS (iatSS iatZS)))))))))))))))))) (by kernel_rfl) (by kernel_rfl) (by kernel_rfl) (fun _ _ _ h => h) (Or.inl ⟨by rfl, ?_⟩) (by assumption) ?_
 rotate_left
 ·intro w hSw
  try dsimp only at hSw
  go_simp
  all_goals with_reducible rfl
 try simp only [Act.put, List.setIfInBounds_toArray, List.set_cons_zero, List.set_cons_succ]
 refine wpAnyH_take (i := 18) (v := ?_) (iatLS (iatSS (iatSS (iatSS (iatSS (iatSS (iatSS (iatSS (iatSS (iatSS (iatSS (iatSS (iatSS (iatSS (iatSS (iatSS (iatSS (iatSS (iatSS iatZS))))))))))))))))))) (by kernel_rfl) (by kernel_rfl) (by kernel_rfl) (fun _ _ _ h => h) (Or.inl ⟨by rfl, ?_⟩) (by assumption) ?_
 rotate_left
 ·intro w hSw
  try dsimp only at hSw
  go_simp
  all_goals with_reducible rfl
 try simp only [Act.put, List.setIfInBounds_toArray, List.set_cons_zero, List.set_cons_succ]
 refine wpAnyH_done (by kernel_rfl) ?_ _
 go_wp2_with (fail)
 exact bodyPost_ret (v := .bool true) (by simp [results, Try.results6, go_sem]; try first | rfl | assumption | omega) rfl ⟨rfl, Hb9.out⟩
end Go.Proofs.Ytldmgifphkpdlaa
namespace Go.Proofs.Ytldmgifphkpdlaa
open Go.ChangeShapes Go.WideShapes Go.ChangeAt Go.RowKit
attribute [local go_sem] Oper.semAt_some
/-- What an int may be. -/
def Bd (x : Int) : Prop := -9223372036854775808 ≤ x ∧ x ≤ 9223372036854775807
theorem wf_bd {n : Int} (h : (Go.Lit.int .i64 n).wf = true) : Bd n := by
 unfold Bd
 simp [Go.Lit.wf, IntKind.min, IntKind.max, IntKind.signed, IntKind.bits] at h
 omega
theorem int_cells8 : Try.prog.cellsOf 3 = 1 := by kernel_rfl
theorem ints_cells8 : Try.prog.cellsOf 35 = 1 := by kernel_rfl
theorem intss_cells8 : Try.prog.cellsOf 32 = 1 := by kernel_rfl
theorem intsss_cells8 : Try.prog.cellsOf 23 = 1 := by kernel_rfl
theorem cfg_cells8 : Try.prog.cellsOf 25 = 3 := by kernel_rfl
def szIl (ds : List IltD) : Nat := (ds.map (fun d => d.l.length)).sum
theorem szIl_is (r : IrD) : r.ds.length + szIl r.ds = szJ r.p := by
 unfold szJ szIl IrD.p
 rw [List.length_map, List.map_map]
 rfl
set_option maxRecDepth 100000 in
theorem open_intl2 {H : Type} {enc : TypeId × Value → H} {W : World} {base : Nat} {sp : Nat → Bool} {hd : Bool} (fuel : Nat) (cs : List Value) (x : DataW H × List MemPlace) (h : DataW.trod enc Try.prog W base sp hd fuel 35 cs = some x) :
 ∃ d : IltD, cs = [.slice d.a d.l.length d.c] ∧ Ints W d.a d.c d.l ∧ (∀ n ∈ d.l, Bd n) ∧ d.l.length + 1 ≤ Rows.uptoBulk x.1 := by
 rcases DataW.trod_slice Try.underlying35 h with ⟨e3, _⟩ | ⟨a, len, cap, elems, rest, n', hn, e3, x3, hb, hle, hm, hel, hcell, _, _⟩
 ·exact ⟨⟨[], none, 0⟩, by rw [e3]; rfl, Vs.nil W, fun n h => (by cases h), by simpa using bulk_pos x.1⟩
 ·have hmax : maxLen ≤ 9223372036854775807 := by decide
  have hbk : len + 1 ≤ Rows.uptoBulk x.1 := by
   rw [x3]
   simp only [Rows.uptoBulk]
   have h1 := bulkAll_sum (elems.map (·.1))
   have h2 := sum_le8 (fun _ => 1) Rows.uptoBulk (elems.map (·.1)) (elems.map (·.1)) rfl (fun i h1 h2 => bulk_pos _)
   rw [sum_ones, List.length_map, hel] at h2
   omega
  have each : ∀ i, i < len → ∃ s : Int, W.cell? ((a.add (i * 1)).add 0) = some (.int .i64 s) ∧ Bd s := by
   intro i hi
   have hc := hcell i hi
   rw [List.getElem?_eq_getElem (by omega), int_cells8, Option.bind_eq_some_iff] at hc
   obtain ⟨cs', hcs, ht⟩ := hc
   obtain ⟨s, e0, _, ws0⟩ := DataW.trod_int Try.underlying3 ht
   have ws := wf_bd ws0
   subst e0
   exact ⟨s, (World.cells?_some hcs).2.2 0 (by omega), ws⟩
  by_cases h0 : len = 0
  ·subst h0
   exact ⟨⟨[], some a, cap⟩, by rw [e3]; rfl, ⟨by simp, (show cap ≤ 9223372036854775807 by omega), fun e => (by cases e), fun i h => by simp at h, fun b off e i h => by simp at h⟩, fun n h => (by cases h), by simpa using bulk_pos x.1⟩
  ·obtain ⟨b, off, spot⟩ := a
   have hspot : spot = none := by
    obtain ⟨s, hc, _⟩ := each 0 (by omega)
    simpa [Addr.add] using World.cell?_spot hc
   subst hspot
   have each2 : ∀ i, i < len → ∃ s : Int, W.cell? ⟨b, off + i, none⟩ = some (.int .i64 s) ∧ Bd s := by
    intro i hi
    obtain ⟨s, hc, hz⟩ := each i hi
    rw [add_plain, add_plain, Nat.mul_one, Nat.add_zero] at hc
    exact ⟨s, hc, hz⟩
   obtain ⟨l, hl1, hl2⟩ := row_of len each2
   refine ⟨⟨l, some ⟨b, off, none⟩, cap⟩, by rw [e3, hl1], ⟨by rw [List.length_map]; exact (show l.length ≤ cap by omega), (show cap ≤ 9223372036854775807 by omega), fun e => (by cases e), fun i _ => ⟨b, off, rfl⟩, fun b' off' e i hi => ?_⟩, fun n hn => ?_, by show l.length + 1 ≤ _; omega⟩
   ·cases e
    rw [List.getElem_map]
    exact (hl2 i (by rwa [List.length_map] at hi)).1
   ·obtain ⟨i, hi, rfl⟩ := List.getElem_of_mem hn
    exact (hl2 i hi).2
set_option maxRecDepth 100000 in
theorem open_intll2 {H : Type} {enc : TypeId × Value → H} {W : World} {base : Nat} {sp : Nat → Bool} {hd : Bool} (fuel : Nat) (cs : List Value) (x : DataW H × List MemPlace) (h : DataW.trod enc Try.prog W base sp hd fuel 32 cs = some x) :
 ∃ (ds : List IltD) (a : Option Addr) (c : Nat), cs = [.slice a ds.length c] ∧ AltsI W a c ds ∧ (∀ d ∈ ds, ∀ n ∈ d.l, Bd n) ∧ ds.length + szIl ds + 1 ≤ Rows.uptoBulk x.1 := by
 rcases DataW.trod_slice Try.underlying32 h with ⟨e3, _⟩ | ⟨a, len, cap, elems, rest, n', hn, e3, x3, hb, hle, hm, hel, hcell, _, _⟩
 ·exact ⟨[], none, 0, by rw [e3]; rfl, ⟨Vs.nil W, fun d h => by cases h⟩, fun d h => (by cases h), by simpa [szIl] using bulk_pos x.1⟩
 ·have hmax : maxLen ≤ 9223372036854775807 := by decide
  have each : ∀ i (hi : i < len), ∃ d : IltD, W.cell? ((a.add (i * 1)).add 0) = some d.v ∧ Ints W d.a d.c d.l ∧ (∀ n ∈ d.l, Bd n) ∧ d.l.length + 1 ≤ Rows.uptoBulk (elems[i]'(by omega)).1 := by
   intro i hi
   have hc := hcell i hi
   rw [List.getElem?_eq_getElem (by omega), ints_cells8, Option.bind_eq_some_iff] at hc
   obtain ⟨cs', hcs, ht⟩ := hc
   obtain ⟨d, rfl, hN, hz, hk⟩ := open_intl2 n' cs' _ ht
   exact ⟨d, (World.cells?_some hcs).2.2 0 (by omega), hN, hz, hk⟩
  by_cases h0 : len = 0
  ·subst h0
   exact ⟨[], some a, cap, by rw [e3]; rfl, ⟨⟨by simp, by omega, fun e => (by cases e), fun i h => by simp at h, fun b off e i h => by simp at h⟩, fun d hd => by cases hd⟩, fun d h => (by cases h), by simpa [szIl] using bulk_pos x.1⟩
  ·obtain ⟨b, off, spot⟩ := a
   have hspot : spot = none := by
    obtain ⟨s, hc, _⟩ := each 0 (by omega)
    simpa [Addr.add] using World.cell?_spot hc
   subst hspot
   obtain ⟨l, hl1, hl2, hl3⟩ := row_of2 (P := fun i (d : IltD) => W.cell? ⟨b, off + i, none⟩ = some d.v ∧ Ints W d.a d.c d.l ∧ ∀ n ∈ d.l, Bd n) (f := fun d : IltD => d.l.length + 1) (g := Rows.uptoBulk) (elems.map (·.1)) len (by rw [List.length_map, hel]) (fun i hi => by
    obtain ⟨d, hc, hN, hz, hk⟩ := each i (by rw [List.length_map] at hi; omega)
    rw [add_plain, add_plain, Nat.mul_one, Nat.add_zero] at hc
    exact ⟨d, ⟨hc, hN, hz⟩, by rw [List.getElem_map]; exact hk⟩)
   refine ⟨l, some ⟨b, off, none⟩, cap, by rw [e3, hl1], ⟨⟨by rw [List.length_map]; omega, by omega, fun e => (by cases e), fun i _ => ⟨b, off, rfl⟩, fun b' off' e i hi => ?_⟩, fun d hd => ?_⟩, fun d hd => ?_, ?_⟩
   ·cases e
    rw [List.getElem_map]
    exact (hl2 i (by rwa [List.length_map] at hi)).1
   ·obtain ⟨i, hi, rfl⟩ := List.getElem_of_mem hd
    exact (hl2 i hi).2.1
   ·obtain ⟨i, hi, rfl⟩ := List.getElem_of_mem hd
    exact (hl2 i hi).2.2
   ·rw [x3]
    simp only [Rows.uptoBulk]
    rw [bulkAll_sum (elems.map (·.1))]
    have h4 : (l.map (fun d : IltD => d.l.length + 1)).sum = l.length + szIl l := by
     clear hl1 hl2 hl3
     induction l with
     | nil => simp [szIl]
     | cons d l ih =>
      have e : szIl (d :: l) = d.l.length + szIl l := by simp [szIl]
      rw [List.map_cons, List.sum_cons, ih, e, List.length_cons]
      omega
    omega
set_option maxRecDepth 100000 in
theorem open_intlll2 {H : Type} {enc : TypeId × Value → H} {W : World} {base : Nat} {sp : Nat → Bool} {hd : Bool} (fuel : Nat) (cs : List Value) (x : DataW H × List MemPlace) (h : DataW.trod enc Try.prog W base sp hd fuel 23 cs = some x) :
 ∃ (al : List IrD) (a : Option Addr) (c : Nat), cs = [.slice a al.length c] ∧ Vs W a c (al.map IrD.v) ∧ (∀ r ∈ al, AltsI W r.a r.c r.ds) ∧ (∀ r ∈ al, ∀ d ∈ r.ds, ∀ n ∈ d.l, Bd n) ∧ al.length + szC (al.map IrD.p) + 1 ≤ Rows.uptoBulk x.1 := by
 rcases DataW.trod_slice Try.underlying23 h with ⟨e3, _⟩ | ⟨a, len, cap, elems, rest, n', hn, e3, x3, hb, hle, hm, hel, hcell, _, _⟩
 ·exact ⟨[], none, 0, by rw [e3]; rfl, Vs.nil W, fun d h => (by cases h), fun d h => (by cases h), by simpa [szC] using bulk_pos x.1⟩
 ·have hmax : maxLen ≤ 9223372036854775807 := by decide
  have each : ∀ i (hi : i < len), ∃ r : IrD, W.cell? ((a.add (i * 1)).add 0) = some r.v ∧ AltsI W r.a r.c r.ds ∧ (∀ d ∈ r.ds, ∀ n ∈ d.l, Bd n) ∧ szJ r.p + 1 ≤ Rows.uptoBulk (elems[i]'(by omega)).1 := by
   intro i hi
   have hc := hcell i hi
   rw [List.getElem?_eq_getElem (by omega), intss_cells8, Option.bind_eq_some_iff] at hc
   obtain ⟨cs', hcs, ht⟩ := hc
   obtain ⟨ds, ra, rc, rfl, hN, hz, hk⟩ := open_intll2 n' cs' _ ht
   have hk2 := szIl_is ⟨ds, ra, rc⟩
   dsimp only at hk2
   exact ⟨⟨ds, ra, rc⟩, (World.cells?_some hcs).2.2 0 (by omega), hN, hz, by omega⟩
  by_cases h0 : len = 0
  ·subst h0
   exact ⟨[], some a, cap, by rw [e3]; rfl, ⟨by simp, by omega, fun e => (by cases e), fun i h => by simp at h, fun b off e i h => by simp at h⟩, fun d h => (by cases h), fun d h => (by cases h), by simpa [szC] using bulk_pos x.1⟩
  ·obtain ⟨b, off, spot⟩ := a
   have hspot : spot = none := by
    obtain ⟨s, hc, _⟩ := each 0 (by omega)
    simpa [Addr.add] using World.cell?_spot hc
   subst hspot
   obtain ⟨l, hl1, hl2, hl3⟩ := row_of2 (P := fun i (r : IrD) => W.cell? ⟨b, off + i, none⟩ = some r.v ∧ AltsI W r.a r.c r.ds ∧ ∀ d ∈ r.ds, ∀ n ∈ d.l, Bd n) (f := fun r : IrD => szJ r.p + 1) (g := Rows.uptoBulk) (elems.map (·.1)) len (by rw [List.length_map, hel]) (fun i hi => by
    obtain ⟨d, hc, hN, hz, hk⟩ := each i (by rw [List.length_map] at hi; omega)
    rw [add_plain, add_plain, Nat.mul_one, Nat.add_zero] at hc
    exact ⟨d, ⟨hc, hN, hz⟩, by rw [List.getElem_map]; exact hk⟩)
   refine ⟨l, some ⟨b, off, none⟩, cap, by rw [e3, hl1], ⟨by rw [List.length_map]; omega, by omega, fun e => (by cases e), fun i _ => ⟨b, off, rfl⟩, fun b' off' e i hi => ?_⟩, fun d hd => ?_, fun d hd => ?_, ?_⟩
   ·cases e
    rw [List.getElem_map]
    exact (hl2 i (by rwa [List.length_map] at hi)).1
   ·obtain ⟨i, hi, rfl⟩ := List.getElem_of_mem hd
    exact (hl2 i hi).2.1
   ·obtain ⟨i, hi, rfl⟩ := List.getElem_of_mem hd
    exact (hl2 i hi).2.2
   ·rw [x3]
    simp only [Rows.uptoBulk]
    rw [bulkAll_sum (elems.map (·.1))]
    have h4 : (l.map (fun r : IrD => szJ r.p + 1)).sum = l.length + szC (l.map IrD.p) := by
     clear hl1 hl2 hl3
     induction l with
     | nil => simp [szC]
     | cons d l ih =>
      have e : szC ((d :: l).map IrD.p) = szJ d.p + szC (l.map IrD.p) := by simp [szC, szJ]
      rw [List.map_cons, List.sum_cons, ih, e, List.length_cons]
      omega
    omega
set_option maxRecDepth 100000 in
theorem open_cfg2 {H : Type} {enc : TypeId × Value → H} {W : World} {v : Value} {d : DataW H} {ps : List MemPlace} (hok : Value.okWide Try.prog W .any 0 25 v) (h : DataW.Trod enc Try.prog W 0 (fun _ => true) true 25 v d ps) :
 ∃ c : CfD, v = c.v ∧ CfAt W c ∧ (∀ t ∈ c.toks, t.size ≤ maxLen) ∧ (∀ t ∈ c.names, t.size ≤ maxLen) ∧ (∀ r ∈ c.alts, ∀ a ∈ r.ds, ∀ x ∈ a.l, Bd x) ∧ c.toks.length + c.names.length + szC (c.alts.map IrD.p) ≤ Rows.uptoBulk d := by
 obtain ⟨cs, rfl, _⟩ := okWide_struct Try.underlying25 hok
 obtain ⟨fuel, hf⟩ := h
 obtain ⟨xs, n, rfl, e9, hl, hlen, hf⟩ := DataW.trod_struct Try.underlying25 hf
 rw [cfg_cells8] at hl
 obtain ⟨v0, v1, v2, hv⟩ : ∃ v0 v1 v2, cs.toList = [v0, v1, v2] := by
  match hc : cs.toList, (show cs.toList.length = 3 from hl) with
  | [v0, v1, v2], _ => exact ⟨v0, v1, v2, rfl⟩
 obtain ⟨y0, y1, y2, rfl⟩ : ∃ y0 y1 y2, xs = [y0, y1, y2] := by
  match xs, hlen with
  | [y0, y1, y2], _ => exact ⟨y0, y1, y2, rfl⟩
 have h0 := hf 0 _ rfl
 have h1 := hf 1 _ rfl
 have h2 := hf 2 _ rfl
 rw [show (Value.agg cs).cells.toList = [v0, v1, v2] from hv] at h0 h1 h2
 simp only [strs_cells, intsss_cells8, List.drop_zero, List.drop_succ_cons, List.take_succ_cons, List.take_zero, List.getElem?_cons_zero, List.getElem?_cons_succ] at h0 h1 h2
 obtain ⟨dt, e0, hT, zT, kT⟩ := open_strl2 _ _ _ h0
 injection e0 with e0 _
 subst e0
 obtain ⟨dn, e1, hN, zN, kN⟩ := open_strl2 _ _ _ h1
 injection e1 with e1 _
 subst e1
 obtain ⟨al, aa, ac, e2, hR, hI, hB, hk⟩ := open_intlll2 _ _ _ h2
 injection e2 with e2 _
 subst e2
 have e9 := (Prod.mk.inj e9).1
 refine ⟨⟨dt.l, dt.a, dt.c, dn.l, dn.a, dn.c, al, aa, ac⟩, ?_, ⟨hT, hN, hR, hI⟩, zT, zN, hB, ?_⟩
 ·cases cs
  simp only at hv
  rw [hv]
 ·rw [e9]
  simp only [List.map_cons, List.map_nil, Rows.uptoBulk, Rows.uptoBulkAll]
  omega
end Go.Proofs.Ytldmgifphkpdlaa
namespace Go.Proofs.Ytldmgifphkpdlaa
open Go.ChangeShapes Go.WideShapes Go.ChangeAt Go.RowKit
set_option maxRecDepth 100000 in
theorem tablePredicts_contract (H : Type) (enc : TypeId × Value → H) (W : World) (args : Array Value) (ds gs : List (DataW H)) (before : List MemPlace)
 (hval : ∀ (j : Nat) t v, Try.f5.params[j]? = some t → args[j]? = some v → Value.okWide Try.prog W .any 0 t v)
 (hW : DataW.Whole enc Try.prog Try.f5.params.toList Rows.tablePredictsSpec.vars false W args.toList ds gs before) (hk : Rows.uptoSmall H (ds ++ gs) = true) :
 Calls Try.prog 5 args W fun e W' => ∃ v, e = .returned v ∧ Rows.tablePredictsSpec.post enc Try.prog Try.f5 false true false false W args v W' := by
 have hW' := hW
 obtain ⟨p, q, hA0, hV, rfl, hfz, hnd⟩ := hW
 have hA : DataW.TrodAll enc Try.prog W 0 (fun _ => true) true Try.f5.params.toList args.toList ds p := hA0
 rw [Try.params5] at hA hval
 obtain ⟨v0, v1, v2, d0, d1, d2, p0, p1, p2, rfl, rfl, rfl, h0, h1, h2⟩ := trodAll_three hA
 have hb : Rows.uptoBulkAll ([d0, d1, d2] ++ gs) ≤ 1048576 := of_decide_eq_true hk
 simp only [List.cons_append, List.nil_append, Rows.uptoBulkAll] at hb
 obtain ⟨c, rfl, hc, z1, z2, z3, hz⟩ := open_cfg2 (hval 0 25 v0 rfl rfl) h0
 obtain ⟨n1, rfl, _, _, w1⟩ := open_int Try.underlying3 (hval 1 3 v1 rfl rfl) h1
 simp [Lit.wf, IntKind.min, IntKind.max, IntKind.signed, IntKind.bits] at w1
 obtain ⟨n2, rfl, _, _, w2⟩ := open_int Try.underlying3 (hval 2 3 v2 rfl rfl) h2
 simp [Lit.wf, IntKind.min, IntKind.max, IntKind.signed, IntKind.bits] at w2
 refine (lawPredicts_any c n1 n2 W hc z1 z2 z3 (by omega) (by omega) (by omega)).mono fun e W' ⟨he, hw⟩ => ?_
 subst he
 exact ⟨_, rfl, law_post hW' rfl rfl (by kernel_rfl) (by rw [Try.params5]; intro t ht; simp at ht; rcases ht with rfl | rfl | rfl <;> exact ⟨by kernel_rfl, of_decide_eq_true (by kernel_rfl)⟩) hw⟩
set_option maxRecDepth 100000 in
theorem tablePredicts_lifted (os : Os) (started : os.Started) (H : Type) (enc : TypeId × Value → H) (F : Stop.Interp) :
 ReturnsInHanded {} Try.checked os 5 .any ((Rows.OpenSpec.upto Rows.tablePredictsSpec).pre6 enc Try.prog Try.f5 Rows.tablePredictsUptoRow.domain false) (((Rows.OpenSpec.upto Rows.tablePredictsSpec).at F).post enc Try.prog Try.f5 false true false false) := by
 refine returnsInHanded_of_cond (C := Try.checked) (s := Rows.OpenSpec.upto Rows.tablePredictsSpec) (k := Rows.uptoSmall) rfl Try.own started (by kernel_rfl) Try.func5
  (OpenSpec.witness (enc := enc) (C := Try.checked) (s := Rows.OpenSpec.upto Rows.tablePredictsSpec) (k := Rows.uptoSmall) rfl false ⟨#[], #[.agg #[.slice none 0 0, .slice none 0 0, .slice none 0 0], .int .i64 0, .int .i64 0], []⟩ 8 (by kernel_rfl) (by kernel_rfl) (by kernel_rfl)
   (x := ([.agg [.nil, .nil, .nil], .lit (.int .i64 0), .lit (.int .i64 0)], [], [])) (by kernel_rfl) rfl (by kernel_rfl)) ?_
 intro W base args ds gs before hval hW _ hk _
 exact tablePredicts_contract H enc W args ds gs before hval hW hk
theorem tablePredicts_holds : Rows.TablePredictsUptoSaid :=
 OpenClaim.holds_of_cond 5 Try.f5 rfl rfl rfl rfl rfl rfl rfl ⟨rfl, rfl, rfl, rfl, rfl⟩ rfl rfl rfl rfl rfl (by kernel_rfl) Try.func5 (by kernel_rfl)
  (of_decide_eq_true (by kernel_rfl)) (by unfold Func.isWrapper; first | (rw [if_pos (by decide +kernel)]; kernel_rfl) | (rw [if_neg (by decide +kernel)]; exact ⟨rfl, rfl⟩))
  (fun os started H enc _ F => tablePredicts_lifted os started H enc F)
end Go.Proofs.Ytldmgifphkpdlaa
namespace Go.Proofs.Ytldmgifphkpdlaa
open Go.ChangeShapes Go.WideShapes Go.ChangeAt Go.RowKit
set_option maxRecDepth 100000 in
theorem tableBuilds_contract (H : Type) (enc : TypeId × Value → H) (W : World) (args : Array Value) (ds gs : List (DataW H)) (before : List MemPlace)
 (hval : ∀ (j : Nat) t v, Try.f6.params[j]? = some t → args[j]? = some v → Value.okWide Try.prog W .any 0 t v)
 (hW : DataW.Whole enc Try.prog Try.f6.params.toList Rows.tableBuildsSpec.vars false W args.toList ds gs before) (hk : Rows.uptoSmall H (ds ++ gs) = true) :
 Calls Try.prog 6 args W fun e W' => ∃ v, e = .returned v ∧ Rows.tableBuildsSpec.post enc Try.prog Try.f6 false true false false W args v W' := by
 have hW' := hW
 obtain ⟨p, q, hA0, hV, rfl, hfz, hnd⟩ := hW
 have hA : DataW.TrodAll enc Try.prog W 0 (fun _ => true) true Try.f6.params.toList args.toList ds p := hA0
 rw [Try.params6] at hA hval
 obtain ⟨v0, d0, rfl, rfl, h0⟩ := trodAll_one hA
 have hb : Rows.uptoBulkAll ([d0] ++ gs) ≤ 1048576 := of_decide_eq_true hk
 simp only [List.cons_append, List.nil_append, Rows.uptoBulkAll] at hb
 obtain ⟨c, rfl, hc, z1, z2, z3, hz⟩ := open_cfg2 (hval 0 25 v0 rfl rfl) h0
 refine (lawBuilds_any c W hc z1 z2 z3 (by omega)).mono fun e W' ⟨he, hw⟩ => ?_
 subst he
 exact ⟨_, rfl, law_post hW' rfl rfl (by kernel_rfl) (by rw [Try.params6]; intro t ht; simp at ht; subst ht; exact ⟨by kernel_rfl, of_decide_eq_true (by kernel_rfl)⟩) hw⟩
set_option maxRecDepth 100000 in
theorem tableBuilds_lifted (os : Os) (started : os.Started) (H : Type) (enc : TypeId × Value → H) (F : Stop.Interp) :
 ReturnsInHanded {} Try.checked os 6 .any ((Rows.OpenSpec.upto Rows.tableBuildsSpec).pre6 enc Try.prog Try.f6 Rows.tableBuildsUptoRow.domain false) (((Rows.OpenSpec.upto Rows.tableBuildsSpec).at F).post enc Try.prog Try.f6 false true false false) := by
 refine returnsInHanded_of_cond (C := Try.checked) (s := Rows.OpenSpec.upto Rows.tableBuildsSpec) (k := Rows.uptoSmall) rfl Try.own started (by kernel_rfl) Try.func6
  (OpenSpec.witness (enc := enc) (C := Try.checked) (s := Rows.OpenSpec.upto Rows.tableBuildsSpec) (k := Rows.uptoSmall) rfl false ⟨#[], #[.agg #[.slice none 0 0, .slice none 0 0, .slice none 0 0]], []⟩ 8 (by kernel_rfl) (by kernel_rfl) (by kernel_rfl)
   (x := ([.agg [.nil, .nil, .nil]], [], [])) (by kernel_rfl) rfl (by kernel_rfl)) ?_
 intro W base args ds gs before hval hW _ hk _
 exact tableBuilds_contract H enc W args ds gs before hval hW hk
theorem tableBuilds_holds : Rows.TableBuildsUptoSaid :=
 OpenClaim.holds_of_cond 6 Try.f6 rfl rfl rfl rfl rfl rfl rfl ⟨rfl, rfl, rfl, rfl, rfl⟩ rfl rfl rfl rfl rfl (by kernel_rfl) Try.func6 (by kernel_rfl)
  (of_decide_eq_true (by kernel_rfl)) (by unfold Func.isWrapper; first | (rw [if_pos (by decide +kernel)]; kernel_rfl) | (rw [if_neg (by decide +kernel)]; exact ⟨rfl, rfl⟩))
  (fun os started H enc _ F => tableBuilds_lifted os started H enc F)
end Go.Proofs.Ytldmgifphkpdlaa
