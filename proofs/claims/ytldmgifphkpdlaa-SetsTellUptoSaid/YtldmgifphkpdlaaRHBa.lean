/- The row SetsTell in its second form: for every grammar by numbers whose reading is of bulk at most 1048576: the law answers true and changes nothing that was there. -/
/- Texts joined: Fi PSt. -/
import Derived.Test.YtldmgifphkpdlaaRHAy
import Derived.Test.YtldmgifphkpdlaaRHAz
import Derived.Test.YtldmgifphkpdlaaRHAw
import Derived.Test.YtldmgifphkpdlaaRHAx
set_option linter.unusedVariables false
set_option linter.unusedSimpArgs false
namespace Go.Proofs.Ytldmgifphkpdlaa
open Go.RowKit Go.Maps

attribute [local go_sem] Oper.semAt_some

theorem lists_same : ∀ {ds es : List IltD}, ds.length = es.length → (∀ r (h : r < ds.length) (h2 : r < es.length), ds[r].l = es[r].l) → ds.map (fun x => x.l) = es.map (fun x => x.l)
  | [], [], _, _ => rfl
  | [], _ :: _, h, _ => by cases h
  | _ :: _, [], h, _ => by cases h
  | d :: ds, e :: es, h, hs => by
    have h1 := hs 0 (by simp) (by simp)
    have h2 := lists_same (ds := ds) (es := es) (by simpa using h) (fun r h3 h4 => hs (r + 1) (by simpa using h3) (by simpa using h4))
    simp only [List.map_cons, h2]
    simp only [List.getElem_cons_zero] at h1
    rw [h1]
set_option maxRecDepth 100000 in
set_option maxHeartbeats 16000000 in
theorem lawTell_any (d : CfD) (w : World) (hd : CfAt w d) (h1 : ∀ t ∈ d.toks, t.size ≤ maxLen) (h2 : ∀ t ∈ d.names, t.size ≤ maxLen) (h3 : ∀ r ∈ d.alts, ∀ a ∈ r.ds, ∀ x ∈ a.l, -9223372036854775808 ≤ x ∧ x ≤ 9223372036854775807) (hs : d.toks.length + d.names.length + szC (d.alts.map IrD.p) ≤ 1000000000000) :
    Calls Try.prog 3 #[d.v] w fun e w' => e = .returned (.bool true) ∧ Below w.heap.size w w' := by
  have HF := Lib.hid (fun W (hb : Below w.heap.size w W) => few9_any d W (hd.grown hb) h1 h2 h3 hs)
  have HSn := Lib.hid (fun (hf : FitC d) W (hb : Below w.heap.size w W) => sNullable_any d W (hd.grown hb) hf)
  have HSf := Lib.hid (fun (hf : FitC d) W (hb : Below w.heap.size w W) => sFirst_any d W (hd.grown hb) hf)
  have HSg := Lib.hid (fun (hf : FitC d) W (hb : Below w.heap.size w W) => sFollow_any d W (hd.grown hb) hf)
  have HSs := Lib.hid (fun (hf : FitC d) W (hb : Below w.heap.size w W) => short_any d W (hd.grown hb) hf)
  have HRn := Lib.hid (fun (hf : FitC d) W (hb : Below w.heap.size w W) => nul9_any d W (hd.grown hb) hf)
  have HRf := Lib.hid (fun (hf : FitC d) W (hb : Below w.heap.size w W) => first9_any d W (hd.grown hb) hf)
  have HRg := Lib.hid (fun (hf : FitC d) W (hb : Below w.heap.size w W) => refFollow9_any d W (hd.grown hb) hf)
  have HRs := Lib.hid (fun (hf : FitC d) W (hb : Below w.heap.size w W) => refShort9_any d W (hd.grown hb) hf)
  have Hfit : Hid (few9 d = true → FitC d) := Lib.hid few9_fit
  obtain ⟨B, hB⟩ : ∃ q, Hid (few9 d = q) := ⟨_, Lib.hid rfl⟩
  rw [hB.out] at HF Hfit
  obtain ⟨xt, xta, xtc, xn, xna, xnc, xa, xaa, xac⟩ := d
  dsimp only [CfD.v] at *
  have hb1 : Below w.heap.size w (w.alloc (.cells #[.slice xta xt.length xtc, .slice xna xn.length xnc, .slice xaa xa.length xac] 25)) := (Below.refl _ w).alloc (Nat.le_refl _) _
  have hA := Blk.new w 25 #[.slice xta xt.length xtc, .slice xna xn.length xnc, .slice xaa xa.length xac]
  obtain ⟨al, hal9⟩ : ∃ q, Hid (xa.map IrD.p = q) := ⟨_, Lib.hid rfl⟩
  rw [hal9.out] at HSn HSf HSg HSs HRn HRf HRg HRs
  obtain ⟨f, hf9⟩ : ∃ v, Hid (nulB al = v) := ⟨_, Lib.hid rfl⟩
  rw [hf9.out] at HSn HSf HSg HRn HRf HRg
  obtain ⟨F, hF9⟩ : ∃ v, Hid (shP al = v) := ⟨_, Lib.hid rfl⟩
  rw [hF9.out] at HSs HRs
  obtain ⟨T, HT⟩ : ∃ q, Hid (xt.length = q) := ⟨_, Lib.hid rfl⟩
  obtain ⟨N, HN⟩ : ∃ q, Hid (xn.length = q) := ⟨_, Lib.hid rfl⟩
  obtain ⟨L, HL⟩ : ∃ q, Hid (xa.length = q) := ⟨_, Lib.hid rfl⟩
  rw [HT.out, HN.out, HL.out] at hA hb1 HF HSn HSf HSs HRn HRf HRs ⊢
  rw [HT.out, HN.out, HL.out] at HSg
  rw [HT.out, HN.out, HL.out] at HRg
  obtain ⟨Fit, hFit⟩ : ∃ v, Hid (FitC ⟨xt, xta, xtc, xn, xna, xnc, xa, xaa, xac⟩ = v) := ⟨_, Lib.hid rfl⟩
  rw [hFit.out] at Hfit HSn HSf HSg HSs HRn HRf HRg HRs
  have HF' : Hid (∀ W, Below w.heap.size w W → Calls Try.prog 14 #[.agg #[.slice xta T xtc, .slice xna N xnc, .slice xaa L xac]] W fun e w' => e = .returned (.bool B) ∧ Below W.heap.size W w') := HF
  have x0 := hA.cell 0
  have x1 := hA.cell 1
  have x2 := hA.cell 2
  have xl := hA.lt
  simp only [List.getElem?_cons_zero, List.getElem?_cons_succ] at x0 x1 x2
  have HA := Lib.hid hA
  have Hb1 := Lib.hid hb1
  clear hA hb1 h1 h2 h3 hs HF hd
  go_enter Try.func3, Try.ntmps3
  go_wp2_with (fail)
  obtain ⟨bx, hbx⟩ : ∃ q, Hid (w.heap.size = q) := ⟨_, Lib.hid rfl⟩
  rw [hbx.out] at HA xl x0 x1 x2 ⊢
  generalize hV : World.alloc w _ = V1 at HA x0 x1 x2 xl Hb1 ⊢
  clear hV
  refine (live9_any V1).mono ?_
  rintro e w2 ⟨rfl, hb⟩
  have HA2 := Lib.hid (HA.out.below hb HA.out.lt)
  have Hb2 := Lib.hid (Hb1.out.trans (hb.mono Hb1.out.size))
  clear x0 x1 x2 xl hb
  have x0 := HA2.out.cell 0
  have x1 := HA2.out.cell 1
  have x2 := HA2.out.cell 2
  have xl := HA2.out.lt
  simp only [List.getElem?_cons_zero, List.getElem?_cons_succ] at x0 x1 x2
  go_wp2_with (fail)
  refine (HF'.out w2 Hb2.out).mono ?_
  rintro e w3 ⟨rfl, hb⟩
  have HA3 := Lib.hid (HA2.out.below hb HA2.out.lt)
  have Hb3 := Lib.hid (Hb2.out.trans (hb.mono Hb2.out.size))
  clear x0 x1 x2 xl hb HF'
  cases B
  · go_wp2_with (fail)
    exact bodyPost_ret (v := .bool true) (by simp [results, Try.results3, go_sem]; try first | rfl | assumption | omega) rfl ⟨rfl, Hb3.out⟩
  have hfit := Hfit.out rfl
  have HSn2 := Lib.hid (HSn.out hfit)
  have HSf2 := Lib.hid (HSf.out hfit)
  have HSg2 := Lib.hid (HSg.out hfit)
  have HSs2 := Lib.hid (HSs.out hfit)
  have HRn2 := Lib.hid (HRn.out hfit)
  have HRf2 := Lib.hid (HRf.out hfit)
  have HRg2 := Lib.hid (HRg.out hfit)
  have HRs2 := Lib.hid (HRs.out hfit)
  clear HSn HSf HSg HSs HRn HRf HRg HRs Hfit hfit
  have hd3 := (Below.refl w3.heap.size w3).drew
  go_wp2_with (fail)
  have HA3b := Lib.hid (HA3.out.below hd3 HA3.out.lt)
  have Hb3b := Lib.hid (Hb3.out.trans (hd3.mono Hb3.out.size))
  clear HA3 Hb3 hd3
  have HA3 := HA3b
  have Hb3 := Hb3b
  clear HA3b Hb3b
  have HS3 : Hid (w3.drew.cell? ⟨bx, 0, none⟩ = some (.slice xta T xtc) ∧ w3.drew.cell? ⟨bx, 1, none⟩ = some (.slice xna N xnc) ∧ w3.drew.cell? ⟨bx, 2, none⟩ = some (.slice xaa L xac)) := Lib.hid ⟨HA3.out.cell 0, HA3.out.cell 1, HA3.out.cell 2⟩
  refine wp_region_held_drew (S := fun w' => w'.cell? ⟨bx, 0, none⟩ = some (.slice xta T xtc) ∧ w'.cell? ⟨bx, 1, none⟩ = some (.slice xna N xnc) ∧ w'.cell? ⟨bx, 2, none⟩ = some (.slice xaa L xac)) (by kernel_rfl) ?_ (fun hHeld => ?_)
  · exact HS3.out
  refine wpAnyH_take (i := 0) (v := ?_) (iatLS iatZS) (by kernel_rfl) (by kernel_rfl) (by kernel_rfl) (fun _ _ _ h => h) (Or.inl ⟨by rfl, ?_⟩) (by assumption) ?_
  rotate_left
  · intro w hSw
    try dsimp only at hSw
    go_simp
    all_goals with_reducible rfl
  try simp only [Act.put, List.setIfInBounds_toArray, List.set_cons_zero, List.set_cons_succ]
  refine wpAnyH_take (i := 1) (v := ?_) (iatLS (iatSS iatZS)) (by kernel_rfl) (by kernel_rfl) (by kernel_rfl) (fun _ _ _ h => h) (Or.inl ⟨by rfl, ?_⟩) (by assumption) ?_
  rotate_left
  · intro w hSw
    try dsimp only at hSw
    go_simp
    all_goals with_reducible rfl
  try simp only [Act.put, List.setIfInBounds_toArray, List.set_cons_zero, List.set_cons_succ]
  refine wpAnyH_take (i := 2) (v := ?_) (iatLS (iatSS (iatSS iatZS))) (by kernel_rfl) (by kernel_rfl) (by kernel_rfl) (fun _ _ _ h => h) (Or.inl ⟨by rfl, ?_⟩) (by assumption) ?_
  rotate_left
  · intro w hSw
    try dsimp only at hSw
    go_simp
    all_goals with_reducible rfl
  try simp only [Act.put, List.setIfInBounds_toArray, List.set_cons_zero, List.set_cons_succ]
  refine wpAnyH_take (i := 4) (v := ?_) (iatLS (iatSS (iatSS (iatSS (iatSS iatZS))))) (by kernel_rfl) (by kernel_rfl) (by kernel_rfl) (fun _ _ _ h => h) (Or.inl ⟨by rfl, ?_⟩) (by assumption) ?_
  rotate_left
  · intro w hSw
    try dsimp only at hSw
    go_simp
    all_goals with_reducible rfl
  try simp only [Act.put, List.setIfInBounds_toArray, List.set_cons_zero, List.set_cons_succ]
  refine wpAnyH_ready (rs := [3]) (by kernel_rfl) (by simp) ?_
  refine AllReadyH.cons (iatLS (iatSS (iatSS (iatSS iatZS)))) (fun K hK => ?_) AllReadyH.nil
  go_simp
  (with_reducible refine (HSn2.out _ Hb3.out).mono ?_)
  rintro e8 W4 ⟨na, nc, rfl, ho, hb⟩
  have HA4 := Lib.hid (HA3.out.below hb HA3.out.lt)
  have Hb4 := Lib.hid (Hb3.out.trans (hb.mono Hb3.out.size))
  have Hx := Lib.hid (show Vs W4 na nc (((List.range L).map f).map Value.bool) by have := OwnBl.bls ho; rwa [List.map_map])
  have HS4 : Hid (W4.cell? ⟨bx, 0, none⟩ = some (.slice xta T xtc) ∧ W4.cell? ⟨bx, 1, none⟩ = some (.slice xna N xnc) ∧ W4.cell? ⟨bx, 2, none⟩ = some (.slice xaa L xac)) := Lib.hid ⟨HA4.out.cell 0, HA4.out.cell 1, HA4.out.cell 2⟩
  clear hb ho
  try dsimp only
  refine hK.out _ _ ?_ (fun hHeld => ?_)
  · exact HS4.out
  clear hK K
  try simp only [Act.put, List.setIfInBounds_toArray, List.set_cons_zero, List.set_cons_succ]
  refine wpAnyH_ready (rs := [5]) (by kernel_rfl) (by simp) ?_
  refine AllReadyH.cons (iatLS (iatSS (iatSS (iatSS (iatSS (iatSS iatZS)))))) (fun K hK => ?_) AllReadyH.nil
  go_simp
  (with_reducible refine (HRn2.out _ Hb4.out).mono ?_)
  rintro e8 W5 ⟨ma, mc, rfl, ho, hb⟩
  have HA5 := Lib.hid (HA4.out.below hb HA4.out.lt)
  have Hb5 := Lib.hid (Hb4.out.trans (hb.mono Hb4.out.size))
  have Hy := Lib.hid (show Vs W5 ma mc (((List.range L).map f).map Value.bool) by have := OwnBl.bls ho; rwa [List.map_map])
  have Hx2 := Lib.hid (Vs.grown Hx.out hb)
  have Hs := Lib.hid (sameBools9_any na ma nc mc ((List.range L).map f) ((List.range L).map f) W5 Hx2.out Hy.out)
  rw [decide_eq_true rfl, List.length_map, List.length_range] at Hs
  have HS5 : Hid (W5.cell? ⟨bx, 0, none⟩ = some (.slice xta T xtc) ∧ W5.cell? ⟨bx, 1, none⟩ = some (.slice xna N xnc) ∧ W5.cell? ⟨bx, 2, none⟩ = some (.slice xaa L xac)) := Lib.hid ⟨HA5.out.cell 0, HA5.out.cell 1, HA5.out.cell 2⟩
  clear hb ho Hx
  try dsimp only
  refine hK.out _ _ ?_ (fun hHeld => ?_)
  · exact HS5.out
  clear hK K
  try simp only [Act.put, List.setIfInBounds_toArray, List.set_cons_zero, List.set_cons_succ]
  refine wpAnyH_ready (rs := [6]) (by kernel_rfl) (by simp) ?_
  refine AllReadyH.cons (iatLS (iatSS (iatSS (iatSS (iatSS (iatSS (iatSS iatZS))))))) (fun K hK => ?_) AllReadyH.nil
  go_simp
  (with_reducible refine Hs.out.mono ?_)
  rintro e8 W6 ⟨rfl, hb⟩
  have HA6 := Lib.hid (HA5.out.below hb HA5.out.lt)
  have Hb6 := Lib.hid (Hb5.out.trans (hb.mono Hb5.out.size))
  have HS6 : Hid (W6.cell? ⟨bx, 0, none⟩ = some (.slice xta T xtc) ∧ W6.cell? ⟨bx, 1, none⟩ = some (.slice xna N xnc) ∧ W6.cell? ⟨bx, 2, none⟩ = some (.slice xaa L xac)) := Lib.hid ⟨HA6.out.cell 0, HA6.out.cell 1, HA6.out.cell 2⟩
  clear hb Hs Hx2 Hy
  try dsimp only
  refine hK.out _ _ ?_ (fun hHeld => ?_)
  · exact HS6.out
  clear hK K
  try simp only [Act.put, List.setIfInBounds_toArray, List.set_cons_zero, List.set_cons_succ]
  refine wpAnyH_take (i := 7) (v := ?_) (iatLS (iatSS (iatSS (iatSS (iatSS (iatSS (iatSS (iatSS iatZS)))))))) (by kernel_rfl) (by kernel_rfl) (by kernel_rfl) (fun _ _ _ h => h) (Or.inl ⟨by rfl, ?_⟩) (by assumption) ?_
  rotate_left
  · intro w hSw
    try dsimp only at hSw
    go_simp
    all_goals with_reducible rfl
  try simp only [Act.put, List.setIfInBounds_toArray, List.set_cons_zero, List.set_cons_succ]
  refine wpAnyH_take (i := 8) (v := ?_) (iatLS (iatSS (iatSS (iatSS (iatSS (iatSS (iatSS (iatSS (iatSS iatZS))))))))) (by kernel_rfl) (by kernel_rfl) (by kernel_rfl) (fun _ _ _ h => h) (Or.inl ⟨by rfl, ?_⟩) (by assumption) ?_
  rotate_left
  · intro w hSw
    try dsimp only at hSw
    go_simp
    all_goals with_reducible rfl
  try simp only [Act.put, List.setIfInBounds_toArray, List.set_cons_zero, List.set_cons_succ]
  refine wpAnyH_take (i := 9) (v := ?_) (iatLS (iatSS (iatSS (iatSS (iatSS (iatSS (iatSS (iatSS (iatSS (iatSS iatZS)))))))))) (by kernel_rfl) (by kernel_rfl) (by kernel_rfl) (fun _ _ _ h => h) (Or.inl ⟨by rfl, ?_⟩) (by assumption) ?_
  rotate_left
  · intro w hSw
    try dsimp only at hSw
    go_simp
    all_goals with_reducible rfl
  try simp only [Act.put, List.setIfInBounds_toArray, List.set_cons_zero, List.set_cons_succ]
  refine wpAnyH_take (i := 11) (v := ?_) (iatLS (iatSS (iatSS (iatSS (iatSS (iatSS (iatSS (iatSS (iatSS (iatSS (iatSS (iatSS iatZS)))))))))))) (by kernel_rfl) (by kernel_rfl) (by kernel_rfl) (fun _ _ _ h => h) (Or.inl ⟨by rfl, ?_⟩) (by assumption) ?_
  rotate_left
  · intro w hSw
    try dsimp only at hSw
    go_simp
    all_goals with_reducible rfl
  try simp only [Act.put, List.setIfInBounds_toArray, List.set_cons_zero, List.set_cons_succ]
  refine wpAnyH_ready (rs := [10]) (by kernel_rfl) (by simp) ?_
  refine AllReadyH.cons (iatLS (iatSS (iatSS (iatSS (iatSS (iatSS (iatSS (iatSS (iatSS (iatSS (iatSS iatZS))))))))))) (fun K hK => ?_) AllReadyH.nil
  go_simp
  (with_reducible refine (HSf2.out _ Hb6.out).mono ?_)
  rintro e8 W7 ⟨na, nc, ds, rfl, hdl, hal, hri, hb⟩
  have HA7 := Lib.hid (HA6.out.below hb HA6.out.lt)
  have Hb7 := Lib.hid (Hb6.out.trans (hb.mono Hb6.out.size))
  have Hal := Lib.hid hal
  have Hdl := Lib.hid hdl
  have Hri := Lib.hid hri
  have HS7 : Hid (W7.cell? ⟨bx, 0, none⟩ = some (.slice xta T xtc) ∧ W7.cell? ⟨bx, 1, none⟩ = some (.slice xna N xnc) ∧ W7.cell? ⟨bx, 2, none⟩ = some (.slice xaa L xac)) := Lib.hid ⟨HA7.out.cell 0, HA7.out.cell 1, HA7.out.cell 2⟩
  clear hb hal hri hdl
  try dsimp only
  refine hK.out _ _ ?_ (fun hHeld => ?_)
  · exact HS7.out
  clear hK K
  try simp only [Act.put, List.setIfInBounds_toArray, List.set_cons_zero, List.set_cons_succ]
  refine wpAnyH_ready (rs := [12]) (by kernel_rfl) (by simp) ?_
  refine AllReadyH.cons (iatLS (iatSS (iatSS (iatSS (iatSS (iatSS (iatSS (iatSS (iatSS (iatSS (iatSS (iatSS (iatSS iatZS))))))))))))) (fun K hK => ?_) AllReadyH.nil
  go_simp
  (with_reducible refine (HRf2.out _ Hb7.out).mono ?_)
  rintro e8 W8 ⟨ma, mc, es, rfl, hdl, hal, hri, hb⟩
  have HA8 := Lib.hid (HA7.out.below hb HA7.out.lt)
  have Hb8 := Lib.hid (Hb7.out.trans (hb.mono Hb7.out.size))
  have hds : Hid (ds.map (fun x => x.l) = es.map (fun x => x.l)) := Lib.hid (lists_same (by rw [Hdl.out, hdl]) (fun r h h2 => (Hri.out r h).same (hri r h2) (fun _ => Iff.rfl)))
  have Hs := Lib.hid (sameLists9_any na ma nc mc ds es W8 (Hal.out.grown hb) hal)
  rw [decide_eq_true hds.out, Hdl.out, hdl] at Hs
  have HS8 : Hid (W8.cell? ⟨bx, 0, none⟩ = some (.slice xta T xtc) ∧ W8.cell? ⟨bx, 1, none⟩ = some (.slice xna N xnc) ∧ W8.cell? ⟨bx, 2, none⟩ = some (.slice xaa L xac)) := Lib.hid ⟨HA8.out.cell 0, HA8.out.cell 1, HA8.out.cell 2⟩
  clear hb hal hri hdl hds Hal Hri
  try dsimp only
  refine hK.out _ _ ?_ (fun hHeld => ?_)
  · exact HS8.out
  clear hK K
  try simp only [Act.put, List.setIfInBounds_toArray, List.set_cons_zero, List.set_cons_succ]
  refine wpAnyH_ready (rs := [13]) (by kernel_rfl) (by simp) ?_
  refine AllReadyH.cons (iatLS (iatSS (iatSS (iatSS (iatSS (iatSS (iatSS (iatSS (iatSS (iatSS (iatSS (iatSS (iatSS (iatSS iatZS)))))))))))))) (fun K hK => ?_) AllReadyH.nil
  go_simp
  (with_reducible refine Hs.out.mono ?_)
  rintro e8 W9 ⟨rfl, hb⟩
  have HA9 := Lib.hid (HA8.out.below hb HA8.out.lt)
  have Hb9 := Lib.hid (Hb8.out.trans (hb.mono Hb8.out.size))
  have HS9 : Hid (W9.cell? ⟨bx, 0, none⟩ = some (.slice xta T xtc) ∧ W9.cell? ⟨bx, 1, none⟩ = some (.slice xna N xnc) ∧ W9.cell? ⟨bx, 2, none⟩ = some (.slice xaa L xac)) := Lib.hid ⟨HA9.out.cell 0, HA9.out.cell 1, HA9.out.cell 2⟩
  clear hb Hs Hdl
  try dsimp only
  refine hK.out _ _ ?_ (fun hHeld => ?_)
  · exact HS9.out
  clear hK K
  try simp only [Act.put, List.setIfInBounds_toArray, List.set_cons_zero, List.set_cons_succ]
  refine wpAnyH_take (i := 14) (v := ?_) (iatLS (iatSS (iatSS (iatSS (iatSS (iatSS (iatSS (iatSS (iatSS (iatSS (iatSS (iatSS (iatSS (iatSS (iatSS iatZS))))))))))))))) (by kernel_rfl) (by kernel_rfl) (by kernel_rfl) (fun _ _ _ h => h) (Or.inl ⟨by rfl, ?_⟩) (by assumption) ?_
  rotate_left
  · intro w hSw
    try dsimp only at hSw
    go_simp
    all_goals with_reducible rfl
  try simp only [Act.put, List.setIfInBounds_toArray, List.set_cons_zero, List.set_cons_succ]
  refine wpAnyH_take (i := 15) (v := ?_) (iatLS (iatSS (iatSS (iatSS (iatSS (iatSS (iatSS (iatSS (iatSS (iatSS (iatSS (iatSS (iatSS (iatSS (iatSS (iatSS iatZS)))))))))))))))) (by kernel_rfl) (by kernel_rfl) (by kernel_rfl) (fun _ _ _ h => h) (Or.inl ⟨by rfl, ?_⟩) (by assumption) ?_
  rotate_left
  · intro w hSw
    try dsimp only at hSw
    go_simp
    all_goals with_reducible rfl
  try simp only [Act.put, List.setIfInBounds_toArray, List.set_cons_zero, List.set_cons_succ]
  refine wpAnyH_take (i := 16) (v := ?_) (iatLS (iatSS (iatSS (iatSS (iatSS (iatSS (iatSS (iatSS (iatSS (iatSS (iatSS (iatSS (iatSS (iatSS (iatSS (iatSS (iatSS iatZS))))))))))))))))) (by kernel_rfl) (by kernel_rfl) (by kernel_rfl) (fun _ _ _ h => h) (Or.inl ⟨by rfl, ?_⟩) (by assumption) ?_
  rotate_left
  · intro w hSw
    try dsimp only at hSw
    go_simp
    all_goals with_reducible rfl
  try simp only [Act.put, List.setIfInBounds_toArray, List.set_cons_zero, List.set_cons_succ]
  refine wpAnyH_take (i := 18) (v := ?_) (iatLS (iatSS (iatSS (iatSS (iatSS (iatSS (iatSS (iatSS (iatSS (iatSS (iatSS (iatSS (iatSS (iatSS (iatSS (iatSS (iatSS (iatSS (iatSS iatZS))))))))))))))))))) (by kernel_rfl) (by kernel_rfl) (by kernel_rfl) (fun _ _ _ h => h) (Or.inl ⟨by rfl, ?_⟩) (by assumption) ?_
  rotate_left
  · intro w hSw
    try dsimp only at hSw
    go_simp
    all_goals with_reducible rfl
  try simp only [Act.put, List.setIfInBounds_toArray, List.set_cons_zero, List.set_cons_succ]
  refine wpAnyH_ready (rs := [17]) (by kernel_rfl) (by simp) ?_
  refine AllReadyH.cons (iatLS (iatSS (iatSS (iatSS (iatSS (iatSS (iatSS (iatSS (iatSS (iatSS (iatSS (iatSS (iatSS (iatSS (iatSS (iatSS (iatSS (iatSS iatZS)))))))))))))))))) (fun K hK => ?_) AllReadyH.nil
  go_simp
  (with_reducible refine (HSg2.out _ Hb9.out).mono ?_)
  rintro e8 W10 ⟨na, nc, ds, rfl, hdl, hal, hri, hb⟩
  have HA10 := Lib.hid (HA9.out.below hb HA9.out.lt)
  have Hb10 := Lib.hid (Hb9.out.trans (hb.mono Hb9.out.size))
  have Hal := Lib.hid hal
  have Hdl := Lib.hid hdl
  have Hri := Lib.hid hri
  have HS10 : Hid (W10.cell? ⟨bx, 0, none⟩ = some (.slice xta T xtc) ∧ W10.cell? ⟨bx, 1, none⟩ = some (.slice xna N xnc) ∧ W10.cell? ⟨bx, 2, none⟩ = some (.slice xaa L xac)) := Lib.hid ⟨HA10.out.cell 0, HA10.out.cell 1, HA10.out.cell 2⟩
  clear hb hal hri hdl
  try dsimp only
  refine hK.out _ _ ?_ (fun hHeld => ?_)
  · exact HS10.out
  clear hK K
  try simp only [Act.put, List.setIfInBounds_toArray, List.set_cons_zero, List.set_cons_succ]
  refine wpAnyH_ready (rs := [19]) (by kernel_rfl) (by simp) ?_
  refine AllReadyH.cons (iatLS (iatSS (iatSS (iatSS (iatSS (iatSS (iatSS (iatSS (iatSS (iatSS (iatSS (iatSS (iatSS (iatSS (iatSS (iatSS (iatSS (iatSS (iatSS (iatSS iatZS)))))))))))))))))))) (fun K hK => ?_) AllReadyH.nil
  go_simp
  (with_reducible refine (HRg2.out _ Hb10.out).mono ?_)
  rintro e8 W11 ⟨ma, mc, es, rfl, hdl, hal, hri, hb⟩
  have HA11 := Lib.hid (HA10.out.below hb HA10.out.lt)
  have Hb11 := Lib.hid (Hb10.out.trans (hb.mono Hb10.out.size))
  have hds : Hid (ds.map (fun x => x.l) = es.map (fun x => x.l)) := Lib.hid (lists_same (by rw [Hdl.out, hdl]) (fun r h h2 => (Hri.out r h).same (hri r h2) (fun _ => Iff.rfl)))
  have Hs := Lib.hid (sameLists9_any na ma nc mc ds es W11 (Hal.out.grown hb) hal)
  rw [decide_eq_true hds.out, Hdl.out, hdl] at Hs
  have HS11 : Hid (W11.cell? ⟨bx, 0, none⟩ = some (.slice xta T xtc) ∧ W11.cell? ⟨bx, 1, none⟩ = some (.slice xna N xnc) ∧ W11.cell? ⟨bx, 2, none⟩ = some (.slice xaa L xac)) := Lib.hid ⟨HA11.out.cell 0, HA11.out.cell 1, HA11.out.cell 2⟩
  clear hb hal hri hdl hds Hal Hri
  try dsimp only
  refine hK.out _ _ ?_ (fun hHeld => ?_)
  · exact HS11.out
  clear hK K
  try simp only [Act.put, List.setIfInBounds_toArray, List.set_cons_zero, List.set_cons_succ]
  refine wpAnyH_ready (rs := [20]) (by kernel_rfl) (by simp) ?_
  refine AllReadyH.cons (iatLS (iatSS (iatSS (iatSS (iatSS (iatSS (iatSS (iatSS (iatSS (iatSS (iatSS (iatSS (iatSS (iatSS (iatSS (iatSS (iatSS (iatSS (iatSS (iatSS (iatSS iatZS))))))))))))))))))))) (fun K hK => ?_) AllReadyH.nil
  go_simp
  (with_reducible refine Hs.out.mono ?_)
  rintro e8 W12 ⟨rfl, hb⟩
  have HA12 := Lib.hid (HA11.out.below hb HA11.out.lt)
  have Hb12 := Lib.hid (Hb11.out.trans (hb.mono Hb11.out.size))
  have HS12 : Hid (W12.cell? ⟨bx, 0, none⟩ = some (.slice xta T xtc) ∧ W12.cell? ⟨bx, 1, none⟩ = some (.slice xna N xnc) ∧ W12.cell? ⟨bx, 2, none⟩ = some (.slice xaa L xac)) := Lib.hid ⟨HA12.out.cell 0, HA12.out.cell 1, HA12.out.cell 2⟩
  clear hb Hs Hdl
  try dsimp only
  refine hK.out _ _ ?_ (fun hHeld => ?_)
  · exact HS12.out
  clear hK K
  try simp only [Act.put, List.setIfInBounds_toArray, List.set_cons_zero, List.set_cons_succ]
  refine wpAnyH_take (i := 21) (v := ?_) (iatLS (iatSS (iatSS (iatSS (iatSS (iatSS (iatSS (iatSS (iatSS (iatSS (iatSS (iatSS (iatSS (iatSS (iatSS (iatSS (iatSS (iatSS (iatSS (iatSS (iatSS (iatSS iatZS)))))))))))))))))))))) (by kernel_rfl) (by kernel_rfl) (by kernel_rfl) (fun _ _ _ h => h) (Or.inl ⟨by rfl, ?_⟩) (by assumption) ?_
  rotate_left
  · intro w hSw
    try dsimp only at hSw
    go_simp
    all_goals with_reducible rfl
  try simp only [Act.put, List.setIfInBounds_toArray, List.set_cons_zero, List.set_cons_succ]
  refine wpAnyH_take (i := 22) (v := ?_) (iatLS (iatSS (iatSS (iatSS (iatSS (iatSS (iatSS (iatSS (iatSS (iatSS (iatSS (iatSS (iatSS (iatSS (iatSS (iatSS (iatSS (iatSS (iatSS (iatSS (iatSS (iatSS (iatSS iatZS))))))))))))))))))))))) (by kernel_rfl) (by kernel_rfl) (by kernel_rfl) (fun _ _ _ h => h) (Or.inl ⟨by rfl, ?_⟩) (by assumption) ?_
  rotate_left
  · intro w hSw
    try dsimp only at hSw
    go_simp
    all_goals with_reducible rfl
  try simp only [Act.put, List.setIfInBounds_toArray, List.set_cons_zero, List.set_cons_succ]
  refine wpAnyH_take (i := 23) (v := ?_) (iatLS (iatSS (iatSS (iatSS (iatSS (iatSS (iatSS (iatSS (iatSS (iatSS (iatSS (iatSS (iatSS (iatSS (iatSS (iatSS (iatSS (iatSS (iatSS (iatSS (iatSS (iatSS (iatSS (iatSS iatZS)))))))))))))))))))))))) (by kernel_rfl) (by kernel_rfl) (by kernel_rfl) (fun _ _ _ h => h) (Or.inl ⟨by rfl, ?_⟩) (by assumption) ?_
  rotate_left
  · intro w hSw
    try dsimp only at hSw
    go_simp
    all_goals with_reducible rfl
  try simp only [Act.put, List.setIfInBounds_toArray, List.set_cons_zero, List.set_cons_succ]
  refine wpAnyH_take (i := 25) (v := ?_) (iatLS (iatSS (iatSS (iatSS (iatSS (iatSS (iatSS (iatSS (iatSS (iatSS (iatSS (iatSS (iatSS (iatSS (iatSS (iatSS (iatSS (iatSS (iatSS (iatSS (iatSS (iatSS (iatSS (iatSS (iatSS (iatSS iatZS)))))))))))))))))))))))))) (by kernel_rfl) (by kernel_rfl) (by kernel_rfl) (fun _ _ _ h => h) (Or.inl ⟨by rfl, ?_⟩) (by assumption) ?_
  rotate_left
  · intro w hSw
    try dsimp only at hSw
    go_simp
    all_goals with_reducible rfl
  try simp only [Act.put, List.setIfInBounds_toArray, List.set_cons_zero, List.set_cons_succ]
  refine wpAnyH_ready (rs := [24]) (by kernel_rfl) (by simp) ?_
  refine AllReadyH.cons (iatLS (iatSS (iatSS (iatSS (iatSS (iatSS (iatSS (iatSS (iatSS (iatSS (iatSS (iatSS (iatSS (iatSS (iatSS (iatSS (iatSS (iatSS (iatSS (iatSS (iatSS (iatSS (iatSS (iatSS (iatSS iatZS))))))))))))))))))))))))) (fun K hK => ?_) AllReadyH.nil
  go_simp
  (with_reducible refine (HSs2.out _ Hb12.out).mono ?_)
  rintro e8 W13 ⟨na, nc, rfl, ho, hb⟩
  have HA13 := Lib.hid (HA12.out.below hb HA12.out.lt)
  have Hb13 := Lib.hid (Hb12.out.trans (hb.mono Hb12.out.size))
  have Hx := Lib.hid (show Ints W13 na nc ((List.range L).map F) by have := OwnNu.nus ho; unfold Ints; rw [List.map_map]; exact this)
  have HS13 : Hid (W13.cell? ⟨bx, 0, none⟩ = some (.slice xta T xtc) ∧ W13.cell? ⟨bx, 1, none⟩ = some (.slice xna N xnc) ∧ W13.cell? ⟨bx, 2, none⟩ = some (.slice xaa L xac)) := Lib.hid ⟨HA13.out.cell 0, HA13.out.cell 1, HA13.out.cell 2⟩
  clear hb ho
  try dsimp only
  refine hK.out _ _ ?_ (fun hHeld => ?_)
  · exact HS13.out
  clear hK K
  try simp only [Act.put, List.setIfInBounds_toArray, List.set_cons_zero, List.set_cons_succ]
  refine wpAnyH_ready (rs := [26]) (by kernel_rfl) (by simp) ?_
  refine AllReadyH.cons (iatLS (iatSS (iatSS (iatSS (iatSS (iatSS (iatSS (iatSS (iatSS (iatSS (iatSS (iatSS (iatSS (iatSS (iatSS (iatSS (iatSS (iatSS (iatSS (iatSS (iatSS (iatSS (iatSS (iatSS (iatSS (iatSS (iatSS iatZS))))))))))))))))))))))))))) (fun K hK => ?_) AllReadyH.nil
  go_simp
  (with_reducible refine (HRs2.out _ Hb13.out).mono ?_)
  rintro e8 W14 ⟨ma, mc, rfl, ho, hb⟩
  have HA14 := Lib.hid (HA13.out.below hb HA13.out.lt)
  have Hb14 := Lib.hid (Hb13.out.trans (hb.mono Hb13.out.size))
  have Hy := Lib.hid (show Ints W14 ma mc ((List.range L).map F) by have := OwnNu.nus ho; unfold Ints; rw [List.map_map]; exact this)
  have Hx2 := Lib.hid (Vs.grown Hx.out hb)
  have Hs := Lib.hid (sameInts8_any na ma nc mc ((List.range L).map F) ((List.range L).map F) W14 Hx2.out Hy.out)
  rw [decide_eq_true rfl, List.length_map, List.length_range] at Hs
  have HS14 : Hid (W14.cell? ⟨bx, 0, none⟩ = some (.slice xta T xtc) ∧ W14.cell? ⟨bx, 1, none⟩ = some (.slice xna N xnc) ∧ W14.cell? ⟨bx, 2, none⟩ = some (.slice xaa L xac)) := Lib.hid ⟨HA14.out.cell 0, HA14.out.cell 1, HA14.out.cell 2⟩
  clear hb ho Hx
  try dsimp only
  refine hK.out _ _ ?_ (fun hHeld => ?_)
  · exact HS14.out
  clear hK K
  try simp only [Act.put, List.setIfInBounds_toArray, List.set_cons_zero, List.set_cons_succ]
  refine wpAnyH_ready (rs := [27]) (by kernel_rfl) (by simp) ?_
  refine AllReadyH.cons (iatLS (iatSS (iatSS (iatSS (iatSS (iatSS (iatSS (iatSS (iatSS (iatSS (iatSS (iatSS (iatSS (iatSS (iatSS (iatSS (iatSS (iatSS (iatSS (iatSS (iatSS (iatSS (iatSS (iatSS (iatSS (iatSS (iatSS (iatSS iatZS)))))))))))))))))))))))))))) (fun K hK => ?_) AllReadyH.nil
  go_simp
  (with_reducible refine Hs.out.mono ?_)
  rintro e8 W15 ⟨rfl, hb⟩
  have HA15 := Lib.hid (HA14.out.below hb HA14.out.lt)
  have Hb15 := Lib.hid (Hb14.out.trans (hb.mono Hb14.out.size))
  have HS15 : Hid (W15.cell? ⟨bx, 0, none⟩ = some (.slice xta T xtc) ∧ W15.cell? ⟨bx, 1, none⟩ = some (.slice xna N xnc) ∧ W15.cell? ⟨bx, 2, none⟩ = some (.slice xaa L xac)) := Lib.hid ⟨HA15.out.cell 0, HA15.out.cell 1, HA15.out.cell 2⟩
  clear hb Hs Hx2 Hy
  try dsimp only
  refine hK.out _ _ ?_ (fun hHeld => ?_)
  · exact HS15.out
  clear hK K
  try simp only [Act.put, List.setIfInBounds_toArray, List.set_cons_zero, List.set_cons_succ]
  refine wpAnyH_take (i := 28) (v := ?_) (iatLS (iatSS (iatSS (iatSS (iatSS (iatSS (iatSS (iatSS (iatSS (iatSS (iatSS (iatSS (iatSS (iatSS (iatSS (iatSS (iatSS (iatSS (iatSS (iatSS (iatSS (iatSS (iatSS (iatSS (iatSS (iatSS (iatSS (iatSS (iatSS iatZS))))))))))))))))))))))))))))) (by kernel_rfl) (by kernel_rfl) (by kernel_rfl) (fun _ _ _ h => h) (Or.inl ⟨by rfl, ?_⟩) (by assumption) ?_
  rotate_left
  · intro w hSw
    try dsimp only at hSw
    go_simp
    all_goals with_reducible rfl
  try simp only [Act.put, List.setIfInBounds_toArray, List.set_cons_zero, List.set_cons_succ]
  refine wpAnyH_take (i := 29) (v := ?_) (iatLS (iatSS (iatSS (iatSS (iatSS (iatSS (iatSS (iatSS (iatSS (iatSS (iatSS (iatSS (iatSS (iatSS (iatSS (iatSS (iatSS (iatSS (iatSS (iatSS (iatSS (iatSS (iatSS (iatSS (iatSS (iatSS (iatSS (iatSS (iatSS (iatSS iatZS)))))))))))))))))))))))))))))) (by kernel_rfl) (by kernel_rfl) (by kernel_rfl) (fun _ _ _ h => h) (Or.inl ⟨by rfl, ?_⟩) (by assumption) ?_
  rotate_left
  · intro w hSw
    try dsimp only at hSw
    go_simp
    all_goals with_reducible rfl
  try simp only [Act.put, List.setIfInBounds_toArray, List.set_cons_zero, List.set_cons_succ]
  refine wpAnyH_done (by kernel_rfl) ?_ _
  go_wp2_with (fail)
  exact bodyPost_ret (v := .bool true) (by simp [results, Try.results3, go_sem]; try first | rfl | assumption | omega) rfl ⟨rfl, Hb15.out⟩
end Go.Proofs.Ytldmgifphkpdlaa

namespace Go.Proofs.Ytldmgifphkpdlaa
open Go.ChangeShapes Go.WideShapes Go.ChangeAt Go.RowKit

set_option maxRecDepth 100000 in
theorem setsTell_contract (H : Type) (enc : TypeId × Value → H) (W : World) (args : Array Value) (ds gs : List (DataW H)) (before : List MemPlace)
    (hval : ∀ (j : Nat) t v, Try.f3.params[j]? = some t → args[j]? = some v → Value.okWide Try.prog W .any 0 t v)
    (hW : DataW.Whole enc Try.prog Try.f3.params.toList Rows.setsTellSpec.vars false W args.toList ds gs before) (hk : Rows.uptoSmall H (ds ++ gs) = true) :
    Calls Try.prog 3 args W fun e W' => ∃ v, e = .returned v ∧ Rows.setsTellSpec.post enc Try.prog Try.f3 false true false false W args v W' := by
  have hW' := hW
  obtain ⟨p, q, hA0, hV, rfl, hfz, hnd⟩ := hW
  have hA : DataW.TrodAll enc Try.prog W 0 (fun _ => true) true Try.f3.params.toList args.toList ds p := hA0
  rw [Try.params3] at hA hval
  obtain ⟨v0, d0, rfl, rfl, h0⟩ := trodAll_one hA
  have hb : Rows.uptoBulkAll ([d0] ++ gs) ≤ 1048576 := of_decide_eq_true hk
  simp only [List.cons_append, List.nil_append, Rows.uptoBulkAll] at hb
  obtain ⟨c, rfl, hc, z1, z2, z3, hz⟩ := open_cfg2 (hval 0 25 v0 rfl rfl) h0
  refine (lawTell_any c W hc z1 z2 z3 (by omega)).mono fun e W' ⟨he, hw⟩ => ?_
  subst he
  exact ⟨_, rfl, law_post hW' rfl rfl (by kernel_rfl) (by rw [Try.params3]; intro t ht; simp at ht; subst ht; exact ⟨by kernel_rfl, of_decide_eq_true (by kernel_rfl)⟩) hw⟩

set_option maxRecDepth 100000 in
theorem setsTell_lifted (os : Os) (started : os.Started) (H : Type) (enc : TypeId × Value → H) (F : Stop.Interp) :
    ReturnsInHanded {} Try.checked os 3 .any ((Rows.OpenSpec.upto Rows.setsTellSpec).pre6 enc Try.prog Try.f3 Rows.setsTellUptoRow.domain false) (((Rows.OpenSpec.upto Rows.setsTellSpec).at F).post enc Try.prog Try.f3 false true false false) := by
  refine returnsInHanded_of_cond (C := Try.checked) (s := Rows.OpenSpec.upto Rows.setsTellSpec) (k := Rows.uptoSmall) rfl Try.own started (by kernel_rfl) Try.func3
    (OpenSpec.witness (enc := enc) (C := Try.checked) (s := Rows.OpenSpec.upto Rows.setsTellSpec) (k := Rows.uptoSmall) rfl false ⟨#[], #[.agg #[.slice none 0 0, .slice none 0 0, .slice none 0 0]], []⟩ 8 (by kernel_rfl) (by kernel_rfl) (by kernel_rfl)
      (x := ([.agg [.nil, .nil, .nil]], [], [])) (by kernel_rfl) rfl (by kernel_rfl)) ?_
  intro W base args ds gs before hval hW _ hk _
  exact setsTell_contract H enc W args ds gs before hval hW hk

theorem setsTell_holds : Rows.SetsTellUptoSaid :=
  OpenClaim.holds_of_cond 3 Try.f3 rfl rfl rfl rfl rfl rfl rfl ⟨rfl, rfl, rfl, rfl, rfl⟩ rfl rfl rfl rfl rfl (by kernel_rfl) Try.func3 (by kernel_rfl)
    (of_decide_eq_true (by kernel_rfl)) (by unfold Func.isWrapper; first | (rw [if_pos (by decide +kernel)]; kernel_rfl) | (rw [if_neg (by decide +kernel)]; exact ⟨rfl, rfl⟩))
    (fun os started H enc _ F => setsTell_lifted os started H enc F)
end Go.Proofs.Ytldmgifphkpdlaa

