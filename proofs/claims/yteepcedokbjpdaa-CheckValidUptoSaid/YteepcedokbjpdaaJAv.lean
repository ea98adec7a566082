/- The row CheckValid in its second form: for every grammar by numbers whose reading is of bulk at most 1048576: the law answers true and changes nothing that was there. -/
/- Texts joined: Kl PVl. -/
import Derived.Test.YteepcedokbjpdaaJAu
set_option linter.unusedVariables false
set_option linter.unusedSimpArgs false
namespace Go.Proofs.Yteepcedokbjpdaa
open Go.RowKit Go.Maps

attribute [local go_sem] Oper.semAt_some

set_option maxRecDepth 100000 in
set_option maxHeartbeats 8000000 in
theorem lawValid_any (d : CfD) (w : World) (hd : CfAt w d) (hz1 : ∀ t ∈ d.toks, t.size ≤ maxLen) (hz2 : ∀ t ∈ d.names, t.size ≤ maxLen) (hw : ∀ r ∈ d.alts, ∀ a ∈ r.ds, ∀ x ∈ a.l, Bd x) (hs : d.toks.length + d.names.length + szC (d.alts.map IrD.p) ≤ 1000000000000) :
    Calls Try.prog 5 #[d.v] w fun e w' => e = .returned (.bool true) ∧ Below w.heap.size w w' := by
  have hfw := Lib.hid (fun W (hb : Below w.heap.size w W) => refFew_any d W (hd.grown hb) hs)
  obtain ⟨Z, hZ⟩ : ∃ q, Hid (decide (d.toks.length + d.names.length + szC (d.alts.map IrD.p) ≤ 600) = q) := ⟨_, Lib.hid rfl⟩
  have hFC : Hid (Z = true → FewC d) := Lib.hid (fun h => by
    have h1 := hZ.out.trans h
    rw [decide_eq_true_eq] at h1
    exact ⟨by omega, hz1, hz2⟩)
  have Hbk := Lib.hid (fun (h : Z = true) W (hb : Below w.heap.size w W) => back_any d W (hd.grown hb) (hFC.out h).hs)
  have Hbr := Lib.hid (fun (h : Z = true) W (hb : Below w.heap.size w W) => refBack_any d W (hd.grown hb) (hFC.out h).hs hw)
  have Hva := Lib.hid (fun (h : Z = true) W (hb : Below w.heap.size w W) => valid_any d W (hd.grown hb) (hFC.out h))
  have Hvr := Lib.hid (fun (h : Z = true) W (hb : Below w.heap.size w W) => refValid_any d W (hd.grown hb) (hFC.out h) hw)
  rw [hZ.out] at hfw
  dsimp only [CfD.v] at hfw Hbk Hbr Hva Hvr ⊢
  obtain ⟨T1, HT1⟩ : ∃ L, Hid (d.toks.length = L) := ⟨_, Lib.hid rfl⟩
  obtain ⟨N1, HN1⟩ : ∃ L, Hid (d.names.length = L) := ⟨_, Lib.hid rfl⟩
  obtain ⟨L1, HL1⟩ : ∃ L, Hid (d.alts.length = L) := ⟨_, Lib.hid rfl⟩
  rw [HT1.out, HN1.out, HL1.out] at hfw Hbk Hbr Hva Hvr ⊢
  obtain ⟨BE, hBE⟩ : ∃ q, Hid (backE d.p = q) := ⟨_, Lib.hid rfl⟩
  obtain ⟨BG, hBG⟩ : ∃ q, Hid (backG d.p = q) := ⟨_, Lib.hid rfl⟩
  obtain ⟨VE, hVE⟩ : ∃ q, Hid (validE d.p = q) := ⟨_, Lib.hid rfl⟩
  rw [hBE.out, hBG.out] at Hbk Hbr
  rw [hVE.out] at Hva Hvr
  obtain ⟨x, hx⟩ : ∃ q, Hid (w.heap.size = q) := ⟨_, Lib.hid rfl⟩
  have hA0 := Blk.new w 33 #[.slice d.ta T1 d.tc, .slice d.na N1 d.nc, .slice d.aa L1 d.ac]
  have hb0 : Below w.heap.size w (w.alloc (.cells #[.slice d.ta T1 d.tc, .slice d.na N1 d.nc, .slice d.aa L1 d.ac] 33)) := (Below.refl _ w).alloc (Nat.le_refl _) _
  have hxs : w.heap.size ≤ (w.alloc (.cells #[.slice d.ta T1 d.tc, .slice d.na N1 d.nc, .slice d.aa L1 d.ac] 33)).heap.size := by simp [go_sem]
  have Hfw' : Hid (∀ W, Below x w W → Calls Try.prog 17 #[.agg #[.slice d.ta T1 d.tc, .slice d.na N1 d.nc, .slice d.aa L1 d.ac], .int .i64 600] W fun e w' => e = .returned (.bool Z) ∧ Below W.heap.size W w') := by rw [← hx.out]; exact hfw
  have Hbk' : Hid (Z = true → ∀ W, Below x w W → Calls Try.prog 18 #[.agg #[.slice d.ta T1 d.tc, .slice d.na N1 d.nc, .slice d.aa L1 d.ac]] W (BackQ W BE BG)) := by rw [← hx.out]; exact Hbk
  have Hbr' : Hid (Z = true → ∀ W, Below x w W → Calls Try.prog 19 #[.agg #[.slice d.ta T1 d.tc, .slice d.na N1 d.nc, .slice d.aa L1 d.ac]] W (BackQ W BE BG)) := by rw [← hx.out]; exact Hbr
  have Hva' : Hid (Z = true → ∀ W, Below x w W → Calls Try.prog 20 #[.agg #[.slice d.ta T1 d.tc, .slice d.na N1 d.nc, .slice d.aa L1 d.ac]] W fun e w' => e = .returned (.int .i64 VE) ∧ Below W.heap.size W w') := by rw [← hx.out]; exact Hva
  have Hvr' : Hid (Z = true → ∀ W, Below x w W → Calls Try.prog 21 #[.agg #[.slice d.ta T1 d.tc, .slice d.na N1 d.nc, .slice d.aa L1 d.ac]] W fun e w' => e = .returned (.int .i64 VE) ∧ Below W.heap.size W w') := by rw [← hx.out]; exact Hvr
  rw [hx.out] at hA0 hb0 hxs ⊢
  have y0 := hA0.cell 0
  have y1 := hA0.cell 1
  have y2 := hA0.cell 2
  have yl := hA0.lt
  simp only [List.getElem?_cons_zero, List.getElem?_cons_succ] at y0 y1 y2
  clear hfw Hbk Hbr Hva Hvr hd hs hz1 hz2 hw hFC hZ
  go_enter Try.func5, Try.ntmps5
  go_wp2_with (fail)
  rw [hx.out]
  generalize hV : World.alloc w _ = V at hA0 hb0 hxs ⊢
  clear hV y0 y1 y2 yl
  refine (live8_any V).mono ?_
  rintro e w1 ⟨rfl, hb1⟩
  have HA1 := Lib.hid (hA0.below hb1 hA0.lt)
  have Hb1 := Lib.hid (hb0.trans (hb1.mono hxs))
  have hx1 := Nat.le_trans hxs hb1.size
  clear hA0 hb0 hb1 hxs
  have x0 := HA1.out.cell 0
  have x1 := HA1.out.cell 1
  have x2 := HA1.out.cell 2
  have xl := HA1.out.lt
  simp only [List.getElem?_cons_zero, List.getElem?_cons_succ] at x0 x1 x2
  go_wp2_with (fail)
  refine (Hfw'.out _ Hb1.out).mono ?_
  rintro e w2 ⟨rfl, hb2⟩
  have HA2 := Lib.hid (HA1.out.below hb2 HA1.out.lt)
  have Hb2 := Lib.hid (Hb1.out.trans (hb2.mono hx1))
  have hx2 := Nat.le_trans hx1 hb2.size
  clear hb2 HA1 Hb1 hx1 x0 x1 x2 xl Hfw'
  cases Z
  case false =>
    clear Hbk' Hbr' Hva' Hvr' HA2
    go_wp2_with (fail)
    exact bodyPost_ret (v := .bool true) (by simp [results, Try.results5, go_sem]; try first | rfl | assumption | omega) rfl ⟨rfl, Hb2.out⟩
  case true =>
  have G1 := Lib.hid (Hbk'.out rfl)
  have G2 := Lib.hid (Hbr'.out rfl)
  have G3 := Lib.hid (Hva'.out rfl)
  have G4 := Lib.hid (Hvr'.out rfl)
  clear Hbk' Hbr' Hva' Hvr'
  have x0 := HA2.out.cell 0
  have x1 := HA2.out.cell 1
  have x2 := HA2.out.cell 2
  have xl := HA2.out.lt
  simp only [List.getElem?_cons_zero, List.getElem?_cons_succ] at x0 x1 x2
  go_wp2_with (fail)
  refine (G1.out _ Hb2.out).mono ?_
  rintro e w3 ⟨gs, ga, gc, rfl, hgs, hgp, hb3⟩
  obtain ⟨GL, HGL⟩ : ∃ q, Hid (gs.length = q) := ⟨_, Lib.hid rfl⟩
  rw [HGL.out]
  have hg4 : Below w3.heap.size w3 (w3.alloc (.cells #[.slice ga GL gc] 24)) := (Below.refl _ w3).alloc (Nat.le_refl _) _
  have HC4 := Lib.hid (Blk.new w3 24 #[.slice ga GL gc])
  have hb34 := hb3.trans (hg4.mono hb3.size)
  have HA4 := Lib.hid (HA2.out.below hb34 HA2.out.lt)
  have Hb4 := Lib.hid (Hb2.out.trans (hb34.mono hx2))
  have hx4 := Nat.le_trans hx2 hb34.size
  have Hgs := Lib.hid (hgs.grown hg4)
  have Hgp := Lib.hid hgp
  clear hb3 hb34 hg4 HA2 Hb2 hx2 x0 x1 x2 xl G1 hgs hgp
  have x0 := HA4.out.cell 0
  have x1 := HA4.out.cell 1
  have x2 := HA4.out.cell 2
  have xl := HA4.out.lt
  simp only [List.getElem?_cons_zero, List.getElem?_cons_succ] at x0 x1 x2
  obtain ⟨y, hy⟩ : ∃ q, Hid (w3.heap.size = q) := ⟨_, Lib.hid rfl⟩
  rw [hy.out] at HC4
  go_wp2_with (fail)
  rw [hy.out]
  generalize hV : World.alloc w3 _ = W4 at HC4 HA4 Hb4 hx4 Hgs x0 x1 x2 xl ⊢
  clear hV x0 x1 x2 xl
  refine (G2.out _ Hb4.out).mono ?_
  rintro e w5 ⟨gs2, ga2, gc2, rfl, hgs2, hgp2, hb5⟩
  obtain ⟨GM, HGM⟩ : ∃ q, Hid (gs2.length = q) := ⟨_, Lib.hid rfl⟩
  rw [HGM.out]
  have hg6 : Below w5.heap.size w5 (w5.alloc (.cells #[.slice ga2 GM gc2] 24)) := (Below.refl _ w5).alloc (Nat.le_refl _) _
  have HE6 := Lib.hid (Blk.new w5 24 #[.slice ga2 GM gc2])
  have hb56 := hb5.trans (hg6.mono hb5.size)
  have HA6 := Lib.hid (HA4.out.below hb56 HA4.out.lt)
  have HC6 := Lib.hid (HC4.out.below hb56 HC4.out.lt)
  have Hb6 := Lib.hid (Hb4.out.trans (hb56.mono hx4))
  have hx6 := Nat.le_trans hx4 hb56.size
  have Hgs6 := Lib.hid (Hgs.out.grown hb56)
  have Hgs2 := Lib.hid (hgs2.grown hg6)
  have hdec : decide (grP gs = grP gs2) = true := decide_eq_true (Hgp.out.trans hgp2.symm)
  obtain ⟨z, hz⟩ : ∃ q, Hid (w5.heap.size = q) := ⟨_, Lib.hid rfl⟩
  rw [hz.out] at HE6
  have Hsm := Lib.hid (fun W (hb : Below (w5.alloc (.cells #[.slice ga2 GM gc2] 24)).heap.size (w5.alloc (.cells #[.slice ga2 GM gc2] 24)) W) => refGSame_any ga ga2 gc gc2 gs gs2 W (Hgs6.out.grown hb) (Hgs2.out.grown hb))
  rw [HGL.out, HGM.out, hdec] at Hsm
  clear hb5 hb56 hg6 HA4 HC4 Hb4 hx4 G2 hgs2 hgp2 Hgp Hgs hdec
  go_wp2_with (fail)
  try rw [hz.out]
  generalize hV : World.alloc w5 _ = W6 at HC6 HA6 HE6 Hb6 hx6 Hgs6 Hgs2 Hsm ⊢
  clear hV Hgs6 Hgs2
  have HS0 : Hid (W6.drew.cell? ⟨x, 0, none⟩ = some (.slice d.ta T1 d.tc) ∧ W6.drew.cell? ⟨x, 1, none⟩ = some (.slice d.na N1 d.nc) ∧ W6.drew.cell? ⟨x, 2, none⟩ = some (.slice d.aa L1 d.ac) ∧ W6.drew.cell? ⟨y, 0, none⟩ = some (.slice ga GL gc) ∧ W6.drew.cell? ⟨z, 0, none⟩ = some (.slice ga2 GM gc2)) := Lib.hid ⟨by simpa using HA6.out.cell 0, by simpa using HA6.out.cell 1, by simpa using HA6.out.cell 2, by simpa using HC6.out.cell 0, by simpa using HE6.out.cell 0⟩
  have Hb6d := Lib.hid (Hb6.out.drew)
  have hx6d : x ≤ W6.drew.heap.size := hx6
  have hr6 : Hid (Below W6.heap.size W6 W6.drew) := Lib.hid ((Below.refl _ W6).drew)
  have Hsm' : Hid (∀ W, Below W6.heap.size W6 W → Calls Try.prog 22 #[.agg #[.slice ga GL gc], .agg #[.slice ga2 GM gc2]] W fun e w' => e = .returned (.bool true) ∧ Below W.heap.size W w') := Hsm
  clear Hsm
  refine wp_region_held_drew (S := fun w' => (w'.cell? ⟨x, 0, none⟩ = some (.slice d.ta T1 d.tc) ∧ w'.cell? ⟨x, 1, none⟩ = some (.slice d.na N1 d.nc) ∧ w'.cell? ⟨x, 2, none⟩ = some (.slice d.aa L1 d.ac) ∧ w'.cell? ⟨y, 0, none⟩ = some (.slice ga GL gc) ∧ w'.cell? ⟨z, 0, none⟩ = some (.slice ga2 GM gc2))) (by kernel_rfl) ?_ (fun hHeld => ?_)
  · exact HS0.out
  refine wpAnyH_take (i := 0) (v := ?_) (iatLS iatZS) (by kernel_rfl) (by kernel_rfl) (by kernel_rfl) (fun _ _ _ h => h) (Or.inl ⟨by rfl, ?_⟩) (by assumption) ?_
  rotate_left
  · intro w hSw
    try dsimp only at hSw
    go_simp
    all_goals with_reducible rfl
  try simp only [Act.put, List.setIfInBounds_toArray, List.set_cons_zero, List.set_cons_succ]
  refine wpAnyH_take (i := 1) (v := ?_) (iatLS (iatSS iatZS)) (by kernel_rfl) (by kernel_rfl) (by kernel_rfl) (fun _ _ _ h => h) (Or.inl ⟨by rfl, ?_⟩) (by assumption) ?_
  rotate_left
  · intro w hSw
    try dsimp only at hSw
    go_simp
    all_goals with_reducible rfl
  try simp only [Act.put, List.setIfInBounds_toArray, List.set_cons_zero, List.set_cons_succ]
  refine wpAnyH_take (i := 2) (v := ?_) (iatLS (iatSS (iatSS iatZS))) (by kernel_rfl) (by kernel_rfl) (by kernel_rfl) (fun _ _ _ h => h) (Or.inl ⟨by rfl, ?_⟩) (by assumption) ?_
  rotate_left
  · intro w hSw
    try dsimp only at hSw
    go_simp
    all_goals with_reducible rfl
  try simp only [Act.put, List.setIfInBounds_toArray, List.set_cons_zero, List.set_cons_succ]
  refine wpAnyH_take (i := 4) (v := ?_) (iatLS (iatSS (iatSS (iatSS (iatSS iatZS))))) (by kernel_rfl) (by kernel_rfl) (by kernel_rfl) (fun _ _ _ h => h) (Or.inl ⟨by rfl, ?_⟩) (by assumption) ?_
  rotate_left
  · intro w hSw
    try dsimp only at hSw
    go_simp
    all_goals with_reducible rfl
  try simp only [Act.put, List.setIfInBounds_toArray, List.set_cons_zero, List.set_cons_succ]
  refine wpAnyH_ready (rs := [3]) (by kernel_rfl) (by simp) ?_
  refine AllReadyH.cons (iatLS (iatSS (iatSS (iatSS iatZS)))) (fun K hK => ?_) AllReadyH.nil
  go_simp
  refine (G3.out _ Hb6d.out).mono ?_
  rintro e w7 ⟨rfl, hb7⟩
  have HS7 : Hid (w7.cell? ⟨x, 0, none⟩ = some (.slice d.ta T1 d.tc) ∧ w7.cell? ⟨x, 1, none⟩ = some (.slice d.na N1 d.nc) ∧ w7.cell? ⟨x, 2, none⟩ = some (.slice d.aa L1 d.ac) ∧ w7.cell? ⟨y, 0, none⟩ = some (.slice ga GL gc) ∧ w7.cell? ⟨z, 0, none⟩ = some (.slice ga2 GM gc2)) := Lib.hid ⟨cell_up hb7 HS0.out.1, cell_up hb7 HS0.out.2.1, cell_up hb7 HS0.out.2.2.1, cell_up hb7 HS0.out.2.2.2.1, cell_up hb7 HS0.out.2.2.2.2⟩
  have Hb7 := Lib.hid (Hb6d.out.trans (hb7.mono hx6d))
  have hx7 := Nat.le_trans hx6d hb7.size
  have hr7 : Hid (Below W6.heap.size W6 w7) := Lib.hid (hr6.out.trans (hb7.mono hr6.out.size))
  clear hb7
  refine hK.out _ _ ?_ (fun hHeld => ?_)
  · exact HS7.out
  clear hK K
  try simp only [Act.put, List.setIfInBounds_toArray, List.set_cons_zero, List.set_cons_succ]
  refine wpAnyH_ready (rs := [5]) (by kernel_rfl) (by simp) ?_
  refine AllReadyH.cons (iatLS (iatSS (iatSS (iatSS (iatSS (iatSS iatZS)))))) (fun K hK => ?_) AllReadyH.nil
  go_simp
  refine (G4.out _ Hb7.out).mono ?_
  rintro e w8 ⟨rfl, hb8⟩
  have HS8 : Hid (w8.cell? ⟨x, 0, none⟩ = some (.slice d.ta T1 d.tc) ∧ w8.cell? ⟨x, 1, none⟩ = some (.slice d.na N1 d.nc) ∧ w8.cell? ⟨x, 2, none⟩ = some (.slice d.aa L1 d.ac) ∧ w8.cell? ⟨y, 0, none⟩ = some (.slice ga GL gc) ∧ w8.cell? ⟨z, 0, none⟩ = some (.slice ga2 GM gc2)) := Lib.hid ⟨cell_up hb8 HS7.out.1, cell_up hb8 HS7.out.2.1, cell_up hb8 HS7.out.2.2.1, cell_up hb8 HS7.out.2.2.2.1, cell_up hb8 HS7.out.2.2.2.2⟩
  have Hb8 := Lib.hid (Hb7.out.trans (hb8.mono hx7))
  have hx8 := Nat.le_trans hx7 hb8.size
  have hr8 : Hid (Below W6.heap.size W6 w8) := Lib.hid (hr7.out.trans (hb8.mono hr7.out.size))
  clear hb8
  refine hK.out _ _ ?_ (fun hHeld => ?_)
  · exact HS8.out
  clear hK K
  try simp only [Act.put, List.setIfInBounds_toArray, List.set_cons_zero, List.set_cons_succ]
  refine wpAnyH_take (i := 6) (v := ?_) (iatLS (iatSS (iatSS (iatSS (iatSS (iatSS (iatSS iatZS))))))) (by kernel_rfl) (by kernel_rfl) (by kernel_rfl) (fun _ _ _ h => h) (Or.inl ⟨by rfl, ?_⟩) (by assumption) ?_
  rotate_left
  · intro w hSw
    try dsimp only at hSw
    go_simp
    all_goals with_reducible rfl
  try simp only [Act.put, List.setIfInBounds_toArray, List.set_cons_zero, List.set_cons_succ]
  refine wpAnyH_take (i := 7) (v := ?_) (iatLS (iatSS (iatSS (iatSS (iatSS (iatSS (iatSS (iatSS iatZS)))))))) (by kernel_rfl) (by kernel_rfl) (by kernel_rfl) (fun _ _ _ h => h) (Or.inl ⟨by rfl, ?_⟩) (by assumption) ?_
  rotate_left
  · intro w hSw
    try dsimp only at hSw
    go_simp
    all_goals with_reducible rfl
  try simp only [Act.put, List.setIfInBounds_toArray, List.set_cons_zero, List.set_cons_succ]
  refine wpAnyH_take (i := 8) (v := ?_) (iatLS (iatSS (iatSS (iatSS (iatSS (iatSS (iatSS (iatSS (iatSS iatZS))))))))) (by kernel_rfl) (by kernel_rfl) (by kernel_rfl) (fun _ _ _ h => h) (Or.inl ⟨by rfl, ?_⟩) (by assumption) ?_
  rotate_left
  · intro w hSw
    try dsimp only at hSw
    go_simp
    all_goals with_reducible rfl
  try simp only [Act.put, List.setIfInBounds_toArray, List.set_cons_zero, List.set_cons_succ]
  refine wpAnyH_take (i := 9) (v := ?_) (iatLS (iatSS (iatSS (iatSS (iatSS (iatSS (iatSS (iatSS (iatSS (iatSS iatZS)))))))))) (by kernel_rfl) (by kernel_rfl) (by kernel_rfl) (fun _ _ _ h => h) (Or.inl ⟨by rfl, ?_⟩) (by assumption) ?_
  rotate_left
  · intro w hSw
    try dsimp only at hSw
    go_simp
    all_goals with_reducible rfl
  try simp only [Act.put, List.setIfInBounds_toArray, List.set_cons_zero, List.set_cons_succ]
  refine wpAnyH_take (i := 10) (v := ?_) (iatLS (iatSS (iatSS (iatSS (iatSS (iatSS (iatSS (iatSS (iatSS (iatSS (iatSS iatZS))))))))))) (by kernel_rfl) (by kernel_rfl) (by kernel_rfl) (fun _ _ _ h => h) (Or.inl ⟨by rfl, ?_⟩) (by assumption) ?_
  rotate_left
  · intro w hSw
    try dsimp only at hSw
    go_simp
    all_goals with_reducible rfl
  try simp only [Act.put, List.setIfInBounds_toArray, List.set_cons_zero, List.set_cons_succ]
  refine wpAnyH_ready (rs := [11]) (by kernel_rfl) (by simp) ?_
  refine AllReadyH.cons (iatLS (iatSS (iatSS (iatSS (iatSS (iatSS (iatSS (iatSS (iatSS (iatSS (iatSS (iatSS iatZS)))))))))))) (fun K hK => ?_) AllReadyH.nil
  go_simp
  refine (Hsm'.out _ hr8.out).mono ?_
  rintro e w9 ⟨rfl, hb9⟩
  have HS9 : Hid (w9.cell? ⟨x, 0, none⟩ = some (.slice d.ta T1 d.tc) ∧ w9.cell? ⟨x, 1, none⟩ = some (.slice d.na N1 d.nc) ∧ w9.cell? ⟨x, 2, none⟩ = some (.slice d.aa L1 d.ac) ∧ w9.cell? ⟨y, 0, none⟩ = some (.slice ga GL gc) ∧ w9.cell? ⟨z, 0, none⟩ = some (.slice ga2 GM gc2)) := Lib.hid ⟨cell_up hb9 HS8.out.1, cell_up hb9 HS8.out.2.1, cell_up hb9 HS8.out.2.2.1, cell_up hb9 HS8.out.2.2.2.1, cell_up hb9 HS8.out.2.2.2.2⟩
  have Hb9 := Lib.hid (Hb8.out.trans (hb9.mono hx8))
  have hx9 := Nat.le_trans hx8 hb9.size
  have hr9 : Hid (Below W6.heap.size W6 w9) := Lib.hid (hr8.out.trans (hb9.mono hr8.out.size))
  clear hb9
  refine hK.out _ _ ?_ (fun hHeld => ?_)
  · exact HS9.out
  clear hK K
  try simp only [Act.put, List.setIfInBounds_toArray, List.set_cons_zero, List.set_cons_succ]
  refine wpAnyH_take (i := 12) (v := ?_) (iatLS (iatSS (iatSS (iatSS (iatSS (iatSS (iatSS (iatSS (iatSS (iatSS (iatSS (iatSS (iatSS iatZS))))))))))))) (by kernel_rfl) (by kernel_rfl) (by kernel_rfl) (fun _ _ _ h => h) (Or.inl ⟨by rfl, ?_⟩) (by assumption) ?_
  rotate_left
  · intro w hSw
    try dsimp only at hSw
    go_simp
    all_goals with_reducible rfl
  try simp only [Act.put, List.setIfInBounds_toArray, List.set_cons_zero, List.set_cons_succ]
  refine wpAnyH_take (i := 13) (v := ?_) (iatLS (iatSS (iatSS (iatSS (iatSS (iatSS (iatSS (iatSS (iatSS (iatSS (iatSS (iatSS (iatSS (iatSS iatZS)))))))))))))) (by kernel_rfl) (by kernel_rfl) (by kernel_rfl) (fun _ _ _ h => h) (Or.inl ⟨by rfl, ?_⟩) (by assumption) ?_
  rotate_left
  · intro w hSw
    try dsimp only at hSw
    go_simp
    all_goals with_reducible rfl
  try simp only [Act.put, List.setIfInBounds_toArray, List.set_cons_zero, List.set_cons_succ]
  refine wpAnyH_take (i := 14) (v := ?_) (iatLS (iatSS (iatSS (iatSS (iatSS (iatSS (iatSS (iatSS (iatSS (iatSS (iatSS (iatSS (iatSS (iatSS (iatSS iatZS))))))))))))))) (by kernel_rfl) (by kernel_rfl) (by kernel_rfl) (fun _ _ _ h => h) (Or.inl ⟨by rfl, ?_⟩) (by assumption) ?_
  rotate_left
  · intro w hSw
    try dsimp only at hSw
    go_simp
    all_goals with_reducible rfl
  try simp only [Act.put, List.setIfInBounds_toArray, List.set_cons_zero, List.set_cons_succ]
  refine wpAnyH_take (i := 15) (v := ?_) (iatLS (iatSS (iatSS (iatSS (iatSS (iatSS (iatSS (iatSS (iatSS (iatSS (iatSS (iatSS (iatSS (iatSS (iatSS (iatSS iatZS)))))))))))))))) (by kernel_rfl) (by kernel_rfl) (by kernel_rfl) (fun _ _ _ h => h) (Or.inl ⟨by rfl, ?_⟩) (by assumption) ?_
  rotate_left
  · intro w hSw
    try dsimp only at hSw
    go_simp
    all_goals with_reducible rfl
  try simp only [Act.put, List.setIfInBounds_toArray, List.set_cons_zero, List.set_cons_succ]
  refine wpAnyH_take (i := 16) (v := ?_) (iatLS (iatSS (iatSS (iatSS (iatSS (iatSS (iatSS (iatSS (iatSS (iatSS (iatSS (iatSS (iatSS (iatSS (iatSS (iatSS (iatSS iatZS))))))))))))))))) (by kernel_rfl) (by kernel_rfl) (by kernel_rfl) (fun _ _ _ h => h) (Or.inl ⟨by rfl, ?_⟩) (by assumption) ?_
  rotate_left
  · intro w hSw
    try dsimp only at hSw
    go_simp
    all_goals with_reducible rfl
  try simp only [Act.put, List.setIfInBounds_toArray, List.set_cons_zero, List.set_cons_succ]
  refine wpAnyH_take (i := 17) (v := ?_) (iatLS (iatSS (iatSS (iatSS (iatSS (iatSS (iatSS (iatSS (iatSS (iatSS (iatSS (iatSS (iatSS (iatSS (iatSS (iatSS (iatSS (iatSS iatZS)))))))))))))))))) (by kernel_rfl) (by kernel_rfl) (by kernel_rfl) (fun _ _ _ h => h) (Or.inl ⟨by rfl, ?_⟩) (by assumption) ?_
  rotate_left
  · intro w hSw
    try dsimp only at hSw
    go_simp
    all_goals with_reducible rfl
  try simp only [Act.put, List.setIfInBounds_toArray, List.set_cons_zero, List.set_cons_succ]
  refine wpAnyH_ready (rs := [18]) (by kernel_rfl) (by simp) ?_
  refine AllReadyH.cons (iatLS (iatSS (iatSS (iatSS (iatSS (iatSS (iatSS (iatSS (iatSS (iatSS (iatSS (iatSS (iatSS (iatSS (iatSS (iatSS (iatSS (iatSS (iatSS iatZS))))))))))))))))))) (fun K hK => ?_) AllReadyH.nil
  go_simp
  refine hK.out _ _ ?_ (fun hHeld => ?_)
  · exact HS9.out
  clear hK K
  try simp only [Act.put, List.setIfInBounds_toArray, List.set_cons_zero, List.set_cons_succ]
  refine wpAnyH_done (by kernel_rfl) ?_ _
  go_wp2_with (fail)
  exact bodyPost_ret (v := .bool true) (by simp [results, Try.results5, go_sem]; try first | rfl | assumption | omega) rfl ⟨rfl, Hb9.out⟩
end Go.Proofs.Yteepcedokbjpdaa

namespace Go.Proofs.Yteepcedokbjpdaa
open Go.ChangeShapes Go.WideShapes Go.ChangeAt Go.RowKit

set_option maxRecDepth 100000 in
theorem checkValid_contract (H : Type) (enc : TypeId × Value → H) (W : World) (args : Array Value) (ds gs : List (DataW H)) (before : List MemPlace)
    (hval : ∀ (j : Nat) t v, Try.f5.params[j]? = some t → args[j]? = some v → Value.okWide Try.prog W .any 0 t v)
    (hW : DataW.Whole enc Try.prog Try.f5.params.toList Rows.checkValidSpec.vars false W args.toList ds gs before) (hk : Rows.uptoSmall H (ds ++ gs) = true) :
    Calls Try.prog 5 args W fun e W' => ∃ v, e = .returned v ∧ Rows.checkValidSpec.post enc Try.prog Try.f5 false true false false W args v W' := by
  have hW' := hW
  obtain ⟨p, q, hA0, hV, rfl, hfz, hnd⟩ := hW
  have hA : DataW.TrodAll enc Try.prog W 0 (fun _ => true) true Try.f5.params.toList args.toList ds p := hA0
  rw [Try.params5] at hA hval
  obtain ⟨v0, d0, rfl, rfl, h0⟩ := trodAll_one hA
  have hb : Rows.uptoBulkAll ([d0] ++ gs) ≤ 1048576 := of_decide_eq_true hk
  simp only [List.cons_append, List.nil_append, Rows.uptoBulkAll] at hb
  obtain ⟨c, rfl, hc, z1, z2, z3, hz⟩ := open_cfg2 (hval 0 33 v0 rfl rfl) h0
  refine (lawValid_any c W hc z1 z2 z3 (by omega)).mono fun e W' ⟨he, hw⟩ => ?_
  subst he
  exact ⟨_, rfl, law_post hW' rfl rfl (by kernel_rfl) (by rw [Try.params5]; intro t ht; simp at ht; subst ht; exact ⟨by kernel_rfl, of_decide_eq_true (by kernel_rfl)⟩) hw⟩

set_option maxRecDepth 100000 in
theorem checkValid_lifted (os : Os) (started : os.Started) (H : Type) (enc : TypeId × Value → H) (F : Stop.Interp) :
    ReturnsInHanded {} Try.checked os 5 .any ((Rows.OpenSpec.upto Rows.checkValidSpec).pre6 enc Try.prog Try.f5 Rows.checkValidUptoRow.domain false) (((Rows.OpenSpec.upto Rows.checkValidSpec).at F).post enc Try.prog Try.f5 false true false false) := by
  refine returnsInHanded_of_cond (C := Try.checked) (s := Rows.OpenSpec.upto Rows.checkValidSpec) (k := Rows.uptoSmall) rfl Try.own started (by kernel_rfl) Try.func5
    (OpenSpec.witness (enc := enc) (C := Try.checked) (s := Rows.OpenSpec.upto Rows.checkValidSpec) (k := Rows.uptoSmall) rfl false ⟨#[], #[.agg #[.slice none 0 0, .slice none 0 0, .slice none 0 0]], []⟩ 8 (by kernel_rfl) (by kernel_rfl) (by kernel_rfl)
      (x := ([.agg [.nil, .nil, .nil]], [], [])) (by kernel_rfl) rfl (by kernel_rfl)) ?_
  intro W base args ds gs before hval hW _ hk _
  exact checkValid_contract H enc W args ds gs before hval hW hk

theorem checkValid_holds : Rows.CheckValidUptoSaid :=
  OpenClaim.holds_of_cond 5 Try.f5 rfl rfl rfl rfl rfl rfl rfl ⟨rfl, rfl, rfl, rfl, rfl⟩ rfl rfl rfl rfl rfl (by kernel_rfl) Try.func5 (by kernel_rfl)
    (of_decide_eq_true (by kernel_rfl)) (by unfold Func.isWrapper; first | (rw [if_pos (by decide +kernel)]; kernel_rfl) | (rw [if_neg (by decide +kernel)]; exact ⟨rfl, rfl⟩))
    (fun os started H enc _ F => checkValid_lifted os started H enc F)
end Go.Proofs.Yteepcedokbjpdaa

