/- Layer 7: the law GrammarChecks. -/
import Derived.Test.YtoaabfdilhbajaaYg
import Derived.Test.YtoaabfdilhbajaaXy
namespace Go.Proofs.Ytoaabfdilhbajaa
open Go.RowKit Go.Shelf

attribute [local go_sem] Oper.semAt_some

set_option maxRecDepth 100000 in
set_option maxHeartbeats 4000000 in
theorem gchecks_any (rs ms : List RlD) (a b : Option Addr) (ac bc : Nat) (w : World) (hl : Rls w a ac rs) (hm : Rls w b bc ms) :
    Calls Try.prog 3 #[.agg #[.slice a rs.length ac], .agg #[.slice b ms.length bc]] w fun r w' => r = .returned (.bool true) ∧ Below w.heap.size w w' := by
  have hlm : rs.length ≤ ac ∧ ac ≤ 9223372036854775807 := ⟨hl.le, hl.max⟩
  have hmm : ms.length ≤ bc ∧ bc ≤ 9223372036854775807 := ⟨hm.le, hm.max⟩
  have HB1 : Hid (∀ V, Below w.heap.size w V → _) := Lib.hid (fun V h => big_any rs a ac V (hl.grown h))
  have HB2 : Hid (∀ V, Below w.heap.size w V → _) := Lib.hid (fun V h => big_any ms b bc V (hm.grown h))
  have HT : Hid (∀ V, Below w.heap.size w V → _) := Lib.hid (fun V h => gtext_any rs a ac V (hl.grown h))
  have HU : Hid (∀ V, Below w.heap.size w V → _) := Lib.hid (fun V h => refGText_any rs a ac V (hl.grown h))
  have HK1 : Hid (∀ V, Below w.heap.size w V → _) := Lib.hid (fun V h => gcheck_any rs a ac V (hl.grown h))
  have HK2 : Hid (∀ V, Below w.heap.size w V → _) := Lib.hid (fun V h => refGCheck_any rs a ac V (hl.grown h))
  have HK3 : Hid (∀ V, Below w.heap.size w V → _) := Lib.hid (fun V h => gsame_any a b ac bc rs ms V (hl.grown h) (hm.grown h))
  have HK4 : Hid (∀ V, Below w.heap.size w V → _) := Lib.hid (fun V h => refGSame_any a b ac bc rs ms V (hl.grown h) (hm.grown h))
  obtain ⟨X, hX⟩ : ∃ X, Hid (txG rs = X) := ⟨_, Lib.hid rfl⟩
  obtain ⟨C, hC⟩ : ∃ C, Hid (chkG rs = C) := ⟨_, Lib.hid rfl⟩
  obtain ⟨D, hD⟩ : ∃ D, Hid (decide (grP rs = grP ms) = D) := ⟨_, Lib.hid rfl⟩
  obtain ⟨L, HL⟩ : ∃ L, Hid (rs.length = L) := ⟨_, Lib.hid rfl⟩
  obtain ⟨M, HM⟩ : ∃ M, Hid (ms.length = M) := ⟨_, Lib.hid rfl⟩
  rw [HL.out] at hlm HB1 HT HU HK1 HK2 HK3 HK4 ⊢
  rw [HM.out] at hmm HB2 HK3 HK4 ⊢
  rw [hX.out, hC.out] at HT HU
  rw [hC.out] at HK1 HK2
  rw [hD.out] at HK3 HK4
  have hA0 := (Blk.new w 24 #[.slice a L ac]).alloc (.cells #[.slice b M bc] 24)
  have hB0 := Blk.new (w.alloc (.cells #[.slice a L ac] 24)) 24 #[.slice b M bc]
  rw [World.size_alloc] at hB0
  have hb0 : Below w.heap.size w ((w.alloc (.cells #[.slice a L ac] 24)).alloc (.cells #[.slice b M bc] 24)) := up1' _ _ _ (up1 _ _)
  clear hl hm
  go_enter Try.func3, Try.ntmps3
  go_wp2_with (fail)
  refine (live7_any _).mono ?_
  rintro e w1 ⟨rfl, hb1⟩
  have hA1 := hA0.below hb1 hA0.lt
  have hB1 := hB0.below hb1 hB0.lt
  have Hb1 := Lib.hid (hb0.trans (hb1.mono hb0.size))
  clear hA0 hB0 hb0 hb1
  obtain ⟨BN, hBN⟩ : ∃ n, Hid (w.heap.size = n) := ⟨_, Lib.hid rfl⟩
  rw [hBN.out] at hA1 hB1
  simp only [hBN.out]
  have x0 := hA1.cell 0
  have y0 := hB1.cell 0
  have xl := hA1.lt
  have yl := hB1.lt
  simp only [List.getElem?_cons_zero] at x0 y0
  go_wp2_with (fail)
  refine (HB1.out _ Hb1.out).mono ?_
  rintro e w2 ⟨⟨q, rfl⟩, hb2⟩
  have hA2 := hA1.below hb2 hA1.lt
  have hB2 := hB1.below hb2 hB1.lt
  have Hb2 := Lib.hid (Hb1.out.trans (hb2.mono Hb1.out.size))
  clear hA1 hB1 hb2 x0 y0 xl yl
  have x0 := hA2.cell 0
  have y0 := hB2.cell 0
  have xl := hA2.lt
  have yl := hB2.lt
  simp only [List.getElem?_cons_zero] at x0 y0
  cases q
  case true =>
    go_wp2_with (fail)
    exact bodyPost_ret (v := .bool true) (by simp [results, Try.results3, go_sem]; try first | rfl | assumption | omega) rfl ⟨rfl, Hb2.out⟩
  case false =>
  go_wp2_with (fail)
  refine (HB2.out _ Hb2.out).mono ?_
  rintro e w3 ⟨⟨q, rfl⟩, hb3⟩
  have hA3 := hA2.below hb3 hA2.lt
  have hB3 := hB2.below hb3 hB2.lt
  have Hb3 := Lib.hid (Hb2.out.trans (hb3.mono Hb2.out.size))
  clear hA2 hB2 hb3 x0 y0 xl yl
  have x0 := hA3.cell 0
  have y0 := hB3.cell 0
  have xl := hA3.lt
  have yl := hB3.lt
  simp only [List.getElem?_cons_zero] at x0 y0
  cases q
  case true =>
    go_wp2_with (fail)
    exact bodyPost_ret (v := .bool true) (by simp [results, Try.results3, go_sem]; try first | rfl | assumption | omega) rfl ⟨rfl, Hb3.out⟩
  case false =>
  go_wp2_with (fail)
  refine (HT.out _ Hb3.out).mono ?_
  rintro e w4 ⟨rfl, hb4⟩
  have hA4 := hA3.below hb4 hA3.lt
  have hB4 := hB3.below hb4 hB3.lt
  have Hb4 := Lib.hid (Hb3.out.trans (hb4.mono Hb3.out.size))
  clear hA3 hB3 hb4 x0 y0 xl yl
  have x0 := hA4.cell 0
  have y0 := hB4.cell 0
  have xl := hA4.lt
  have yl := hB4.lt
  simp only [List.getElem?_cons_zero] at x0 y0
  go_wp2_with (fail)
  refine (HU.out _ Hb4.out).mono ?_
  rintro e w5 ⟨rfl, hb5⟩
  have hA5 := hA4.below hb5 hA4.lt
  have hB5 := hB4.below hb5 hB4.lt
  have Hb5 := Lib.hid (Hb4.out.trans (hb5.mono Hb4.out.size))
  clear hA4 hB4 hb5 x0 y0 xl yl
  have hbd : Below w5.heap.size w5 (w5.drew) := (Below.refl w5.heap.size w5).drew
  have Hbwd := Lib.hid (Hb5.out.trans (hbd.mono Hb5.out.size))
  have hAd : Blk (w5.drew) BN 24 [.slice a L ac] := hA5.below hbd hA5.lt
  have hBd : Blk (w5.drew) (BN + 1) 24 [.slice b M bc] := hB5.below hbd hB5.lt
  have HSt : Hid (∀ V, Below (w5.drew).heap.size (w5.drew) V → (Below (w5.drew).heap.size (w5.drew) V ∧ V.cell? ⟨BN, 0, none⟩ = some (.slice a L ac) ∧ V.cell? ⟨BN + 1, 0, none⟩ = some (.slice b M bc))) := Lib.hid (fun V hV => by
    have h1 := hAd.below hV hAd.lt
    have h2 := hBd.below hV hBd.lt
    exact ⟨hV, by simpa using h1.cell 0, by simpa using h2.cell 0⟩)
  have HC1 : Hid (∀ V, Below (w5.drew).heap.size (w5.drew) V → Calls Try.prog 12 #[.agg #[.slice a L ac]] V fun e V' => e = .returned (.int .i64 C) ∧ Below (w5.drew).heap.size (w5.drew) V') := Lib.hid (fun V hV => (HK1.out V (Hbwd.out.trans (hV.mono Hbwd.out.size))).mono (fun e V' ⟨h1, h2⟩ => ⟨h1, hV.trans (h2.mono hV.size)⟩))
  have HC2 : Hid (∀ V, Below (w5.drew).heap.size (w5.drew) V → Calls Try.prog 13 #[.agg #[.slice a L ac]] V fun e V' => e = .returned (.int .i64 C) ∧ Below (w5.drew).heap.size (w5.drew) V') := Lib.hid (fun V hV => (HK2.out V (Hbwd.out.trans (hV.mono Hbwd.out.size))).mono (fun e V' ⟨h1, h2⟩ => ⟨h1, hV.trans (h2.mono hV.size)⟩))
  have HC3 : Hid (∀ V, Below (w5.drew).heap.size (w5.drew) V → Calls Try.prog 14 #[.agg #[.slice a L ac], .agg #[.slice b M bc]] V fun e V' => e = .returned (.bool D) ∧ Below (w5.drew).heap.size (w5.drew) V') := Lib.hid (fun V hV => (HK3.out V (Hbwd.out.trans (hV.mono Hbwd.out.size))).mono (fun e V' ⟨h1, h2⟩ => ⟨h1, hV.trans (h2.mono hV.size)⟩))
  have HC4 : Hid (∀ V, Below (w5.drew).heap.size (w5.drew) V → Calls Try.prog 15 #[.agg #[.slice a L ac], .agg #[.slice b M bc]] V fun e V' => e = .returned (.bool D) ∧ Below (w5.drew).heap.size (w5.drew) V') := Lib.hid (fun V hV => (HK4.out V (Hbwd.out.trans (hV.mono Hbwd.out.size))).mono (fun e V' ⟨h1, h2⟩ => ⟨h1, hV.trans (h2.mono hV.size)⟩))
  clear hbd hAd hBd hA5 hB5 HK1 HK2 HK3 HK4 HT HU HB1 HB2
  go_wp2_with (fail)
  refine wp_region_held_drew (S := fun w' => (Below (w5.drew).heap.size (w5.drew) w' ∧ w'.cell? ⟨BN, 0, none⟩ = some (.slice a L ac) ∧ w'.cell? ⟨BN + 1, 0, none⟩ = some (.slice b M bc))) (by kernel_rfl) ?_ (fun hHeld => ?_)
  · exact HSt.out _ (Below.refl _ _)
  refine wpAnyH_take (i := 0) (v := ?_) (atL atZ) (by kernel_rfl) (by kernel_rfl) (by kernel_rfl) (fun _ _ _ h => h) (Or.inl ⟨by rfl, ?_⟩) (by assumption) ?_
  rotate_left
  · intro w hSw
    try dsimp only at hSw
    go_simp
    all_goals with_reducible rfl
  try simp only [Act.put, List.setIfInBounds_toArray, List.set_cons_zero, List.set_cons_succ]
  refine wpAnyH_take (i := 1) (v := ?_) (atL (atS atZ)) (by kernel_rfl) (by kernel_rfl) (by kernel_rfl) (fun _ _ _ h => h) (Or.inl ⟨by rfl, ?_⟩) (by assumption) ?_
  rotate_left
  · intro w hSw
    try dsimp only at hSw
    go_simp
    all_goals with_reducible rfl
  try simp only [Act.put, List.setIfInBounds_toArray, List.set_cons_zero, List.set_cons_succ]
  refine wpAnyH_take (i := 2) (v := ?_) (atL (atS (atS atZ))) (by kernel_rfl) (by kernel_rfl) (by kernel_rfl) (fun _ _ _ h => h) (Or.inl ⟨by rfl, ?_⟩) (by assumption) ?_
  rotate_left
  · intro w hSw
    try dsimp only at hSw
    go_simp
    all_goals with_reducible rfl
  try simp only [Act.put, List.setIfInBounds_toArray, List.set_cons_zero, List.set_cons_succ]
  refine wpAnyH_take (i := 4) (v := ?_) (atL (atS (atS (atS (atS atZ))))) (by kernel_rfl) (by kernel_rfl) (by kernel_rfl) (fun _ _ _ h => h) (Or.inl ⟨by rfl, ?_⟩) (by assumption) ?_
  rotate_left
  · intro w hSw
    try dsimp only at hSw
    go_simp
    all_goals with_reducible rfl
  try simp only [Act.put, List.setIfInBounds_toArray, List.set_cons_zero, List.set_cons_succ]
  refine wpAnyH_ready (rs := [3]) (by kernel_rfl) (by simp) ?_
  refine AllReadyH.cons (atL (atS (atS (atS atZ)))) (fun K hK => ?_) AllReadyH.nil
  go_simp
  go_at_call 12
  (with_reducible refine (HC1.out _ hHeld.1).mono ?_)
  rintro e V1 ⟨rfl, hV1⟩
  have HV1 := Lib.hid hV1
  clear hV1
  dsimp only
  refine hK.out _ _ ?_ (fun hHeld => ?_)
  · exact HSt.out _ HV1.out
  clear hK K
  try simp only [Act.put, List.setIfInBounds_toArray, List.set_cons_zero, List.set_cons_succ]
  refine wpAnyH_ready (rs := [5]) (by kernel_rfl) (by simp) ?_
  refine AllReadyH.cons (atL (atS (atS (atS (atS (atS atZ)))))) (fun K hK => ?_) AllReadyH.nil
  go_simp
  go_at_call 13
  (with_reducible refine (HC2.out _ hHeld.1).mono ?_)
  rintro e V2 ⟨rfl, hV2⟩
  have HV2 := Lib.hid hV2
  clear hV2
  dsimp only
  refine hK.out _ _ ?_ (fun hHeld => ?_)
  · exact HSt.out _ HV2.out
  clear hK K
  try simp only [Act.put, List.setIfInBounds_toArray, List.set_cons_zero, List.set_cons_succ]
  refine wpAnyH_take (i := 6) (v := ?_) (atL (atS (atS (atS (atS (atS (atS atZ))))))) (by kernel_rfl) (by kernel_rfl) (by kernel_rfl) (fun _ _ _ h => h) (Or.inl ⟨by rfl, ?_⟩) (by assumption) ?_
  rotate_left
  · intro w hSw
    try dsimp only at hSw
    go_simp
    all_goals with_reducible rfl
  try simp only [Act.put, List.setIfInBounds_toArray, List.set_cons_zero, List.set_cons_succ]
  refine wpAnyH_take (i := 7) (v := ?_) (atL (atS (atS (atS (atS (atS (atS (atS atZ)))))))) (by kernel_rfl) (by kernel_rfl) (by kernel_rfl) (fun _ _ _ h => h) (Or.inl ⟨by rfl, ?_⟩) (by assumption) ?_
  rotate_left
  · intro w hSw
    try dsimp only at hSw
    go_simp
    all_goals with_reducible rfl
  try simp only [Act.put, List.setIfInBounds_toArray, List.set_cons_zero, List.set_cons_succ]
  refine wpAnyH_take (i := 8) (v := ?_) (atL (atS (atS (atS (atS (atS (atS (atS (atS atZ))))))))) (by kernel_rfl) (by kernel_rfl) (by kernel_rfl) (fun _ _ _ h => h) (Or.inl ⟨by rfl, ?_⟩) (by assumption) ?_
  rotate_left
  · intro w hSw
    try dsimp only at hSw
    go_simp
    all_goals with_reducible rfl
  try simp only [Act.put, List.setIfInBounds_toArray, List.set_cons_zero, List.set_cons_succ]
  refine wpAnyH_take (i := 9) (v := ?_) (atL (atS (atS (atS (atS (atS (atS (atS (atS (atS atZ)))))))))) (by kernel_rfl) (by kernel_rfl) (by kernel_rfl) (fun _ _ _ h => h) (Or.inl ⟨by rfl, ?_⟩) (by assumption) ?_
  rotate_left
  · intro w hSw
    try dsimp only at hSw
    go_simp
    all_goals with_reducible rfl
  try simp only [Act.put, List.setIfInBounds_toArray, List.set_cons_zero, List.set_cons_succ]
  refine wpAnyH_take (i := 10) (v := ?_) (atL (atS (atS (atS (atS (atS (atS (atS (atS (atS (atS atZ))))))))))) (by kernel_rfl) (by kernel_rfl) (by kernel_rfl) (fun _ _ _ h => h) (Or.inl ⟨by rfl, ?_⟩) (by assumption) ?_
  rotate_left
  · intro w hSw
    try dsimp only at hSw
    go_simp
    all_goals with_reducible rfl
  try simp only [Act.put, List.setIfInBounds_toArray, List.set_cons_zero, List.set_cons_succ]
  refine wpAnyH_take (i := 12) (v := ?_) (atL (atS (atS (atS (atS (atS (atS (atS (atS (atS (atS (atS (atS atZ))))))))))))) (by kernel_rfl) (by kernel_rfl) (by kernel_rfl) (fun _ _ _ h => h) (Or.inl ⟨by rfl, ?_⟩) (by assumption) ?_
  rotate_left
  · intro w hSw
    try dsimp only at hSw
    go_simp
    all_goals with_reducible rfl
  try simp only [Act.put, List.setIfInBounds_toArray, List.set_cons_zero, List.set_cons_succ]
  refine wpAnyH_take (i := 13) (v := ?_) (atL (atS (atS (atS (atS (atS (atS (atS (atS (atS (atS (atS (atS (atS atZ)))))))))))))) (by kernel_rfl) (by kernel_rfl) (by kernel_rfl) (fun _ _ _ h => h) (Or.inl ⟨by rfl, ?_⟩) (by assumption) ?_
  rotate_left
  · intro w hSw
    try dsimp only at hSw
    go_simp
    all_goals with_reducible rfl
  try simp only [Act.put, List.setIfInBounds_toArray, List.set_cons_zero, List.set_cons_succ]
  refine wpAnyH_ready (rs := [11]) (by kernel_rfl) (by simp) ?_
  refine AllReadyH.cons (atL (atS (atS (atS (atS (atS (atS (atS (atS (atS (atS (atS atZ)))))))))))) (fun K hK => ?_) AllReadyH.nil
  go_simp
  go_at_call 14
  (with_reducible refine (HC3.out _ hHeld.1).mono ?_)
  rintro e V3 ⟨rfl, hV3⟩
  have HV3 := Lib.hid hV3
  clear hV3
  dsimp only
  refine hK.out _ _ ?_ (fun hHeld => ?_)
  · exact HSt.out _ HV3.out
  clear hK K
  try simp only [Act.put, List.setIfInBounds_toArray, List.set_cons_zero, List.set_cons_succ]
  refine wpAnyH_ready (rs := [14]) (by kernel_rfl) (by simp) ?_
  refine AllReadyH.cons (atL (atS (atS (atS (atS (atS (atS (atS (atS (atS (atS (atS (atS (atS (atS atZ))))))))))))))) (fun K hK => ?_) AllReadyH.nil
  go_simp
  go_at_call 15
  (with_reducible refine (HC4.out _ hHeld.1).mono ?_)
  rintro e V4 ⟨rfl, hV4⟩
  have HV4 := Lib.hid hV4
  clear hV4
  dsimp only
  refine hK.out _ _ ?_ (fun hHeld => ?_)
  · exact HSt.out _ HV4.out
  clear hK K
  try simp only [Act.put, List.setIfInBounds_toArray, List.set_cons_zero, List.set_cons_succ]
  refine wpAnyH_take (i := 15) (v := ?_) (atL (atS (atS (atS (atS (atS (atS (atS (atS (atS (atS (atS (atS (atS (atS (atS atZ)))))))))))))))) (by kernel_rfl) (by kernel_rfl) (by kernel_rfl) (fun _ _ _ h => h) (Or.inl ⟨by rfl, ?_⟩) (by assumption) ?_
  rotate_left
  · intro w hSw
    try dsimp only at hSw
    go_simp
    all_goals with_reducible rfl
  try simp only [Act.put, List.setIfInBounds_toArray, List.set_cons_zero, List.set_cons_succ]
  refine wpAnyH_take (i := 16) (v := ?_) (atL (atS (atS (atS (atS (atS (atS (atS (atS (atS (atS (atS (atS (atS (atS (atS (atS atZ))))))))))))))))) (by kernel_rfl) (by kernel_rfl) (by kernel_rfl) (fun _ _ _ h => h) (Or.inl ⟨by rfl, ?_⟩) (by assumption) ?_
  rotate_left
  · intro w hSw
    try dsimp only at hSw
    go_simp
    all_goals with_reducible rfl
  try simp only [Act.put, List.setIfInBounds_toArray, List.set_cons_zero, List.set_cons_succ]
  refine wpAnyH_take (i := 17) (v := ?_) (atL (atS (atS (atS (atS (atS (atS (atS (atS (atS (atS (atS (atS (atS (atS (atS (atS (atS atZ)))))))))))))))))) (by kernel_rfl) (by kernel_rfl) (by kernel_rfl) (fun _ _ _ h => h) (Or.inl ⟨by rfl, ?_⟩) (by assumption) ?_
  rotate_left
  · intro w hSw
    try dsimp only at hSw
    go_simp
    all_goals with_reducible rfl
  try simp only [Act.put, List.setIfInBounds_toArray, List.set_cons_zero, List.set_cons_succ]
  refine wpAnyH_take (i := 18) (v := ?_) (atL (atS (atS (atS (atS (atS (atS (atS (atS (atS (atS (atS (atS (atS (atS (atS (atS (atS (atS atZ))))))))))))))))))) (by kernel_rfl) (by kernel_rfl) (by kernel_rfl) (fun _ _ _ h => h) (Or.inl ⟨by rfl, ?_⟩) (by assumption) ?_
  rotate_left
  · intro w hSw
    try dsimp only at hSw
    go_simp
    all_goals with_reducible rfl
  try simp only [Act.put, List.setIfInBounds_toArray, List.set_cons_zero, List.set_cons_succ]
  refine wpAnyH_take (i := 19) (v := ?_) (atL (atS (atS (atS (atS (atS (atS (atS (atS (atS (atS (atS (atS (atS (atS (atS (atS (atS (atS (atS atZ)))))))))))))))))))) (by kernel_rfl) (by kernel_rfl) (by kernel_rfl) (fun _ _ _ h => h) (Or.inl ⟨by rfl, ?_⟩) (by assumption) ?_
  rotate_left
  · intro w hSw
    try dsimp only at hSw
    go_simp
    all_goals with_reducible rfl
  try simp only [Act.put, List.setIfInBounds_toArray, List.set_cons_zero, List.set_cons_succ]
  refine wpAnyH_take (i := 20) (v := ?_) (atL (atS (atS (atS (atS (atS (atS (atS (atS (atS (atS (atS (atS (atS (atS (atS (atS (atS (atS (atS (atS atZ))))))))))))))))))))) (by kernel_rfl) (by kernel_rfl) (by kernel_rfl) (fun _ _ _ h => h) (Or.inl ⟨by rfl, ?_⟩) (by assumption) ?_
  rotate_left
  · intro w hSw
    try dsimp only at hSw
    go_simp
    all_goals with_reducible rfl
  try simp only [Act.put, List.setIfInBounds_toArray, List.set_cons_zero, List.set_cons_succ]
  refine wpAnyH_take (i := 21) (v := ?_) (atL (atS (atS (atS (atS (atS (atS (atS (atS (atS (atS (atS (atS (atS (atS (atS (atS (atS (atS (atS (atS (atS atZ)))))))))))))))))))))) (by kernel_rfl) (by kernel_rfl) (by kernel_rfl) (fun _ _ _ h => h) (Or.inl ⟨by rfl, ?_⟩) (by assumption) ?_
  rotate_left
  · intro w hSw
    try dsimp only at hSw
    go_simp
    all_goals with_reducible rfl
  try simp only [Act.put, List.setIfInBounds_toArray, List.set_cons_zero, List.set_cons_succ]
  refine wpAnyH_take (i := 22) (v := ?_) (atL (atS (atS (atS (atS (atS (atS (atS (atS (atS (atS (atS (atS (atS (atS (atS (atS (atS (atS (atS (atS (atS (atS atZ))))))))))))))))))))))) (by kernel_rfl) (by kernel_rfl) (by kernel_rfl) (fun _ _ _ h => h) (Or.inl ⟨by rfl, ?_⟩) (by assumption) ?_
  rotate_left
  · intro w hSw
    try dsimp only at hSw
    go_simp
    all_goals with_reducible rfl
  try simp only [Act.put, List.setIfInBounds_toArray, List.set_cons_zero, List.set_cons_succ]
  refine wpAnyH_take (i := 23) (v := ?_) (atL (atS (atS (atS (atS (atS (atS (atS (atS (atS (atS (atS (atS (atS (atS (atS (atS (atS (atS (atS (atS (atS (atS (atS atZ)))))))))))))))))))))))) (by kernel_rfl) (by kernel_rfl) (by kernel_rfl) (fun _ _ _ h => h) (Or.inl ⟨by rfl, ?_⟩) (by assumption) ?_
  rotate_left
  · intro w hSw
    try dsimp only at hSw
    go_simp
    all_goals with_reducible rfl
  try simp only [Act.put, List.setIfInBounds_toArray, List.set_cons_zero, List.set_cons_succ]
  refine wpAnyH_take (i := 24) (v := ?_) (atL (atS (atS (atS (atS (atS (atS (atS (atS (atS (atS (atS (atS (atS (atS (atS (atS (atS (atS (atS (atS (atS (atS (atS (atS atZ))))))))))))))))))))))))) (by kernel_rfl) (by kernel_rfl) (by kernel_rfl) (fun _ _ _ h => h) (Or.inl ⟨by rfl, ?_⟩) (by assumption) ?_
  rotate_left
  · intro w hSw
    try dsimp only at hSw
    go_simp
    all_goals with_reducible rfl
  try simp only [Act.put, List.setIfInBounds_toArray, List.set_cons_zero, List.set_cons_succ]
  refine wpAnyH_take (i := 25) (v := ?_) (atL (atS (atS (atS (atS (atS (atS (atS (atS (atS (atS (atS (atS (atS (atS (atS (atS (atS (atS (atS (atS (atS (atS (atS (atS (atS atZ)))))))))))))))))))))))))) (by kernel_rfl) (by kernel_rfl) (by kernel_rfl) (fun _ _ _ h => h) (Or.inl ⟨by rfl, ?_⟩) (by assumption) ?_
  rotate_left
  · intro w hSw
    try dsimp only at hSw
    go_simp
    all_goals with_reducible rfl
  try simp only [Act.put, List.setIfInBounds_toArray, List.set_cons_zero, List.set_cons_succ]
  refine wpAnyH_take (i := 26) (v := ?_) (atL (atS (atS (atS (atS (atS (atS (atS (atS (atS (atS (atS (atS (atS (atS (atS (atS (atS (atS (atS (atS (atS (atS (atS (atS (atS (atS atZ))))))))))))))))))))))))))) (by kernel_rfl) (by kernel_rfl) (by kernel_rfl) (fun _ _ _ h => h) (Or.inl ⟨by rfl, ?_⟩) (by assumption) ?_
  rotate_left
  · intro w hSw
    try dsimp only at hSw
    go_simp
    all_goals with_reducible rfl
  try simp only [Act.put, List.setIfInBounds_toArray, List.set_cons_zero, List.set_cons_succ]
  refine wpAnyH_take (i := 27) (v := ?_) (atL (atS (atS (atS (atS (atS (atS (atS (atS (atS (atS (atS (atS (atS (atS (atS (atS (atS (atS (atS (atS (atS (atS (atS (atS (atS (atS (atS atZ)))))))))))))))))))))))))))) (by kernel_rfl) (by kernel_rfl) (by kernel_rfl) (fun _ _ _ h => h) (Or.inl ⟨by rfl, ?_⟩) (by assumption) ?_
  rotate_left
  · intro w hSw
    try dsimp only at hSw
    go_simp
    all_goals with_reducible rfl
  try simp only [Act.put, List.setIfInBounds_toArray, List.set_cons_zero, List.set_cons_succ]
  refine wpAnyH_done (by kernel_rfl) ?_ _
  go_wp2_with (fail)
  exact bodyPost_ret (v := .bool true) (by simp [results, Try.results3, go_sem]; try first | rfl | assumption | omega) rfl ⟨rfl, Hbwd.out.trans (HV4.out.mono Hbwd.out.size)⟩
end Go.Proofs.Ytoaabfdilhbajaa
