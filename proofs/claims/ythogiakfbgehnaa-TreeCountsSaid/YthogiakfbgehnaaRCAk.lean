/- Texts joined: Ttd. -/
import Derived.Test.YthogiakfbgehnaaRCAj
set_option linter.unusedVariables false
set_option linter.unusedSimpArgs false
namespace Go.Proofs.Ythogiakfbgehnaa
open Go.RowKit Go.Maps

attribute [local go_sem] Oper.semAt_some

set_option maxRecDepth 100000 in
set_option maxHeartbeats 16000000 in
theorem live13_any (w : World) : Calls Try.prog 49 #[] w fun e w' => e = .returned (.bool true) ∧ Below w.heap.size w w' := by
  go_enter Try.func49, Try.ntmps49
  go_wp2_with (fail)
  refine (ab_any w).mono ?_
  rintro e w1 ⟨rfl, hd1, hb1⟩
  have hs1 : Ints (w1.alloc (.cells #[.int .i64 0, .int .i64 0, .int .i64 1] 3)) (some ⟨w1.heap.size, 0, none⟩) 3 [0, 0, 1] := ints_new w1 [0, 0, 1] 3 rfl (e9_mx 3 (by omega))
  have hb2 : Below w1.heap.size w1 (w1.alloc (.cells #[.int .i64 0, .int .i64 0, .int .i64 1] 3)) := (Below.refl _ _).alloc (Nat.le_refl _) _
  have HG := Lib.hid (grow13_any w.heap.size _ 3 _ (hd1.grown hb2) hs1)
  have HV1 := Lib.hid (hb1.trans (hb2.mono hb1.size))
  clear hd1 hs1 hb2 hb1
  unfold e13D CfD.v at HG ⊢
  go_wp2_with (fail)
  refine HG.out.mono ?_
  rintro e w3 ⟨ga, gc, rfl, ht, hb⟩
  have HV3 := Lib.hid (HV1.out.trans (hb.mono HV1.out.size))
  have hb4 : Below w3.heap.size w3 (w3.alloc (.cells #[.int .i64 (-1), .int .i64 0, .int .i64 0, .slice ga 3 gc] 51)) := (Below.refl _ _).alloc (Nat.le_refl _) _
  have HT3 := Lib.hid (ht.grown hb4)
  have HX3 := Lib.hid (Blk.new w3 51 #[.int .i64 (-1), .int .i64 0, .int .i64 0, .slice ga 3 gc])
  have HV4 := Lib.hid (HV3.out.trans (hb4.mono HV3.out.size))
  clear HG hb ht hb4
  dsimp only
  go_upto_region 2 with fail
  obtain ⟨tb, htb⟩ : ∃ q, Hid (w3.heap.size = q) := ⟨_, Lib.hid rfl⟩
  rw [htb.out] at HX3 ⊢
  generalize World.alloc w3 _ = w4 at HT3 HX3 HV4 ⊢
  have HT := HT3
  have HX := HX3
  have HV := HV4
  clear HT3 HX3 HV4 HV3 HV1
  have HB0 := Lib.hid ((Below.refl w4.heap.size w4).drew)
  have HS0 : Hid ((w4.drew).cell? ⟨tb, 0, none⟩ = some (.int .i64 (-1)) ∧ (w4.drew).cell? ⟨tb, 1, none⟩ = some (.int .i64 0) ∧ (w4.drew).cell? ⟨tb, 2, none⟩ = some (.int .i64 0) ∧ (w4.drew).cell? ⟨tb, 3, none⟩ = some (.slice ga 3 gc)) := Lib.hid ⟨(HX.out.below HB0.out HX.out.lt).cell 0, (HX.out.below HB0.out HX.out.lt).cell 1, (HX.out.below HB0.out HX.out.lt).cell 2, (HX.out.below HB0.out HX.out.lt).cell 3⟩
  refine wp_region_held_drew (S := fun w' => w'.cell? ⟨tb, 0, none⟩ = some (.int .i64 (-1)) ∧ w'.cell? ⟨tb, 1, none⟩ = some (.int .i64 0) ∧ w'.cell? ⟨tb, 2, none⟩ = some (.int .i64 0) ∧ w'.cell? ⟨tb, 3, none⟩ = some (.slice ga 3 gc)) (by kernel_rfl) ?_ (fun hHeld => ?_)
  · exact HS0.out
  generalize World.drew w4 = K0 at HB0 HS0 hHeld ⊢
  refine wpAnyH_take (i := 0) (v := ?_) (iatLS iatZS) (by kernel_rfl) (by kernel_rfl) (by kernel_rfl) (fun _ _ _ h => h) (Or.inl ⟨by rfl, ?_⟩) (by assumption) ?_
  rotate_left
  · intro w hSw
    try dsimp only at hSw
    go_simp
    all_goals with_reducible rfl
  try simp only [Act.put, List.setIfInBounds_toArray, List.set_cons_zero, List.set_cons_succ]
  refine wpAnyH_take (i := 1) (v := ?_) (iatLS (iatSS iatZS)) (by kernel_rfl) (by kernel_rfl) (by kernel_rfl) (fun _ _ _ h => h) (Or.inl ⟨by rfl, ?_⟩) (by assumption) ?_
  rotate_left
  · intro w hSw
    try dsimp only at hSw
    go_simp
    all_goals with_reducible rfl
  try simp only [Act.put, List.setIfInBounds_toArray, List.set_cons_zero, List.set_cons_succ]
  refine wpAnyH_take (i := 2) (v := ?_) (iatLS (iatSS (iatSS iatZS))) (by kernel_rfl) (by kernel_rfl) (by kernel_rfl) (fun _ _ _ h => h) (Or.inl ⟨by rfl, ?_⟩) (by assumption) ?_
  rotate_left
  · intro w hSw
    try dsimp only at hSw
    go_simp
    all_goals with_reducible rfl
  try simp only [Act.put, List.setIfInBounds_toArray, List.set_cons_zero, List.set_cons_succ]
  refine wpAnyH_take (i := 3) (v := ?_) (iatLS (iatSS (iatSS (iatSS iatZS)))) (by kernel_rfl) (by kernel_rfl) (by kernel_rfl) (fun _ _ _ h => h) (Or.inl ⟨by rfl, ?_⟩) (by assumption) ?_
  rotate_left
  · intro w hSw
    try dsimp only at hSw
    go_simp
    all_goals with_reducible rfl
  try simp only [Act.put, List.setIfInBounds_toArray, List.set_cons_zero, List.set_cons_succ]
  refine wpAnyH_take (i := 4) (v := ?_) (iatLS (iatSS (iatSS (iatSS (iatSS iatZS))))) (by kernel_rfl) (by kernel_rfl) (by kernel_rfl) (fun _ _ _ h => h) (Or.inl ⟨by rfl, ?_⟩) (by assumption) ?_
  rotate_left
  · intro w hSw
    try dsimp only at hSw
    go_simp
    all_goals with_reducible rfl
  try simp only [Act.put, List.setIfInBounds_toArray, List.set_cons_zero, List.set_cons_succ]
  refine wpAnyH_take (i := 5) (v := ?_) (iatLS (iatSS (iatSS (iatSS (iatSS (iatSS iatZS)))))) (by kernel_rfl) (by kernel_rfl) (by kernel_rfl) (fun _ _ _ h => h) (Or.inl ⟨by rfl, ?_⟩) (by assumption) ?_
  rotate_left
  · intro w hSw
    try dsimp only at hSw
    go_simp
    all_goals with_reducible rfl
  try simp only [Act.put, List.setIfInBounds_toArray, List.set_cons_zero, List.set_cons_succ]
  refine wpAnyH_take (i := 6) (v := ?_) (iatLS (iatSS (iatSS (iatSS (iatSS (iatSS (iatSS iatZS))))))) (by kernel_rfl) (by kernel_rfl) (by kernel_rfl) (fun _ _ _ h => h) (Or.inl ⟨by rfl, ?_⟩) (by assumption) ?_
  rotate_left
  · intro w hSw
    try dsimp only at hSw
    go_simp
    all_goals with_reducible rfl
  try simp only [Act.put, List.setIfInBounds_toArray, List.set_cons_zero, List.set_cons_succ]
  refine wpAnyH_take (i := 7) (v := ?_) (iatLS (iatSS (iatSS (iatSS (iatSS (iatSS (iatSS (iatSS iatZS)))))))) (by kernel_rfl) (by kernel_rfl) (by kernel_rfl) (fun _ _ _ h => h) (Or.inl ⟨by rfl, ?_⟩) (by assumption) ?_
  rotate_left
  · intro w hSw
    try dsimp only at hSw
    go_simp
    all_goals with_reducible rfl
  try simp only [Act.put, List.setIfInBounds_toArray, List.set_cons_zero, List.set_cons_succ]
  refine wpAnyH_ready (rs := [8, 9]) (by kernel_rfl) (by simp) ?_
  refine AllReadyH.cons (iatLS (iatSS (iatSS (iatSS (iatSS (iatSS (iatSS (iatSS (iatSS iatZS))))))))) (fun K hK => ?_) (AllReadyH.cons (iatLS (iatSS (iatSS (iatSS (iatSS (iatSS (iatSS (iatSS (iatSS (iatSS iatZS)))))))))) (fun K hK => ?_) (AllReadyH.nil))
  ·
    go_simp
    refine (yield13_any ga gc K0 (HT.out.grown HB0.out)).mono ?_
    rintro e9 K1 ⟨ya, yc, rfl, hy, hb⟩
    have HY1 := Lib.hid hy
    clear hy
    have HB1 := Lib.hid (HB0.out.trans (hb.mono HB0.out.size))
    have HS1 : Hid (K1.cell? ⟨tb, 0, none⟩ = some (.int .i64 (-1)) ∧ K1.cell? ⟨tb, 1, none⟩ = some (.int .i64 0) ∧ K1.cell? ⟨tb, 2, none⟩ = some (.int .i64 0) ∧ K1.cell? ⟨tb, 3, none⟩ = some (.slice ga 3 gc)) := Lib.hid ⟨(HX.out.below HB1.out HX.out.lt).cell 0, (HX.out.below HB1.out HX.out.lt).cell 1, (HX.out.below HB1.out HX.out.lt).cell 2, (HX.out.below HB1.out HX.out.lt).cell 3⟩
    clear hb
    try dsimp only
    refine hK.out _ _ ?_ (fun hHeld => ?_)
    · exact HS1.out
    clear hK K
    try simp only [Act.put, List.setIfInBounds_toArray, List.set_cons_zero, List.set_cons_succ]
    refine wpAnyH_ready (rs := [9]) (by kernel_rfl) (by simp) ?_
    refine AllReadyH.cons (iatLS (iatSS (iatSS (iatSS (iatSS (iatSS (iatSS (iatSS (iatSS (iatSS iatZS)))))))))) (fun K hK => ?_) AllReadyH.nil
    go_simp
    obtain ⟨lbHL, hlbHL⟩ : ∃ q, Hid (K1.heap.size = q) := ⟨_, Lib.hid rfl⟩
    rw [hlbHL.out]
    have hI := ints_new K1 [0, 0, 1, 1] 4 rfl (e9_mx 4 (by omega))
    rw [hlbHL.out] at hI
    have hb : Below K1.heap.size K1 (K1.alloc (.cells ([0, 0, 1, 1].map (Value.int .i64)).toArray 3)) := (Below.refl _ _).alloc (Nat.le_refl _) _
    change Below _ _ (K1.alloc (.cells #[.int .i64 0, .int .i64 0, .int .i64 1, .int .i64 1] 3)) at hb
    change Ints (K1.alloc (.cells #[.int .i64 0, .int .i64 0, .int .i64 1, .int .i64 1] 3)) _ _ _ at hI
    generalize K1.alloc (.cells #[.int .i64 0, .int .i64 0, .int .i64 1, .int .i64 1] 3) = K2 at hI hb ⊢
    have HL2 := Lib.hid hI
    clear hI
    have HB2 := Lib.hid (HB1.out.trans (hb.mono HB1.out.size))
    have HY2 := Lib.hid (HY1.out.grown hb)
    have HS2 : Hid (K2.cell? ⟨tb, 0, none⟩ = some (.int .i64 (-1)) ∧ K2.cell? ⟨tb, 1, none⟩ = some (.int .i64 0) ∧ K2.cell? ⟨tb, 2, none⟩ = some (.int .i64 0) ∧ K2.cell? ⟨tb, 3, none⟩ = some (.slice ga 3 gc)) := Lib.hid ⟨(HX.out.below HB2.out HX.out.lt).cell 0, (HX.out.below HB2.out HX.out.lt).cell 1, (HX.out.below HB2.out HX.out.lt).cell 2, (HX.out.below HB2.out HX.out.lt).cell 3⟩
    clear hb
    try dsimp only
    refine hK.out _ _ ?_ (fun hHeld => ?_)
    · exact HS2.out
    clear hK K
    try simp only [Act.put, List.setIfInBounds_toArray, List.set_cons_zero, List.set_cons_succ]
    refine wpAnyH_ready (rs := [10]) (by kernel_rfl) (by simp) ?_
    refine AllReadyH.cons (iatLS (iatSS (iatSS (iatSS (iatSS (iatSS (iatSS (iatSS (iatSS (iatSS (iatSS iatZS))))))))))) (fun K hK => ?_) AllReadyH.nil
    go_simp
    refine (si13_any [0, 0, 1, 1] 4 rfl ya (some ⟨lbHL, 0, none⟩) yc 4 K2 HY2.out HL2.out).mono ?_
    rintro e9 K3 ⟨rfl, hb⟩
    have HB3 := Lib.hid (HB2.out.trans (hb.mono HB2.out.size))
    have HS3 : Hid (K3.cell? ⟨tb, 0, none⟩ = some (.int .i64 (-1)) ∧ K3.cell? ⟨tb, 1, none⟩ = some (.int .i64 0) ∧ K3.cell? ⟨tb, 2, none⟩ = some (.int .i64 0) ∧ K3.cell? ⟨tb, 3, none⟩ = some (.slice ga 3 gc)) := Lib.hid ⟨(HX.out.below HB3.out HX.out.lt).cell 0, (HX.out.below HB3.out HX.out.lt).cell 1, (HX.out.below HB3.out HX.out.lt).cell 2, (HX.out.below HB3.out HX.out.lt).cell 3⟩
    clear hb
    try dsimp only
    refine hK.out _ _ ?_ (fun hHeld => ?_)
    · exact HS3.out
    clear hK K
    try simp only [Act.put, List.setIfInBounds_toArray, List.set_cons_zero, List.set_cons_succ]
    refine wpAnyH_take (i := 11) (v := ?_) (iatLS (iatSS (iatSS (iatSS (iatSS (iatSS (iatSS (iatSS (iatSS (iatSS (iatSS (iatSS iatZS)))))))))))) (by kernel_rfl) (by kernel_rfl) (by kernel_rfl) (fun _ _ _ h => h) (Or.inl ⟨by rfl, ?_⟩) (by assumption) ?_
    rotate_left
    · intro w hSw
      try dsimp only at hSw
      go_simp
      all_goals with_reducible rfl
    try simp only [Act.put, List.setIfInBounds_toArray, List.set_cons_zero, List.set_cons_succ]
    refine wpAnyH_take (i := 12) (v := ?_) (iatLS (iatSS (iatSS (iatSS (iatSS (iatSS (iatSS (iatSS (iatSS (iatSS (iatSS (iatSS (iatSS iatZS))))))))))))) (by kernel_rfl) (by kernel_rfl) (by kernel_rfl) (fun _ _ _ h => h) (Or.inl ⟨by rfl, ?_⟩) (by assumption) ?_
    rotate_left
    · intro w hSw
      try dsimp only at hSw
      go_simp
      all_goals with_reducible rfl
    try simp only [Act.put, List.setIfInBounds_toArray, List.set_cons_zero, List.set_cons_succ]
    refine wpAnyH_take (i := 14) (v := ?_) (iatLS (iatSS (iatSS (iatSS (iatSS (iatSS (iatSS (iatSS (iatSS (iatSS (iatSS (iatSS (iatSS (iatSS (iatSS iatZS))))))))))))))) (by kernel_rfl) (by kernel_rfl) (by kernel_rfl) (fun _ _ _ h => h) (Or.inl ⟨by rfl, ?_⟩) (by assumption) ?_
    rotate_left
    · intro w hSw
      try dsimp only at hSw
      go_simp
      all_goals with_reducible rfl
    try simp only [Act.put, List.setIfInBounds_toArray, List.set_cons_zero, List.set_cons_succ]
    refine wpAnyH_ready (rs := [13, 15]) (by kernel_rfl) (by simp) ?_
    refine AllReadyH.cons (iatLS (iatSS (iatSS (iatSS (iatSS (iatSS (iatSS (iatSS (iatSS (iatSS (iatSS (iatSS (iatSS (iatSS iatZS)))))))))))))) (fun K hK => ?_) (AllReadyH.cons (iatLS (iatSS (iatSS (iatSS (iatSS (iatSS (iatSS (iatSS (iatSS (iatSS (iatSS (iatSS (iatSS (iatSS (iatSS (iatSS iatZS)))))))))))))))) (fun K hK => ?_) (AllReadyH.nil))
    ·
      go_simp
      obtain ⟨qh, hqh⟩ : ∃ q, Hid (K3.heap.size = q) := ⟨_, Lib.hid rfl⟩
      have hab := ab_any K3
      rw [hqh.out] at hab
      refine Calls.mono hab ?_
      rintro e9 K4 ⟨rfl, hc, hb⟩
      rw [← hqh.out] at hb
      clear hab
      have HC4 := Lib.hid hc
      clear hc
      have HB4 := Lib.hid (HB3.out.trans (hb.mono HB3.out.size))
      have HS4 : Hid (K4.cell? ⟨tb, 0, none⟩ = some (.int .i64 (-1)) ∧ K4.cell? ⟨tb, 1, none⟩ = some (.int .i64 0) ∧ K4.cell? ⟨tb, 2, none⟩ = some (.int .i64 0) ∧ K4.cell? ⟨tb, 3, none⟩ = some (.slice ga 3 gc)) := Lib.hid ⟨(HX.out.below HB4.out HX.out.lt).cell 0, (HX.out.below HB4.out HX.out.lt).cell 1, (HX.out.below HB4.out HX.out.lt).cell 2, (HX.out.below HB4.out HX.out.lt).cell 3⟩
      clear hb
      try dsimp only
      refine hK.out _ _ ?_ (fun hHeld => ?_)
      · exact HS4.out
      clear hK K
      try simp only [Act.put, List.setIfInBounds_toArray, List.set_cons_zero, List.set_cons_succ]
      refine wpAnyH_ready (rs := [15]) (by kernel_rfl) (by simp) ?_
      refine AllReadyH.cons (iatLS (iatSS (iatSS (iatSS (iatSS (iatSS (iatSS (iatSS (iatSS (iatSS (iatSS (iatSS (iatSS (iatSS (iatSS (iatSS iatZS)))))))))))))))) (fun K hK => ?_) AllReadyH.nil
      go_simp
      obtain ⟨lbHL, hlbHL⟩ : ∃ q, Hid (K4.heap.size = q) := ⟨_, Lib.hid rfl⟩
      rw [hlbHL.out]
      have hI := ints_new K4 [0, 0, 1, 1] 4 rfl (e9_mx 4 (by omega))
      rw [hlbHL.out] at hI
      have hb : Below K4.heap.size K4 (K4.alloc (.cells ([0, 0, 1, 1].map (Value.int .i64)).toArray 3)) := (Below.refl _ _).alloc (Nat.le_refl _) _
      change Below _ _ (K4.alloc (.cells #[.int .i64 0, .int .i64 0, .int .i64 1, .int .i64 1] 3)) at hb
      change Ints (K4.alloc (.cells #[.int .i64 0, .int .i64 0, .int .i64 1, .int .i64 1] 3)) _ _ _ at hI
      generalize K4.alloc (.cells #[.int .i64 0, .int .i64 0, .int .i64 1, .int .i64 1] 3) = K5 at hI hb ⊢
      have HL5 := Lib.hid hI
      clear hI
      have HB5 := Lib.hid (HB4.out.trans (hb.mono HB4.out.size))
      have HC5 := Lib.hid (HC4.out.grown hb)
      have HS5 : Hid (K5.cell? ⟨tb, 0, none⟩ = some (.int .i64 (-1)) ∧ K5.cell? ⟨tb, 1, none⟩ = some (.int .i64 0) ∧ K5.cell? ⟨tb, 2, none⟩ = some (.int .i64 0) ∧ K5.cell? ⟨tb, 3, none⟩ = some (.slice ga 3 gc)) := Lib.hid ⟨(HX.out.below HB5.out HX.out.lt).cell 0, (HX.out.below HB5.out HX.out.lt).cell 1, (HX.out.below HB5.out HX.out.lt).cell 2, (HX.out.below HB5.out HX.out.lt).cell 3⟩
      clear hb
      try dsimp only
      refine hK.out _ _ ?_ (fun hHeld => ?_)
      · exact HS5.out
      clear hK K
      try simp only [Act.put, List.setIfInBounds_toArray, List.set_cons_zero, List.set_cons_succ]
      refine wpAnyH_ready (rs := [16]) (by kernel_rfl) (by simp) ?_
      refine AllReadyH.cons (iatLS (iatSS (iatSS (iatSS (iatSS (iatSS (iatSS (iatSS (iatSS (iatSS (iatSS (iatSS (iatSS (iatSS (iatSS (iatSS (iatSS iatZS))))))))))))))))) (fun K hK => ?_) AllReadyH.nil
      go_simp
      refine (check13_any qh ga gc (some ⟨lbHL, 0, none⟩) 4 K5 HC5.out (HT.out.grown HB5.out) HL5.out).mono ?_
      rintro e9 K6 ⟨rfl, hb⟩
      have HB6 := Lib.hid (HB5.out.trans (hb.mono HB5.out.size))
      have HS6 : Hid (K6.cell? ⟨tb, 0, none⟩ = some (.int .i64 (-1)) ∧ K6.cell? ⟨tb, 1, none⟩ = some (.int .i64 0) ∧ K6.cell? ⟨tb, 2, none⟩ = some (.int .i64 0) ∧ K6.cell? ⟨tb, 3, none⟩ = some (.slice ga 3 gc)) := Lib.hid ⟨(HX.out.below HB6.out HX.out.lt).cell 0, (HX.out.below HB6.out HX.out.lt).cell 1, (HX.out.below HB6.out HX.out.lt).cell 2, (HX.out.below HB6.out HX.out.lt).cell 3⟩
      clear hb
      try dsimp only
      refine hK.out _ _ ?_ (fun hHeld => ?_)
      · exact HS6.out
      clear hK K
      try simp only [Act.put, List.setIfInBounds_toArray, List.set_cons_zero, List.set_cons_succ]
      refine wpAnyH_take (i := 17) (v := ?_) (iatLS (iatSS (iatSS (iatSS (iatSS (iatSS (iatSS (iatSS (iatSS (iatSS (iatSS (iatSS (iatSS (iatSS (iatSS (iatSS (iatSS (iatSS iatZS)))))))))))))))))) (by kernel_rfl) (by kernel_rfl) (by kernel_rfl) (fun _ _ _ h => h) (Or.inl ⟨by rfl, ?_⟩) (by assumption) ?_
      rotate_left
      · intro w hSw
        try dsimp only at hSw
        go_simp
        all_goals with_reducible rfl
      try simp only [Act.put, List.setIfInBounds_toArray, List.set_cons_zero, List.set_cons_succ]
      refine wpAnyH_take (i := 18) (v := ?_) (iatLS (iatSS (iatSS (iatSS (iatSS (iatSS (iatSS (iatSS (iatSS (iatSS (iatSS (iatSS (iatSS (iatSS (iatSS (iatSS (iatSS (iatSS (iatSS iatZS))))))))))))))))))) (by kernel_rfl) (by kernel_rfl) (by kernel_rfl) (fun _ _ _ h => h) (Or.inl ⟨by rfl, ?_⟩) (by assumption) ?_
      rotate_left
      · intro w hSw
        try dsimp only at hSw
        go_simp
        all_goals with_reducible rfl
      try simp only [Act.put, List.setIfInBounds_toArray, List.set_cons_zero, List.set_cons_succ]
      refine wpAnyH_take (i := 20) (v := ?_) (iatLS (iatSS (iatSS (iatSS (iatSS (iatSS (iatSS (iatSS (iatSS (iatSS (iatSS (iatSS (iatSS (iatSS (iatSS (iatSS (iatSS (iatSS (iatSS (iatSS (iatSS iatZS))))))))))))))))))))) (by kernel_rfl) (by kernel_rfl) (by kernel_rfl) (fun _ _ _ h => h) (Or.inl ⟨by rfl, ?_⟩) (by assumption) ?_
      rotate_left
      · intro w hSw
        try dsimp only at hSw
        go_simp
        all_goals with_reducible rfl
      try simp only [Act.put, List.setIfInBounds_toArray, List.set_cons_zero, List.set_cons_succ]
      refine wpAnyH_ready (rs := [19]) (by kernel_rfl) (by simp) ?_
      refine AllReadyH.cons (iatLS (iatSS (iatSS (iatSS (iatSS (iatSS (iatSS (iatSS (iatSS (iatSS (iatSS (iatSS (iatSS (iatSS (iatSS (iatSS (iatSS (iatSS (iatSS (iatSS iatZS)))))))))))))))))))) (fun K hK => ?_) AllReadyH.nil
      go_simp
      obtain ⟨qh, hqh⟩ : ∃ q, Hid (K6.heap.size = q) := ⟨_, Lib.hid rfl⟩
      have hab := ab_any K6
      rw [hqh.out] at hab
      refine Calls.mono hab ?_
      rintro e9 K7 ⟨rfl, hc, hb⟩
      rw [← hqh.out] at hb
      clear hab
      have HC7 := Lib.hid hc
      clear hc
      have HB7 := Lib.hid (HB6.out.trans (hb.mono HB6.out.size))
      have HS7 : Hid (K7.cell? ⟨tb, 0, none⟩ = some (.int .i64 (-1)) ∧ K7.cell? ⟨tb, 1, none⟩ = some (.int .i64 0) ∧ K7.cell? ⟨tb, 2, none⟩ = some (.int .i64 0) ∧ K7.cell? ⟨tb, 3, none⟩ = some (.slice ga 3 gc)) := Lib.hid ⟨(HX.out.below HB7.out HX.out.lt).cell 0, (HX.out.below HB7.out HX.out.lt).cell 1, (HX.out.below HB7.out HX.out.lt).cell 2, (HX.out.below HB7.out HX.out.lt).cell 3⟩
      clear hb
      try dsimp only
      refine hK.out _ _ ?_ (fun hHeld => ?_)
      · exact HS7.out
      clear hK K
      try simp only [Act.put, List.setIfInBounds_toArray, List.set_cons_zero, List.set_cons_succ]
      refine wpAnyH_ready (rs := [21]) (by kernel_rfl) (by simp) ?_
      refine AllReadyH.cons (iatLS (iatSS (iatSS (iatSS (iatSS (iatSS (iatSS (iatSS (iatSS (iatSS (iatSS (iatSS (iatSS (iatSS (iatSS (iatSS (iatSS (iatSS (iatSS (iatSS (iatSS (iatSS iatZS)))))))))))))))))))))) (fun K hK => ?_) AllReadyH.nil
      go_simp
      refine (text13_any qh ga gc K7 HC7.out (HT.out.grown HB7.out)).mono ?_
      rintro e9 K8 ⟨rfl, hb⟩
      have HB8 := Lib.hid (HB7.out.trans (hb.mono HB7.out.size))
      have HS8 : Hid (K8.cell? ⟨tb, 0, none⟩ = some (.int .i64 (-1)) ∧ K8.cell? ⟨tb, 1, none⟩ = some (.int .i64 0) ∧ K8.cell? ⟨tb, 2, none⟩ = some (.int .i64 0) ∧ K8.cell? ⟨tb, 3, none⟩ = some (.slice ga 3 gc)) := Lib.hid ⟨(HX.out.below HB8.out HX.out.lt).cell 0, (HX.out.below HB8.out HX.out.lt).cell 1, (HX.out.below HB8.out HX.out.lt).cell 2, (HX.out.below HB8.out HX.out.lt).cell 3⟩
      clear hb
      try dsimp only
      refine hK.out _ _ ?_ (fun hHeld => ?_)
      · exact HS8.out
      clear hK K
      try simp only [Act.put, List.setIfInBounds_toArray, List.set_cons_zero, List.set_cons_succ]
      refine wpAnyH_take (i := 22) (v := ?_) (iatLS (iatSS (iatSS (iatSS (iatSS (iatSS (iatSS (iatSS (iatSS (iatSS (iatSS (iatSS (iatSS (iatSS (iatSS (iatSS (iatSS (iatSS (iatSS (iatSS (iatSS (iatSS (iatSS iatZS))))))))))))))))))))))) (by kernel_rfl) (by kernel_rfl) (by kernel_rfl) (fun _ _ _ h => h) (Or.inl ⟨by rfl, ?_⟩) (by assumption) ?_
      rotate_left
      · intro w hSw
        try dsimp only at hSw
        go_simp
        all_goals with_reducible rfl
      try simp only [Act.put, List.setIfInBounds_toArray, List.set_cons_zero, List.set_cons_succ]
      refine wpAnyH_take (i := 23) (v := ?_) (iatLS (iatSS (iatSS (iatSS (iatSS (iatSS (iatSS (iatSS (iatSS (iatSS (iatSS (iatSS (iatSS (iatSS (iatSS (iatSS (iatSS (iatSS (iatSS (iatSS (iatSS (iatSS (iatSS (iatSS iatZS)))))))))))))))))))))))) (by kernel_rfl) (by kernel_rfl) (by kernel_rfl) (fun _ _ _ h => h) (Or.inl ⟨by rfl, ?_⟩) (by assumption) ?_
      rotate_left
      · intro w hSw
        try dsimp only at hSw
        go_simp
        all_goals with_reducible rfl
      try simp only [Act.put, List.setIfInBounds_toArray, List.set_cons_zero, List.set_cons_succ]
      refine wpAnyH_take (i := 24) (v := ?_) (iatLS (iatSS (iatSS (iatSS (iatSS (iatSS (iatSS (iatSS (iatSS (iatSS (iatSS (iatSS (iatSS (iatSS (iatSS (iatSS (iatSS (iatSS (iatSS (iatSS (iatSS (iatSS (iatSS (iatSS (iatSS iatZS))))))))))))))))))))))))) (by kernel_rfl) (by kernel_rfl) (by kernel_rfl) (fun _ _ _ h => h) (Or.inl ⟨by rfl, ?_⟩) (by assumption) ?_
      rotate_left
      · intro w hSw
        try dsimp only at hSw
        go_simp
        all_goals with_reducible rfl
      try simp only [Act.put, List.setIfInBounds_toArray, List.set_cons_zero, List.set_cons_succ]
      refine wpAnyH_take (i := 25) (v := ?_) (iatLS (iatSS (iatSS (iatSS (iatSS (iatSS (iatSS (iatSS (iatSS (iatSS (iatSS (iatSS (iatSS (iatSS (iatSS (iatSS (iatSS (iatSS (iatSS (iatSS (iatSS (iatSS (iatSS (iatSS (iatSS (iatSS iatZS)))))))))))))))))))))))))) (by kernel_rfl) (by kernel_rfl) (by kernel_rfl) (fun _ _ _ h => h) (Or.inl ⟨by rfl, ?_⟩) (by assumption) ?_
      rotate_left
      · intro w hSw
        try dsimp only at hSw
        go_simp
        all_goals with_reducible rfl
      try simp only [Act.put, List.setIfInBounds_toArray, List.set_cons_zero, List.set_cons_succ]
      refine wpAnyH_ready (rs := [26, 27]) (by kernel_rfl) (by simp) ?_
      refine AllReadyH.cons (iatLS (iatSS (iatSS (iatSS (iatSS (iatSS (iatSS (iatSS (iatSS (iatSS (iatSS (iatSS (iatSS (iatSS (iatSS (iatSS (iatSS (iatSS (iatSS (iatSS (iatSS (iatSS (iatSS (iatSS (iatSS (iatSS (iatSS iatZS))))))))))))))))))))))))))) (fun K hK => ?_) (AllReadyH.cons (iatLS (iatSS (iatSS (iatSS (iatSS (iatSS (iatSS (iatSS (iatSS (iatSS (iatSS (iatSS (iatSS (iatSS (iatSS (iatSS (iatSS (iatSS (iatSS (iatSS (iatSS (iatSS (iatSS (iatSS (iatSS (iatSS (iatSS (iatSS iatZS)))))))))))))))))))))))))))) (fun K hK => ?_) (AllReadyH.nil))
      ·
        go_simp
        refine (steps13_any ga gc K8 (HT.out.grown HB8.out)).mono ?_
        rintro e9 K9 ⟨ya, yc, rfl, hy, hb⟩
        have HY9 := Lib.hid hy
        clear hy
        have HB9 := Lib.hid (HB8.out.trans (hb.mono HB8.out.size))
        have HS9 : Hid (K9.cell? ⟨tb, 0, none⟩ = some (.int .i64 (-1)) ∧ K9.cell? ⟨tb, 1, none⟩ = some (.int .i64 0) ∧ K9.cell? ⟨tb, 2, none⟩ = some (.int .i64 0) ∧ K9.cell? ⟨tb, 3, none⟩ = some (.slice ga 3 gc)) := Lib.hid ⟨(HX.out.below HB9.out HX.out.lt).cell 0, (HX.out.below HB9.out HX.out.lt).cell 1, (HX.out.below HB9.out HX.out.lt).cell 2, (HX.out.below HB9.out HX.out.lt).cell 3⟩
        clear hb
        try dsimp only
        refine hK.out _ _ ?_ (fun hHeld => ?_)
        · exact HS9.out
        clear hK K
        try simp only [Act.put, List.setIfInBounds_toArray, List.set_cons_zero, List.set_cons_succ]
        refine wpAnyH_ready (rs := [27]) (by kernel_rfl) (by simp) ?_
        refine AllReadyH.cons (iatLS (iatSS (iatSS (iatSS (iatSS (iatSS (iatSS (iatSS (iatSS (iatSS (iatSS (iatSS (iatSS (iatSS (iatSS (iatSS (iatSS (iatSS (iatSS (iatSS (iatSS (iatSS (iatSS (iatSS (iatSS (iatSS (iatSS (iatSS iatZS)))))))))))))))))))))))))))) (fun K hK => ?_) AllReadyH.nil
        go_simp
        obtain ⟨lbHL, hlbHL⟩ : ∃ q, Hid (K9.heap.size = q) := ⟨_, Lib.hid rfl⟩
        rw [hlbHL.out]
        have hI := ints_new K9 [0, 0, 1] 3 rfl (e9_mx 3 (by omega))
        rw [hlbHL.out] at hI
        have hb : Below K9.heap.size K9 (K9.alloc (.cells ([0, 0, 1].map (Value.int .i64)).toArray 3)) := (Below.refl _ _).alloc (Nat.le_refl _) _
        change Below _ _ (K9.alloc (.cells #[.int .i64 0, .int .i64 0, .int .i64 1] 3)) at hb
        change Ints (K9.alloc (.cells #[.int .i64 0, .int .i64 0, .int .i64 1] 3)) _ _ _ at hI
        generalize K9.alloc (.cells #[.int .i64 0, .int .i64 0, .int .i64 1] 3) = K10 at hI hb ⊢
        have HL10 := Lib.hid hI
        clear hI
        have HB10 := Lib.hid (HB9.out.trans (hb.mono HB9.out.size))
        have HY10 := Lib.hid (HY9.out.grown hb)
        have HS10 : Hid (K10.cell? ⟨tb, 0, none⟩ = some (.int .i64 (-1)) ∧ K10.cell? ⟨tb, 1, none⟩ = some (.int .i64 0) ∧ K10.cell? ⟨tb, 2, none⟩ = some (.int .i64 0) ∧ K10.cell? ⟨tb, 3, none⟩ = some (.slice ga 3 gc)) := Lib.hid ⟨(HX.out.below HB10.out HX.out.lt).cell 0, (HX.out.below HB10.out HX.out.lt).cell 1, (HX.out.below HB10.out HX.out.lt).cell 2, (HX.out.below HB10.out HX.out.lt).cell 3⟩
        clear hb
        try dsimp only
        refine hK.out _ _ ?_ (fun hHeld => ?_)
        · exact HS10.out
        clear hK K
        try simp only [Act.put, List.setIfInBounds_toArray, List.set_cons_zero, List.set_cons_succ]
        refine wpAnyH_ready (rs := [28]) (by kernel_rfl) (by simp) ?_
        refine AllReadyH.cons (iatLS (iatSS (iatSS (iatSS (iatSS (iatSS (iatSS (iatSS (iatSS (iatSS (iatSS (iatSS (iatSS (iatSS (iatSS (iatSS (iatSS (iatSS (iatSS (iatSS (iatSS (iatSS (iatSS (iatSS (iatSS (iatSS (iatSS (iatSS (iatSS iatZS))))))))))))))))))))))))))))) (fun K hK => ?_) AllReadyH.nil
        go_simp
        refine (si13_any [0, 0, 1] 3 rfl ya (some ⟨lbHL, 0, none⟩) yc 3 K10 HY10.out HL10.out).mono ?_
        rintro e9 K11 ⟨rfl, hb⟩
        have HB11 := Lib.hid (HB10.out.trans (hb.mono HB10.out.size))
        have HS11 : Hid (K11.cell? ⟨tb, 0, none⟩ = some (.int .i64 (-1)) ∧ K11.cell? ⟨tb, 1, none⟩ = some (.int .i64 0) ∧ K11.cell? ⟨tb, 2, none⟩ = some (.int .i64 0) ∧ K11.cell? ⟨tb, 3, none⟩ = some (.slice ga 3 gc)) := Lib.hid ⟨(HX.out.below HB11.out HX.out.lt).cell 0, (HX.out.below HB11.out HX.out.lt).cell 1, (HX.out.below HB11.out HX.out.lt).cell 2, (HX.out.below HB11.out HX.out.lt).cell 3⟩
        clear hb
        try dsimp only
        refine hK.out _ _ ?_ (fun hHeld => ?_)
        · exact HS11.out
        clear hK K
        try simp only [Act.put, List.setIfInBounds_toArray, List.set_cons_zero, List.set_cons_succ]
        refine wpAnyH_take (i := 29) (v := ?_) (iatLS (iatSS (iatSS (iatSS (iatSS (iatSS (iatSS (iatSS (iatSS (iatSS (iatSS (iatSS (iatSS (iatSS (iatSS (iatSS (iatSS (iatSS (iatSS (iatSS (iatSS (iatSS (iatSS (iatSS (iatSS (iatSS (iatSS (iatSS (iatSS (iatSS iatZS)))))))))))))))))))))))))))))) (by kernel_rfl) (by kernel_rfl) (by kernel_rfl) (fun _ _ _ h => h) (Or.inl ⟨by rfl, ?_⟩) (by assumption) ?_
        rotate_left
        · intro w hSw
          try dsimp only at hSw
          go_simp
          all_goals with_reducible rfl
        try simp only [Act.put, List.setIfInBounds_toArray, List.set_cons_zero, List.set_cons_succ]
        refine wpAnyH_take (i := 30) (v := ?_) (iatLS (iatSS (iatSS (iatSS (iatSS (iatSS (iatSS (iatSS (iatSS (iatSS (iatSS (iatSS (iatSS (iatSS (iatSS (iatSS (iatSS (iatSS (iatSS (iatSS (iatSS (iatSS (iatSS (iatSS (iatSS (iatSS (iatSS (iatSS (iatSS (iatSS (iatSS iatZS))))))))))))))))))))))))))))))) (by kernel_rfl) (by kernel_rfl) (by kernel_rfl) (fun _ _ _ h => h) (Or.inl ⟨by rfl, ?_⟩) (by assumption) ?_
        rotate_left
        · intro w hSw
          try dsimp only at hSw
          go_simp
          all_goals with_reducible rfl
        try simp only [Act.put, List.setIfInBounds_toArray, List.set_cons_zero, List.set_cons_succ]
        refine wpAnyH_take (i := 31) (v := ?_) (iatLS (iatSS (iatSS (iatSS (iatSS (iatSS (iatSS (iatSS (iatSS (iatSS (iatSS (iatSS (iatSS (iatSS (iatSS (iatSS (iatSS (iatSS (iatSS (iatSS (iatSS (iatSS (iatSS (iatSS (iatSS (iatSS (iatSS (iatSS (iatSS (iatSS (iatSS (iatSS iatZS)))))))))))))))))))))))))))))))) (by kernel_rfl) (by kernel_rfl) (by kernel_rfl) (fun _ _ _ h => h) (Or.inl ⟨by rfl, ?_⟩) (by assumption) ?_
        rotate_left
        · intro w hSw
          try dsimp only at hSw
          go_simp
          all_goals with_reducible rfl
        try simp only [Act.put, List.setIfInBounds_toArray, List.set_cons_zero, List.set_cons_succ]
        refine wpAnyH_ready (rs := [32]) (by kernel_rfl) (by simp) ?_
        refine AllReadyH.cons (iatLS (iatSS (iatSS (iatSS (iatSS (iatSS (iatSS (iatSS (iatSS (iatSS (iatSS (iatSS (iatSS (iatSS (iatSS (iatSS (iatSS (iatSS (iatSS (iatSS (iatSS (iatSS (iatSS (iatSS (iatSS (iatSS (iatSS (iatSS (iatSS (iatSS (iatSS (iatSS (iatSS iatZS))))))))))))))))))))))))))))))))) (fun K hK => ?_) AllReadyH.nil
        go_simp
        refine (size13_any ga gc K11 (HT.out.grown HB11.out)).mono ?_
        rintro e9 K12 ⟨rfl, hb⟩
        have HB12 := Lib.hid (HB11.out.trans (hb.mono HB11.out.size))
        have HS12 : Hid (K12.cell? ⟨tb, 0, none⟩ = some (.int .i64 (-1)) ∧ K12.cell? ⟨tb, 1, none⟩ = some (.int .i64 0) ∧ K12.cell? ⟨tb, 2, none⟩ = some (.int .i64 0) ∧ K12.cell? ⟨tb, 3, none⟩ = some (.slice ga 3 gc)) := Lib.hid ⟨(HX.out.below HB12.out HX.out.lt).cell 0, (HX.out.below HB12.out HX.out.lt).cell 1, (HX.out.below HB12.out HX.out.lt).cell 2, (HX.out.below HB12.out HX.out.lt).cell 3⟩
        clear hb
        try dsimp only
        refine hK.out _ _ ?_ (fun hHeld => ?_)
        · exact HS12.out
        clear hK K
        try simp only [Act.put, List.setIfInBounds_toArray, List.set_cons_zero, List.set_cons_succ]
        refine wpAnyH_take (i := 33) (v := ?_) (iatLS (iatSS (iatSS (iatSS (iatSS (iatSS (iatSS (iatSS (iatSS (iatSS (iatSS (iatSS (iatSS (iatSS (iatSS (iatSS (iatSS (iatSS (iatSS (iatSS (iatSS (iatSS (iatSS (iatSS (iatSS (iatSS (iatSS (iatSS (iatSS (iatSS (iatSS (iatSS (iatSS (iatSS iatZS)))))))))))))))))))))))))))))))))) (by kernel_rfl) (by kernel_rfl) (by kernel_rfl) (fun _ _ _ h => h) (Or.inl ⟨by rfl, ?_⟩) (by assumption) ?_
        rotate_left
        · intro w hSw
          try dsimp only at hSw
          go_simp
          all_goals with_reducible rfl
        try simp only [Act.put, List.setIfInBounds_toArray, List.set_cons_zero, List.set_cons_succ]
        refine wpAnyH_take (i := 34) (v := ?_) (iatLS (iatSS (iatSS (iatSS (iatSS (iatSS (iatSS (iatSS (iatSS (iatSS (iatSS (iatSS (iatSS (iatSS (iatSS (iatSS (iatSS (iatSS (iatSS (iatSS (iatSS (iatSS (iatSS (iatSS (iatSS (iatSS (iatSS (iatSS (iatSS (iatSS (iatSS (iatSS (iatSS (iatSS (iatSS iatZS))))))))))))))))))))))))))))))))))) (by kernel_rfl) (by kernel_rfl) (by kernel_rfl) (fun _ _ _ h => h) (Or.inl ⟨by rfl, ?_⟩) (by assumption) ?_
        rotate_left
        · intro w hSw
          try dsimp only at hSw
          go_simp
          all_goals with_reducible rfl
        try simp only [Act.put, List.setIfInBounds_toArray, List.set_cons_zero, List.set_cons_succ]
        refine wpAnyH_take (i := 35) (v := ?_) (iatLS (iatSS (iatSS (iatSS (iatSS (iatSS (iatSS (iatSS (iatSS (iatSS (iatSS (iatSS (iatSS (iatSS (iatSS (iatSS (iatSS (iatSS (iatSS (iatSS (iatSS (iatSS (iatSS (iatSS (iatSS (iatSS (iatSS (iatSS (iatSS (iatSS (iatSS (iatSS (iatSS (iatSS (iatSS (iatSS iatZS)))))))))))))))))))))))))))))))))))) (by kernel_rfl) (by kernel_rfl) (by kernel_rfl) (fun _ _ _ h => h) (Or.inl ⟨by rfl, ?_⟩) (by assumption) ?_
        rotate_left
        · intro w hSw
          try dsimp only at hSw
          go_simp
          all_goals with_reducible rfl
        try simp only [Act.put, List.setIfInBounds_toArray, List.set_cons_zero, List.set_cons_succ]
        refine wpAnyH_done (by kernel_rfl) ?_ _
        go_wp2_with (fail)
        exact bodyPost_ret (v := .bool true) (by simp [results, Try.results49, go_sem]; try first | rfl | assumption | omega) rfl ⟨rfl, HV.out.trans (HB12.out.mono HV.out.size)⟩
      ·
        go_simp
        obtain ⟨lbHL, hlbHL⟩ : ∃ q, Hid (K8.heap.size = q) := ⟨_, Lib.hid rfl⟩
        rw [hlbHL.out]
        have hI := ints_new K8 [0, 0, 1] 3 rfl (e9_mx 3 (by omega))
        rw [hlbHL.out] at hI
        have hb : Below K8.heap.size K8 (K8.alloc (.cells ([0, 0, 1].map (Value.int .i64)).toArray 3)) := (Below.refl _ _).alloc (Nat.le_refl _) _
        change Below _ _ (K8.alloc (.cells #[.int .i64 0, .int .i64 0, .int .i64 1] 3)) at hb
        change Ints (K8.alloc (.cells #[.int .i64 0, .int .i64 0, .int .i64 1] 3)) _ _ _ at hI
        generalize K8.alloc (.cells #[.int .i64 0, .int .i64 0, .int .i64 1] 3) = K9 at hI hb ⊢
        have HL9 := Lib.hid hI
        clear hI
        have HB9 := Lib.hid (HB8.out.trans (hb.mono HB8.out.size))
        have HS9 : Hid (K9.cell? ⟨tb, 0, none⟩ = some (.int .i64 (-1)) ∧ K9.cell? ⟨tb, 1, none⟩ = some (.int .i64 0) ∧ K9.cell? ⟨tb, 2, none⟩ = some (.int .i64 0) ∧ K9.cell? ⟨tb, 3, none⟩ = some (.slice ga 3 gc)) := Lib.hid ⟨(HX.out.below HB9.out HX.out.lt).cell 0, (HX.out.below HB9.out HX.out.lt).cell 1, (HX.out.below HB9.out HX.out.lt).cell 2, (HX.out.below HB9.out HX.out.lt).cell 3⟩
        clear hb
        try dsimp only
        refine hK.out _ _ ?_ (fun hHeld => ?_)
        · exact HS9.out
        clear hK K
        try simp only [Act.put, List.setIfInBounds_toArray, List.set_cons_zero, List.set_cons_succ]
        refine wpAnyH_ready (rs := [26]) (by kernel_rfl) (by simp) ?_
        refine AllReadyH.cons (iatLS (iatSS (iatSS (iatSS (iatSS (iatSS (iatSS (iatSS (iatSS (iatSS (iatSS (iatSS (iatSS (iatSS (iatSS (iatSS (iatSS (iatSS (iatSS (iatSS (iatSS (iatSS (iatSS (iatSS (iatSS (iatSS (iatSS iatZS))))))))))))))))))))))))))) (fun K hK => ?_) AllReadyH.nil
        go_simp
        refine (steps13_any ga gc K9 (HT.out.grown HB9.out)).mono ?_
        rintro e9 K10 ⟨ya, yc, rfl, hy, hb⟩
        have HY10 := Lib.hid hy
        clear hy
        have HB10 := Lib.hid (HB9.out.trans (hb.mono HB9.out.size))
        have HL10 := Lib.hid (HL9.out.grown hb)
        have HS10 : Hid (K10.cell? ⟨tb, 0, none⟩ = some (.int .i64 (-1)) ∧ K10.cell? ⟨tb, 1, none⟩ = some (.int .i64 0) ∧ K10.cell? ⟨tb, 2, none⟩ = some (.int .i64 0) ∧ K10.cell? ⟨tb, 3, none⟩ = some (.slice ga 3 gc)) := Lib.hid ⟨(HX.out.below HB10.out HX.out.lt).cell 0, (HX.out.below HB10.out HX.out.lt).cell 1, (HX.out.below HB10.out HX.out.lt).cell 2, (HX.out.below HB10.out HX.out.lt).cell 3⟩
        clear hb
        try dsimp only
        refine hK.out _ _ ?_ (fun hHeld => ?_)
        · exact HS10.out
        clear hK K
        try simp only [Act.put, List.setIfInBounds_toArray, List.set_cons_zero, List.set_cons_succ]
        refine wpAnyH_ready (rs := [28]) (by kernel_rfl) (by simp) ?_
        refine AllReadyH.cons (iatLS (iatSS (iatSS (iatSS (iatSS (iatSS (iatSS (iatSS (iatSS (iatSS (iatSS (iatSS (iatSS (iatSS (iatSS (iatSS (iatSS (iatSS (iatSS (iatSS (iatSS (iatSS (iatSS (iatSS (iatSS (iatSS (iatSS (iatSS (iatSS iatZS))))))))))))))))))))))))))))) (fun K hK => ?_) AllReadyH.nil
        go_simp
        refine (si13_any [0, 0, 1] 3 rfl ya (some ⟨lbHL, 0, none⟩) yc 3 K10 HY10.out HL10.out).mono ?_
        rintro e9 K11 ⟨rfl, hb⟩
        have HB11 := Lib.hid (HB10.out.trans (hb.mono HB10.out.size))
        have HS11 : Hid (K11.cell? ⟨tb, 0, none⟩ = some (.int .i64 (-1)) ∧ K11.cell? ⟨tb, 1, none⟩ = some (.int .i64 0) ∧ K11.cell? ⟨tb, 2, none⟩ = some (.int .i64 0) ∧ K11.cell? ⟨tb, 3, none⟩ = some (.slice ga 3 gc)) := Lib.hid ⟨(HX.out.below HB11.out HX.out.lt).cell 0, (HX.out.below HB11.out HX.out.lt).cell 1, (HX.out.below HB11.out HX.out.lt).cell 2, (HX.out.below HB11.out HX.out.lt).cell 3⟩
        clear hb
        try dsimp only
        refine hK.out _ _ ?_ (fun hHeld => ?_)
        · exact HS11.out
        clear hK K
        try simp only [Act.put, List.setIfInBounds_toArray, List.set_cons_zero, List.set_cons_succ]
        refine wpAnyH_take (i := 29) (v := ?_) (iatLS (iatSS (iatSS (iatSS (iatSS (iatSS (iatSS (iatSS (iatSS (iatSS (iatSS (iatSS (iatSS (iatSS (iatSS (iatSS (iatSS (iatSS (iatSS (iatSS (iatSS (iatSS (iatSS (iatSS (iatSS (iatSS (iatSS (iatSS (iatSS (iatSS iatZS)))))))))))))))))))))))))))))) (by kernel_rfl) (by kernel_rfl) (by kernel_rfl) (fun _ _ _ h => h) (Or.inl ⟨by rfl, ?_⟩) (by assumption) ?_
        rotate_left
        · intro w hSw
          try dsimp only at hSw
          go_simp
          all_goals with_reducible rfl
        try simp only [Act.put, List.setIfInBounds_toArray, List.set_cons_zero, List.set_cons_succ]
        refine wpAnyH_take (i := 30) (v := ?_) (iatLS (iatSS (iatSS (iatSS (iatSS (iatSS (iatSS (iatSS (iatSS (iatSS (iatSS (iatSS (iatSS (iatSS (iatSS (iatSS (iatSS (iatSS (iatSS (iatSS (iatSS (iatSS (iatSS (iatSS (iatSS (iatSS (iatSS (iatSS (iatSS (iatSS (iatSS iatZS))))))))))))))))))))))))))))))) (by kernel_rfl) (by kernel_rfl) (by kernel_rfl) (fun _ _ _ h => h) (Or.inl ⟨by rfl, ?_⟩) (by assumption) ?_
        rotate_left
        · intro w hSw
          try dsimp only at hSw
          go_simp
          all_goals with_reducible rfl
        try simp only [Act.put, List.setIfInBounds_toArray, List.set_cons_zero, List.set_cons_succ]
        refine wpAnyH_take (i := 31) (v := ?_) (iatLS (iatSS (iatSS (iatSS (iatSS (iatSS (iatSS (iatSS (iatSS (iatSS (iatSS (iatSS (iatSS (iatSS (iatSS (iatSS (iatSS (iatSS (iatSS (iatSS (iatSS (iatSS (iatSS (iatSS (iatSS (iatSS (iatSS (iatSS (iatSS (iatSS (iatSS (iatSS iatZS)))))))))))))))))))))))))))))))) (by kernel_rfl) (by kernel_rfl) (by kernel_rfl) (fun _ _ _ h => h) (Or.inl ⟨by rfl, ?_⟩) (by assumption) ?_
        rotate_left
        · intro w hSw
          try dsimp only at hSw
          go_simp
          all_goals with_reducible rfl
        try simp only [Act.put, List.setIfInBounds_toArray, List.set_cons_zero, List.set_cons_succ]
        refine wpAnyH_ready (rs := [32]) (by kernel_rfl) (by simp) ?_
        refine AllReadyH.cons (iatLS (iatSS (iatSS (iatSS (iatSS (iatSS (iatSS (iatSS (iatSS (iatSS (iatSS (iatSS (iatSS (iatSS (iatSS (iatSS (iatSS (iatSS (iatSS (iatSS (iatSS (iatSS (iatSS (iatSS (iatSS (iatSS (iatSS (iatSS (iatSS (iatSS (iatSS (iatSS (iatSS iatZS))))))))))))))))))))))))))))))))) (fun K hK => ?_) AllReadyH.nil
        go_simp
        refine (size13_any ga gc K11 (HT.out.grown HB11.out)).mono ?_
        rintro e9 K12 ⟨rfl, hb⟩
        have HB12 := Lib.hid (HB11.out.trans (hb.mono HB11.out.size))
        have HS12 : Hid (K12.cell? ⟨tb, 0, none⟩ = some (.int .i64 (-1)) ∧ K12.cell? ⟨tb, 1, none⟩ = some (.int .i64 0) ∧ K12.cell? ⟨tb, 2, none⟩ = some (.int .i64 0) ∧ K12.cell? ⟨tb, 3, none⟩ = some (.slice ga 3 gc)) := Lib.hid ⟨(HX.out.below HB12.out HX.out.lt).cell 0, (HX.out.below HB12.out HX.out.lt).cell 1, (HX.out.below HB12.out HX.out.lt).cell 2, (HX.out.below HB12.out HX.out.lt).cell 3⟩
        clear hb
        try dsimp only
        refine hK.out _ _ ?_ (fun hHeld => ?_)
        · exact HS12.out
        clear hK K
        try simp only [Act.put, List.setIfInBounds_toArray, List.set_cons_zero, List.set_cons_succ]
        refine wpAnyH_take (i := 33) (v := ?_) (iatLS (iatSS (iatSS (iatSS (iatSS (iatSS (iatSS (iatSS (iatSS (iatSS (iatSS (iatSS (iatSS (iatSS (iatSS (iatSS (iatSS (iatSS (iatSS (iatSS (iatSS (iatSS (iatSS (iatSS (iatSS (iatSS (iatSS (iatSS (iatSS (iatSS (iatSS (iatSS (iatSS (iatSS iatZS)))))))))))))))))))))))))))))))))) (by kernel_rfl) (by kernel_rfl) (by kernel_rfl) (fun _ _ _ h => h) (Or.inl ⟨by rfl, ?_⟩) (by assumption) ?_
        rotate_left
        · intro w hSw
          try dsimp only at hSw
          go_simp
          all_goals with_reducible rfl
        try simp only [Act.put, List.setIfInBounds_toArray, List.set_cons_zero, List.set_cons_succ]
        refine wpAnyH_take (i := 34) (v := ?_) (iatLS (iatSS (iatSS (iatSS (iatSS (iatSS (iatSS (iatSS (iatSS (iatSS (iatSS (iatSS (iatSS (iatSS (iatSS (iatSS (iatSS (iatSS (iatSS (iatSS (iatSS (iatSS (iatSS (iatSS (iatSS (iatSS (iatSS (iatSS (iatSS (iatSS (iatSS (iatSS (iatSS (iatSS (iatSS iatZS))))))))))))))))))))))))))))))))))) (by kernel_rfl) (by kernel_rfl) (by kernel_rfl) (fun _ _ _ h => h) (Or.inl ⟨by rfl, ?_⟩) (by assumption) ?_
        rotate_left
        · intro w hSw
          try dsimp only at hSw
          go_simp
          all_goals with_reducible rfl
        try simp only [Act.put, List.setIfInBounds_toArray, List.set_cons_zero, List.set_cons_succ]
        refine wpAnyH_take (i := 35) (v := ?_) (iatLS (iatSS (iatSS (iatSS (iatSS (iatSS (iatSS (iatSS (iatSS (iatSS (iatSS (iatSS (iatSS (iatSS (iatSS (iatSS (iatSS (iatSS (iatSS (iatSS (iatSS (iatSS (iatSS (iatSS (iatSS (iatSS (iatSS (iatSS (iatSS (iatSS (iatSS (iatSS (iatSS (iatSS (iatSS (iatSS iatZS)))))))))))))))))))))))))))))))))))) (by kernel_rfl) (by kernel_rfl) (by kernel_rfl) (fun _ _ _ h => h) (Or.inl ⟨by rfl, ?_⟩) (by assumption) ?_
        rotate_left
        · intro w hSw
          try dsimp only at hSw
          go_simp
          all_goals with_reducible rfl
        try simp only [Act.put, List.setIfInBounds_toArray, List.set_cons_zero, List.set_cons_succ]
        refine wpAnyH_done (by kernel_rfl) ?_ _
        go_wp2_with (fail)
        exact bodyPost_ret (v := .bool true) (by simp [results, Try.results49, go_sem]; try first | rfl | assumption | omega) rfl ⟨rfl, HV.out.trans (HB12.out.mono HV.out.size)⟩
    ·
      go_simp
      obtain ⟨lbHL, hlbHL⟩ : ∃ q, Hid (K3.heap.size = q) := ⟨_, Lib.hid rfl⟩
      rw [hlbHL.out]
      have hI := ints_new K3 [0, 0, 1, 1] 4 rfl (e9_mx 4 (by omega))
      rw [hlbHL.out] at hI
      have hb : Below K3.heap.size K3 (K3.alloc (.cells ([0, 0, 1, 1].map (Value.int .i64)).toArray 3)) := (Below.refl _ _).alloc (Nat.le_refl _) _
      change Below _ _ (K3.alloc (.cells #[.int .i64 0, .int .i64 0, .int .i64 1, .int .i64 1] 3)) at hb
      change Ints (K3.alloc (.cells #[.int .i64 0, .int .i64 0, .int .i64 1, .int .i64 1] 3)) _ _ _ at hI
      generalize K3.alloc (.cells #[.int .i64 0, .int .i64 0, .int .i64 1, .int .i64 1] 3) = K4 at hI hb ⊢
      have HL4 := Lib.hid hI
      clear hI
      have HB4 := Lib.hid (HB3.out.trans (hb.mono HB3.out.size))
      have HS4 : Hid (K4.cell? ⟨tb, 0, none⟩ = some (.int .i64 (-1)) ∧ K4.cell? ⟨tb, 1, none⟩ = some (.int .i64 0) ∧ K4.cell? ⟨tb, 2, none⟩ = some (.int .i64 0) ∧ K4.cell? ⟨tb, 3, none⟩ = some (.slice ga 3 gc)) := Lib.hid ⟨(HX.out.below HB4.out HX.out.lt).cell 0, (HX.out.below HB4.out HX.out.lt).cell 1, (HX.out.below HB4.out HX.out.lt).cell 2, (HX.out.below HB4.out HX.out.lt).cell 3⟩
      clear hb
      try dsimp only
      refine hK.out _ _ ?_ (fun hHeld => ?_)
      · exact HS4.out
      clear hK K
      try simp only [Act.put, List.setIfInBounds_toArray, List.set_cons_zero, List.set_cons_succ]
      refine wpAnyH_ready (rs := [13]) (by kernel_rfl) (by simp) ?_
      refine AllReadyH.cons (iatLS (iatSS (iatSS (iatSS (iatSS (iatSS (iatSS (iatSS (iatSS (iatSS (iatSS (iatSS (iatSS (iatSS iatZS)))))))))))))) (fun K hK => ?_) AllReadyH.nil
      go_simp
      obtain ⟨qh, hqh⟩ : ∃ q, Hid (K4.heap.size = q) := ⟨_, Lib.hid rfl⟩
      have hab := ab_any K4
      rw [hqh.out] at hab
      refine Calls.mono hab ?_
      rintro e9 K5 ⟨rfl, hc, hb⟩
      rw [← hqh.out] at hb
      clear hab
      have HC5 := Lib.hid hc
      clear hc
      have HB5 := Lib.hid (HB4.out.trans (hb.mono HB4.out.size))
      have HL5 := Lib.hid (HL4.out.grown hb)
      have HS5 : Hid (K5.cell? ⟨tb, 0, none⟩ = some (.int .i64 (-1)) ∧ K5.cell? ⟨tb, 1, none⟩ = some (.int .i64 0) ∧ K5.cell? ⟨tb, 2, none⟩ = some (.int .i64 0) ∧ K5.cell? ⟨tb, 3, none⟩ = some (.slice ga 3 gc)) := Lib.hid ⟨(HX.out.below HB5.out HX.out.lt).cell 0, (HX.out.below HB5.out HX.out.lt).cell 1, (HX.out.below HB5.out HX.out.lt).cell 2, (HX.out.below HB5.out HX.out.lt).cell 3⟩
      clear hb
      try dsimp only
      refine hK.out _ _ ?_ (fun hHeld => ?_)
      · exact HS5.out
      clear hK K
      try simp only [Act.put, List.setIfInBounds_toArray, List.set_cons_zero, List.set_cons_succ]
      refine wpAnyH_ready (rs := [16]) (by kernel_rfl) (by simp) ?_
      refine AllReadyH.cons (iatLS (iatSS (iatSS (iatSS (iatSS (iatSS (iatSS (iatSS (iatSS (iatSS (iatSS (iatSS (iatSS (iatSS (iatSS (iatSS (iatSS iatZS))))))))))))))))) (fun K hK => ?_) AllReadyH.nil
      go_simp
      refine (check13_any qh ga gc (some ⟨lbHL, 0, none⟩) 4 K5 HC5.out (HT.out.grown HB5.out) HL5.out).mono ?_
      rintro e9 K6 ⟨rfl, hb⟩
      have HB6 := Lib.hid (HB5.out.trans (hb.mono HB5.out.size))
      have HS6 : Hid (K6.cell? ⟨tb, 0, none⟩ = some (.int .i64 (-1)) ∧ K6.cell? ⟨tb, 1, none⟩ = some (.int .i64 0) ∧ K6.cell? ⟨tb, 2, none⟩ = some (.int .i64 0) ∧ K6.cell? ⟨tb, 3, none⟩ = some (.slice ga 3 gc)) := Lib.hid ⟨(HX.out.below HB6.out HX.out.lt).cell 0, (HX.out.below HB6.out HX.out.lt).cell 1, (HX.out.below HB6.out HX.out.lt).cell 2, (HX.out.below HB6.out HX.out.lt).cell 3⟩
      clear hb
      try dsimp only
      refine hK.out _ _ ?_ (fun hHeld => ?_)
      · exact HS6.out
      clear hK K
      try simp only [Act.put, List.setIfInBounds_toArray, List.set_cons_zero, List.set_cons_succ]
      refine wpAnyH_take (i := 17) (v := ?_) (iatLS (iatSS (iatSS (iatSS (iatSS (iatSS (iatSS (iatSS (iatSS (iatSS (iatSS (iatSS (iatSS (iatSS (iatSS (iatSS (iatSS (iatSS iatZS)))))))))))))))))) (by kernel_rfl) (by kernel_rfl) (by kernel_rfl) (fun _ _ _ h => h) (Or.inl ⟨by rfl, ?_⟩) (by assumption) ?_
      rotate_left
      · intro w hSw
        try dsimp only at hSw
        go_simp
        all_goals with_reducible rfl
      try simp only [Act.put, List.setIfInBounds_toArray, List.set_cons_zero, List.set_cons_succ]
      refine wpAnyH_take (i := 18) (v := ?_) (iatLS (iatSS (iatSS (iatSS (iatSS (iatSS (iatSS (iatSS (iatSS (iatSS (iatSS (iatSS (iatSS (iatSS (iatSS (iatSS (iatSS (iatSS (iatSS iatZS))))))))))))))))))) (by kernel_rfl) (by kernel_rfl) (by kernel_rfl) (fun _ _ _ h => h) (Or.inl ⟨by rfl, ?_⟩) (by assumption) ?_
      rotate_left
      · intro w hSw
        try dsimp only at hSw
        go_simp
        all_goals with_reducible rfl
      try simp only [Act.put, List.setIfInBounds_toArray, List.set_cons_zero, List.set_cons_succ]
      refine wpAnyH_take (i := 20) (v := ?_) (iatLS (iatSS (iatSS (iatSS (iatSS (iatSS (iatSS (iatSS (iatSS (iatSS (iatSS (iatSS (iatSS (iatSS (iatSS (iatSS (iatSS (iatSS (iatSS (iatSS (iatSS iatZS))))))))))))))))))))) (by kernel_rfl) (by kernel_rfl) (by kernel_rfl) (fun _ _ _ h => h) (Or.inl ⟨by rfl, ?_⟩) (by assumption) ?_
      rotate_left
      · intro w hSw
        try dsimp only at hSw
        go_simp
        all_goals with_reducible rfl
      try simp only [Act.put, List.setIfInBounds_toArray, List.set_cons_zero, List.set_cons_succ]
      refine wpAnyH_ready (rs := [19]) (by kernel_rfl) (by simp) ?_
      refine AllReadyH.cons (iatLS (iatSS (iatSS (iatSS (iatSS (iatSS (iatSS (iatSS (iatSS (iatSS (iatSS (iatSS (iatSS (iatSS (iatSS (iatSS (iatSS (iatSS (iatSS (iatSS iatZS)))))))))))))))))))) (fun K hK => ?_) AllReadyH.nil
      go_simp
      obtain ⟨qh, hqh⟩ : ∃ q, Hid (K6.heap.size = q) := ⟨_, Lib.hid rfl⟩
      have hab := ab_any K6
      rw [hqh.out] at hab
      refine Calls.mono hab ?_
      rintro e9 K7 ⟨rfl, hc, hb⟩
      rw [← hqh.out] at hb
      clear hab
      have HC7 := Lib.hid hc
      clear hc
      have HB7 := Lib.hid (HB6.out.trans (hb.mono HB6.out.size))
      have HS7 : Hid (K7.cell? ⟨tb, 0, none⟩ = some (.int .i64 (-1)) ∧ K7.cell? ⟨tb, 1, none⟩ = some (.int .i64 0) ∧ K7.cell? ⟨tb, 2, none⟩ = some (.int .i64 0) ∧ K7.cell? ⟨tb, 3, none⟩ = some (.slice ga 3 gc)) := Lib.hid ⟨(HX.out.below HB7.out HX.out.lt).cell 0, (HX.out.below HB7.out HX.out.lt).cell 1, (HX.out.below HB7.out HX.out.lt).cell 2, (HX.out.below HB7.out HX.out.lt).cell 3⟩
      clear hb
      try dsimp only
      refine hK.out _ _ ?_ (fun hHeld => ?_)
      · exact HS7.out
      clear hK K
      try simp only [Act.put, List.setIfInBounds_toArray, List.set_cons_zero, List.set_cons_succ]
      refine wpAnyH_ready (rs := [21]) (by kernel_rfl) (by simp) ?_
      refine AllReadyH.cons (iatLS (iatSS (iatSS (iatSS (iatSS (iatSS (iatSS (iatSS (iatSS (iatSS (iatSS (iatSS (iatSS (iatSS (iatSS (iatSS (iatSS (iatSS (iatSS (iatSS (iatSS (iatSS iatZS)))))))))))))))))))))) (fun K hK => ?_) AllReadyH.nil
      go_simp
      refine (text13_any qh ga gc K7 HC7.out (HT.out.grown HB7.out)).mono ?_
      rintro e9 K8 ⟨rfl, hb⟩
      have HB8 := Lib.hid (HB7.out.trans (hb.mono HB7.out.size))
      have HS8 : Hid (K8.cell? ⟨tb, 0, none⟩ = some (.int .i64 (-1)) ∧ K8.cell? ⟨tb, 1, none⟩ = some (.int .i64 0) ∧ K8.cell? ⟨tb, 2, none⟩ = some (.int .i64 0) ∧ K8.cell? ⟨tb, 3, none⟩ = some (.slice ga 3 gc)) := Lib.hid ⟨(HX.out.below HB8.out HX.out.lt).cell 0, (HX.out.below HB8.out HX.out.lt).cell 1, (HX.out.below HB8.out HX.out.lt).cell 2, (HX.out.below HB8.out HX.out.lt).cell 3⟩
      clear hb
      try dsimp only
      refine hK.out _ _ ?_ (fun hHeld => ?_)
      · exact HS8.out
      clear hK K
      try simp only [Act.put, List.setIfInBounds_toArray, List.set_cons_zero, List.set_cons_succ]
      refine wpAnyH_take (i := 22) (v := ?_) (iatLS (iatSS (iatSS (iatSS (iatSS (iatSS (iatSS (iatSS (iatSS (iatSS (iatSS (iatSS (iatSS (iatSS (iatSS (iatSS (iatSS (iatSS (iatSS (iatSS (iatSS (iatSS (iatSS iatZS))))))))))))))))))))))) (by kernel_rfl) (by kernel_rfl) (by kernel_rfl) (fun _ _ _ h => h) (Or.inl ⟨by rfl, ?_⟩) (by assumption) ?_
      rotate_left
      · intro w hSw
        try dsimp only at hSw
        go_simp
        all_goals with_reducible rfl
      try simp only [Act.put, List.setIfInBounds_toArray, List.set_cons_zero, List.set_cons_succ]
      refine wpAnyH_take (i := 23) (v := ?_) (iatLS (iatSS (iatSS (iatSS (iatSS (iatSS (iatSS (iatSS (iatSS (iatSS (iatSS (iatSS (iatSS (iatSS (iatSS (iatSS (iatSS (iatSS (iatSS (iatSS (iatSS (iatSS (iatSS (iatSS iatZS)))))))))))))))))))))))) (by kernel_rfl) (by kernel_rfl) (by kernel_rfl) (fun _ _ _ h => h) (Or.inl ⟨by rfl, ?_⟩) (by assumption) ?_
      rotate_left
      · intro w hSw
        try dsimp only at hSw
        go_simp
        all_goals with_reducible rfl
      try simp only [Act.put, List.setIfInBounds_toArray, List.set_cons_zero, List.set_cons_succ]
      refine wpAnyH_take (i := 24) (v := ?_) (iatLS (iatSS (iatSS (iatSS (iatSS (iatSS (iatSS (iatSS (iatSS (iatSS (iatSS (iatSS (iatSS (iatSS (iatSS (iatSS (iatSS (iatSS (iatSS (iatSS (iatSS (iatSS (iatSS (iatSS (iatSS iatZS))))))))))))))))))))))))) (by kernel_rfl) (by kernel_rfl) (by kernel_rfl) (fun _ _ _ h => h) (Or.inl ⟨by rfl, ?_⟩) (by assumption) ?_
      rotate_left
      · intro w hSw
        try dsimp only at hSw
        go_simp
        all_goals with_reducible rfl
      try simp only [Act.put, List.setIfInBounds_toArray, List.set_cons_zero, List.set_cons_succ]
      refine wpAnyH_take (i := 25) (v := ?_) (iatLS (iatSS (iatSS (iatSS (iatSS (iatSS (iatSS (iatSS (iatSS (iatSS (iatSS (iatSS (iatSS (iatSS (iatSS (iatSS (iatSS (iatSS (iatSS (iatSS (iatSS (iatSS (iatSS (iatSS (iatSS (iatSS iatZS)))))))))))))))))))))))))) (by kernel_rfl) (by kernel_rfl) (by kernel_rfl) (fun _ _ _ h => h) (Or.inl ⟨by rfl, ?_⟩) (by assumption) ?_
      rotate_left
      · intro w hSw
        try dsimp only at hSw
        go_simp
        all_goals with_reducible rfl
      try simp only [Act.put, List.setIfInBounds_toArray, List.set_cons_zero, List.set_cons_succ]
      refine wpAnyH_ready (rs := [26, 27]) (by kernel_rfl) (by simp) ?_
      refine AllReadyH.cons (iatLS (iatSS (iatSS (iatSS (iatSS (iatSS (iatSS (iatSS (iatSS (iatSS (iatSS (iatSS (iatSS (iatSS (iatSS (iatSS (iatSS (iatSS (iatSS (iatSS (iatSS (iatSS (iatSS (iatSS (iatSS (iatSS (iatSS iatZS))))))))))))))))))))))))))) (fun K hK => ?_) (AllReadyH.cons (iatLS (iatSS (iatSS (iatSS (iatSS (iatSS (iatSS (iatSS (iatSS (iatSS (iatSS (iatSS (iatSS (iatSS (iatSS (iatSS (iatSS (iatSS (iatSS (iatSS (iatSS (iatSS (iatSS (iatSS (iatSS (iatSS (iatSS (iatSS iatZS)))))))))))))))))))))))))))) (fun K hK => ?_) (AllReadyH.nil))
      ·
        go_simp
        refine (steps13_any ga gc K8 (HT.out.grown HB8.out)).mono ?_
        rintro e9 K9 ⟨ya, yc, rfl, hy, hb⟩
        have HY9 := Lib.hid hy
        clear hy
        have HB9 := Lib.hid (HB8.out.trans (hb.mono HB8.out.size))
        have HS9 : Hid (K9.cell? ⟨tb, 0, none⟩ = some (.int .i64 (-1)) ∧ K9.cell? ⟨tb, 1, none⟩ = some (.int .i64 0) ∧ K9.cell? ⟨tb, 2, none⟩ = some (.int .i64 0) ∧ K9.cell? ⟨tb, 3, none⟩ = some (.slice ga 3 gc)) := Lib.hid ⟨(HX.out.below HB9.out HX.out.lt).cell 0, (HX.out.below HB9.out HX.out.lt).cell 1, (HX.out.below HB9.out HX.out.lt).cell 2, (HX.out.below HB9.out HX.out.lt).cell 3⟩
        clear hb
        try dsimp only
        refine hK.out _ _ ?_ (fun hHeld => ?_)
        · exact HS9.out
        clear hK K
        try simp only [Act.put, List.setIfInBounds_toArray, List.set_cons_zero, List.set_cons_succ]
        refine wpAnyH_ready (rs := [27]) (by kernel_rfl) (by simp) ?_
        refine AllReadyH.cons (iatLS (iatSS (iatSS (iatSS (iatSS (iatSS (iatSS (iatSS (iatSS (iatSS (iatSS (iatSS (iatSS (iatSS (iatSS (iatSS (iatSS (iatSS (iatSS (iatSS (iatSS (iatSS (iatSS (iatSS (iatSS (iatSS (iatSS (iatSS iatZS)))))))))))))))))))))))))))) (fun K hK => ?_) AllReadyH.nil
        go_simp
        obtain ⟨lbHL, hlbHL⟩ : ∃ q, Hid (K9.heap.size = q) := ⟨_, Lib.hid rfl⟩
        rw [hlbHL.out]
        have hI := ints_new K9 [0, 0, 1] 3 rfl (e9_mx 3 (by omega))
        rw [hlbHL.out] at hI
        have hb : Below K9.heap.size K9 (K9.alloc (.cells ([0, 0, 1].map (Value.int .i64)).toArray 3)) := (Below.refl _ _).alloc (Nat.le_refl _) _
        change Below _ _ (K9.alloc (.cells #[.int .i64 0, .int .i64 0, .int .i64 1] 3)) at hb
        change Ints (K9.alloc (.cells #[.int .i64 0, .int .i64 0, .int .i64 1] 3)) _ _ _ at hI
        generalize K9.alloc (.cells #[.int .i64 0, .int .i64 0, .int .i64 1] 3) = K10 at hI hb ⊢
        have HL10 := Lib.hid hI
        clear hI
        have HB10 := Lib.hid (HB9.out.trans (hb.mono HB9.out.size))
        have HY10 := Lib.hid (HY9.out.grown hb)
        have HS10 : Hid (K10.cell? ⟨tb, 0, none⟩ = some (.int .i64 (-1)) ∧ K10.cell? ⟨tb, 1, none⟩ = some (.int .i64 0) ∧ K10.cell? ⟨tb, 2, none⟩ = some (.int .i64 0) ∧ K10.cell? ⟨tb, 3, none⟩ = some (.slice ga 3 gc)) := Lib.hid ⟨(HX.out.below HB10.out HX.out.lt).cell 0, (HX.out.below HB10.out HX.out.lt).cell 1, (HX.out.below HB10.out HX.out.lt).cell 2, (HX.out.below HB10.out HX.out.lt).cell 3⟩
        clear hb
        try dsimp only
        refine hK.out _ _ ?_ (fun hHeld => ?_)
        · exact HS10.out
        clear hK K
        try simp only [Act.put, List.setIfInBounds_toArray, List.set_cons_zero, List.set_cons_succ]
        refine wpAnyH_ready (rs := [28]) (by kernel_rfl) (by simp) ?_
        refine AllReadyH.cons (iatLS (iatSS (iatSS (iatSS (iatSS (iatSS (iatSS (iatSS (iatSS (iatSS (iatSS (iatSS (iatSS (iatSS (iatSS (iatSS (iatSS (iatSS (iatSS (iatSS (iatSS (iatSS (iatSS (iatSS (iatSS (iatSS (iatSS (iatSS (iatSS iatZS))))))))))))))))))))))))))))) (fun K hK => ?_) AllReadyH.nil
        go_simp
        refine (si13_any [0, 0, 1] 3 rfl ya (some ⟨lbHL, 0, none⟩) yc 3 K10 HY10.out HL10.out).mono ?_
        rintro e9 K11 ⟨rfl, hb⟩
        have HB11 := Lib.hid (HB10.out.trans (hb.mono HB10.out.size))
        have HS11 : Hid (K11.cell? ⟨tb, 0, none⟩ = some (.int .i64 (-1)) ∧ K11.cell? ⟨tb, 1, none⟩ = some (.int .i64 0) ∧ K11.cell? ⟨tb, 2, none⟩ = some (.int .i64 0) ∧ K11.cell? ⟨tb, 3, none⟩ = some (.slice ga 3 gc)) := Lib.hid ⟨(HX.out.below HB11.out HX.out.lt).cell 0, (HX.out.below HB11.out HX.out.lt).cell 1, (HX.out.below HB11.out HX.out.lt).cell 2, (HX.out.below HB11.out HX.out.lt).cell 3⟩
        clear hb
        try dsimp only
        refine hK.out _ _ ?_ (fun hHeld => ?_)
        · exact HS11.out
        clear hK K
        try simp only [Act.put, List.setIfInBounds_toArray, List.set_cons_zero, List.set_cons_succ]
        refine wpAnyH_take (i := 29) (v := ?_) (iatLS (iatSS (iatSS (iatSS (iatSS (iatSS (iatSS (iatSS (iatSS (iatSS (iatSS (iatSS (iatSS (iatSS (iatSS (iatSS (iatSS (iatSS (iatSS (iatSS (iatSS (iatSS (iatSS (iatSS (iatSS (iatSS (iatSS (iatSS (iatSS (iatSS iatZS)))))))))))))))))))))))))))))) (by kernel_rfl) (by kernel_rfl) (by kernel_rfl) (fun _ _ _ h => h) (Or.inl ⟨by rfl, ?_⟩) (by assumption) ?_
        rotate_left
        · intro w hSw
          try dsimp only at hSw
          go_simp
          all_goals with_reducible rfl
        try simp only [Act.put, List.setIfInBounds_toArray, List.set_cons_zero, List.set_cons_succ]
        refine wpAnyH_take (i := 30) (v := ?_) (iatLS (iatSS (iatSS (iatSS (iatSS (iatSS (iatSS (iatSS (iatSS (iatSS (iatSS (iatSS (iatSS (iatSS (iatSS (iatSS (iatSS (iatSS (iatSS (iatSS (iatSS (iatSS (iatSS (iatSS (iatSS (iatSS (iatSS (iatSS (iatSS (iatSS (iatSS iatZS))))))))))))))))))))))))))))))) (by kernel_rfl) (by kernel_rfl) (by kernel_rfl) (fun _ _ _ h => h) (Or.inl ⟨by rfl, ?_⟩) (by assumption) ?_
        rotate_left
        · intro w hSw
          try dsimp only at hSw
          go_simp
          all_goals with_reducible rfl
        try simp only [Act.put, List.setIfInBounds_toArray, List.set_cons_zero, List.set_cons_succ]
        refine wpAnyH_take (i := 31) (v := ?_) (iatLS (iatSS (iatSS (iatSS (iatSS (iatSS (iatSS (iatSS (iatSS (iatSS (iatSS (iatSS (iatSS (iatSS (iatSS (iatSS (iatSS (iatSS (iatSS (iatSS (iatSS (iatSS (iatSS (iatSS (iatSS (iatSS (iatSS (iatSS (iatSS (iatSS (iatSS (iatSS iatZS)))))))))))))))))))))))))))))))) (by kernel_rfl) (by kernel_rfl) (by kernel_rfl) (fun _ _ _ h => h) (Or.inl ⟨by rfl, ?_⟩) (by assumption) ?_
        rotate_left
        · intro w hSw
          try dsimp only at hSw
          go_simp
          all_goals with_reducible rfl
        try simp only [Act.put, List.setIfInBounds_toArray, List.set_cons_zero, List.set_cons_succ]
        refine wpAnyH_ready (rs := [32]) (by kernel_rfl) (by simp) ?_
        refine AllReadyH.cons (iatLS (iatSS (iatSS (iatSS (iatSS (iatSS (iatSS (iatSS (iatSS (iatSS (iatSS (iatSS (iatSS (iatSS (iatSS (iatSS (iatSS (iatSS (iatSS (iatSS (iatSS (iatSS (iatSS (iatSS (iatSS (iatSS (iatSS (iatSS (iatSS (iatSS (iatSS (iatSS (iatSS iatZS))))))))))))))))))))))))))))))))) (fun K hK => ?_) AllReadyH.nil
        go_simp
        refine (size13_any ga gc K11 (HT.out.grown HB11.out)).mono ?_
        rintro e9 K12 ⟨rfl, hb⟩
        have HB12 := Lib.hid (HB11.out.trans (hb.mono HB11.out.size))
        have HS12 : Hid (K12.cell? ⟨tb, 0, none⟩ = some (.int .i64 (-1)) ∧ K12.cell? ⟨tb, 1, none⟩ = some (.int .i64 0) ∧ K12.cell? ⟨tb, 2, none⟩ = some (.int .i64 0) ∧ K12.cell? ⟨tb, 3, none⟩ = some (.slice ga 3 gc)) := Lib.hid ⟨(HX.out.below HB12.out HX.out.lt).cell 0, (HX.out.below HB12.out HX.out.lt).cell 1, (HX.out.below HB12.out HX.out.lt).cell 2, (HX.out.below HB12.out HX.out.lt).cell 3⟩
        clear hb
        try dsimp only
        refine hK.out _ _ ?_ (fun hHeld => ?_)
        · exact HS12.out
        clear hK K
        try simp only [Act.put, List.setIfInBounds_toArray, List.set_cons_zero, List.set_cons_succ]
        refine wpAnyH_take (i := 33) (v := ?_) (iatLS (iatSS (iatSS (iatSS (iatSS (iatSS (iatSS (iatSS (iatSS (iatSS (iatSS (iatSS (iatSS (iatSS (iatSS (iatSS (iatSS (iatSS (iatSS (iatSS (iatSS (iatSS (iatSS (iatSS (iatSS (iatSS (iatSS (iatSS (iatSS (iatSS (iatSS (iatSS (iatSS (iatSS iatZS)))))))))))))))))))))))))))))))))) (by kernel_rfl) (by kernel_rfl) (by kernel_rfl) (fun _ _ _ h => h) (Or.inl ⟨by rfl, ?_⟩) (by assumption) ?_
        rotate_left
        · intro w hSw
          try dsimp only at hSw
          go_simp
          all_goals with_reducible rfl
        try simp only [Act.put, List.setIfInBounds_toArray, List.set_cons_zero, List.set_cons_succ]
        refine wpAnyH_take (i := 34) (v := ?_) (iatLS (iatSS (iatSS (iatSS (iatSS (iatSS (iatSS (iatSS (iatSS (iatSS (iatSS (iatSS (iatSS (iatSS (iatSS (iatSS (iatSS (iatSS (iatSS (iatSS (iatSS (iatSS (iatSS (iatSS (iatSS (iatSS (iatSS (iatSS (iatSS (iatSS (iatSS (iatSS (iatSS (iatSS (iatSS iatZS))))))))))))))))))))))))))))))))))) (by kernel_rfl) (by kernel_rfl) (by kernel_rfl) (fun _ _ _ h => h) (Or.inl ⟨by rfl, ?_⟩) (by assumption) ?_
        rotate_left
        · intro w hSw
          try dsimp only at hSw
          go_simp
          all_goals with_reducible rfl
        try simp only [Act.put, List.setIfInBounds_toArray, List.set_cons_zero, List.set_cons_succ]
        refine wpAnyH_take (i := 35) (v := ?_) (iatLS (iatSS (iatSS (iatSS (iatSS (iatSS (iatSS (iatSS (iatSS (iatSS (iatSS (iatSS (iatSS (iatSS (iatSS (iatSS (iatSS (iatSS (iatSS (iatSS (iatSS (iatSS (iatSS (iatSS (iatSS (iatSS (iatSS (iatSS (iatSS (iatSS (iatSS (iatSS (iatSS (iatSS (iatSS (iatSS iatZS)))))))))))))))))))))))))))))))))))) (by kernel_rfl) (by kernel_rfl) (by kernel_rfl) (fun _ _ _ h => h) (Or.inl ⟨by rfl, ?_⟩) (by assumption) ?_
        rotate_left
        · intro w hSw
          try dsimp only at hSw
          go_simp
          all_goals with_reducible rfl
        try simp only [Act.put, List.setIfInBounds_toArray, List.set_cons_zero, List.set_cons_succ]
        refine wpAnyH_done (by kernel_rfl) ?_ _
        go_wp2_with (fail)
        exact bodyPost_ret (v := .bool true) (by simp [results, Try.results49, go_sem]; try first | rfl | assumption | omega) rfl ⟨rfl, HV.out.trans (HB12.out.mono HV.out.size)⟩
      ·
        go_simp
        obtain ⟨lbHL, hlbHL⟩ : ∃ q, Hid (K8.heap.size = q) := ⟨_, Lib.hid rfl⟩
        rw [hlbHL.out]
        have hI := ints_new K8 [0, 0, 1] 3 rfl (e9_mx 3 (by omega))
        rw [hlbHL.out] at hI
        have hb : Below K8.heap.size K8 (K8.alloc (.cells ([0, 0, 1].map (Value.int .i64)).toArray 3)) := (Below.refl _ _).alloc (Nat.le_refl _) _
        change Below _ _ (K8.alloc (.cells #[.int .i64 0, .int .i64 0, .int .i64 1] 3)) at hb
        change Ints (K8.alloc (.cells #[.int .i64 0, .int .i64 0, .int .i64 1] 3)) _ _ _ at hI
        generalize K8.alloc (.cells #[.int .i64 0, .int .i64 0, .int .i64 1] 3) = K9 at hI hb ⊢
        have HL9 := Lib.hid hI
        clear hI
        have HB9 := Lib.hid (HB8.out.trans (hb.mono HB8.out.size))
        have HS9 : Hid (K9.cell? ⟨tb, 0, none⟩ = some (.int .i64 (-1)) ∧ K9.cell? ⟨tb, 1, none⟩ = some (.int .i64 0) ∧ K9.cell? ⟨tb, 2, none⟩ = some (.int .i64 0) ∧ K9.cell? ⟨tb, 3, none⟩ = some (.slice ga 3 gc)) := Lib.hid ⟨(HX.out.below HB9.out HX.out.lt).cell 0, (HX.out.below HB9.out HX.out.lt).cell 1, (HX.out.below HB9.out HX.out.lt).cell 2, (HX.out.below HB9.out HX.out.lt).cell 3⟩
        clear hb
        try dsimp only
        refine hK.out _ _ ?_ (fun hHeld => ?_)
        · exact HS9.out
        clear hK K
        try simp only [Act.put, List.setIfInBounds_toArray, List.set_cons_zero, List.set_cons_succ]
        refine wpAnyH_ready (rs := [26]) (by kernel_rfl) (by simp) ?_
        refine AllReadyH.cons (iatLS (iatSS (iatSS (iatSS (iatSS (iatSS (iatSS (iatSS (iatSS (iatSS (iatSS (iatSS (iatSS (iatSS (iatSS (iatSS (iatSS (iatSS (iatSS (iatSS (iatSS (iatSS (iatSS (iatSS (iatSS (iatSS (iatSS iatZS))))))))))))))))))))))))))) (fun K hK => ?_) AllReadyH.nil
        go_simp
        refine (steps13_any ga gc K9 (HT.out.grown HB9.out)).mono ?_
        rintro e9 K10 ⟨ya, yc, rfl, hy, hb⟩
        have HY10 := Lib.hid hy
        clear hy
        have HB10 := Lib.hid (HB9.out.trans (hb.mono HB9.out.size))
        have HL10 := Lib.hid (HL9.out.grown hb)
        have HS10 : Hid (K10.cell? ⟨tb, 0, none⟩ = some (.int .i64 (-1)) ∧ K10.cell? ⟨tb, 1, none⟩ = some (.int .i64 0) ∧ K10.cell? ⟨tb, 2, none⟩ = some (.int .i64 0) ∧ K10.cell? ⟨tb, 3, none⟩ = some (.slice ga 3 gc)) := Lib.hid ⟨(HX.out.below HB10.out HX.out.lt).cell 0, (HX.out.below HB10.out HX.out.lt).cell 1, (HX.out.below HB10.out HX.out.lt).cell 2, (HX.out.below HB10.out HX.out.lt).cell 3⟩
        clear hb
        try dsimp only
        refine hK.out _ _ ?_ (fun hHeld => ?_)
        · exact HS10.out
        clear hK K
        try simp only [Act.put, List.setIfInBounds_toArray, List.set_cons_zero, List.set_cons_succ]
        refine wpAnyH_ready (rs := [28]) (by kernel_rfl) (by simp) ?_
        refine AllReadyH.cons (iatLS (iatSS (iatSS (iatSS (iatSS (iatSS (iatSS (iatSS (iatSS (iatSS (iatSS (iatSS (iatSS (iatSS (iatSS (iatSS (iatSS (iatSS (iatSS (iatSS (iatSS (iatSS (iatSS (iatSS (iatSS (iatSS (iatSS (iatSS (iatSS iatZS))))))))))))))))))))))))))))) (fun K hK => ?_) AllReadyH.nil
        go_simp
        refine (si13_any [0, 0, 1] 3 rfl ya (some ⟨lbHL, 0, none⟩) yc 3 K10 HY10.out HL10.out).mono ?_
        rintro e9 K11 ⟨rfl, hb⟩
        have HB11 := Lib.hid (HB10.out.trans (hb.mono HB10.out.size))
        have HS11 : Hid (K11.cell? ⟨tb, 0, none⟩ = some (.int .i64 (-1)) ∧ K11.cell? ⟨tb, 1, none⟩ = some (.int .i64 0) ∧ K11.cell? ⟨tb, 2, none⟩ = some (.int .i64 0) ∧ K11.cell? ⟨tb, 3, none⟩ = some (.slice ga 3 gc)) := Lib.hid ⟨(HX.out.below HB11.out HX.out.lt).cell 0, (HX.out.below HB11.out HX.out.lt).cell 1, (HX.out.below HB11.out HX.out.lt).cell 2, (HX.out.below HB11.out HX.out.lt).cell 3⟩
        clear hb
        try dsimp only
        refine hK.out _ _ ?_ (fun hHeld => ?_)
        · exact HS11.out
        clear hK K
        try simp only [Act.put, List.setIfInBounds_toArray, List.set_cons_zero, List.set_cons_succ]
        refine wpAnyH_take (i := 29) (v := ?_) (iatLS (iatSS (iatSS (iatSS (iatSS (iatSS (iatSS (iatSS (iatSS (iatSS (iatSS (iatSS (iatSS (iatSS (iatSS (iatSS (iatSS (iatSS (iatSS (iatSS (iatSS (iatSS (iatSS (iatSS (iatSS (iatSS (iatSS (iatSS (iatSS (iatSS iatZS)))))))))))))))))))))))))))))) (by kernel_rfl) (by kernel_rfl) (by kernel_rfl) (fun _ _ _ h => h) (Or.inl ⟨by rfl, ?_⟩) (by assumption) ?_
        rotate_left
        · intro w hSw
          try dsimp only at hSw
          go_simp
          all_goals with_reducible rfl
        try simp only [Act.put, List.setIfInBounds_toArray, List.set_cons_zero, List.set_cons_succ]
        refine wpAnyH_take (i := 30) (v := ?_) (iatLS (iatSS (iatSS (iatSS (iatSS (iatSS (iatSS (iatSS (iatSS (iatSS (iatSS (iatSS (iatSS (iatSS (iatSS (iatSS (iatSS (iatSS (iatSS (iatSS (iatSS (iatSS (iatSS (iatSS (iatSS (iatSS (iatSS (iatSS (iatSS (iatSS (iatSS iatZS))))))))))))))))))))))))))))))) (by kernel_rfl) (by kernel_rfl) (by kernel_rfl) (fun _ _ _ h => h) (Or.inl ⟨by rfl, ?_⟩) (by assumption) ?_
        rotate_left
        · intro w hSw
          try dsimp only at hSw
          go_simp
          all_goals with_reducible rfl
        try simp only [Act.put, List.setIfInBounds_toArray, List.set_cons_zero, List.set_cons_succ]
        refine wpAnyH_take (i := 31) (v := ?_) (iatLS (iatSS (iatSS (iatSS (iatSS (iatSS (iatSS (iatSS (iatSS (iatSS (iatSS (iatSS (iatSS (iatSS (iatSS (iatSS (iatSS (iatSS (iatSS (iatSS (iatSS (iatSS (iatSS (iatSS (iatSS (iatSS (iatSS (iatSS (iatSS (iatSS (iatSS (iatSS iatZS)))))))))))))))))))))))))))))))) (by kernel_rfl) (by kernel_rfl) (by kernel_rfl) (fun _ _ _ h => h) (Or.inl ⟨by rfl, ?_⟩) (by assumption) ?_
        rotate_left
        · intro w hSw
          try dsimp only at hSw
          go_simp
          all_goals with_reducible rfl
        try simp only [Act.put, List.setIfInBounds_toArray, List.set_cons_zero, List.set_cons_succ]
        refine wpAnyH_ready (rs := [32]) (by kernel_rfl) (by simp) ?_
        refine AllReadyH.cons (iatLS (iatSS (iatSS (iatSS (iatSS (iatSS (iatSS (iatSS (iatSS (iatSS (iatSS (iatSS (iatSS (iatSS (iatSS (iatSS (iatSS (iatSS (iatSS (iatSS (iatSS (iatSS (iatSS (iatSS (iatSS (iatSS (iatSS (iatSS (iatSS (iatSS (iatSS (iatSS (iatSS iatZS))))))))))))))))))))))))))))))))) (fun K hK => ?_) AllReadyH.nil
        go_simp
        refine (size13_any ga gc K11 (HT.out.grown HB11.out)).mono ?_
        rintro e9 K12 ⟨rfl, hb⟩
        have HB12 := Lib.hid (HB11.out.trans (hb.mono HB11.out.size))
        have HS12 : Hid (K12.cell? ⟨tb, 0, none⟩ = some (.int .i64 (-1)) ∧ K12.cell? ⟨tb, 1, none⟩ = some (.int .i64 0) ∧ K12.cell? ⟨tb, 2, none⟩ = some (.int .i64 0) ∧ K12.cell? ⟨tb, 3, none⟩ = some (.slice ga 3 gc)) := Lib.hid ⟨(HX.out.below HB12.out HX.out.lt).cell 0, (HX.out.below HB12.out HX.out.lt).cell 1, (HX.out.below HB12.out HX.out.lt).cell 2, (HX.out.below HB12.out HX.out.lt).cell 3⟩
        clear hb
        try dsimp only
        refine hK.out _ _ ?_ (fun hHeld => ?_)
        · exact HS12.out
        clear hK K
        try simp only [Act.put, List.setIfInBounds_toArray, List.set_cons_zero, List.set_cons_succ]
        refine wpAnyH_take (i := 33) (v := ?_) (iatLS (iatSS (iatSS (iatSS (iatSS (iatSS (iatSS (iatSS (iatSS (iatSS (iatSS (iatSS (iatSS (iatSS (iatSS (iatSS (iatSS (iatSS (iatSS (iatSS (iatSS (iatSS (iatSS (iatSS (iatSS (iatSS (iatSS (iatSS (iatSS (iatSS (iatSS (iatSS (iatSS (iatSS iatZS)))))))))))))))))))))))))))))))))) (by kernel_rfl) (by kernel_rfl) (by kernel_rfl) (fun _ _ _ h => h) (Or.inl ⟨by rfl, ?_⟩) (by assumption) ?_
        rotate_left
        · intro w hSw
          try dsimp only at hSw
          go_simp
          all_goals with_reducible rfl
        try simp only [Act.put, List.setIfInBounds_toArray, List.set_cons_zero, List.set_cons_succ]
        refine wpAnyH_take (i := 34) (v := ?_) (iatLS (iatSS (iatSS (iatSS (iatSS (iatSS (iatSS (iatSS (iatSS (iatSS (iatSS (iatSS (iatSS (iatSS (iatSS (iatSS (iatSS (iatSS (iatSS (iatSS (iatSS (iatSS (iatSS (iatSS (iatSS (iatSS (iatSS (iatSS (iatSS (iatSS (iatSS (iatSS (iatSS (iatSS (iatSS iatZS))))))))))))))))))))))))))))))))))) (by kernel_rfl) (by kernel_rfl) (by kernel_rfl) (fun _ _ _ h => h) (Or.inl ⟨by rfl, ?_⟩) (by assumption) ?_
        rotate_left
        · intro w hSw
          try dsimp only at hSw
          go_simp
          all_goals with_reducible rfl
        try simp only [Act.put, List.setIfInBounds_toArray, List.set_cons_zero, List.set_cons_succ]
        refine wpAnyH_take (i := 35) (v := ?_) (iatLS (iatSS (iatSS (iatSS (iatSS (iatSS (iatSS (iatSS (iatSS (iatSS (iatSS (iatSS (iatSS (iatSS (iatSS (iatSS (iatSS (iatSS (iatSS (iatSS (iatSS (iatSS (iatSS (iatSS (iatSS (iatSS (iatSS (iatSS (iatSS (iatSS (iatSS (iatSS (iatSS (iatSS (iatSS (iatSS iatZS)))))))))))))))))))))))))))))))))))) (by kernel_rfl) (by kernel_rfl) (by kernel_rfl) (fun _ _ _ h => h) (Or.inl ⟨by rfl, ?_⟩) (by assumption) ?_
        rotate_left
        · intro w hSw
          try dsimp only at hSw
          go_simp
          all_goals with_reducible rfl
        try simp only [Act.put, List.setIfInBounds_toArray, List.set_cons_zero, List.set_cons_succ]
        refine wpAnyH_done (by kernel_rfl) ?_ _
        go_wp2_with (fail)
        exact bodyPost_ret (v := .bool true) (by simp [results, Try.results49, go_sem]; try first | rfl | assumption | omega) rfl ⟨rfl, HV.out.trans (HB12.out.mono HV.out.size)⟩
  ·
    go_simp
    obtain ⟨lbHL, hlbHL⟩ : ∃ q, Hid (K0.heap.size = q) := ⟨_, Lib.hid rfl⟩
    rw [hlbHL.out]
    have hI := ints_new K0 [0, 0, 1, 1] 4 rfl (e9_mx 4 (by omega))
    rw [hlbHL.out] at hI
    have hb : Below K0.heap.size K0 (K0.alloc (.cells ([0, 0, 1, 1].map (Value.int .i64)).toArray 3)) := (Below.refl _ _).alloc (Nat.le_refl _) _
    change Below _ _ (K0.alloc (.cells #[.int .i64 0, .int .i64 0, .int .i64 1, .int .i64 1] 3)) at hb
    change Ints (K0.alloc (.cells #[.int .i64 0, .int .i64 0, .int .i64 1, .int .i64 1] 3)) _ _ _ at hI
    generalize K0.alloc (.cells #[.int .i64 0, .int .i64 0, .int .i64 1, .int .i64 1] 3) = K1 at hI hb ⊢
    have HL1 := Lib.hid hI
    clear hI
    have HB1 := Lib.hid (HB0.out.trans (hb.mono HB0.out.size))
    have HS1 : Hid (K1.cell? ⟨tb, 0, none⟩ = some (.int .i64 (-1)) ∧ K1.cell? ⟨tb, 1, none⟩ = some (.int .i64 0) ∧ K1.cell? ⟨tb, 2, none⟩ = some (.int .i64 0) ∧ K1.cell? ⟨tb, 3, none⟩ = some (.slice ga 3 gc)) := Lib.hid ⟨(HX.out.below HB1.out HX.out.lt).cell 0, (HX.out.below HB1.out HX.out.lt).cell 1, (HX.out.below HB1.out HX.out.lt).cell 2, (HX.out.below HB1.out HX.out.lt).cell 3⟩
    clear hb
    try dsimp only
    refine hK.out _ _ ?_ (fun hHeld => ?_)
    · exact HS1.out
    clear hK K
    try simp only [Act.put, List.setIfInBounds_toArray, List.set_cons_zero, List.set_cons_succ]
    refine wpAnyH_ready (rs := [8]) (by kernel_rfl) (by simp) ?_
    refine AllReadyH.cons (iatLS (iatSS (iatSS (iatSS (iatSS (iatSS (iatSS (iatSS (iatSS iatZS))))))))) (fun K hK => ?_) AllReadyH.nil
    go_simp
    refine (yield13_any ga gc K1 (HT.out.grown HB1.out)).mono ?_
    rintro e9 K2 ⟨ya, yc, rfl, hy, hb⟩
    have HY2 := Lib.hid hy
    clear hy
    have HB2 := Lib.hid (HB1.out.trans (hb.mono HB1.out.size))
    have HL2 := Lib.hid (HL1.out.grown hb)
    have HS2 : Hid (K2.cell? ⟨tb, 0, none⟩ = some (.int .i64 (-1)) ∧ K2.cell? ⟨tb, 1, none⟩ = some (.int .i64 0) ∧ K2.cell? ⟨tb, 2, none⟩ = some (.int .i64 0) ∧ K2.cell? ⟨tb, 3, none⟩ = some (.slice ga 3 gc)) := Lib.hid ⟨(HX.out.below HB2.out HX.out.lt).cell 0, (HX.out.below HB2.out HX.out.lt).cell 1, (HX.out.below HB2.out HX.out.lt).cell 2, (HX.out.below HB2.out HX.out.lt).cell 3⟩
    clear hb
    try dsimp only
    refine hK.out _ _ ?_ (fun hHeld => ?_)
    · exact HS2.out
    clear hK K
    try simp only [Act.put, List.setIfInBounds_toArray, List.set_cons_zero, List.set_cons_succ]
    refine wpAnyH_ready (rs := [10]) (by kernel_rfl) (by simp) ?_
    refine AllReadyH.cons (iatLS (iatSS (iatSS (iatSS (iatSS (iatSS (iatSS (iatSS (iatSS (iatSS (iatSS iatZS))))))))))) (fun K hK => ?_) AllReadyH.nil
    go_simp
    refine (si13_any [0, 0, 1, 1] 4 rfl ya (some ⟨lbHL, 0, none⟩) yc 4 K2 HY2.out HL2.out).mono ?_
    rintro e9 K3 ⟨rfl, hb⟩
    have HB3 := Lib.hid (HB2.out.trans (hb.mono HB2.out.size))
    have HS3 : Hid (K3.cell? ⟨tb, 0, none⟩ = some (.int .i64 (-1)) ∧ K3.cell? ⟨tb, 1, none⟩ = some (.int .i64 0) ∧ K3.cell? ⟨tb, 2, none⟩ = some (.int .i64 0) ∧ K3.cell? ⟨tb, 3, none⟩ = some (.slice ga 3 gc)) := Lib.hid ⟨(HX.out.below HB3.out HX.out.lt).cell 0, (HX.out.below HB3.out HX.out.lt).cell 1, (HX.out.below HB3.out HX.out.lt).cell 2, (HX.out.below HB3.out HX.out.lt).cell 3⟩
    clear hb
    try dsimp only
    refine hK.out _ _ ?_ (fun hHeld => ?_)
    · exact HS3.out
    clear hK K
    try simp only [Act.put, List.setIfInBounds_toArray, List.set_cons_zero, List.set_cons_succ]
    refine wpAnyH_take (i := 11) (v := ?_) (iatLS (iatSS (iatSS (iatSS (iatSS (iatSS (iatSS (iatSS (iatSS (iatSS (iatSS (iatSS iatZS)))))))))))) (by kernel_rfl) (by kernel_rfl) (by kernel_rfl) (fun _ _ _ h => h) (Or.inl ⟨by rfl, ?_⟩) (by assumption) ?_
    rotate_left
    · intro w hSw
      try dsimp only at hSw
      go_simp
      all_goals with_reducible rfl
    try simp only [Act.put, List.setIfInBounds_toArray, List.set_cons_zero, List.set_cons_succ]
    refine wpAnyH_take (i := 12) (v := ?_) (iatLS (iatSS (iatSS (iatSS (iatSS (iatSS (iatSS (iatSS (iatSS (iatSS (iatSS (iatSS (iatSS iatZS))))))))))))) (by kernel_rfl) (by kernel_rfl) (by kernel_rfl) (fun _ _ _ h => h) (Or.inl ⟨by rfl, ?_⟩) (by assumption) ?_
    rotate_left
    · intro w hSw
      try dsimp only at hSw
      go_simp
      all_goals with_reducible rfl
    try simp only [Act.put, List.setIfInBounds_toArray, List.set_cons_zero, List.set_cons_succ]
    refine wpAnyH_take (i := 14) (v := ?_) (iatLS (iatSS (iatSS (iatSS (iatSS (iatSS (iatSS (iatSS (iatSS (iatSS (iatSS (iatSS (iatSS (iatSS (iatSS iatZS))))))))))))))) (by kernel_rfl) (by kernel_rfl) (by kernel_rfl) (fun _ _ _ h => h) (Or.inl ⟨by rfl, ?_⟩) (by assumption) ?_
    rotate_left
    · intro w hSw
      try dsimp only at hSw
      go_simp
      all_goals with_reducible rfl
    try simp only [Act.put, List.setIfInBounds_toArray, List.set_cons_zero, List.set_cons_succ]
    refine wpAnyH_ready (rs := [13, 15]) (by kernel_rfl) (by simp) ?_
    refine AllReadyH.cons (iatLS (iatSS (iatSS (iatSS (iatSS (iatSS (iatSS (iatSS (iatSS (iatSS (iatSS (iatSS (iatSS (iatSS iatZS)))))))))))))) (fun K hK => ?_) (AllReadyH.cons (iatLS (iatSS (iatSS (iatSS (iatSS (iatSS (iatSS (iatSS (iatSS (iatSS (iatSS (iatSS (iatSS (iatSS (iatSS (iatSS iatZS)))))))))))))))) (fun K hK => ?_) (AllReadyH.nil))
    ·
      go_simp
      obtain ⟨qh, hqh⟩ : ∃ q, Hid (K3.heap.size = q) := ⟨_, Lib.hid rfl⟩
      have hab := ab_any K3
      rw [hqh.out] at hab
      refine Calls.mono hab ?_
      rintro e9 K4 ⟨rfl, hc, hb⟩
      rw [← hqh.out] at hb
      clear hab
      have HC4 := Lib.hid hc
      clear hc
      have HB4 := Lib.hid (HB3.out.trans (hb.mono HB3.out.size))
      have HS4 : Hid (K4.cell? ⟨tb, 0, none⟩ = some (.int .i64 (-1)) ∧ K4.cell? ⟨tb, 1, none⟩ = some (.int .i64 0) ∧ K4.cell? ⟨tb, 2, none⟩ = some (.int .i64 0) ∧ K4.cell? ⟨tb, 3, none⟩ = some (.slice ga 3 gc)) := Lib.hid ⟨(HX.out.below HB4.out HX.out.lt).cell 0, (HX.out.below HB4.out HX.out.lt).cell 1, (HX.out.below HB4.out HX.out.lt).cell 2, (HX.out.below HB4.out HX.out.lt).cell 3⟩
      clear hb
      try dsimp only
      refine hK.out _ _ ?_ (fun hHeld => ?_)
      · exact HS4.out
      clear hK K
      try simp only [Act.put, List.setIfInBounds_toArray, List.set_cons_zero, List.set_cons_succ]
      refine wpAnyH_ready (rs := [15]) (by kernel_rfl) (by simp) ?_
      refine AllReadyH.cons (iatLS (iatSS (iatSS (iatSS (iatSS (iatSS (iatSS (iatSS (iatSS (iatSS (iatSS (iatSS (iatSS (iatSS (iatSS (iatSS iatZS)))))))))))))))) (fun K hK => ?_) AllReadyH.nil
      go_simp
      obtain ⟨lbHL, hlbHL⟩ : ∃ q, Hid (K4.heap.size = q) := ⟨_, Lib.hid rfl⟩
      rw [hlbHL.out]
      have hI := ints_new K4 [0, 0, 1, 1] 4 rfl (e9_mx 4 (by omega))
      rw [hlbHL.out] at hI
      have hb : Below K4.heap.size K4 (K4.alloc (.cells ([0, 0, 1, 1].map (Value.int .i64)).toArray 3)) := (Below.refl _ _).alloc (Nat.le_refl _) _
      change Below _ _ (K4.alloc (.cells #[.int .i64 0, .int .i64 0, .int .i64 1, .int .i64 1] 3)) at hb
      change Ints (K4.alloc (.cells #[.int .i64 0, .int .i64 0, .int .i64 1, .int .i64 1] 3)) _ _ _ at hI
      generalize K4.alloc (.cells #[.int .i64 0, .int .i64 0, .int .i64 1, .int .i64 1] 3) = K5 at hI hb ⊢
      have HL5 := Lib.hid hI
      clear hI
      have HB5 := Lib.hid (HB4.out.trans (hb.mono HB4.out.size))
      have HC5 := Lib.hid (HC4.out.grown hb)
      have HS5 : Hid (K5.cell? ⟨tb, 0, none⟩ = some (.int .i64 (-1)) ∧ K5.cell? ⟨tb, 1, none⟩ = some (.int .i64 0) ∧ K5.cell? ⟨tb, 2, none⟩ = some (.int .i64 0) ∧ K5.cell? ⟨tb, 3, none⟩ = some (.slice ga 3 gc)) := Lib.hid ⟨(HX.out.below HB5.out HX.out.lt).cell 0, (HX.out.below HB5.out HX.out.lt).cell 1, (HX.out.below HB5.out HX.out.lt).cell 2, (HX.out.below HB5.out HX.out.lt).cell 3⟩
      clear hb
      try dsimp only
      refine hK.out _ _ ?_ (fun hHeld => ?_)
      · exact HS5.out
      clear hK K
      try simp only [Act.put, List.setIfInBounds_toArray, List.set_cons_zero, List.set_cons_succ]
      refine wpAnyH_ready (rs := [16]) (by kernel_rfl) (by simp) ?_
      refine AllReadyH.cons (iatLS (iatSS (iatSS (iatSS (iatSS (iatSS (iatSS (iatSS (iatSS (iatSS (iatSS (iatSS (iatSS (iatSS (iatSS (iatSS (iatSS iatZS))))))))))))))))) (fun K hK => ?_) AllReadyH.nil
      go_simp
      refine (check13_any qh ga gc (some ⟨lbHL, 0, none⟩) 4 K5 HC5.out (HT.out.grown HB5.out) HL5.out).mono ?_
      rintro e9 K6 ⟨rfl, hb⟩
      have HB6 := Lib.hid (HB5.out.trans (hb.mono HB5.out.size))
      have HS6 : Hid (K6.cell? ⟨tb, 0, none⟩ = some (.int .i64 (-1)) ∧ K6.cell? ⟨tb, 1, none⟩ = some (.int .i64 0) ∧ K6.cell? ⟨tb, 2, none⟩ = some (.int .i64 0) ∧ K6.cell? ⟨tb, 3, none⟩ = some (.slice ga 3 gc)) := Lib.hid ⟨(HX.out.below HB6.out HX.out.lt).cell 0, (HX.out.below HB6.out HX.out.lt).cell 1, (HX.out.below HB6.out HX.out.lt).cell 2, (HX.out.below HB6.out HX.out.lt).cell 3⟩
      clear hb
      try dsimp only
      refine hK.out _ _ ?_ (fun hHeld => ?_)
      · exact HS6.out
      clear hK K
      try simp only [Act.put, List.setIfInBounds_toArray, List.set_cons_zero, List.set_cons_succ]
      refine wpAnyH_take (i := 17) (v := ?_) (iatLS (iatSS (iatSS (iatSS (iatSS (iatSS (iatSS (iatSS (iatSS (iatSS (iatSS (iatSS (iatSS (iatSS (iatSS (iatSS (iatSS (iatSS iatZS)))))))))))))))))) (by kernel_rfl) (by kernel_rfl) (by kernel_rfl) (fun _ _ _ h => h) (Or.inl ⟨by rfl, ?_⟩) (by assumption) ?_
      rotate_left
      · intro w hSw
        try dsimp only at hSw
        go_simp
        all_goals with_reducible rfl
      try simp only [Act.put, List.setIfInBounds_toArray, List.set_cons_zero, List.set_cons_succ]
      refine wpAnyH_take (i := 18) (v := ?_) (iatLS (iatSS (iatSS (iatSS (iatSS (iatSS (iatSS (iatSS (iatSS (iatSS (iatSS (iatSS (iatSS (iatSS (iatSS (iatSS (iatSS (iatSS (iatSS iatZS))))))))))))))))))) (by kernel_rfl) (by kernel_rfl) (by kernel_rfl) (fun _ _ _ h => h) (Or.inl ⟨by rfl, ?_⟩) (by assumption) ?_
      rotate_left
      · intro w hSw
        try dsimp only at hSw
        go_simp
        all_goals with_reducible rfl
      try simp only [Act.put, List.setIfInBounds_toArray, List.set_cons_zero, List.set_cons_succ]
      refine wpAnyH_take (i := 20) (v := ?_) (iatLS (iatSS (iatSS (iatSS (iatSS (iatSS (iatSS (iatSS (iatSS (iatSS (iatSS (iatSS (iatSS (iatSS (iatSS (iatSS (iatSS (iatSS (iatSS (iatSS (iatSS iatZS))))))))))))))))))))) (by kernel_rfl) (by kernel_rfl) (by kernel_rfl) (fun _ _ _ h => h) (Or.inl ⟨by rfl, ?_⟩) (by assumption) ?_
      rotate_left
      · intro w hSw
        try dsimp only at hSw
        go_simp
        all_goals with_reducible rfl
      try simp only [Act.put, List.setIfInBounds_toArray, List.set_cons_zero, List.set_cons_succ]
      refine wpAnyH_ready (rs := [19]) (by kernel_rfl) (by simp) ?_
      refine AllReadyH.cons (iatLS (iatSS (iatSS (iatSS (iatSS (iatSS (iatSS (iatSS (iatSS (iatSS (iatSS (iatSS (iatSS (iatSS (iatSS (iatSS (iatSS (iatSS (iatSS (iatSS iatZS)))))))))))))))))))) (fun K hK => ?_) AllReadyH.nil
      go_simp
      obtain ⟨qh, hqh⟩ : ∃ q, Hid (K6.heap.size = q) := ⟨_, Lib.hid rfl⟩
      have hab := ab_any K6
      rw [hqh.out] at hab
      refine Calls.mono hab ?_
      rintro e9 K7 ⟨rfl, hc, hb⟩
      rw [← hqh.out] at hb
      clear hab
      have HC7 := Lib.hid hc
      clear hc
      have HB7 := Lib.hid (HB6.out.trans (hb.mono HB6.out.size))
      have HS7 : Hid (K7.cell? ⟨tb, 0, none⟩ = some (.int .i64 (-1)) ∧ K7.cell? ⟨tb, 1, none⟩ = some (.int .i64 0) ∧ K7.cell? ⟨tb, 2, none⟩ = some (.int .i64 0) ∧ K7.cell? ⟨tb, 3, none⟩ = some (.slice ga 3 gc)) := Lib.hid ⟨(HX.out.below HB7.out HX.out.lt).cell 0, (HX.out.below HB7.out HX.out.lt).cell 1, (HX.out.below HB7.out HX.out.lt).cell 2, (HX.out.below HB7.out HX.out.lt).cell 3⟩
      clear hb
      try dsimp only
      refine hK.out _ _ ?_ (fun hHeld => ?_)
      · exact HS7.out
      clear hK K
      try simp only [Act.put, List.setIfInBounds_toArray, List.set_cons_zero, List.set_cons_succ]
      refine wpAnyH_ready (rs := [21]) (by kernel_rfl) (by simp) ?_
      refine AllReadyH.cons (iatLS (iatSS (iatSS (iatSS (iatSS (iatSS (iatSS (iatSS (iatSS (iatSS (iatSS (iatSS (iatSS (iatSS (iatSS (iatSS (iatSS (iatSS (iatSS (iatSS (iatSS (iatSS iatZS)))))))))))))))))))))) (fun K hK => ?_) AllReadyH.nil
      go_simp
      refine (text13_any qh ga gc K7 HC7.out (HT.out.grown HB7.out)).mono ?_
      rintro e9 K8 ⟨rfl, hb⟩
      have HB8 := Lib.hid (HB7.out.trans (hb.mono HB7.out.size))
      have HS8 : Hid (K8.cell? ⟨tb, 0, none⟩ = some (.int .i64 (-1)) ∧ K8.cell? ⟨tb, 1, none⟩ = some (.int .i64 0) ∧ K8.cell? ⟨tb, 2, none⟩ = some (.int .i64 0) ∧ K8.cell? ⟨tb, 3, none⟩ = some (.slice ga 3 gc)) := Lib.hid ⟨(HX.out.below HB8.out HX.out.lt).cell 0, (HX.out.below HB8.out HX.out.lt).cell 1, (HX.out.below HB8.out HX.out.lt).cell 2, (HX.out.below HB8.out HX.out.lt).cell 3⟩
      clear hb
      try dsimp only
      refine hK.out _ _ ?_ (fun hHeld => ?_)
      · exact HS8.out
      clear hK K
      try simp only [Act.put, List.setIfInBounds_toArray, List.set_cons_zero, List.set_cons_succ]
      refine wpAnyH_take (i := 22) (v := ?_) (iatLS (iatSS (iatSS (iatSS (iatSS (iatSS (iatSS (iatSS (iatSS (iatSS (iatSS (iatSS (iatSS (iatSS (iatSS (iatSS (iatSS (iatSS (iatSS (iatSS (iatSS (iatSS (iatSS iatZS))))))))))))))))))))))) (by kernel_rfl) (by kernel_rfl) (by kernel_rfl) (fun _ _ _ h => h) (Or.inl ⟨by rfl, ?_⟩) (by assumption) ?_
      rotate_left
      · intro w hSw
        try dsimp only at hSw
        go_simp
        all_goals with_reducible rfl
      try simp only [Act.put, List.setIfInBounds_toArray, List.set_cons_zero, List.set_cons_succ]
      refine wpAnyH_take (i := 23) (v := ?_) (iatLS (iatSS (iatSS (iatSS (iatSS (iatSS (iatSS (iatSS (iatSS (iatSS (iatSS (iatSS (iatSS (iatSS (iatSS (iatSS (iatSS (iatSS (iatSS (iatSS (iatSS (iatSS (iatSS (iatSS iatZS)))))))))))))))))))))))) (by kernel_rfl) (by kernel_rfl) (by kernel_rfl) (fun _ _ _ h => h) (Or.inl ⟨by rfl, ?_⟩) (by assumption) ?_
      rotate_left
      · intro w hSw
        try dsimp only at hSw
        go_simp
        all_goals with_reducible rfl
      try simp only [Act.put, List.setIfInBounds_toArray, List.set_cons_zero, List.set_cons_succ]
      refine wpAnyH_take (i := 24) (v := ?_) (iatLS (iatSS (iatSS (iatSS (iatSS (iatSS (iatSS (iatSS (iatSS (iatSS (iatSS (iatSS (iatSS (iatSS (iatSS (iatSS (iatSS (iatSS (iatSS (iatSS (iatSS (iatSS (iatSS (iatSS (iatSS iatZS))))))))))))))))))))))))) (by kernel_rfl) (by kernel_rfl) (by kernel_rfl) (fun _ _ _ h => h) (Or.inl ⟨by rfl, ?_⟩) (by assumption) ?_
      rotate_left
      · intro w hSw
        try dsimp only at hSw
        go_simp
        all_goals with_reducible rfl
      try simp only [Act.put, List.setIfInBounds_toArray, List.set_cons_zero, List.set_cons_succ]
      refine wpAnyH_take (i := 25) (v := ?_) (iatLS (iatSS (iatSS (iatSS (iatSS (iatSS (iatSS (iatSS (iatSS (iatSS (iatSS (iatSS (iatSS (iatSS (iatSS (iatSS (iatSS (iatSS (iatSS (iatSS (iatSS (iatSS (iatSS (iatSS (iatSS (iatSS iatZS)))))))))))))))))))))))))) (by kernel_rfl) (by kernel_rfl) (by kernel_rfl) (fun _ _ _ h => h) (Or.inl ⟨by rfl, ?_⟩) (by assumption) ?_
      rotate_left
      · intro w hSw
        try dsimp only at hSw
        go_simp
        all_goals with_reducible rfl
      try simp only [Act.put, List.setIfInBounds_toArray, List.set_cons_zero, List.set_cons_succ]
      refine wpAnyH_ready (rs := [26, 27]) (by kernel_rfl) (by simp) ?_
      refine AllReadyH.cons (iatLS (iatSS (iatSS (iatSS (iatSS (iatSS (iatSS (iatSS (iatSS (iatSS (iatSS (iatSS (iatSS (iatSS (iatSS (iatSS (iatSS (iatSS (iatSS (iatSS (iatSS (iatSS (iatSS (iatSS (iatSS (iatSS (iatSS iatZS))))))))))))))))))))))))))) (fun K hK => ?_) (AllReadyH.cons (iatLS (iatSS (iatSS (iatSS (iatSS (iatSS (iatSS (iatSS (iatSS (iatSS (iatSS (iatSS (iatSS (iatSS (iatSS (iatSS (iatSS (iatSS (iatSS (iatSS (iatSS (iatSS (iatSS (iatSS (iatSS (iatSS (iatSS (iatSS iatZS)))))))))))))))))))))))))))) (fun K hK => ?_) (AllReadyH.nil))
      ·
        go_simp
        refine (steps13_any ga gc K8 (HT.out.grown HB8.out)).mono ?_
        rintro e9 K9 ⟨ya, yc, rfl, hy, hb⟩
        have HY9 := Lib.hid hy
        clear hy
        have HB9 := Lib.hid (HB8.out.trans (hb.mono HB8.out.size))
        have HS9 : Hid (K9.cell? ⟨tb, 0, none⟩ = some (.int .i64 (-1)) ∧ K9.cell? ⟨tb, 1, none⟩ = some (.int .i64 0) ∧ K9.cell? ⟨tb, 2, none⟩ = some (.int .i64 0) ∧ K9.cell? ⟨tb, 3, none⟩ = some (.slice ga 3 gc)) := Lib.hid ⟨(HX.out.below HB9.out HX.out.lt).cell 0, (HX.out.below HB9.out HX.out.lt).cell 1, (HX.out.below HB9.out HX.out.lt).cell 2, (HX.out.below HB9.out HX.out.lt).cell 3⟩
        clear hb
        try dsimp only
        refine hK.out _ _ ?_ (fun hHeld => ?_)
        · exact HS9.out
        clear hK K
        try simp only [Act.put, List.setIfInBounds_toArray, List.set_cons_zero, List.set_cons_succ]
        refine wpAnyH_ready (rs := [27]) (by kernel_rfl) (by simp) ?_
        refine AllReadyH.cons (iatLS (iatSS (iatSS (iatSS (iatSS (iatSS (iatSS (iatSS (iatSS (iatSS (iatSS (iatSS (iatSS (iatSS (iatSS (iatSS (iatSS (iatSS (iatSS (iatSS (iatSS (iatSS (iatSS (iatSS (iatSS (iatSS (iatSS (iatSS iatZS)))))))))))))))))))))))))))) (fun K hK => ?_) AllReadyH.nil
        go_simp
        obtain ⟨lbHL, hlbHL⟩ : ∃ q, Hid (K9.heap.size = q) := ⟨_, Lib.hid rfl⟩
        rw [hlbHL.out]
        have hI := ints_new K9 [0, 0, 1] 3 rfl (e9_mx 3 (by omega))
        rw [hlbHL.out] at hI
        have hb : Below K9.heap.size K9 (K9.alloc (.cells ([0, 0, 1].map (Value.int .i64)).toArray 3)) := (Below.refl _ _).alloc (Nat.le_refl _) _
        change Below _ _ (K9.alloc (.cells #[.int .i64 0, .int .i64 0, .int .i64 1] 3)) at hb
        change Ints (K9.alloc (.cells #[.int .i64 0, .int .i64 0, .int .i64 1] 3)) _ _ _ at hI
        generalize K9.alloc (.cells #[.int .i64 0, .int .i64 0, .int .i64 1] 3) = K10 at hI hb ⊢
        have HL10 := Lib.hid hI
        clear hI
        have HB10 := Lib.hid (HB9.out.trans (hb.mono HB9.out.size))
        have HY10 := Lib.hid (HY9.out.grown hb)
        have HS10 : Hid (K10.cell? ⟨tb, 0, none⟩ = some (.int .i64 (-1)) ∧ K10.cell? ⟨tb, 1, none⟩ = some (.int .i64 0) ∧ K10.cell? ⟨tb, 2, none⟩ = some (.int .i64 0) ∧ K10.cell? ⟨tb, 3, none⟩ = some (.slice ga 3 gc)) := Lib.hid ⟨(HX.out.below HB10.out HX.out.lt).cell 0, (HX.out.below HB10.out HX.out.lt).cell 1, (HX.out.below HB10.out HX.out.lt).cell 2, (HX.out.below HB10.out HX.out.lt).cell 3⟩
        clear hb
        try dsimp only
        refine hK.out _ _ ?_ (fun hHeld => ?_)
        · exact HS10.out
        clear hK K
        try simp only [Act.put, List.setIfInBounds_toArray, List.set_cons_zero, List.set_cons_succ]
        refine wpAnyH_ready (rs := [28]) (by kernel_rfl) (by simp) ?_
        refine AllReadyH.cons (iatLS (iatSS (iatSS (iatSS (iatSS (iatSS (iatSS (iatSS (iatSS (iatSS (iatSS (iatSS (iatSS (iatSS (iatSS (iatSS (iatSS (iatSS (iatSS (iatSS (iatSS (iatSS (iatSS (iatSS (iatSS (iatSS (iatSS (iatSS (iatSS iatZS))))))))))))))))))))))))))))) (fun K hK => ?_) AllReadyH.nil
        go_simp
        refine (si13_any [0, 0, 1] 3 rfl ya (some ⟨lbHL, 0, none⟩) yc 3 K10 HY10.out HL10.out).mono ?_
        rintro e9 K11 ⟨rfl, hb⟩
        have HB11 := Lib.hid (HB10.out.trans (hb.mono HB10.out.size))
        have HS11 : Hid (K11.cell? ⟨tb, 0, none⟩ = some (.int .i64 (-1)) ∧ K11.cell? ⟨tb, 1, none⟩ = some (.int .i64 0) ∧ K11.cell? ⟨tb, 2, none⟩ = some (.int .i64 0) ∧ K11.cell? ⟨tb, 3, none⟩ = some (.slice ga 3 gc)) := Lib.hid ⟨(HX.out.below HB11.out HX.out.lt).cell 0, (HX.out.below HB11.out HX.out.lt).cell 1, (HX.out.below HB11.out HX.out.lt).cell 2, (HX.out.below HB11.out HX.out.lt).cell 3⟩
        clear hb
        try dsimp only
        refine hK.out _ _ ?_ (fun hHeld => ?_)
        · exact HS11.out
        clear hK K
        try simp only [Act.put, List.setIfInBounds_toArray, List.set_cons_zero, List.set_cons_succ]
        refine wpAnyH_take (i := 29) (v := ?_) (iatLS (iatSS (iatSS (iatSS (iatSS (iatSS (iatSS (iatSS (iatSS (iatSS (iatSS (iatSS (iatSS (iatSS (iatSS (iatSS (iatSS (iatSS (iatSS (iatSS (iatSS (iatSS (iatSS (iatSS (iatSS (iatSS (iatSS (iatSS (iatSS (iatSS iatZS)))))))))))))))))))))))))))))) (by kernel_rfl) (by kernel_rfl) (by kernel_rfl) (fun _ _ _ h => h) (Or.inl ⟨by rfl, ?_⟩) (by assumption) ?_
        rotate_left
        · intro w hSw
          try dsimp only at hSw
          go_simp
          all_goals with_reducible rfl
        try simp only [Act.put, List.setIfInBounds_toArray, List.set_cons_zero, List.set_cons_succ]
        refine wpAnyH_take (i := 30) (v := ?_) (iatLS (iatSS (iatSS (iatSS (iatSS (iatSS (iatSS (iatSS (iatSS (iatSS (iatSS (iatSS (iatSS (iatSS (iatSS (iatSS (iatSS (iatSS (iatSS (iatSS (iatSS (iatSS (iatSS (iatSS (iatSS (iatSS (iatSS (iatSS (iatSS (iatSS (iatSS iatZS))))))))))))))))))))))))))))))) (by kernel_rfl) (by kernel_rfl) (by kernel_rfl) (fun _ _ _ h => h) (Or.inl ⟨by rfl, ?_⟩) (by assumption) ?_
        rotate_left
        · intro w hSw
          try dsimp only at hSw
          go_simp
          all_goals with_reducible rfl
        try simp only [Act.put, List.setIfInBounds_toArray, List.set_cons_zero, List.set_cons_succ]
        refine wpAnyH_take (i := 31) (v := ?_) (iatLS (iatSS (iatSS (iatSS (iatSS (iatSS (iatSS (iatSS (iatSS (iatSS (iatSS (iatSS (iatSS (iatSS (iatSS (iatSS (iatSS (iatSS (iatSS (iatSS (iatSS (iatSS (iatSS (iatSS (iatSS (iatSS (iatSS (iatSS (iatSS (iatSS (iatSS (iatSS iatZS)))))))))))))))))))))))))))))))) (by kernel_rfl) (by kernel_rfl) (by kernel_rfl) (fun _ _ _ h => h) (Or.inl ⟨by rfl, ?_⟩) (by assumption) ?_
        rotate_left
        · intro w hSw
          try dsimp only at hSw
          go_simp
          all_goals with_reducible rfl
        try simp only [Act.put, List.setIfInBounds_toArray, List.set_cons_zero, List.set_cons_succ]
        refine wpAnyH_ready (rs := [32]) (by kernel_rfl) (by simp) ?_
        refine AllReadyH.cons (iatLS (iatSS (iatSS (iatSS (iatSS (iatSS (iatSS (iatSS (iatSS (iatSS (iatSS (iatSS (iatSS (iatSS (iatSS (iatSS (iatSS (iatSS (iatSS (iatSS (iatSS (iatSS (iatSS (iatSS (iatSS (iatSS (iatSS (iatSS (iatSS (iatSS (iatSS (iatSS (iatSS iatZS))))))))))))))))))))))))))))))))) (fun K hK => ?_) AllReadyH.nil
        go_simp
        refine (size13_any ga gc K11 (HT.out.grown HB11.out)).mono ?_
        rintro e9 K12 ⟨rfl, hb⟩
        have HB12 := Lib.hid (HB11.out.trans (hb.mono HB11.out.size))
        have HS12 : Hid (K12.cell? ⟨tb, 0, none⟩ = some (.int .i64 (-1)) ∧ K12.cell? ⟨tb, 1, none⟩ = some (.int .i64 0) ∧ K12.cell? ⟨tb, 2, none⟩ = some (.int .i64 0) ∧ K12.cell? ⟨tb, 3, none⟩ = some (.slice ga 3 gc)) := Lib.hid ⟨(HX.out.below HB12.out HX.out.lt).cell 0, (HX.out.below HB12.out HX.out.lt).cell 1, (HX.out.below HB12.out HX.out.lt).cell 2, (HX.out.below HB12.out HX.out.lt).cell 3⟩
        clear hb
        try dsimp only
        refine hK.out _ _ ?_ (fun hHeld => ?_)
        · exact HS12.out
        clear hK K
        try simp only [Act.put, List.setIfInBounds_toArray, List.set_cons_zero, List.set_cons_succ]
        refine wpAnyH_take (i := 33) (v := ?_) (iatLS (iatSS (iatSS (iatSS (iatSS (iatSS (iatSS (iatSS (iatSS (iatSS (iatSS (iatSS (iatSS (iatSS (iatSS (iatSS (iatSS (iatSS (iatSS (iatSS (iatSS (iatSS (iatSS (iatSS (iatSS (iatSS (iatSS (iatSS (iatSS (iatSS (iatSS (iatSS (iatSS (iatSS iatZS)))))))))))))))))))))))))))))))))) (by kernel_rfl) (by kernel_rfl) (by kernel_rfl) (fun _ _ _ h => h) (Or.inl ⟨by rfl, ?_⟩) (by assumption) ?_
        rotate_left
        · intro w hSw
          try dsimp only at hSw
          go_simp
          all_goals with_reducible rfl
        try simp only [Act.put, List.setIfInBounds_toArray, List.set_cons_zero, List.set_cons_succ]
        refine wpAnyH_take (i := 34) (v := ?_) (iatLS (iatSS (iatSS (iatSS (iatSS (iatSS (iatSS (iatSS (iatSS (iatSS (iatSS (iatSS (iatSS (iatSS (iatSS (iatSS (iatSS (iatSS (iatSS (iatSS (iatSS (iatSS (iatSS (iatSS (iatSS (iatSS (iatSS (iatSS (iatSS (iatSS (iatSS (iatSS (iatSS (iatSS (iatSS iatZS))))))))))))))))))))))))))))))))))) (by kernel_rfl) (by kernel_rfl) (by kernel_rfl) (fun _ _ _ h => h) (Or.inl ⟨by rfl, ?_⟩) (by assumption) ?_
        rotate_left
        · intro w hSw
          try dsimp only at hSw
          go_simp
          all_goals with_reducible rfl
        try simp only [Act.put, List.setIfInBounds_toArray, List.set_cons_zero, List.set_cons_succ]
        refine wpAnyH_take (i := 35) (v := ?_) (iatLS (iatSS (iatSS (iatSS (iatSS (iatSS (iatSS (iatSS (iatSS (iatSS (iatSS (iatSS (iatSS (iatSS (iatSS (iatSS (iatSS (iatSS (iatSS (iatSS (iatSS (iatSS (iatSS (iatSS (iatSS (iatSS (iatSS (iatSS (iatSS (iatSS (iatSS (iatSS (iatSS (iatSS (iatSS (iatSS iatZS)))))))))))))))))))))))))))))))))))) (by kernel_rfl) (by kernel_rfl) (by kernel_rfl) (fun _ _ _ h => h) (Or.inl ⟨by rfl, ?_⟩) (by assumption) ?_
        rotate_left
        · intro w hSw
          try dsimp only at hSw
          go_simp
          all_goals with_reducible rfl
        try simp only [Act.put, List.setIfInBounds_toArray, List.set_cons_zero, List.set_cons_succ]
        refine wpAnyH_done (by kernel_rfl) ?_ _
        go_wp2_with (fail)
        exact bodyPost_ret (v := .bool true) (by simp [results, Try.results49, go_sem]; try first | rfl | assumption | omega) rfl ⟨rfl, HV.out.trans (HB12.out.mono HV.out.size)⟩
      ·
        go_simp
        obtain ⟨lbHL, hlbHL⟩ : ∃ q, Hid (K8.heap.size = q) := ⟨_, Lib.hid rfl⟩
        rw [hlbHL.out]
        have hI := ints_new K8 [0, 0, 1] 3 rfl (e9_mx 3 (by omega))
        rw [hlbHL.out] at hI
        have hb : Below K8.heap.size K8 (K8.alloc (.cells ([0, 0, 1].map (Value.int .i64)).toArray 3)) := (Below.refl _ _).alloc (Nat.le_refl _) _
        change Below _ _ (K8.alloc (.cells #[.int .i64 0, .int .i64 0, .int .i64 1] 3)) at hb
        change Ints (K8.alloc (.cells #[.int .i64 0, .int .i64 0, .int .i64 1] 3)) _ _ _ at hI
        generalize K8.alloc (.cells #[.int .i64 0, .int .i64 0, .int .i64 1] 3) = K9 at hI hb ⊢
        have HL9 := Lib.hid hI
        clear hI
        have HB9 := Lib.hid (HB8.out.trans (hb.mono HB8.out.size))
        have HS9 : Hid (K9.cell? ⟨tb, 0, none⟩ = some (.int .i64 (-1)) ∧ K9.cell? ⟨tb, 1, none⟩ = some (.int .i64 0) ∧ K9.cell? ⟨tb, 2, none⟩ = some (.int .i64 0) ∧ K9.cell? ⟨tb, 3, none⟩ = some (.slice ga 3 gc)) := Lib.hid ⟨(HX.out.below HB9.out HX.out.lt).cell 0, (HX.out.below HB9.out HX.out.lt).cell 1, (HX.out.below HB9.out HX.out.lt).cell 2, (HX.out.below HB9.out HX.out.lt).cell 3⟩
        clear hb
        try dsimp only
        refine hK.out _ _ ?_ (fun hHeld => ?_)
        · exact HS9.out
        clear hK K
        try simp only [Act.put, List.setIfInBounds_toArray, List.set_cons_zero, List.set_cons_succ]
        refine wpAnyH_ready (rs := [26]) (by kernel_rfl) (by simp) ?_
        refine AllReadyH.cons (iatLS (iatSS (iatSS (iatSS (iatSS (iatSS (iatSS (iatSS (iatSS (iatSS (iatSS (iatSS (iatSS (iatSS (iatSS (iatSS (iatSS (iatSS (iatSS (iatSS (iatSS (iatSS (iatSS (iatSS (iatSS (iatSS (iatSS iatZS))))))))))))))))))))))))))) (fun K hK => ?_) AllReadyH.nil
        go_simp
        refine (steps13_any ga gc K9 (HT.out.grown HB9.out)).mono ?_
        rintro e9 K10 ⟨ya, yc, rfl, hy, hb⟩
        have HY10 := Lib.hid hy
        clear hy
        have HB10 := Lib.hid (HB9.out.trans (hb.mono HB9.out.size))
        have HL10 := Lib.hid (HL9.out.grown hb)
        have HS10 : Hid (K10.cell? ⟨tb, 0, none⟩ = some (.int .i64 (-1)) ∧ K10.cell? ⟨tb, 1, none⟩ = some (.int .i64 0) ∧ K10.cell? ⟨tb, 2, none⟩ = some (.int .i64 0) ∧ K10.cell? ⟨tb, 3, none⟩ = some (.slice ga 3 gc)) := Lib.hid ⟨(HX.out.below HB10.out HX.out.lt).cell 0, (HX.out.below HB10.out HX.out.lt).cell 1, (HX.out.below HB10.out HX.out.lt).cell 2, (HX.out.below HB10.out HX.out.lt).cell 3⟩
        clear hb
        try dsimp only
        refine hK.out _ _ ?_ (fun hHeld => ?_)
        · exact HS10.out
        clear hK K
        try simp only [Act.put, List.setIfInBounds_toArray, List.set_cons_zero, List.set_cons_succ]
        refine wpAnyH_ready (rs := [28]) (by kernel_rfl) (by simp) ?_
        refine AllReadyH.cons (iatLS (iatSS (iatSS (iatSS (iatSS (iatSS (iatSS (iatSS (iatSS (iatSS (iatSS (iatSS (iatSS (iatSS (iatSS (iatSS (iatSS (iatSS (iatSS (iatSS (iatSS (iatSS (iatSS (iatSS (iatSS (iatSS (iatSS (iatSS (iatSS iatZS))))))))))))))))))))))))))))) (fun K hK => ?_) AllReadyH.nil
        go_simp
        refine (si13_any [0, 0, 1] 3 rfl ya (some ⟨lbHL, 0, none⟩) yc 3 K10 HY10.out HL10.out).mono ?_
        rintro e9 K11 ⟨rfl, hb⟩
        have HB11 := Lib.hid (HB10.out.trans (hb.mono HB10.out.size))
        have HS11 : Hid (K11.cell? ⟨tb, 0, none⟩ = some (.int .i64 (-1)) ∧ K11.cell? ⟨tb, 1, none⟩ = some (.int .i64 0) ∧ K11.cell? ⟨tb, 2, none⟩ = some (.int .i64 0) ∧ K11.cell? ⟨tb, 3, none⟩ = some (.slice ga 3 gc)) := Lib.hid ⟨(HX.out.below HB11.out HX.out.lt).cell 0, (HX.out.below HB11.out HX.out.lt).cell 1, (HX.out.below HB11.out HX.out.lt).cell 2, (HX.out.below HB11.out HX.out.lt).cell 3⟩
        clear hb
        try dsimp only
        refine hK.out _ _ ?_ (fun hHeld => ?_)
        · exact HS11.out
        clear hK K
        try simp only [Act.put, List.setIfInBounds_toArray, List.set_cons_zero, List.set_cons_succ]
        refine wpAnyH_take (i := 29) (v := ?_) (iatLS (iatSS (iatSS (iatSS (iatSS (iatSS (iatSS (iatSS (iatSS (iatSS (iatSS (iatSS (iatSS (iatSS (iatSS (iatSS (iatSS (iatSS (iatSS (iatSS (iatSS (iatSS (iatSS (iatSS (iatSS (iatSS (iatSS (iatSS (iatSS (iatSS iatZS)))))))))))))))))))))))))))))) (by kernel_rfl) (by kernel_rfl) (by kernel_rfl) (fun _ _ _ h => h) (Or.inl ⟨by rfl, ?_⟩) (by assumption) ?_
        rotate_left
        · intro w hSw
          try dsimp only at hSw
          go_simp
          all_goals with_reducible rfl
        try simp only [Act.put, List.setIfInBounds_toArray, List.set_cons_zero, List.set_cons_succ]
        refine wpAnyH_take (i := 30) (v := ?_) (iatLS (iatSS (iatSS (iatSS (iatSS (iatSS (iatSS (iatSS (iatSS (iatSS (iatSS (iatSS (iatSS (iatSS (iatSS (iatSS (iatSS (iatSS (iatSS (iatSS (iatSS (iatSS (iatSS (iatSS (iatSS (iatSS (iatSS (iatSS (iatSS (iatSS (iatSS iatZS))))))))))))))))))))))))))))))) (by kernel_rfl) (by kernel_rfl) (by kernel_rfl) (fun _ _ _ h => h) (Or.inl ⟨by rfl, ?_⟩) (by assumption) ?_
        rotate_left
        · intro w hSw
          try dsimp only at hSw
          go_simp
          all_goals with_reducible rfl
        try simp only [Act.put, List.setIfInBounds_toArray, List.set_cons_zero, List.set_cons_succ]
        refine wpAnyH_take (i := 31) (v := ?_) (iatLS (iatSS (iatSS (iatSS (iatSS (iatSS (iatSS (iatSS (iatSS (iatSS (iatSS (iatSS (iatSS (iatSS (iatSS (iatSS (iatSS (iatSS (iatSS (iatSS (iatSS (iatSS (iatSS (iatSS (iatSS (iatSS (iatSS (iatSS (iatSS (iatSS (iatSS (iatSS iatZS)))))))))))))))))))))))))))))))) (by kernel_rfl) (by kernel_rfl) (by kernel_rfl) (fun _ _ _ h => h) (Or.inl ⟨by rfl, ?_⟩) (by assumption) ?_
        rotate_left
        · intro w hSw
          try dsimp only at hSw
          go_simp
          all_goals with_reducible rfl
        try simp only [Act.put, List.setIfInBounds_toArray, List.set_cons_zero, List.set_cons_succ]
        refine wpAnyH_ready (rs := [32]) (by kernel_rfl) (by simp) ?_
        refine AllReadyH.cons (iatLS (iatSS (iatSS (iatSS (iatSS (iatSS (iatSS (iatSS (iatSS (iatSS (iatSS (iatSS (iatSS (iatSS (iatSS (iatSS (iatSS (iatSS (iatSS (iatSS (iatSS (iatSS (iatSS (iatSS (iatSS (iatSS (iatSS (iatSS (iatSS (iatSS (iatSS (iatSS (iatSS iatZS))))))))))))))))))))))))))))))))) (fun K hK => ?_) AllReadyH.nil
        go_simp
        refine (size13_any ga gc K11 (HT.out.grown HB11.out)).mono ?_
        rintro e9 K12 ⟨rfl, hb⟩
        have HB12 := Lib.hid (HB11.out.trans (hb.mono HB11.out.size))
        have HS12 : Hid (K12.cell? ⟨tb, 0, none⟩ = some (.int .i64 (-1)) ∧ K12.cell? ⟨tb, 1, none⟩ = some (.int .i64 0) ∧ K12.cell? ⟨tb, 2, none⟩ = some (.int .i64 0) ∧ K12.cell? ⟨tb, 3, none⟩ = some (.slice ga 3 gc)) := Lib.hid ⟨(HX.out.below HB12.out HX.out.lt).cell 0, (HX.out.below HB12.out HX.out.lt).cell 1, (HX.out.below HB12.out HX.out.lt).cell 2, (HX.out.below HB12.out HX.out.lt).cell 3⟩
        clear hb
        try dsimp only
        refine hK.out _ _ ?_ (fun hHeld => ?_)
        · exact HS12.out
        clear hK K
        try simp only [Act.put, List.setIfInBounds_toArray, List.set_cons_zero, List.set_cons_succ]
        refine wpAnyH_take (i := 33) (v := ?_) (iatLS (iatSS (iatSS (iatSS (iatSS (iatSS (iatSS (iatSS (iatSS (iatSS (iatSS (iatSS (iatSS (iatSS (iatSS (iatSS (iatSS (iatSS (iatSS (iatSS (iatSS (iatSS (iatSS (iatSS (iatSS (iatSS (iatSS (iatSS (iatSS (iatSS (iatSS (iatSS (iatSS (iatSS iatZS)))))))))))))))))))))))))))))))))) (by kernel_rfl) (by kernel_rfl) (by kernel_rfl) (fun _ _ _ h => h) (Or.inl ⟨by rfl, ?_⟩) (by assumption) ?_
        rotate_left
        · intro w hSw
          try dsimp only at hSw
          go_simp
          all_goals with_reducible rfl
        try simp only [Act.put, List.setIfInBounds_toArray, List.set_cons_zero, List.set_cons_succ]
        refine wpAnyH_take (i := 34) (v := ?_) (iatLS (iatSS (iatSS (iatSS (iatSS (iatSS (iatSS (iatSS (iatSS (iatSS (iatSS (iatSS (iatSS (iatSS (iatSS (iatSS (iatSS (iatSS (iatSS (iatSS (iatSS (iatSS (iatSS (iatSS (iatSS (iatSS (iatSS (iatSS (iatSS (iatSS (iatSS (iatSS (iatSS (iatSS (iatSS iatZS))))))))))))))))))))))))))))))))))) (by kernel_rfl) (by kernel_rfl) (by kernel_rfl) (fun _ _ _ h => h) (Or.inl ⟨by rfl, ?_⟩) (by assumption) ?_
        rotate_left
        · intro w hSw
          try dsimp only at hSw
          go_simp
          all_goals with_reducible rfl
        try simp only [Act.put, List.setIfInBounds_toArray, List.set_cons_zero, List.set_cons_succ]
        refine wpAnyH_take (i := 35) (v := ?_) (iatLS (iatSS (iatSS (iatSS (iatSS (iatSS (iatSS (iatSS (iatSS (iatSS (iatSS (iatSS (iatSS (iatSS (iatSS (iatSS (iatSS (iatSS (iatSS (iatSS (iatSS (iatSS (iatSS (iatSS (iatSS (iatSS (iatSS (iatSS (iatSS (iatSS (iatSS (iatSS (iatSS (iatSS (iatSS (iatSS iatZS)))))))))))))))))))))))))))))))))))) (by kernel_rfl) (by kernel_rfl) (by kernel_rfl) (fun _ _ _ h => h) (Or.inl ⟨by rfl, ?_⟩) (by assumption) ?_
        rotate_left
        · intro w hSw
          try dsimp only at hSw
          go_simp
          all_goals with_reducible rfl
        try simp only [Act.put, List.setIfInBounds_toArray, List.set_cons_zero, List.set_cons_succ]
        refine wpAnyH_done (by kernel_rfl) ?_ _
        go_wp2_with (fail)
        exact bodyPost_ret (v := .bool true) (by simp [results, Try.results49, go_sem]; try first | rfl | assumption | omega) rfl ⟨rfl, HV.out.trans (HB12.out.mono HV.out.size)⟩
    ·
      go_simp
      obtain ⟨lbHL, hlbHL⟩ : ∃ q, Hid (K3.heap.size = q) := ⟨_, Lib.hid rfl⟩
      rw [hlbHL.out]
      have hI := ints_new K3 [0, 0, 1, 1] 4 rfl (e9_mx 4 (by omega))
      rw [hlbHL.out] at hI
      have hb : Below K3.heap.size K3 (K3.alloc (.cells ([0, 0, 1, 1].map (Value.int .i64)).toArray 3)) := (Below.refl _ _).alloc (Nat.le_refl _) _
      change Below _ _ (K3.alloc (.cells #[.int .i64 0, .int .i64 0, .int .i64 1, .int .i64 1] 3)) at hb
      change Ints (K3.alloc (.cells #[.int .i64 0, .int .i64 0, .int .i64 1, .int .i64 1] 3)) _ _ _ at hI
      generalize K3.alloc (.cells #[.int .i64 0, .int .i64 0, .int .i64 1, .int .i64 1] 3) = K4 at hI hb ⊢
      have HL4 := Lib.hid hI
      clear hI
      have HB4 := Lib.hid (HB3.out.trans (hb.mono HB3.out.size))
      have HS4 : Hid (K4.cell? ⟨tb, 0, none⟩ = some (.int .i64 (-1)) ∧ K4.cell? ⟨tb, 1, none⟩ = some (.int .i64 0) ∧ K4.cell? ⟨tb, 2, none⟩ = some (.int .i64 0) ∧ K4.cell? ⟨tb, 3, none⟩ = some (.slice ga 3 gc)) := Lib.hid ⟨(HX.out.below HB4.out HX.out.lt).cell 0, (HX.out.below HB4.out HX.out.lt).cell 1, (HX.out.below HB4.out HX.out.lt).cell 2, (HX.out.below HB4.out HX.out.lt).cell 3⟩
      clear hb
      try dsimp only
      refine hK.out _ _ ?_ (fun hHeld => ?_)
      · exact HS4.out
      clear hK K
      try simp only [Act.put, List.setIfInBounds_toArray, List.set_cons_zero, List.set_cons_succ]
      refine wpAnyH_ready (rs := [13]) (by kernel_rfl) (by simp) ?_
      refine AllReadyH.cons (iatLS (iatSS (iatSS (iatSS (iatSS (iatSS (iatSS (iatSS (iatSS (iatSS (iatSS (iatSS (iatSS (iatSS iatZS)))))))))))))) (fun K hK => ?_) AllReadyH.nil
      go_simp
      obtain ⟨qh, hqh⟩ : ∃ q, Hid (K4.heap.size = q) := ⟨_, Lib.hid rfl⟩
      have hab := ab_any K4
      rw [hqh.out] at hab
      refine Calls.mono hab ?_
      rintro e9 K5 ⟨rfl, hc, hb⟩
      rw [← hqh.out] at hb
      clear hab
      have HC5 := Lib.hid hc
      clear hc
      have HB5 := Lib.hid (HB4.out.trans (hb.mono HB4.out.size))
      have HL5 := Lib.hid (HL4.out.grown hb)
      have HS5 : Hid (K5.cell? ⟨tb, 0, none⟩ = some (.int .i64 (-1)) ∧ K5.cell? ⟨tb, 1, none⟩ = some (.int .i64 0) ∧ K5.cell? ⟨tb, 2, none⟩ = some (.int .i64 0) ∧ K5.cell? ⟨tb, 3, none⟩ = some (.slice ga 3 gc)) := Lib.hid ⟨(HX.out.below HB5.out HX.out.lt).cell 0, (HX.out.below HB5.out HX.out.lt).cell 1, (HX.out.below HB5.out HX.out.lt).cell 2, (HX.out.below HB5.out HX.out.lt).cell 3⟩
      clear hb
      try dsimp only
      refine hK.out _ _ ?_ (fun hHeld => ?_)
      · exact HS5.out
      clear hK K
      try simp only [Act.put, List.setIfInBounds_toArray, List.set_cons_zero, List.set_cons_succ]
      refine wpAnyH_ready (rs := [16]) (by kernel_rfl) (by simp) ?_
      refine AllReadyH.cons (iatLS (iatSS (iatSS (iatSS (iatSS (iatSS (iatSS (iatSS (iatSS (iatSS (iatSS (iatSS (iatSS (iatSS (iatSS (iatSS (iatSS iatZS))))))))))))))))) (fun K hK => ?_) AllReadyH.nil
      go_simp
      refine (check13_any qh ga gc (some ⟨lbHL, 0, none⟩) 4 K5 HC5.out (HT.out.grown HB5.out) HL5.out).mono ?_
      rintro e9 K6 ⟨rfl, hb⟩
      have HB6 := Lib.hid (HB5.out.trans (hb.mono HB5.out.size))
      have HS6 : Hid (K6.cell? ⟨tb, 0, none⟩ = some (.int .i64 (-1)) ∧ K6.cell? ⟨tb, 1, none⟩ = some (.int .i64 0) ∧ K6.cell? ⟨tb, 2, none⟩ = some (.int .i64 0) ∧ K6.cell? ⟨tb, 3, none⟩ = some (.slice ga 3 gc)) := Lib.hid ⟨(HX.out.below HB6.out HX.out.lt).cell 0, (HX.out.below HB6.out HX.out.lt).cell 1, (HX.out.below HB6.out HX.out.lt).cell 2, (HX.out.below HB6.out HX.out.lt).cell 3⟩
      clear hb
      try dsimp only
      refine hK.out _ _ ?_ (fun hHeld => ?_)
      · exact HS6.out
      clear hK K
      try simp only [Act.put, List.setIfInBounds_toArray, List.set_cons_zero, List.set_cons_succ]
      refine wpAnyH_take (i := 17) (v := ?_) (iatLS (iatSS (iatSS (iatSS (iatSS (iatSS (iatSS (iatSS (iatSS (iatSS (iatSS (iatSS (iatSS (iatSS (iatSS (iatSS (iatSS (iatSS iatZS)))))))))))))))))) (by kernel_rfl) (by kernel_rfl) (by kernel_rfl) (fun _ _ _ h => h) (Or.inl ⟨by rfl, ?_⟩) (by assumption) ?_
      rotate_left
      · intro w hSw
        try dsimp only at hSw
        go_simp
        all_goals with_reducible rfl
      try simp only [Act.put, List.setIfInBounds_toArray, List.set_cons_zero, List.set_cons_succ]
      refine wpAnyH_take (i := 18) (v := ?_) (iatLS (iatSS (iatSS (iatSS (iatSS (iatSS (iatSS (iatSS (iatSS (iatSS (iatSS (iatSS (iatSS (iatSS (iatSS (iatSS (iatSS (iatSS (iatSS iatZS))))))))))))))))))) (by kernel_rfl) (by kernel_rfl) (by kernel_rfl) (fun _ _ _ h => h) (Or.inl ⟨by rfl, ?_⟩) (by assumption) ?_
      rotate_left
      · intro w hSw
        try dsimp only at hSw
        go_simp
        all_goals with_reducible rfl
      try simp only [Act.put, List.setIfInBounds_toArray, List.set_cons_zero, List.set_cons_succ]
      refine wpAnyH_take (i := 20) (v := ?_) (iatLS (iatSS (iatSS (iatSS (iatSS (iatSS (iatSS (iatSS (iatSS (iatSS (iatSS (iatSS (iatSS (iatSS (iatSS (iatSS (iatSS (iatSS (iatSS (iatSS (iatSS iatZS))))))))))))))))))))) (by kernel_rfl) (by kernel_rfl) (by kernel_rfl) (fun _ _ _ h => h) (Or.inl ⟨by rfl, ?_⟩) (by assumption) ?_
      rotate_left
      · intro w hSw
        try dsimp only at hSw
        go_simp
        all_goals with_reducible rfl
      try simp only [Act.put, List.setIfInBounds_toArray, List.set_cons_zero, List.set_cons_succ]
      refine wpAnyH_ready (rs := [19]) (by kernel_rfl) (by simp) ?_
      refine AllReadyH.cons (iatLS (iatSS (iatSS (iatSS (iatSS (iatSS (iatSS (iatSS (iatSS (iatSS (iatSS (iatSS (iatSS (iatSS (iatSS (iatSS (iatSS (iatSS (iatSS (iatSS iatZS)))))))))))))))))))) (fun K hK => ?_) AllReadyH.nil
      go_simp
      obtain ⟨qh, hqh⟩ : ∃ q, Hid (K6.heap.size = q) := ⟨_, Lib.hid rfl⟩
      have hab := ab_any K6
      rw [hqh.out] at hab
      refine Calls.mono hab ?_
      rintro e9 K7 ⟨rfl, hc, hb⟩
      rw [← hqh.out] at hb
      clear hab
      have HC7 := Lib.hid hc
      clear hc
      have HB7 := Lib.hid (HB6.out.trans (hb.mono HB6.out.size))
      have HS7 : Hid (K7.cell? ⟨tb, 0, none⟩ = some (.int .i64 (-1)) ∧ K7.cell? ⟨tb, 1, none⟩ = some (.int .i64 0) ∧ K7.cell? ⟨tb, 2, none⟩ = some (.int .i64 0) ∧ K7.cell? ⟨tb, 3, none⟩ = some (.slice ga 3 gc)) := Lib.hid ⟨(HX.out.below HB7.out HX.out.lt).cell 0, (HX.out.below HB7.out HX.out.lt).cell 1, (HX.out.below HB7.out HX.out.lt).cell 2, (HX.out.below HB7.out HX.out.lt).cell 3⟩
      clear hb
      try dsimp only
      refine hK.out _ _ ?_ (fun hHeld => ?_)
      · exact HS7.out
      clear hK K
      try simp only [Act.put, List.setIfInBounds_toArray, List.set_cons_zero, List.set_cons_succ]
      refine wpAnyH_ready (rs := [21]) (by kernel_rfl) (by simp) ?_
      refine AllReadyH.cons (iatLS (iatSS (iatSS (iatSS (iatSS (iatSS (iatSS (iatSS (iatSS (iatSS (iatSS (iatSS (iatSS (iatSS (iatSS (iatSS (iatSS (iatSS (iatSS (iatSS (iatSS (iatSS iatZS)))))))))))))))))))))) (fun K hK => ?_) AllReadyH.nil
      go_simp
      refine (text13_any qh ga gc K7 HC7.out (HT.out.grown HB7.out)).mono ?_
      rintro e9 K8 ⟨rfl, hb⟩
      have HB8 := Lib.hid (HB7.out.trans (hb.mono HB7.out.size))
      have HS8 : Hid (K8.cell? ⟨tb, 0, none⟩ = some (.int .i64 (-1)) ∧ K8.cell? ⟨tb, 1, none⟩ = some (.int .i64 0) ∧ K8.cell? ⟨tb, 2, none⟩ = some (.int .i64 0) ∧ K8.cell? ⟨tb, 3, none⟩ = some (.slice ga 3 gc)) := Lib.hid ⟨(HX.out.below HB8.out HX.out.lt).cell 0, (HX.out.below HB8.out HX.out.lt).cell 1, (HX.out.below HB8.out HX.out.lt).cell 2, (HX.out.below HB8.out HX.out.lt).cell 3⟩
      clear hb
      try dsimp only
      refine hK.out _ _ ?_ (fun hHeld => ?_)
      · exact HS8.out
      clear hK K
      try simp only [Act.put, List.setIfInBounds_toArray, List.set_cons_zero, List.set_cons_succ]
      refine wpAnyH_take (i := 22) (v := ?_) (iatLS (iatSS (iatSS (iatSS (iatSS (iatSS (iatSS (iatSS (iatSS (iatSS (iatSS (iatSS (iatSS (iatSS (iatSS (iatSS (iatSS (iatSS (iatSS (iatSS (iatSS (iatSS (iatSS iatZS))))))))))))))))))))))) (by kernel_rfl) (by kernel_rfl) (by kernel_rfl) (fun _ _ _ h => h) (Or.inl ⟨by rfl, ?_⟩) (by assumption) ?_
      rotate_left
      · intro w hSw
        try dsimp only at hSw
        go_simp
        all_goals with_reducible rfl
      try simp only [Act.put, List.setIfInBounds_toArray, List.set_cons_zero, List.set_cons_succ]
      refine wpAnyH_take (i := 23) (v := ?_) (iatLS (iatSS (iatSS (iatSS (iatSS (iatSS (iatSS (iatSS (iatSS (iatSS (iatSS (iatSS (iatSS (iatSS (iatSS (iatSS (iatSS (iatSS (iatSS (iatSS (iatSS (iatSS (iatSS (iatSS iatZS)))))))))))))))))))))))) (by kernel_rfl) (by kernel_rfl) (by kernel_rfl) (fun _ _ _ h => h) (Or.inl ⟨by rfl, ?_⟩) (by assumption) ?_
      rotate_left
      · intro w hSw
        try dsimp only at hSw
        go_simp
        all_goals with_reducible rfl
      try simp only [Act.put, List.setIfInBounds_toArray, List.set_cons_zero, List.set_cons_succ]
      refine wpAnyH_take (i := 24) (v := ?_) (iatLS (iatSS (iatSS (iatSS (iatSS (iatSS (iatSS (iatSS (iatSS (iatSS (iatSS (iatSS (iatSS (iatSS (iatSS (iatSS (iatSS (iatSS (iatSS (iatSS (iatSS (iatSS (iatSS (iatSS (iatSS iatZS))))))))))))))))))))))))) (by kernel_rfl) (by kernel_rfl) (by kernel_rfl) (fun _ _ _ h => h) (Or.inl ⟨by rfl, ?_⟩) (by assumption) ?_
      rotate_left
      · intro w hSw
        try dsimp only at hSw
        go_simp
        all_goals with_reducible rfl
      try simp only [Act.put, List.setIfInBounds_toArray, List.set_cons_zero, List.set_cons_succ]
      refine wpAnyH_take (i := 25) (v := ?_) (iatLS (iatSS (iatSS (iatSS (iatSS (iatSS (iatSS (iatSS (iatSS (iatSS (iatSS (iatSS (iatSS (iatSS (iatSS (iatSS (iatSS (iatSS (iatSS (iatSS (iatSS (iatSS (iatSS (iatSS (iatSS (iatSS iatZS)))))))))))))))))))))))))) (by kernel_rfl) (by kernel_rfl) (by kernel_rfl) (fun _ _ _ h => h) (Or.inl ⟨by rfl, ?_⟩) (by assumption) ?_
      rotate_left
      · intro w hSw
        try dsimp only at hSw
        go_simp
        all_goals with_reducible rfl
      try simp only [Act.put, List.setIfInBounds_toArray, List.set_cons_zero, List.set_cons_succ]
      refine wpAnyH_ready (rs := [26, 27]) (by kernel_rfl) (by simp) ?_
      refine AllReadyH.cons (iatLS (iatSS (iatSS (iatSS (iatSS (iatSS (iatSS (iatSS (iatSS (iatSS (iatSS (iatSS (iatSS (iatSS (iatSS (iatSS (iatSS (iatSS (iatSS (iatSS (iatSS (iatSS (iatSS (iatSS (iatSS (iatSS (iatSS iatZS))))))))))))))))))))))))))) (fun K hK => ?_) (AllReadyH.cons (iatLS (iatSS (iatSS (iatSS (iatSS (iatSS (iatSS (iatSS (iatSS (iatSS (iatSS (iatSS (iatSS (iatSS (iatSS (iatSS (iatSS (iatSS (iatSS (iatSS (iatSS (iatSS (iatSS (iatSS (iatSS (iatSS (iatSS (iatSS iatZS)))))))))))))))))))))))))))) (fun K hK => ?_) (AllReadyH.nil))
      ·
        go_simp
        refine (steps13_any ga gc K8 (HT.out.grown HB8.out)).mono ?_
        rintro e9 K9 ⟨ya, yc, rfl, hy, hb⟩
        have HY9 := Lib.hid hy
        clear hy
        have HB9 := Lib.hid (HB8.out.trans (hb.mono HB8.out.size))
        have HS9 : Hid (K9.cell? ⟨tb, 0, none⟩ = some (.int .i64 (-1)) ∧ K9.cell? ⟨tb, 1, none⟩ = some (.int .i64 0) ∧ K9.cell? ⟨tb, 2, none⟩ = some (.int .i64 0) ∧ K9.cell? ⟨tb, 3, none⟩ = some (.slice ga 3 gc)) := Lib.hid ⟨(HX.out.below HB9.out HX.out.lt).cell 0, (HX.out.below HB9.out HX.out.lt).cell 1, (HX.out.below HB9.out HX.out.lt).cell 2, (HX.out.below HB9.out HX.out.lt).cell 3⟩
        clear hb
        try dsimp only
        refine hK.out _ _ ?_ (fun hHeld => ?_)
        · exact HS9.out
        clear hK K
        try simp only [Act.put, List.setIfInBounds_toArray, List.set_cons_zero, List.set_cons_succ]
        refine wpAnyH_ready (rs := [27]) (by kernel_rfl) (by simp) ?_
        refine AllReadyH.cons (iatLS (iatSS (iatSS (iatSS (iatSS (iatSS (iatSS (iatSS (iatSS (iatSS (iatSS (iatSS (iatSS (iatSS (iatSS (iatSS (iatSS (iatSS (iatSS (iatSS (iatSS (iatSS (iatSS (iatSS (iatSS (iatSS (iatSS (iatSS iatZS)))))))))))))))))))))))))))) (fun K hK => ?_) AllReadyH.nil
        go_simp
        obtain ⟨lbHL, hlbHL⟩ : ∃ q, Hid (K9.heap.size = q) := ⟨_, Lib.hid rfl⟩
        rw [hlbHL.out]
        have hI := ints_new K9 [0, 0, 1] 3 rfl (e9_mx 3 (by omega))
        rw [hlbHL.out] at hI
        have hb : Below K9.heap.size K9 (K9.alloc (.cells ([0, 0, 1].map (Value.int .i64)).toArray 3)) := (Below.refl _ _).alloc (Nat.le_refl _) _
        change Below _ _ (K9.alloc (.cells #[.int .i64 0, .int .i64 0, .int .i64 1] 3)) at hb
        change Ints (K9.alloc (.cells #[.int .i64 0, .int .i64 0, .int .i64 1] 3)) _ _ _ at hI
        generalize K9.alloc (.cells #[.int .i64 0, .int .i64 0, .int .i64 1] 3) = K10 at hI hb ⊢
        have HL10 := Lib.hid hI
        clear hI
        have HB10 := Lib.hid (HB9.out.trans (hb.mono HB9.out.size))
        have HY10 := Lib.hid (HY9.out.grown hb)
        have HS10 : Hid (K10.cell? ⟨tb, 0, none⟩ = some (.int .i64 (-1)) ∧ K10.cell? ⟨tb, 1, none⟩ = some (.int .i64 0) ∧ K10.cell? ⟨tb, 2, none⟩ = some (.int .i64 0) ∧ K10.cell? ⟨tb, 3, none⟩ = some (.slice ga 3 gc)) := Lib.hid ⟨(HX.out.below HB10.out HX.out.lt).cell 0, (HX.out.below HB10.out HX.out.lt).cell 1, (HX.out.below HB10.out HX.out.lt).cell 2, (HX.out.below HB10.out HX.out.lt).cell 3⟩
        clear hb
        try dsimp only
        refine hK.out _ _ ?_ (fun hHeld => ?_)
        · exact HS10.out
        clear hK K
        try simp only [Act.put, List.setIfInBounds_toArray, List.set_cons_zero, List.set_cons_succ]
        refine wpAnyH_ready (rs := [28]) (by kernel_rfl) (by simp) ?_
        refine AllReadyH.cons (iatLS (iatSS (iatSS (iatSS (iatSS (iatSS (iatSS (iatSS (iatSS (iatSS (iatSS (iatSS (iatSS (iatSS (iatSS (iatSS (iatSS (iatSS (iatSS (iatSS (iatSS (iatSS (iatSS (iatSS (iatSS (iatSS (iatSS (iatSS (iatSS iatZS))))))))))))))))))))))))))))) (fun K hK => ?_) AllReadyH.nil
        go_simp
        refine (si13_any [0, 0, 1] 3 rfl ya (some ⟨lbHL, 0, none⟩) yc 3 K10 HY10.out HL10.out).mono ?_
        rintro e9 K11 ⟨rfl, hb⟩
        have HB11 := Lib.hid (HB10.out.trans (hb.mono HB10.out.size))
        have HS11 : Hid (K11.cell? ⟨tb, 0, none⟩ = some (.int .i64 (-1)) ∧ K11.cell? ⟨tb, 1, none⟩ = some (.int .i64 0) ∧ K11.cell? ⟨tb, 2, none⟩ = some (.int .i64 0) ∧ K11.cell? ⟨tb, 3, none⟩ = some (.slice ga 3 gc)) := Lib.hid ⟨(HX.out.below HB11.out HX.out.lt).cell 0, (HX.out.below HB11.out HX.out.lt).cell 1, (HX.out.below HB11.out HX.out.lt).cell 2, (HX.out.below HB11.out HX.out.lt).cell 3⟩
        clear hb
        try dsimp only
        refine hK.out _ _ ?_ (fun hHeld => ?_)
        · exact HS11.out
        clear hK K
        try simp only [Act.put, List.setIfInBounds_toArray, List.set_cons_zero, List.set_cons_succ]
        refine wpAnyH_take (i := 29) (v := ?_) (iatLS (iatSS (iatSS (iatSS (iatSS (iatSS (iatSS (iatSS (iatSS (iatSS (iatSS (iatSS (iatSS (iatSS (iatSS (iatSS (iatSS (iatSS (iatSS (iatSS (iatSS (iatSS (iatSS (iatSS (iatSS (iatSS (iatSS (iatSS (iatSS (iatSS iatZS)))))))))))))))))))))))))))))) (by kernel_rfl) (by kernel_rfl) (by kernel_rfl) (fun _ _ _ h => h) (Or.inl ⟨by rfl, ?_⟩) (by assumption) ?_
        rotate_left
        · intro w hSw
          try dsimp only at hSw
          go_simp
          all_goals with_reducible rfl
        try simp only [Act.put, List.setIfInBounds_toArray, List.set_cons_zero, List.set_cons_succ]
        refine wpAnyH_take (i := 30) (v := ?_) (iatLS (iatSS (iatSS (iatSS (iatSS (iatSS (iatSS (iatSS (iatSS (iatSS (iatSS (iatSS (iatSS (iatSS (iatSS (iatSS (iatSS (iatSS (iatSS (iatSS (iatSS (iatSS (iatSS (iatSS (iatSS (iatSS (iatSS (iatSS (iatSS (iatSS (iatSS iatZS))))))))))))))))))))))))))))))) (by kernel_rfl) (by kernel_rfl) (by kernel_rfl) (fun _ _ _ h => h) (Or.inl ⟨by rfl, ?_⟩) (by assumption) ?_
        rotate_left
        · intro w hSw
          try dsimp only at hSw
          go_simp
          all_goals with_reducible rfl
        try simp only [Act.put, List.setIfInBounds_toArray, List.set_cons_zero, List.set_cons_succ]
        refine wpAnyH_take (i := 31) (v := ?_) (iatLS (iatSS (iatSS (iatSS (iatSS (iatSS (iatSS (iatSS (iatSS (iatSS (iatSS (iatSS (iatSS (iatSS (iatSS (iatSS (iatSS (iatSS (iatSS (iatSS (iatSS (iatSS (iatSS (iatSS (iatSS (iatSS (iatSS (iatSS (iatSS (iatSS (iatSS (iatSS iatZS)))))))))))))))))))))))))))))))) (by kernel_rfl) (by kernel_rfl) (by kernel_rfl) (fun _ _ _ h => h) (Or.inl ⟨by rfl, ?_⟩) (by assumption) ?_
        rotate_left
        · intro w hSw
          try dsimp only at hSw
          go_simp
          all_goals with_reducible rfl
        try simp only [Act.put, List.setIfInBounds_toArray, List.set_cons_zero, List.set_cons_succ]
        refine wpAnyH_ready (rs := [32]) (by kernel_rfl) (by simp) ?_
        refine AllReadyH.cons (iatLS (iatSS (iatSS (iatSS (iatSS (iatSS (iatSS (iatSS (iatSS (iatSS (iatSS (iatSS (iatSS (iatSS (iatSS (iatSS (iatSS (iatSS (iatSS (iatSS (iatSS (iatSS (iatSS (iatSS (iatSS (iatSS (iatSS (iatSS (iatSS (iatSS (iatSS (iatSS (iatSS iatZS))))))))))))))))))))))))))))))))) (fun K hK => ?_) AllReadyH.nil
        go_simp
        refine (size13_any ga gc K11 (HT.out.grown HB11.out)).mono ?_
        rintro e9 K12 ⟨rfl, hb⟩
        have HB12 := Lib.hid (HB11.out.trans (hb.mono HB11.out.size))
        have HS12 : Hid (K12.cell? ⟨tb, 0, none⟩ = some (.int .i64 (-1)) ∧ K12.cell? ⟨tb, 1, none⟩ = some (.int .i64 0) ∧ K12.cell? ⟨tb, 2, none⟩ = some (.int .i64 0) ∧ K12.cell? ⟨tb, 3, none⟩ = some (.slice ga 3 gc)) := Lib.hid ⟨(HX.out.below HB12.out HX.out.lt).cell 0, (HX.out.below HB12.out HX.out.lt).cell 1, (HX.out.below HB12.out HX.out.lt).cell 2, (HX.out.below HB12.out HX.out.lt).cell 3⟩
        clear hb
        try dsimp only
        refine hK.out _ _ ?_ (fun hHeld => ?_)
        · exact HS12.out
        clear hK K
        try simp only [Act.put, List.setIfInBounds_toArray, List.set_cons_zero, List.set_cons_succ]
        refine wpAnyH_take (i := 33) (v := ?_) (iatLS (iatSS (iatSS (iatSS (iatSS (iatSS (iatSS (iatSS (iatSS (iatSS (iatSS (iatSS (iatSS (iatSS (iatSS (iatSS (iatSS (iatSS (iatSS (iatSS (iatSS (iatSS (iatSS (iatSS (iatSS (iatSS (iatSS (iatSS (iatSS (iatSS (iatSS (iatSS (iatSS (iatSS iatZS)))))))))))))))))))))))))))))))))) (by kernel_rfl) (by kernel_rfl) (by kernel_rfl) (fun _ _ _ h => h) (Or.inl ⟨by rfl, ?_⟩) (by assumption) ?_
        rotate_left
        · intro w hSw
          try dsimp only at hSw
          go_simp
          all_goals with_reducible rfl
        try simp only [Act.put, List.setIfInBounds_toArray, List.set_cons_zero, List.set_cons_succ]
        refine wpAnyH_take (i := 34) (v := ?_) (iatLS (iatSS (iatSS (iatSS (iatSS (iatSS (iatSS (iatSS (iatSS (iatSS (iatSS (iatSS (iatSS (iatSS (iatSS (iatSS (iatSS (iatSS (iatSS (iatSS (iatSS (iatSS (iatSS (iatSS (iatSS (iatSS (iatSS (iatSS (iatSS (iatSS (iatSS (iatSS (iatSS (iatSS (iatSS iatZS))))))))))))))))))))))))))))))))))) (by kernel_rfl) (by kernel_rfl) (by kernel_rfl) (fun _ _ _ h => h) (Or.inl ⟨by rfl, ?_⟩) (by assumption) ?_
        rotate_left
        · intro w hSw
          try dsimp only at hSw
          go_simp
          all_goals with_reducible rfl
        try simp only [Act.put, List.setIfInBounds_toArray, List.set_cons_zero, List.set_cons_succ]
        refine wpAnyH_take (i := 35) (v := ?_) (iatLS (iatSS (iatSS (iatSS (iatSS (iatSS (iatSS (iatSS (iatSS (iatSS (iatSS (iatSS (iatSS (iatSS (iatSS (iatSS (iatSS (iatSS (iatSS (iatSS (iatSS (iatSS (iatSS (iatSS (iatSS (iatSS (iatSS (iatSS (iatSS (iatSS (iatSS (iatSS (iatSS (iatSS (iatSS (iatSS iatZS)))))))))))))))))))))))))))))))))))) (by kernel_rfl) (by kernel_rfl) (by kernel_rfl) (fun _ _ _ h => h) (Or.inl ⟨by rfl, ?_⟩) (by assumption) ?_
        rotate_left
        · intro w hSw
          try dsimp only at hSw
          go_simp
          all_goals with_reducible rfl
        try simp only [Act.put, List.setIfInBounds_toArray, List.set_cons_zero, List.set_cons_succ]
        refine wpAnyH_done (by kernel_rfl) ?_ _
        go_wp2_with (fail)
        exact bodyPost_ret (v := .bool true) (by simp [results, Try.results49, go_sem]; try first | rfl | assumption | omega) rfl ⟨rfl, HV.out.trans (HB12.out.mono HV.out.size)⟩
      ·
        go_simp
        obtain ⟨lbHL, hlbHL⟩ : ∃ q, Hid (K8.heap.size = q) := ⟨_, Lib.hid rfl⟩
        rw [hlbHL.out]
        have hI := ints_new K8 [0, 0, 1] 3 rfl (e9_mx 3 (by omega))
        rw [hlbHL.out] at hI
        have hb : Below K8.heap.size K8 (K8.alloc (.cells ([0, 0, 1].map (Value.int .i64)).toArray 3)) := (Below.refl _ _).alloc (Nat.le_refl _) _
        change Below _ _ (K8.alloc (.cells #[.int .i64 0, .int .i64 0, .int .i64 1] 3)) at hb
        change Ints (K8.alloc (.cells #[.int .i64 0, .int .i64 0, .int .i64 1] 3)) _ _ _ at hI
        generalize K8.alloc (.cells #[.int .i64 0, .int .i64 0, .int .i64 1] 3) = K9 at hI hb ⊢
        have HL9 := Lib.hid hI
        clear hI
        have HB9 := Lib.hid (HB8.out.trans (hb.mono HB8.out.size))
        have HS9 : Hid (K9.cell? ⟨tb, 0, none⟩ = some (.int .i64 (-1)) ∧ K9.cell? ⟨tb, 1, none⟩ = some (.int .i64 0) ∧ K9.cell? ⟨tb, 2, none⟩ = some (.int .i64 0) ∧ K9.cell? ⟨tb, 3, none⟩ = some (.slice ga 3 gc)) := Lib.hid ⟨(HX.out.below HB9.out HX.out.lt).cell 0, (HX.out.below HB9.out HX.out.lt).cell 1, (HX.out.below HB9.out HX.out.lt).cell 2, (HX.out.below HB9.out HX.out.lt).cell 3⟩
        clear hb
        try dsimp only
        refine hK.out _ _ ?_ (fun hHeld => ?_)
        · exact HS9.out
        clear hK K
        try simp only [Act.put, List.setIfInBounds_toArray, List.set_cons_zero, List.set_cons_succ]
        refine wpAnyH_ready (rs := [26]) (by kernel_rfl) (by simp) ?_
        refine AllReadyH.cons (iatLS (iatSS (iatSS (iatSS (iatSS (iatSS (iatSS (iatSS (iatSS (iatSS (iatSS (iatSS (iatSS (iatSS (iatSS (iatSS (iatSS (iatSS (iatSS (iatSS (iatSS (iatSS (iatSS (iatSS (iatSS (iatSS (iatSS iatZS))))))))))))))))))))))))))) (fun K hK => ?_) AllReadyH.nil
        go_simp
        refine (steps13_any ga gc K9 (HT.out.grown HB9.out)).mono ?_
        rintro e9 K10 ⟨ya, yc, rfl, hy, hb⟩
        have HY10 := Lib.hid hy
        clear hy
        have HB10 := Lib.hid (HB9.out.trans (hb.mono HB9.out.size))
        have HL10 := Lib.hid (HL9.out.grown hb)
        have HS10 : Hid (K10.cell? ⟨tb, 0, none⟩ = some (.int .i64 (-1)) ∧ K10.cell? ⟨tb, 1, none⟩ = some (.int .i64 0) ∧ K10.cell? ⟨tb, 2, none⟩ = some (.int .i64 0) ∧ K10.cell? ⟨tb, 3, none⟩ = some (.slice ga 3 gc)) := Lib.hid ⟨(HX.out.below HB10.out HX.out.lt).cell 0, (HX.out.below HB10.out HX.out.lt).cell 1, (HX.out.below HB10.out HX.out.lt).cell 2, (HX.out.below HB10.out HX.out.lt).cell 3⟩
        clear hb
        try dsimp only
        refine hK.out _ _ ?_ (fun hHeld => ?_)
        · exact HS10.out
        clear hK K
        try simp only [Act.put, List.setIfInBounds_toArray, List.set_cons_zero, List.set_cons_succ]
        refine wpAnyH_ready (rs := [28]) (by kernel_rfl) (by simp) ?_
        refine AllReadyH.cons (iatLS (iatSS (iatSS (iatSS (iatSS (iatSS (iatSS (iatSS (iatSS (iatSS (iatSS (iatSS (iatSS (iatSS (iatSS (iatSS (iatSS (iatSS (iatSS (iatSS (iatSS (iatSS (iatSS (iatSS (iatSS (iatSS (iatSS (iatSS (iatSS iatZS))))))))))))))))))))))))))))) (fun K hK => ?_) AllReadyH.nil
        go_simp
        refine (si13_any [0, 0, 1] 3 rfl ya (some ⟨lbHL, 0, none⟩) yc 3 K10 HY10.out HL10.out).mono ?_
        rintro e9 K11 ⟨rfl, hb⟩
        have HB11 := Lib.hid (HB10.out.trans (hb.mono HB10.out.size))
        have HS11 : Hid (K11.cell? ⟨tb, 0, none⟩ = some (.int .i64 (-1)) ∧ K11.cell? ⟨tb, 1, none⟩ = some (.int .i64 0) ∧ K11.cell? ⟨tb, 2, none⟩ = some (.int .i64 0) ∧ K11.cell? ⟨tb, 3, none⟩ = some (.slice ga 3 gc)) := Lib.hid ⟨(HX.out.below HB11.out HX.out.lt).cell 0, (HX.out.below HB11.out HX.out.lt).cell 1, (HX.out.below HB11.out HX.out.lt).cell 2, (HX.out.below HB11.out HX.out.lt).cell 3⟩
        clear hb
        try dsimp only
        refine hK.out _ _ ?_ (fun hHeld => ?_)
        · exact HS11.out
        clear hK K
        try simp only [Act.put, List.setIfInBounds_toArray, List.set_cons_zero, List.set_cons_succ]
        refine wpAnyH_take (i := 29) (v := ?_) (iatLS (iatSS (iatSS (iatSS (iatSS (iatSS (iatSS (iatSS (iatSS (iatSS (iatSS (iatSS (iatSS (iatSS (iatSS (iatSS (iatSS (iatSS (iatSS (iatSS (iatSS (iatSS (iatSS (iatSS (iatSS (iatSS (iatSS (iatSS (iatSS (iatSS iatZS)))))))))))))))))))))))))))))) (by kernel_rfl) (by kernel_rfl) (by kernel_rfl) (fun _ _ _ h => h) (Or.inl ⟨by rfl, ?_⟩) (by assumption) ?_
        rotate_left
        · intro w hSw
          try dsimp only at hSw
          go_simp
          all_goals with_reducible rfl
        try simp only [Act.put, List.setIfInBounds_toArray, List.set_cons_zero, List.set_cons_succ]
        refine wpAnyH_take (i := 30) (v := ?_) (iatLS (iatSS (iatSS (iatSS (iatSS (iatSS (iatSS (iatSS (iatSS (iatSS (iatSS (iatSS (iatSS (iatSS (iatSS (iatSS (iatSS (iatSS (iatSS (iatSS (iatSS (iatSS (iatSS (iatSS (iatSS (iatSS (iatSS (iatSS (iatSS (iatSS (iatSS iatZS))))))))))))))))))))))))))))))) (by kernel_rfl) (by kernel_rfl) (by kernel_rfl) (fun _ _ _ h => h) (Or.inl ⟨by rfl, ?_⟩) (by assumption) ?_
        rotate_left
        · intro w hSw
          try dsimp only at hSw
          go_simp
          all_goals with_reducible rfl
        try simp only [Act.put, List.setIfInBounds_toArray, List.set_cons_zero, List.set_cons_succ]
        refine wpAnyH_take (i := 31) (v := ?_) (iatLS (iatSS (iatSS (iatSS (iatSS (iatSS (iatSS (iatSS (iatSS (iatSS (iatSS (iatSS (iatSS (iatSS (iatSS (iatSS (iatSS (iatSS (iatSS (iatSS (iatSS (iatSS (iatSS (iatSS (iatSS (iatSS (iatSS (iatSS (iatSS (iatSS (iatSS (iatSS iatZS)))))))))))))))))))))))))))))))) (by kernel_rfl) (by kernel_rfl) (by kernel_rfl) (fun _ _ _ h => h) (Or.inl ⟨by rfl, ?_⟩) (by assumption) ?_
        rotate_left
        · intro w hSw
          try dsimp only at hSw
          go_simp
          all_goals with_reducible rfl
        try simp only [Act.put, List.setIfInBounds_toArray, List.set_cons_zero, List.set_cons_succ]
        refine wpAnyH_ready (rs := [32]) (by kernel_rfl) (by simp) ?_
        refine AllReadyH.cons (iatLS (iatSS (iatSS (iatSS (iatSS (iatSS (iatSS (iatSS (iatSS (iatSS (iatSS (iatSS (iatSS (iatSS (iatSS (iatSS (iatSS (iatSS (iatSS (iatSS (iatSS (iatSS (iatSS (iatSS (iatSS (iatSS (iatSS (iatSS (iatSS (iatSS (iatSS (iatSS (iatSS iatZS))))))))))))))))))))))))))))))))) (fun K hK => ?_) AllReadyH.nil
        go_simp
        refine (size13_any ga gc K11 (HT.out.grown HB11.out)).mono ?_
        rintro e9 K12 ⟨rfl, hb⟩
        have HB12 := Lib.hid (HB11.out.trans (hb.mono HB11.out.size))
        have HS12 : Hid (K12.cell? ⟨tb, 0, none⟩ = some (.int .i64 (-1)) ∧ K12.cell? ⟨tb, 1, none⟩ = some (.int .i64 0) ∧ K12.cell? ⟨tb, 2, none⟩ = some (.int .i64 0) ∧ K12.cell? ⟨tb, 3, none⟩ = some (.slice ga 3 gc)) := Lib.hid ⟨(HX.out.below HB12.out HX.out.lt).cell 0, (HX.out.below HB12.out HX.out.lt).cell 1, (HX.out.below HB12.out HX.out.lt).cell 2, (HX.out.below HB12.out HX.out.lt).cell 3⟩
        clear hb
        try dsimp only
        refine hK.out _ _ ?_ (fun hHeld => ?_)
        · exact HS12.out
        clear hK K
        try simp only [Act.put, List.setIfInBounds_toArray, List.set_cons_zero, List.set_cons_succ]
        refine wpAnyH_take (i := 33) (v := ?_) (iatLS (iatSS (iatSS (iatSS (iatSS (iatSS (iatSS (iatSS (iatSS (iatSS (iatSS (iatSS (iatSS (iatSS (iatSS (iatSS (iatSS (iatSS (iatSS (iatSS (iatSS (iatSS (iatSS (iatSS (iatSS (iatSS (iatSS (iatSS (iatSS (iatSS (iatSS (iatSS (iatSS (iatSS iatZS)))))))))))))))))))))))))))))))))) (by kernel_rfl) (by kernel_rfl) (by kernel_rfl) (fun _ _ _ h => h) (Or.inl ⟨by rfl, ?_⟩) (by assumption) ?_
        rotate_left
        · intro w hSw
          try dsimp only at hSw
          go_simp
          all_goals with_reducible rfl
        try simp only [Act.put, List.setIfInBounds_toArray, List.set_cons_zero, List.set_cons_succ]
        refine wpAnyH_take (i := 34) (v := ?_) (iatLS (iatSS (iatSS (iatSS (iatSS (iatSS (iatSS (iatSS (iatSS (iatSS (iatSS (iatSS (iatSS (iatSS (iatSS (iatSS (iatSS (iatSS (iatSS (iatSS (iatSS (iatSS (iatSS (iatSS (iatSS (iatSS (iatSS (iatSS (iatSS (iatSS (iatSS (iatSS (iatSS (iatSS (iatSS iatZS))))))))))))))))))))))))))))))))))) (by kernel_rfl) (by kernel_rfl) (by kernel_rfl) (fun _ _ _ h => h) (Or.inl ⟨by rfl, ?_⟩) (by assumption) ?_
        rotate_left
        · intro w hSw
          try dsimp only at hSw
          go_simp
          all_goals with_reducible rfl
        try simp only [Act.put, List.setIfInBounds_toArray, List.set_cons_zero, List.set_cons_succ]
        refine wpAnyH_take (i := 35) (v := ?_) (iatLS (iatSS (iatSS (iatSS (iatSS (iatSS (iatSS (iatSS (iatSS (iatSS (iatSS (iatSS (iatSS (iatSS (iatSS (iatSS (iatSS (iatSS (iatSS (iatSS (iatSS (iatSS (iatSS (iatSS (iatSS (iatSS (iatSS (iatSS (iatSS (iatSS (iatSS (iatSS (iatSS (iatSS (iatSS (iatSS iatZS)))))))))))))))))))))))))))))))))))) (by kernel_rfl) (by kernel_rfl) (by kernel_rfl) (fun _ _ _ h => h) (Or.inl ⟨by rfl, ?_⟩) (by assumption) ?_
        rotate_left
        · intro w hSw
          try dsimp only at hSw
          go_simp
          all_goals with_reducible rfl
        try simp only [Act.put, List.setIfInBounds_toArray, List.set_cons_zero, List.set_cons_succ]
        refine wpAnyH_done (by kernel_rfl) ?_ _
        go_wp2_with (fail)
        exact bodyPost_ret (v := .bool true) (by simp [results, Try.results49, go_sem]; try first | rfl | assumption | omega) rfl ⟨rfl, HV.out.trans (HB12.out.mono HV.out.size)⟩
end Go.Proofs.Ythogiakfbgehnaa

