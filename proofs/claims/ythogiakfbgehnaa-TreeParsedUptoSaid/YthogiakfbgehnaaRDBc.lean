/- Texts joined: Ttd Tte Ttf Ty Ttg Qr Qs Km Qt. -/
import Derived.Test.YthogiakfbgehnaaRDBb
import Derived.Test.YthogiakfbgehnaaRDAk
import Derived.IntWalk
import Derived.Test.YthogiakfbgehnaaRDAr
import Derived.Deep.CutRange
import Derived.Test.YthogiakfbgehnaaRDAg
import Derived.Test.YthogiakfbgehnaaRDAh
set_option linter.unusedVariables false
set_option linter.unusedSimpArgs false
namespace Go.Proofs.Ythogiakfbgehnaa
open Go.RowKit Go.Maps
attribute [local go_sem] Oper.semAt_some
set_option maxRecDepth 100000 in
set_option maxHeartbeats 16000000 in
theorem live13_any (w : World) : Calls Try.prog 49 #[] w fun e w' => e = .returned (.bool true) ∧ Below w.heap.size w w' := by
 go_enter Try.func49, Try.ntmps49
 go_wp2_with (fail)
 refine (ab_any w).mono ?_
 rintro e w1 ⟨rfl, hd1, hb1⟩
 have hs1 : Ints (w1.alloc (.cells #[.int .i64 0, .int .i64 0, .int .i64 1] 3)) (some ⟨w1.heap.size, 0, none⟩) 3 [0, 0, 1] := ints_new w1 [0, 0, 1] 3 rfl (e9_mx 3 (by omega))
 have hb2 : Below w1.heap.size w1 (w1.alloc (.cells #[.int .i64 0, .int .i64 0, .int .i64 1] 3)) := (Below.refl _ _).alloc (Nat.le_refl _) _
 have HG := Lib.hid (grow13_any w.heap.size _ 3 _ (hd1.grown hb2) hs1)
 have HV1 := Lib.hid (hb1.trans (hb2.mono hb1.size))
 clear hd1 hs1 hb2 hb1
 unfold e13D CfD.v at HG ⊢
 go_wp2_with (fail)
 refine HG.out.mono ?_
 rintro e w3 ⟨ga, gc, rfl, ht, hb⟩
 have HV3 := Lib.hid (HV1.out.trans (hb.mono HV1.out.size))
 have hb4 : Below w3.heap.size w3 (w3.alloc (.cells #[.int .i64 (-1), .int .i64 0, .int .i64 0, .slice ga 3 gc] 51)) := (Below.refl _ _).alloc (Nat.le_refl _) _
 have HT3 := Lib.hid (ht.grown hb4)
 have HX3 := Lib.hid (Blk.new w3 51 #[.int .i64 (-1), .int .i64 0, .int .i64 0, .slice ga 3 gc])
 have HV4 := Lib.hid (HV3.out.trans (hb4.mono HV3.out.size))
 clear HG hb ht hb4
 dsimp only
 go_upto_region 2 with fail
 obtain ⟨tb, htb⟩ : ∃ q, Hid (w3.heap.size = q) := ⟨_, Lib.hid rfl⟩
 rw [htb.out] at HX3 ⊢
 generalize World.alloc w3 _ = w4 at HT3 HX3 HV4 ⊢
 have HT := HT3
 have HX := HX3
 have HV := HV4
 clear HT3 HX3 HV4 HV3 HV1
 have HB0 := Lib.hid ((Below.refl w4.heap.size w4).drew)
 have HS0 : Hid ((w4.drew).cell? ⟨tb, 0, none⟩ = some (.int .i64 (-1)) ∧ (w4.drew).cell? ⟨tb, 1, none⟩ = some (.int .i64 0) ∧ (w4.drew).cell? ⟨tb, 2, none⟩ = some (.int .i64 0) ∧ (w4.drew).cell? ⟨tb, 3, none⟩ = some (.slice ga 3 gc)) := Lib.hid ⟨(HX.out.below HB0.out HX.out.lt).cell 0, (HX.out.below HB0.out HX.out.lt).cell 1, (HX.out.below HB0.out HX.out.lt).cell 2, (HX.out.below HB0.out HX.out.lt).cell 3⟩
 refine wp_region_held_drew (S := fun w' => w'.cell? ⟨tb, 0, none⟩ = some (.int .i64 (-1)) ∧ w'.cell? ⟨tb, 1, none⟩ = some (.int .i64 0) ∧ w'.cell? ⟨tb, 2, none⟩ = some (.int .i64 0) ∧ w'.cell? ⟨tb, 3, none⟩ = some (.slice ga 3 gc)) (by kernel_rfl) ?_ (fun hHeld => ?_)
 ·exact HS0.out
 generalize World.drew w4 = K0 at HB0 HS0 hHeld ⊢
 refine wpAnyH_take (i := 0) (v := ?_) (iatLS iatZS) (by kernel_rfl) (by kernel_rfl) (by kernel_rfl) (fun _ _ _ h => h) (Or.inl ⟨by rfl, ?_⟩) (by assumption) ?_
 rotate_left
 ·intro w hSw
  try dsimp only at hSw
  go_simp
  all_goals with_reducible rfl
 try simp only [Act.put, List.setIfInBounds_toArray, List.set_cons_zero, List.set_cons_succ]
 refine wpAnyH_take (i := 1) (v := ?_) (iatLS (iatSS iatZS)) (by kernel_rfl) (by kernel_rfl) (by kernel_rfl) (fun _ _ _ h => h) (Or.inl ⟨by rfl, ?_⟩) (by assumption) ?_
 rotate_left
 ·intro w hSw
  try dsimp only at hSw
  go_simp
  all_goals with_reducible rfl
 try simp only [Act.put, List.setIfInBounds_toArray, List.set_cons_zero, List.set_cons_succ]
 refine wpAnyH_take (i := 2) (v := ?_) (iatLS (iatSS (iatSS iatZS))) (by kernel_rfl) (by kernel_rfl) (by kernel_rfl) (fun _ _ _ h => h) (Or.inl ⟨by rfl, ?_⟩) (by assumption) ?_
 rotate_left
 ·intro w hSw
  try dsimp only at hSw
  go_simp
  all_goals with_reducible rfl
 try simp only [Act.put, List.setIfInBounds_toArray, List.set_cons_zero, List.set_cons_succ]
 refine wpAnyH_take (i := 3) (v := ?_) (iatLS (iatSS (iatSS (iatSS iatZS)))) (by kernel_rfl) (by kernel_rfl) (by kernel_rfl) (fun _ _ _ h => h) (Or.inl ⟨by rfl, ?_⟩) (by assumption) ?_
 rotate_left
 ·intro w hSw
  try dsimp only at hSw
  go_simp
  all_goals with_reducible rfl
 try simp only [Act.put, List.setIfInBounds_toArray, List.set_cons_zero, List.set_cons_succ]
 refine wpAnyH_take (i := 4) (v := ?_) (iatLS (iatSS (iatSS (iatSS (iatSS iatZS))))) (by kernel_rfl) (by kernel_rfl) (by kernel_rfl) (fun _ _ _ h => h) (Or.inl ⟨by rfl, ?_⟩) (by assumption) ?_
 rotate_left
 ·intro w hSw
  try dsimp only at hSw
  go_simp
  all_goals with_reducible rfl
 try simp only [Act.put, List.setIfInBounds_toArray, List.set_cons_zero, List.set_cons_succ]
 refine wpAnyH_take (i := 5) (v := ?_) (iatLS (iatSS (iatSS (iatSS (iatSS (iatSS iatZS)))))) (by kernel_rfl) (by kernel_rfl) (by kernel_rfl) (fun _ _ _ h => h) (Or.inl ⟨by rfl, ?_⟩) (by assumption) ?_
 rotate_left
 ·intro w hSw
  try dsimp only at hSw
  go_simp
  all_goals with_reducible rfl
 try simp only [Act.put, List.setIfInBounds_toArray, List.set_cons_zero, List.set_cons_succ]
 refine wpAnyH_take (i := 6) (v := ?_) (iatLS (iatSS (iatSS (iatSS (iatSS (iatSS (iatSS iatZS))))))) (by kernel_rfl) (by kernel_rfl) (by kernel_rfl) (fun _ _ _ h => h) (Or.inl ⟨by rfl, ?_⟩) (by assumption) ?_
 rotate_left
 ·intro w hSw
  try dsimp only at hSw
  go_simp
  all_goals with_reducible rfl
 try simp only [Act.put, List.setIfInBounds_toArray, List.set_cons_zero, List.set_cons_succ]
 refine wpAnyH_take (i := 7) (v := ?_) (iatLS (iatSS (iatSS (iatSS (iatSS (iatSS (iatSS (iatSS iatZS)))))))) (by kernel_rfl) (by kernel_rfl) (by kernel_rfl) (fun _ _ _ h => h) (Or.inl ⟨by rfl, ?_⟩) (by assumption) ?_
 rotate_left
 ·intro w hSw
  try dsimp only at hSw
  go_simp
  all_goals with_reducible rfl
 try simp only [Act.put, List.setIfInBounds_toArray, List.set_cons_zero, List.set_cons_succ]
 refine wpAnyH_ready (rs := [8, 9]) (by kernel_rfl) (by simp) ?_
 refine AllReadyH.cons (iatLS (iatSS (iatSS (iatSS (iatSS (iatSS (iatSS (iatSS (iatSS iatZS))))))))) (fun K hK => ?_) (AllReadyH.cons (iatLS (iatSS (iatSS (iatSS (iatSS (iatSS (iatSS (iatSS (iatSS (iatSS iatZS)))))))))) (fun K hK => ?_) (AllReadyH.nil))
 go_simp
 refine (yield13_any ga gc K0 (HT.out.grown HB0.out)).mono ?_
 rintro e9 K1 ⟨ya, yc, rfl, hy, hb⟩
 have HY1 := Lib.hid hy
 clear hy
 have HB1 := Lib.hid (HB0.out.trans (hb.mono HB0.out.size))
 have HS1 : Hid (K1.cell? ⟨tb, 0, none⟩ = some (.int .i64 (-1)) ∧ K1.cell? ⟨tb, 1, none⟩ = some (.int .i64 0) ∧ K1.cell? ⟨tb, 2, none⟩ = some (.int .i64 0) ∧ K1.cell? ⟨tb, 3, none⟩ = some (.slice ga 3 gc)) := Lib.hid ⟨(HX.out.below HB1.out HX.out.lt).cell 0, (HX.out.below HB1.out HX.out.lt).cell 1, (HX.out.below HB1.out HX.out.lt).cell 2, (HX.out.below HB1.out HX.out.lt).cell 3⟩
 clear hb
 try dsimp only
 refine hK.out _ _ ?_ (fun hHeld => ?_)
 ·exact HS1.out
 clear hK K
 try simp only [Act.put, List.setIfInBounds_toArray, List.set_cons_zero, List.set_cons_succ]
 refine wpAnyH_ready (rs := [9]) (by kernel_rfl) (by simp) ?_
 refine AllReadyH.cons (iatLS (iatSS (iatSS (iatSS (iatSS (iatSS (iatSS (iatSS (iatSS (iatSS iatZS)))))))))) (fun K hK => ?_) AllReadyH.nil
 go_simp
 obtain ⟨lbHL, hlbHL⟩ : ∃ q, Hid (K1.heap.size = q) := ⟨_, Lib.hid rfl⟩
 rw [hlbHL.out]
 have hI := ints_new K1 [0, 0, 1, 1] 4 rfl (e9_mx 4 (by omega))
 rw [hlbHL.out] at hI
 have hb : Below K1.heap.size K1 (K1.alloc (.cells ([0, 0, 1, 1].map (Value.int .i64)).toArray 3)) := (Below.refl _ _).alloc (Nat.le_refl _) _
 change Below _ _ (K1.alloc (.cells #[.int .i64 0, .int .i64 0, .int .i64 1, .int .i64 1] 3)) at hb
 change Ints (K1.alloc (.cells #[.int .i64 0, .int .i64 0, .int .i64 1, .int .i64 1] 3)) _ _ _ at hI
 generalize K1.alloc (.cells #[.int .i64 0, .int .i64 0, .int .i64 1, .int .i64 1] 3) = K2 at hI hb ⊢
 have HL2 := Lib.hid hI
 clear hI
 have HB2 := Lib.hid (HB1.out.trans (hb.mono HB1.out.size))
 have HY2 := Lib.hid (HY1.out.grown hb)
 have HS2 : Hid (K2.cell? ⟨tb, 0, none⟩ = some (.int .i64 (-1)) ∧ K2.cell? ⟨tb, 1, none⟩ = some (.int .i64 0) ∧ K2.cell? ⟨tb, 2, none⟩ = some (.int .i64 0) ∧ K2.cell? ⟨tb, 3, none⟩ = some (.slice ga 3 gc)) := Lib.hid ⟨(HX.out.below HB2.out HX.out.lt).cell 0, (HX.out.below HB2.out HX.out.lt).cell 1, (HX.out.below HB2.out HX.out.lt).cell 2, (HX.out.below HB2.out HX.out.lt).cell 3⟩
 clear hb
 try dsimp only
 refine hK.out _ _ ?_ (fun hHeld => ?_)
 ·exact HS2.out
 clear hK K
 try simp only [Act.put, List.setIfInBounds_toArray, List.set_cons_zero, List.set_cons_succ]
 rotate_left
 go_simp
 obtain ⟨lbHL, hlbHL⟩ : ∃ q, Hid (K0.heap.size = q) := ⟨_, Lib.hid rfl⟩
 rw [hlbHL.out]
 have hI := ints_new K0 [0, 0, 1, 1] 4 rfl (e9_mx 4 (by omega))
 rw [hlbHL.out] at hI
 have hb : Below K0.heap.size K0 (K0.alloc (.cells ([0, 0, 1, 1].map (Value.int .i64)).toArray 3)) := (Below.refl _ _).alloc (Nat.le_refl _) _
 change Below _ _ (K0.alloc (.cells #[.int .i64 0, .int .i64 0, .int .i64 1, .int .i64 1] 3)) at hb
 change Ints (K0.alloc (.cells #[.int .i64 0, .int .i64 0, .int .i64 1, .int .i64 1] 3)) _ _ _ at hI
 generalize K0.alloc (.cells #[.int .i64 0, .int .i64 0, .int .i64 1, .int .i64 1] 3) = K1 at hI hb ⊢
 have HL1 := Lib.hid hI
 clear hI
 have HB1 := Lib.hid (HB0.out.trans (hb.mono HB0.out.size))
 have HS1 : Hid (K1.cell? ⟨tb, 0, none⟩ = some (.int .i64 (-1)) ∧ K1.cell? ⟨tb, 1, none⟩ = some (.int .i64 0) ∧ K1.cell? ⟨tb, 2, none⟩ = some (.int .i64 0) ∧ K1.cell? ⟨tb, 3, none⟩ = some (.slice ga 3 gc)) := Lib.hid ⟨(HX.out.below HB1.out HX.out.lt).cell 0, (HX.out.below HB1.out HX.out.lt).cell 1, (HX.out.below HB1.out HX.out.lt).cell 2, (HX.out.below HB1.out HX.out.lt).cell 3⟩
 clear hb
 try dsimp only
 refine hK.out _ _ ?_ (fun hHeld => ?_)
 ·exact HS1.out
 clear hK K
 try simp only [Act.put, List.setIfInBounds_toArray, List.set_cons_zero, List.set_cons_succ]
 refine wpAnyH_ready (rs := [8]) (by kernel_rfl) (by simp) ?_
 refine AllReadyH.cons (iatLS (iatSS (iatSS (iatSS (iatSS (iatSS (iatSS (iatSS (iatSS iatZS))))))))) (fun K hK => ?_) AllReadyH.nil
 go_simp
 refine (yield13_any ga gc K1 (HT.out.grown HB1.out)).mono ?_
 rintro e9 K2 ⟨ya, yc, rfl, hy, hb⟩
 have HY2 := Lib.hid hy
 clear hy
 have HB2 := Lib.hid (HB1.out.trans (hb.mono HB1.out.size))
 have HL2 := Lib.hid (HL1.out.grown hb)
 have HS2 : Hid (K2.cell? ⟨tb, 0, none⟩ = some (.int .i64 (-1)) ∧ K2.cell? ⟨tb, 1, none⟩ = some (.int .i64 0) ∧ K2.cell? ⟨tb, 2, none⟩ = some (.int .i64 0) ∧ K2.cell? ⟨tb, 3, none⟩ = some (.slice ga 3 gc)) := Lib.hid ⟨(HX.out.below HB2.out HX.out.lt).cell 0, (HX.out.below HB2.out HX.out.lt).cell 1, (HX.out.below HB2.out HX.out.lt).cell 2, (HX.out.below HB2.out HX.out.lt).cell 3⟩
 clear hb
 try dsimp only
 refine hK.out _ _ ?_ (fun hHeld => ?_)
 ·exact HS2.out
 clear hK K
 try simp only [Act.put, List.setIfInBounds_toArray, List.set_cons_zero, List.set_cons_succ]
 rotate_left
 all_goals
  refine wpAnyH_ready (rs := [10]) (by kernel_rfl) (by simp) ?_
  refine AllReadyH.cons (iatLS (iatSS (iatSS (iatSS (iatSS (iatSS (iatSS (iatSS (iatSS (iatSS (iatSS iatZS))))))))))) (fun K hK => ?_) AllReadyH.nil
  go_simp
  refine (si13_any [0, 0, 1, 1] 4 rfl ya (some ⟨lbHL, 0, none⟩) yc 4 K2 HY2.out HL2.out).mono ?_
  rintro e9 K3 ⟨rfl, hb⟩
  have HB3 := Lib.hid (HB2.out.trans (hb.mono HB2.out.size))
  have HS3 : Hid (K3.cell? ⟨tb, 0, none⟩ = some (.int .i64 (-1)) ∧ K3.cell? ⟨tb, 1, none⟩ = some (.int .i64 0) ∧ K3.cell? ⟨tb, 2, none⟩ = some (.int .i64 0) ∧ K3.cell? ⟨tb, 3, none⟩ = some (.slice ga 3 gc)) := Lib.hid ⟨(HX.out.below HB3.out HX.out.lt).cell 0, (HX.out.below HB3.out HX.out.lt).cell 1, (HX.out.below HB3.out HX.out.lt).cell 2, (HX.out.below HB3.out HX.out.lt).cell 3⟩
  clear hb
  try dsimp only
  refine hK.out _ _ ?_ (fun hHeld => ?_)
  ·exact HS3.out
  clear hK K
  try simp only [Act.put, List.setIfInBounds_toArray, List.set_cons_zero, List.set_cons_succ]
  refine wpAnyH_take (i := 11) (v := ?_) (iatLS (iatSS (iatSS (iatSS (iatSS (iatSS (iatSS (iatSS (iatSS (iatSS (iatSS (iatSS iatZS)))))))))))) (by kernel_rfl) (by kernel_rfl) (by kernel_rfl) (fun _ _ _ h => h) (Or.inl ⟨by rfl, ?_⟩) (by assumption) ?_
  rotate_left
  ·intro w hSw
   try dsimp only at hSw
   go_simp
   all_goals with_reducible rfl
  try simp only [Act.put, List.setIfInBounds_toArray, List.set_cons_zero, List.set_cons_succ]
  refine wpAnyH_take (i := 12) (v := ?_) (iatLS (iatSS (iatSS (iatSS (iatSS (iatSS (iatSS (iatSS (iatSS (iatSS (iatSS (iatSS (iatSS iatZS))))))))))))) (by kernel_rfl) (by kernel_rfl) (by kernel_rfl) (fun _ _ _ h => h) (Or.inl ⟨by rfl, ?_⟩) (by assumption) ?_
  rotate_left
  ·intro w hSw
   try dsimp only at hSw
   go_simp
   all_goals with_reducible rfl
  try simp only [Act.put, List.setIfInBounds_toArray, List.set_cons_zero, List.set_cons_succ]
  refine wpAnyH_take (i := 14) (v := ?_) (iatLS (iatSS (iatSS (iatSS (iatSS (iatSS (iatSS (iatSS (iatSS (iatSS (iatSS (iatSS (iatSS (iatSS (iatSS iatZS))))))))))))))) (by kernel_rfl) (by kernel_rfl) (by kernel_rfl) (fun _ _ _ h => h) (Or.inl ⟨by rfl, ?_⟩) (by assumption) ?_
  rotate_left
  ·intro w hSw
   try dsimp only at hSw
   go_simp
   all_goals with_reducible rfl
  try simp only [Act.put, List.setIfInBounds_toArray, List.set_cons_zero, List.set_cons_succ]
  refine wpAnyH_ready (rs := [13, 15]) (by kernel_rfl) (by simp) ?_
  refine AllReadyH.cons (iatLS (iatSS (iatSS (iatSS (iatSS (iatSS (iatSS (iatSS (iatSS (iatSS (iatSS (iatSS (iatSS (iatSS iatZS)))))))))))))) (fun K hK => ?_) (AllReadyH.cons (iatLS (iatSS (iatSS (iatSS (iatSS (iatSS (iatSS (iatSS (iatSS (iatSS (iatSS (iatSS (iatSS (iatSS (iatSS (iatSS iatZS)))))))))))))))) (fun K hK => ?_) (AllReadyH.nil))
  go_simp
  obtain ⟨qh, hqh⟩ : ∃ q, Hid (K3.heap.size = q) := ⟨_, Lib.hid rfl⟩
  have hab := ab_any K3
  rw [hqh.out] at hab
  refine Calls.mono hab ?_
  rintro e9 K4 ⟨rfl, hc, hb⟩
  rw [← hqh.out] at hb
  clear hab
  have HC4 := Lib.hid hc
  clear hc
  have HB4 := Lib.hid (HB3.out.trans (hb.mono HB3.out.size))
  have HS4 : Hid (K4.cell? ⟨tb, 0, none⟩ = some (.int .i64 (-1)) ∧ K4.cell? ⟨tb, 1, none⟩ = some (.int .i64 0) ∧ K4.cell? ⟨tb, 2, none⟩ = some (.int .i64 0) ∧ K4.cell? ⟨tb, 3, none⟩ = some (.slice ga 3 gc)) := Lib.hid ⟨(HX.out.below HB4.out HX.out.lt).cell 0, (HX.out.below HB4.out HX.out.lt).cell 1, (HX.out.below HB4.out HX.out.lt).cell 2, (HX.out.below HB4.out HX.out.lt).cell 3⟩
  clear hb
  try dsimp only
  refine hK.out _ _ ?_ (fun hHeld => ?_)
  ·exact HS4.out
  clear hK K
  try simp only [Act.put, List.setIfInBounds_toArray, List.set_cons_zero, List.set_cons_succ]
  refine wpAnyH_ready (rs := [15]) (by kernel_rfl) (by simp) ?_
  refine AllReadyH.cons (iatLS (iatSS (iatSS (iatSS (iatSS (iatSS (iatSS (iatSS (iatSS (iatSS (iatSS (iatSS (iatSS (iatSS (iatSS (iatSS iatZS)))))))))))))))) (fun K hK => ?_) AllReadyH.nil
  go_simp
  obtain ⟨lbHL, hlbHL⟩ : ∃ q, Hid (K4.heap.size = q) := ⟨_, Lib.hid rfl⟩
  rw [hlbHL.out]
  have hI := ints_new K4 [0, 0, 1, 1] 4 rfl (e9_mx 4 (by omega))
  rw [hlbHL.out] at hI
  have hb : Below K4.heap.size K4 (K4.alloc (.cells ([0, 0, 1, 1].map (Value.int .i64)).toArray 3)) := (Below.refl _ _).alloc (Nat.le_refl _) _
  change Below _ _ (K4.alloc (.cells #[.int .i64 0, .int .i64 0, .int .i64 1, .int .i64 1] 3)) at hb
  change Ints (K4.alloc (.cells #[.int .i64 0, .int .i64 0, .int .i64 1, .int .i64 1] 3)) _ _ _ at hI
  generalize K4.alloc (.cells #[.int .i64 0, .int .i64 0, .int .i64 1, .int .i64 1] 3) = K5 at hI hb ⊢
  have HL5 := Lib.hid hI
  clear hI
  have HB5 := Lib.hid (HB4.out.trans (hb.mono HB4.out.size))
  have HC5 := Lib.hid (HC4.out.grown hb)
  have HS5 : Hid (K5.cell? ⟨tb, 0, none⟩ = some (.int .i64 (-1)) ∧ K5.cell? ⟨tb, 1, none⟩ = some (.int .i64 0) ∧ K5.cell? ⟨tb, 2, none⟩ = some (.int .i64 0) ∧ K5.cell? ⟨tb, 3, none⟩ = some (.slice ga 3 gc)) := Lib.hid ⟨(HX.out.below HB5.out HX.out.lt).cell 0, (HX.out.below HB5.out HX.out.lt).cell 1, (HX.out.below HB5.out HX.out.lt).cell 2, (HX.out.below HB5.out HX.out.lt).cell 3⟩
  clear hb
  try dsimp only
  refine hK.out _ _ ?_ (fun hHeld => ?_)
  ·exact HS5.out
  clear hK K
  try simp only [Act.put, List.setIfInBounds_toArray, List.set_cons_zero, List.set_cons_succ]
  rotate_left
  go_simp
  obtain ⟨lbHL, hlbHL⟩ : ∃ q, Hid (K3.heap.size = q) := ⟨_, Lib.hid rfl⟩
  rw [hlbHL.out]
  have hI := ints_new K3 [0, 0, 1, 1] 4 rfl (e9_mx 4 (by omega))
  rw [hlbHL.out] at hI
  have hb : Below K3.heap.size K3 (K3.alloc (.cells ([0, 0, 1, 1].map (Value.int .i64)).toArray 3)) := (Below.refl _ _).alloc (Nat.le_refl _) _
  change Below _ _ (K3.alloc (.cells #[.int .i64 0, .int .i64 0, .int .i64 1, .int .i64 1] 3)) at hb
  change Ints (K3.alloc (.cells #[.int .i64 0, .int .i64 0, .int .i64 1, .int .i64 1] 3)) _ _ _ at hI
  generalize K3.alloc (.cells #[.int .i64 0, .int .i64 0, .int .i64 1, .int .i64 1] 3) = K4 at hI hb ⊢
  have HL4 := Lib.hid hI
  clear hI
  have HB4 := Lib.hid (HB3.out.trans (hb.mono HB3.out.size))
  have HS4 : Hid (K4.cell? ⟨tb, 0, none⟩ = some (.int .i64 (-1)) ∧ K4.cell? ⟨tb, 1, none⟩ = some (.int .i64 0) ∧ K4.cell? ⟨tb, 2, none⟩ = some (.int .i64 0) ∧ K4.cell? ⟨tb, 3, none⟩ = some (.slice ga 3 gc)) := Lib.hid ⟨(HX.out.below HB4.out HX.out.lt).cell 0, (HX.out.below HB4.out HX.out.lt).cell 1, (HX.out.below HB4.out HX.out.lt).cell 2, (HX.out.below HB4.out HX.out.lt).cell 3⟩
  clear hb
  try dsimp only
  refine hK.out _ _ ?_ (fun hHeld => ?_)
  ·exact HS4.out
  clear hK K
  try simp only [Act.put, List.setIfInBounds_toArray, List.set_cons_zero, List.set_cons_succ]
  refine wpAnyH_ready (rs := [13]) (by kernel_rfl) (by simp) ?_
  refine AllReadyH.cons (iatLS (iatSS (iatSS (iatSS (iatSS (iatSS (iatSS (iatSS (iatSS (iatSS (iatSS (iatSS (iatSS (iatSS iatZS)))))))))))))) (fun K hK => ?_) AllReadyH.nil
  go_simp
  obtain ⟨qh, hqh⟩ : ∃ q, Hid (K4.heap.size = q) := ⟨_, Lib.hid rfl⟩
  have hab := ab_any K4
  rw [hqh.out] at hab
  refine Calls.mono hab ?_
  rintro e9 K5 ⟨rfl, hc, hb⟩
  rw [← hqh.out] at hb
  clear hab
  have HC5 := Lib.hid hc
  clear hc
  have HB5 := Lib.hid (HB4.out.trans (hb.mono HB4.out.size))
  have HL5 := Lib.hid (HL4.out.grown hb)
  have HS5 : Hid (K5.cell? ⟨tb, 0, none⟩ = some (.int .i64 (-1)) ∧ K5.cell? ⟨tb, 1, none⟩ = some (.int .i64 0) ∧ K5.cell? ⟨tb, 2, none⟩ = some (.int .i64 0) ∧ K5.cell? ⟨tb, 3, none⟩ = some (.slice ga 3 gc)) := Lib.hid ⟨(HX.out.below HB5.out HX.out.lt).cell 0, (HX.out.below HB5.out HX.out.lt).cell 1, (HX.out.below HB5.out HX.out.lt).cell 2, (HX.out.below HB5.out HX.out.lt).cell 3⟩
  clear hb
  try dsimp only
  refine hK.out _ _ ?_ (fun hHeld => ?_)
  ·exact HS5.out
  clear hK K
  try simp only [Act.put, List.setIfInBounds_toArray, List.set_cons_zero, List.set_cons_succ]
  rotate_left
  all_goals
   refine wpAnyH_ready (rs := [16]) (by kernel_rfl) (by simp) ?_
   refine AllReadyH.cons (iatLS (iatSS (iatSS (iatSS (iatSS (iatSS (iatSS (iatSS (iatSS (iatSS (iatSS (iatSS (iatSS (iatSS (iatSS (iatSS (iatSS iatZS))))))))))))))))) (fun K hK => ?_) AllReadyH.nil
   go_simp
   refine (check13_any qh ga gc (some ⟨lbHL, 0, none⟩) 4 K5 HC5.out (HT.out.grown HB5.out) HL5.out).mono ?_
   rintro e9 K6 ⟨rfl, hb⟩
   have HB6 := Lib.hid (HB5.out.trans (hb.mono HB5.out.size))
   have HS6 : Hid (K6.cell? ⟨tb, 0, none⟩ = some (.int .i64 (-1)) ∧ K6.cell? ⟨tb, 1, none⟩ = some (.int .i64 0) ∧ K6.cell? ⟨tb, 2, none⟩ = some (.int .i64 0) ∧ K6.cell? ⟨tb, 3, none⟩ = some (.slice ga 3 gc)) := Lib.hid ⟨(HX.out.below HB6.out HX.out.lt).cell 0, (HX.out.below HB6.out HX.out.lt).cell 1, (HX.out.below HB6.out HX.out.lt).cell 2, (HX.out.below HB6.out HX.out.lt).cell 3⟩
   clear hb
   try dsimp only
   refine hK.out _ _ ?_ (fun hHeld => ?_)
   ·exact HS6.out
   clear hK K
   try simp only [Act.put, List.setIfInBounds_toArray, List.set_cons_zero, List.set_cons_succ]
   refine wpAnyH_take (i := 17) (v := ?_) (iatLS (iatSS (iatSS (iatSS (iatSS (iatSS (iatSS (iatSS (iatSS (iatSS (iatSS (iatSS (iatSS (iatSS (iatSS (iatSS (iatSS (iatSS iatZS)))))))))))))))))) (by kernel_rfl) (by kernel_rfl) (by kernel_rfl) (fun _ _ _ h => h) (Or.inl ⟨by rfl, ?_⟩) (by assumption) ?_
   rotate_left
   ·intro w hSw
    try dsimp only at hSw
    go_simp
    all_goals with_reducible rfl
   try simp only [Act.put, List.setIfInBounds_toArray, List.set_cons_zero, List.set_cons_succ]
   refine wpAnyH_take (i := 18) (v := ?_) (iatLS (iatSS (iatSS (iatSS (iatSS (iatSS (iatSS (iatSS (iatSS (iatSS (iatSS (iatSS (iatSS (iatSS (iatSS (iatSS (iatSS (iatSS (iatSS iatZS))))))))))))))))))) (by kernel_rfl) (by kernel_rfl) (by kernel_rfl) (fun _ _ _ h => h) (Or.inl ⟨by rfl, ?_⟩) (by assumption) ?_
   rotate_left
   ·intro w hSw
    try dsimp only at hSw
    go_simp
    all_goals with_reducible rfl
   try simp only [Act.put, List.setIfInBounds_toArray, List.set_cons_zero, List.set_cons_succ]
   refine wpAnyH_take (i := 20) (v := ?_) (iatLS (iatSS (iatSS (iatSS (iatSS (iatSS (iatSS (iatSS (iatSS (iatSS (iatSS (iatSS (iatSS (iatSS (iatSS (iatSS (iatSS (iatSS (iatSS (iatSS (iatSS iatZS))))))))))))))))))))) (by kernel_rfl) (by kernel_rfl) (by kernel_rfl) (fun _ _ _ h => h) (Or.inl ⟨by rfl, ?_⟩) (by assumption) ?_
   rotate_left
   ·intro w hSw
    try dsimp only at hSw
    go_simp
    all_goals with_reducible rfl
   try simp only [Act.put, List.setIfInBounds_toArray, List.set_cons_zero, List.set_cons_succ]
   refine wpAnyH_ready (rs := [19]) (by kernel_rfl) (by simp) ?_
   refine AllReadyH.cons (iatLS (iatSS (iatSS (iatSS (iatSS (iatSS (iatSS (iatSS (iatSS (iatSS (iatSS (iatSS (iatSS (iatSS (iatSS (iatSS (iatSS (iatSS (iatSS (iatSS iatZS)))))))))))))))))))) (fun K hK => ?_) AllReadyH.nil
   go_simp
   obtain ⟨qh, hqh⟩ : ∃ q, Hid (K6.heap.size = q) := ⟨_, Lib.hid rfl⟩
   have hab := ab_any K6
   rw [hqh.out] at hab
   refine Calls.mono hab ?_
   rintro e9 K7 ⟨rfl, hc, hb⟩
   rw [← hqh.out] at hb
   clear hab
   have HC7 := Lib.hid hc
   clear hc
   have HB7 := Lib.hid (HB6.out.trans (hb.mono HB6.out.size))
   have HS7 : Hid (K7.cell? ⟨tb, 0, none⟩ = some (.int .i64 (-1)) ∧ K7.cell? ⟨tb, 1, none⟩ = some (.int .i64 0) ∧ K7.cell? ⟨tb, 2, none⟩ = some (.int .i64 0) ∧ K7.cell? ⟨tb, 3, none⟩ = some (.slice ga 3 gc)) := Lib.hid ⟨(HX.out.below HB7.out HX.out.lt).cell 0, (HX.out.below HB7.out HX.out.lt).cell 1, (HX.out.below HB7.out HX.out.lt).cell 2, (HX.out.below HB7.out HX.out.lt).cell 3⟩
   clear hb
   try dsimp only
   refine hK.out _ _ ?_ (fun hHeld => ?_)
   ·exact HS7.out
   clear hK K
   try simp only [Act.put, List.setIfInBounds_toArray, List.set_cons_zero, List.set_cons_succ]
   refine wpAnyH_ready (rs := [21]) (by kernel_rfl) (by simp) ?_
   refine AllReadyH.cons (iatLS (iatSS (iatSS (iatSS (iatSS (iatSS (iatSS (iatSS (iatSS (iatSS (iatSS (iatSS (iatSS (iatSS (iatSS (iatSS (iatSS (iatSS (iatSS (iatSS (iatSS (iatSS iatZS)))))))))))))))))))))) (fun K hK => ?_) AllReadyH.nil
   go_simp
   refine (text13_any qh ga gc K7 HC7.out (HT.out.grown HB7.out)).mono ?_
   rintro e9 K8 ⟨rfl, hb⟩
   have HB8 := Lib.hid (HB7.out.trans (hb.mono HB7.out.size))
   have HS8 : Hid (K8.cell? ⟨tb, 0, none⟩ = some (.int .i64 (-1)) ∧ K8.cell? ⟨tb, 1, none⟩ = some (.int .i64 0) ∧ K8.cell? ⟨tb, 2, none⟩ = some (.int .i64 0) ∧ K8.cell? ⟨tb, 3, none⟩ = some (.slice ga 3 gc)) := Lib.hid ⟨(HX.out.below HB8.out HX.out.lt).cell 0, (HX.out.below HB8.out HX.out.lt).cell 1, (HX.out.below HB8.out HX.out.lt).cell 2, (HX.out.below HB8.out HX.out.lt).cell 3⟩
   clear hb
   try dsimp only
   refine hK.out _ _ ?_ (fun hHeld => ?_)
   ·exact HS8.out
   clear hK K
   try simp only [Act.put, List.setIfInBounds_toArray, List.set_cons_zero, List.set_cons_succ]
   refine wpAnyH_take (i := 22) (v := ?_) (iatLS (iatSS (iatSS (iatSS (iatSS (iatSS (iatSS (iatSS (iatSS (iatSS (iatSS (iatSS (iatSS (iatSS (iatSS (iatSS (iatSS (iatSS (iatSS (iatSS (iatSS (iatSS (iatSS iatZS))))))))))))))))))))))) (by kernel_rfl) (by kernel_rfl) (by kernel_rfl) (fun _ _ _ h => h) (Or.inl ⟨by rfl, ?_⟩) (by assumption) ?_
   rotate_left
   ·intro w hSw
    try dsimp only at hSw
    go_simp
    all_goals with_reducible rfl
   try simp only [Act.put, List.setIfInBounds_toArray, List.set_cons_zero, List.set_cons_succ]
   refine wpAnyH_take (i := 23) (v := ?_) (iatLS (iatSS (iatSS (iatSS (iatSS (iatSS (iatSS (iatSS (iatSS (iatSS (iatSS (iatSS (iatSS (iatSS (iatSS (iatSS (iatSS (iatSS (iatSS (iatSS (iatSS (iatSS (iatSS (iatSS iatZS)))))))))))))))))))))))) (by kernel_rfl) (by kernel_rfl) (by kernel_rfl) (fun _ _ _ h => h) (Or.inl ⟨by rfl, ?_⟩) (by assumption) ?_
   rotate_left
   ·intro w hSw
    try dsimp only at hSw
    go_simp
    all_goals with_reducible rfl
   try simp only [Act.put, List.setIfInBounds_toArray, List.set_cons_zero, List.set_cons_succ]
   refine wpAnyH_take (i := 24) (v := ?_) (iatLS (iatSS (iatSS (iatSS (iatSS (iatSS (iatSS (iatSS (iatSS (iatSS (iatSS (iatSS (iatSS (iatSS (iatSS (iatSS (iatSS (iatSS (iatSS (iatSS (iatSS (iatSS (iatSS (iatSS (iatSS iatZS))))))))))))))))))))))))) (by kernel_rfl) (by kernel_rfl) (by kernel_rfl) (fun _ _ _ h => h) (Or.inl ⟨by rfl, ?_⟩) (by assumption) ?_
   rotate_left
   ·intro w hSw
    try dsimp only at hSw
    go_simp
    all_goals with_reducible rfl
   try simp only [Act.put, List.setIfInBounds_toArray, List.set_cons_zero, List.set_cons_succ]
   refine wpAnyH_take (i := 25) (v := ?_) (iatLS (iatSS (iatSS (iatSS (iatSS (iatSS (iatSS (iatSS (iatSS (iatSS (iatSS (iatSS (iatSS (iatSS (iatSS (iatSS (iatSS (iatSS (iatSS (iatSS (iatSS (iatSS (iatSS (iatSS (iatSS (iatSS iatZS)))))))))))))))))))))))))) (by kernel_rfl) (by kernel_rfl) (by kernel_rfl) (fun _ _ _ h => h) (Or.inl ⟨by rfl, ?_⟩) (by assumption) ?_
   rotate_left
   ·intro w hSw
    try dsimp only at hSw
    go_simp
    all_goals with_reducible rfl
   try simp only [Act.put, List.setIfInBounds_toArray, List.set_cons_zero, List.set_cons_succ]
   refine wpAnyH_ready (rs := [26, 27]) (by kernel_rfl) (by simp) ?_
   refine AllReadyH.cons (iatLS (iatSS (iatSS (iatSS (iatSS (iatSS (iatSS (iatSS (iatSS (iatSS (iatSS (iatSS (iatSS (iatSS (iatSS (iatSS (iatSS (iatSS (iatSS (iatSS (iatSS (iatSS (iatSS (iatSS (iatSS (iatSS (iatSS iatZS))))))))))))))))))))))))))) (fun K hK => ?_) (AllReadyH.cons (iatLS (iatSS (iatSS (iatSS (iatSS (iatSS (iatSS (iatSS (iatSS (iatSS (iatSS (iatSS (iatSS (iatSS (iatSS (iatSS (iatSS (iatSS (iatSS (iatSS (iatSS (iatSS (iatSS (iatSS (iatSS (iatSS (iatSS (iatSS iatZS)))))))))))))))))))))))))))) (fun K hK => ?_) (AllReadyH.nil))
   go_simp
   refine (steps13_any ga gc K8 (HT.out.grown HB8.out)).mono ?_
   rintro e9 K9 ⟨ya, yc, rfl, hy, hb⟩
   have HY9 := Lib.hid hy
   clear hy
   have HB9 := Lib.hid (HB8.out.trans (hb.mono HB8.out.size))
   have HS9 : Hid (K9.cell? ⟨tb, 0, none⟩ = some (.int .i64 (-1)) ∧ K9.cell? ⟨tb, 1, none⟩ = some (.int .i64 0) ∧ K9.cell? ⟨tb, 2, none⟩ = some (.int .i64 0) ∧ K9.cell? ⟨tb, 3, none⟩ = some (.slice ga 3 gc)) := Lib.hid ⟨(HX.out.below HB9.out HX.out.lt).cell 0, (HX.out.below HB9.out HX.out.lt).cell 1, (HX.out.below HB9.out HX.out.lt).cell 2, (HX.out.below HB9.out HX.out.lt).cell 3⟩
   clear hb
   try dsimp only
   refine hK.out _ _ ?_ (fun hHeld => ?_)
   ·exact HS9.out
   clear hK K
   try simp only [Act.put, List.setIfInBounds_toArray, List.set_cons_zero, List.set_cons_succ]
   refine wpAnyH_ready (rs := [27]) (by kernel_rfl) (by simp) ?_
   refine AllReadyH.cons (iatLS (iatSS (iatSS (iatSS (iatSS (iatSS (iatSS (iatSS (iatSS (iatSS (iatSS (iatSS (iatSS (iatSS (iatSS (iatSS (iatSS (iatSS (iatSS (iatSS (iatSS (iatSS (iatSS (iatSS (iatSS (iatSS (iatSS (iatSS iatZS)))))))))))))))))))))))))))) (fun K hK => ?_) AllReadyH.nil
   go_simp
   obtain ⟨lbHL, hlbHL⟩ : ∃ q, Hid (K9.heap.size = q) := ⟨_, Lib.hid rfl⟩
   rw [hlbHL.out]
   have hI := ints_new K9 [0, 0, 1] 3 rfl (e9_mx 3 (by omega))
   rw [hlbHL.out] at hI
   have hb : Below K9.heap.size K9 (K9.alloc (.cells ([0, 0, 1].map (Value.int .i64)).toArray 3)) := (Below.refl _ _).alloc (Nat.le_refl _) _
   change Below _ _ (K9.alloc (.cells #[.int .i64 0, .int .i64 0, .int .i64 1] 3)) at hb
   change Ints (K9.alloc (.cells #[.int .i64 0, .int .i64 0, .int .i64 1] 3)) _ _ _ at hI
   generalize K9.alloc (.cells #[.int .i64 0, .int .i64 0, .int .i64 1] 3) = K10 at hI hb ⊢
   have HL10 := Lib.hid hI
   clear hI
   have HB10 := Lib.hid (HB9.out.trans (hb.mono HB9.out.size))
   have HY10 := Lib.hid (HY9.out.grown hb)
   have HS10 : Hid (K10.cell? ⟨tb, 0, none⟩ = some (.int .i64 (-1)) ∧ K10.cell? ⟨tb, 1, none⟩ = some (.int .i64 0) ∧ K10.cell? ⟨tb, 2, none⟩ = some (.int .i64 0) ∧ K10.cell? ⟨tb, 3, none⟩ = some (.slice ga 3 gc)) := Lib.hid ⟨(HX.out.below HB10.out HX.out.lt).cell 0, (HX.out.below HB10.out HX.out.lt).cell 1, (HX.out.below HB10.out HX.out.lt).cell 2, (HX.out.below HB10.out HX.out.lt).cell 3⟩
   clear hb
   try dsimp only
   refine hK.out _ _ ?_ (fun hHeld => ?_)
   ·exact HS10.out
   clear hK K
   try simp only [Act.put, List.setIfInBounds_toArray, List.set_cons_zero, List.set_cons_succ]
   rotate_left
   go_simp
   obtain ⟨lbHL, hlbHL⟩ : ∃ q, Hid (K8.heap.size = q) := ⟨_, Lib.hid rfl⟩
   rw [hlbHL.out]
   have hI := ints_new K8 [0, 0, 1] 3 rfl (e9_mx 3 (by omega))
   rw [hlbHL.out] at hI
   have hb : Below K8.heap.size K8 (K8.alloc (.cells ([0, 0, 1].map (Value.int .i64)).toArray 3)) := (Below.refl _ _).alloc (Nat.le_refl _) _
   change Below _ _ (K8.alloc (.cells #[.int .i64 0, .int .i64 0, .int .i64 1] 3)) at hb
   change Ints (K8.alloc (.cells #[.int .i64 0, .int .i64 0, .int .i64 1] 3)) _ _ _ at hI
   generalize K8.alloc (.cells #[.int .i64 0, .int .i64 0, .int .i64 1] 3) = K9 at hI hb ⊢
   have HL9 := Lib.hid hI
   clear hI
   have HB9 := Lib.hid (HB8.out.trans (hb.mono HB8.out.size))
   have HS9 : Hid (K9.cell? ⟨tb, 0, none⟩ = some (.int .i64 (-1)) ∧ K9.cell? ⟨tb, 1, none⟩ = some (.int .i64 0) ∧ K9.cell? ⟨tb, 2, none⟩ = some (.int .i64 0) ∧ K9.cell? ⟨tb, 3, none⟩ = some (.slice ga 3 gc)) := Lib.hid ⟨(HX.out.below HB9.out HX.out.lt).cell 0, (HX.out.below HB9.out HX.out.lt).cell 1, (HX.out.below HB9.out HX.out.lt).cell 2, (HX.out.below HB9.out HX.out.lt).cell 3⟩
   clear hb
   try dsimp only
   refine hK.out _ _ ?_ (fun hHeld => ?_)
   ·exact HS9.out
   clear hK K
   try simp only [Act.put, List.setIfInBounds_toArray, List.set_cons_zero, List.set_cons_succ]
   refine wpAnyH_ready (rs := [26]) (by kernel_rfl) (by simp) ?_
   refine AllReadyH.cons (iatLS (iatSS (iatSS (iatSS (iatSS (iatSS (iatSS (iatSS (iatSS (iatSS (iatSS (iatSS (iatSS (iatSS (iatSS (iatSS (iatSS (iatSS (iatSS (iatSS (iatSS (iatSS (iatSS (iatSS (iatSS (iatSS (iatSS iatZS))))))))))))))))))))))))))) (fun K hK => ?_) AllReadyH.nil
   go_simp
   refine (steps13_any ga gc K9 (HT.out.grown HB9.out)).mono ?_
   rintro e9 K10 ⟨ya, yc, rfl, hy, hb⟩
   have HY10 := Lib.hid hy
   clear hy
   have HB10 := Lib.hid (HB9.out.trans (hb.mono HB9.out.size))
   have HL10 := Lib.hid (HL9.out.grown hb)
   have HS10 : Hid (K10.cell? ⟨tb, 0, none⟩ = some (.int .i64 (-1)) ∧ K10.cell? ⟨tb, 1, none⟩ = some (.int .i64 0) ∧ K10.cell? ⟨tb, 2, none⟩ = some (.int .i64 0) ∧ K10.cell? ⟨tb, 3, none⟩ = some (.slice ga 3 gc)) := Lib.hid ⟨(HX.out.below HB10.out HX.out.lt).cell 0, (HX.out.below HB10.out HX.out.lt).cell 1, (HX.out.below HB10.out HX.out.lt).cell 2, (HX.out.below HB10.out HX.out.lt).cell 3⟩
   clear hb
   try dsimp only
   refine hK.out _ _ ?_ (fun hHeld => ?_)
   ·exact HS10.out
   clear hK K
   try simp only [Act.put, List.setIfInBounds_toArray, List.set_cons_zero, List.set_cons_succ]
   rotate_left
   all_goals
    refine wpAnyH_ready (rs := [28]) (by kernel_rfl) (by simp) ?_
    refine AllReadyH.cons (iatLS (iatSS (iatSS (iatSS (iatSS (iatSS (iatSS (iatSS (iatSS (iatSS (iatSS (iatSS (iatSS (iatSS (iatSS (iatSS (iatSS (iatSS (iatSS (iatSS (iatSS (iatSS (iatSS (iatSS (iatSS (iatSS (iatSS (iatSS (iatSS iatZS))))))))))))))))))))))))))))) (fun K hK => ?_) AllReadyH.nil
    go_simp
    refine (si13_any [0, 0, 1] 3 rfl ya (some ⟨lbHL, 0, none⟩) yc 3 K10 HY10.out HL10.out).mono ?_
    rintro e9 K11 ⟨rfl, hb⟩
    have HB11 := Lib.hid (HB10.out.trans (hb.mono HB10.out.size))
    have HS11 : Hid (K11.cell? ⟨tb, 0, none⟩ = some (.int .i64 (-1)) ∧ K11.cell? ⟨tb, 1, none⟩ = some (.int .i64 0) ∧ K11.cell? ⟨tb, 2, none⟩ = some (.int .i64 0) ∧ K11.cell? ⟨tb, 3, none⟩ = some (.slice ga 3 gc)) := Lib.hid ⟨(HX.out.below HB11.out HX.out.lt).cell 0, (HX.out.below HB11.out HX.out.lt).cell 1, (HX.out.below HB11.out HX.out.lt).cell 2, (HX.out.below HB11.out HX.out.lt).cell 3⟩
    clear hb
    try dsimp only
    refine hK.out _ _ ?_ (fun hHeld => ?_)
    ·exact HS11.out
    clear hK K
    try simp only [Act.put, List.setIfInBounds_toArray, List.set_cons_zero, List.set_cons_succ]
    refine wpAnyH_take (i := 29) (v := ?_) (iatLS (iatSS (iatSS (iatSS (iatSS (iatSS (iatSS (iatSS (iatSS (iatSS (iatSS (iatSS (iatSS (iatSS (iatSS (iatSS (iatSS (iatSS (iatSS (iatSS (iatSS (iatSS (iatSS (iatSS (iatSS (iatSS (iatSS (iatSS (iatSS (iatSS iatZS)))))))))))))))))))))))))))))) (by kernel_rfl) (by kernel_rfl) (by kernel_rfl) (fun _ _ _ h => h) (Or.inl ⟨by rfl, ?_⟩) (by assumption) ?_
    rotate_left
    ·intro w hSw
     try dsimp only at hSw
     go_simp
     all_goals with_reducible rfl
    try simp only [Act.put, List.setIfInBounds_toArray, List.set_cons_zero, List.set_cons_succ]
    refine wpAnyH_take (i := 30) (v := ?_) (iatLS (iatSS (iatSS (iatSS (iatSS (iatSS (iatSS (iatSS (iatSS (iatSS (iatSS (iatSS (iatSS (iatSS (iatSS (iatSS (iatSS (iatSS (iatSS (iatSS (iatSS (iatSS (iatSS (iatSS (iatSS (iatSS (iatSS (iatSS (iatSS (iatSS (iatSS iatZS))))))))))))))))))))))))))))))) (by kernel_rfl) (by kernel_rfl) (by kernel_rfl) (fun _ _ _ h => h) (Or.inl ⟨by rfl, ?_⟩) (by assumption) ?_
    rotate_left
    ·intro w hSw
     try dsimp only at hSw
     go_simp
     all_goals with_reducible rfl
    try simp only [Act.put, List.setIfInBounds_toArray, List.set_cons_zero, List.set_cons_succ]
    refine wpAnyH_take (i := 31) (v := ?_) (iatLS (iatSS (iatSS (iatSS (iatSS (iatSS (iatSS (iatSS (iatSS (iatSS (iatSS (iatSS (iatSS (iatSS (iatSS (iatSS (iatSS (iatSS (iatSS (iatSS (iatSS (iatSS (iatSS (iatSS (iatSS (iatSS (iatSS (iatSS (iatSS (iatSS (iatSS (iatSS iatZS)))))))))))))))))))))))))))))))) (by kernel_rfl) (by kernel_rfl) (by kernel_rfl) (fun _ _ _ h => h) (Or.inl ⟨by rfl, ?_⟩) (by assumption) ?_
    rotate_left
    ·intro w hSw
     try dsimp only at hSw
     go_simp
     all_goals with_reducible rfl
    try simp only [Act.put, List.setIfInBounds_toArray, List.set_cons_zero, List.set_cons_succ]
    refine wpAnyH_ready (rs := [32]) (by kernel_rfl) (by simp) ?_
    refine AllReadyH.cons (iatLS (iatSS (iatSS (iatSS (iatSS (iatSS (iatSS (iatSS (iatSS (iatSS (iatSS (iatSS (iatSS (iatSS (iatSS (iatSS (iatSS (iatSS (iatSS (iatSS (iatSS (iatSS (iatSS (iatSS (iatSS (iatSS (iatSS (iatSS (iatSS (iatSS (iatSS (iatSS (iatSS iatZS))))))))))))))))))))))))))))))))) (fun K hK => ?_) AllReadyH.nil
    go_simp
    refine (size13_any ga gc K11 (HT.out.grown HB11.out)).mono ?_
    rintro e9 K12 ⟨rfl, hb⟩
    have HB12 := Lib.hid (HB11.out.trans (hb.mono HB11.out.size))
    have HS12 : Hid (K12.cell? ⟨tb, 0, none⟩ = some (.int .i64 (-1)) ∧ K12.cell? ⟨tb, 1, none⟩ = some (.int .i64 0) ∧ K12.cell? ⟨tb, 2, none⟩ = some (.int .i64 0) ∧ K12.cell? ⟨tb, 3, none⟩ = some (.slice ga 3 gc)) := Lib.hid ⟨(HX.out.below HB12.out HX.out.lt).cell 0, (HX.out.below HB12.out HX.out.lt).cell 1, (HX.out.below HB12.out HX.out.lt).cell 2, (HX.out.below HB12.out HX.out.lt).cell 3⟩
    clear hb
    try dsimp only
    refine hK.out _ _ ?_ (fun hHeld => ?_)
    ·exact HS12.out
    clear hK K
    try simp only [Act.put, List.setIfInBounds_toArray, List.set_cons_zero, List.set_cons_succ]
    refine wpAnyH_take (i := 33) (v := ?_) (iatLS (iatSS (iatSS (iatSS (iatSS (iatSS (iatSS (iatSS (iatSS (iatSS (iatSS (iatSS (iatSS (iatSS (iatSS (iatSS (iatSS (iatSS (iatSS (iatSS (iatSS (iatSS (iatSS (iatSS (iatSS (iatSS (iatSS (iatSS (iatSS (iatSS (iatSS (iatSS (iatSS (iatSS iatZS)))))))))))))))))))))))))))))))))) (by kernel_rfl) (by kernel_rfl) (by kernel_rfl) (fun _ _ _ h => h) (Or.inl ⟨by rfl, ?_⟩) (by assumption) ?_
    rotate_left
    ·intro w hSw
     try dsimp only at hSw
     go_simp
     all_goals with_reducible rfl
    try simp only [Act.put, List.setIfInBounds_toArray, List.set_cons_zero, List.set_cons_succ]
    refine wpAnyH_take (i := 34) (v := ?_) (iatLS (iatSS (iatSS (iatSS (iatSS (iatSS (iatSS (iatSS (iatSS (iatSS (iatSS (iatSS (iatSS (iatSS (iatSS (iatSS (iatSS (iatSS (iatSS (iatSS (iatSS (iatSS (iatSS (iatSS (iatSS (iatSS (iatSS (iatSS (iatSS (iatSS (iatSS (iatSS (iatSS (iatSS (iatSS iatZS))))))))))))))))))))))))))))))))))) (by kernel_rfl) (by kernel_rfl) (by kernel_rfl) (fun _ _ _ h => h) (Or.inl ⟨by rfl, ?_⟩) (by assumption) ?_
    rotate_left
    ·intro w hSw
     try dsimp only at hSw
     go_simp
     all_goals with_reducible rfl
    try simp only [Act.put, List.setIfInBounds_toArray, List.set_cons_zero, List.set_cons_succ]
    refine wpAnyH_take (i := 35) (v := ?_) (iatLS (iatSS (iatSS (iatSS (iatSS (iatSS (iatSS (iatSS (iatSS (iatSS (iatSS (iatSS (iatSS (iatSS (iatSS (iatSS (iatSS (iatSS (iatSS (iatSS (iatSS (iatSS (iatSS (iatSS (iatSS (iatSS (iatSS (iatSS (iatSS (iatSS (iatSS (iatSS (iatSS (iatSS (iatSS (iatSS iatZS)))))))))))))))))))))))))))))))))))) (by kernel_rfl) (by kernel_rfl) (by kernel_rfl) (fun _ _ _ h => h) (Or.inl ⟨by rfl, ?_⟩) (by assumption) ?_
    rotate_left
    ·intro w hSw
     try dsimp only at hSw
     go_simp
     all_goals with_reducible rfl
    try simp only [Act.put, List.setIfInBounds_toArray, List.set_cons_zero, List.set_cons_succ]
    refine wpAnyH_done (by kernel_rfl) ?_ _
    go_wp2_with (fail)
    exact bodyPost_ret (v := .bool true) (by simp [results, Try.results49, go_sem]; try first | rfl | assumption | omega) rfl ⟨rfl, HV.out.trans (HB12.out.mono HV.out.size)⟩
end Go.Proofs.Ythogiakfbgehnaa
namespace Go.Proofs.Ythogiakfbgehnaa
open Go.RowKit
attribute [local go_sem] Oper.semAt_some
end Go.Proofs.Ythogiakfbgehnaa
namespace Go.Proofs.Ythogiakfbgehnaa
open Go.RowKit Go.Maps
attribute [local go_sem] Oper.semAt_some
/-- What Grow answers, told for a law. -/
theorem grow_law (d : CfD) (sa : Option Addr) (sc : Nat) (st : List Int) (w : World) (hd : CfAt w d) (hrg : ∀ r ∈ d.alts, ∀ a ∈ r.ds, ∀ x ∈ a.l, -9223372036854775808 ≤ x ∧ x ≤ 9223372036854775807) (hst : Ints w sa sc st) :
 Calls Try.prog 54 #[d.v, .slice sa st.length sc] w fun e W => Below w.heap.size w W ∧ ((∃ (s : Nat) (x : Int), x ≠ 0 ∧ gwGrow d st = .bad s x ∧ e = .returned (.tuple #[.agg #[.int .i64 0, .int .i64 0, .int .i64 0, .slice none 0 0], .int .i64 (s : Int), .int .i64 x])) ∨
  (∃ t s a n ga gc, gwGrow d st = .ok t s a n ∧ e = .returned (.tuple #[.agg #[.int .i64 t.k, .int .i64 t.i, .int .i64 t.a, .slice ga t.l.len gc], .int .i64 0, .int .i64 0]) ∧ TrS W (fun g => w.heap.size ≤ g) ga gc t.l)) := by
 refine (tgrow_any d sa sc st w hd hrg hst).mono ?_
 rintro e W ⟨hb, hq⟩
 refine ⟨hb, ?_⟩
 cases hg : gwGrow d st with
 | bad s x =>
  rw [hg] at hq
  exact .inl ⟨s, x, hq.1, rfl, hq.2⟩
 | ok t s a n =>
  rw [hg] at hq
  obtain ⟨ga, gc, he, ht⟩ := hq
  exact .inr ⟨t, s, a, n, ga, gc, rfl, he, ht⟩
end Go.Proofs.Ythogiakfbgehnaa
namespace Go.Proofs.Ythogiakfbgehnaa
open Go.RowKit
end Go.Proofs.Ythogiakfbgehnaa
namespace Go.Proofs.Ythogiakfbgehnaa
open Go.RowKit Go.Maps
attribute [local go_sem] Oper.semAt_some
end Go.Proofs.Ythogiakfbgehnaa
namespace Go.Proofs.Ythogiakfbgehnaa
open Go.RowKit Go.Maps
attribute [local go_sem] Oper.semAt_some
end Go.Proofs.Ythogiakfbgehnaa
namespace Go.Proofs.Ythogiakfbgehnaa
open Go.RowKit Go.Maps
attribute [local go_sem] Oper.semAt_some
end Go.Proofs.Ythogiakfbgehnaa
namespace Go.Proofs.Ythogiakfbgehnaa
open Go.RowKit
theorem mem_lay {l : List Fl} {x f : Fl} : f ∈ layP l x ↔ f ∈ l ∨ f = x := by
 unfold layP
 split
 ·next h =>
  rw [memF_iff] at h
  exact ⟨fun h1 => .inl h1, fun h1 => h1.elim id (fun e => e ▸ h)⟩
 ·rw [List.mem_append, List.mem_singleton]
theorem mem_unkS {ts names : List ByteArray} {o : List Fl} {n : ByteArray} {f : Fl} : f ∈ unkS ts names o n ↔ f ∈ o ∨ (n ∉ names ∧ n ∉ ts ∧ f = (2, n)) := by
 have h1 : (!mem n names && !mem n ts) = true ↔ n ∉ names ∧ n ∉ ts := by
  simp only [Bool.and_eq_true, Bool.not_eq_true', Bool.eq_false_iff]
  exact and_congr (not_congr mem_iff) (not_congr mem_iff)
 unfold unkS
 split
 ·next h => rw [mem_lay]; have := h1.1 h; exact ⟨fun h => h.imp id (fun e => ⟨this.1, this.2, e⟩), fun h => h.imp id (fun e => e.2.2)⟩
 ·next h => exact ⟨fun h => .inl h, fun h2 => h2.elim id (fun e => absurd (h1.2 ⟨e.1, e.2.1⟩) h)⟩
theorem mem_unkA {ts names : List ByteArray} {f : Fl} : ∀ (l : List ByteArray) (o : List Fl), f ∈ unkA ts names l o ↔ f ∈ o ∨ ∃ n ∈ l, n ∉ names ∧ n ∉ ts ∧ f = (2, n)
 | [], o => by simp [unkA]
 | m :: l, o => by
  have h : unkA ts names (m :: l) o = unkA ts names l (unkS ts names o m) := rfl
  rw [h, mem_unkA l, mem_unkS]
  simp only [List.mem_cons, exists_eq_or_imp, or_assoc]
theorem mem_unkAs {ts names : List ByteArray} {f : Fl} : ∀ (al : List (List ByteArray)) (o : List Fl), f ∈ unkAs ts names al o ↔ f ∈ o ∨ ∃ a ∈ al, ∃ n ∈ a, n ∉ names ∧ n ∉ ts ∧ f = (2, n)
 | [], o => by simp [unkAs]
 | m :: l, o => by
  have h : unkAs ts names (m :: l) o = unkAs ts names l (unkA ts names m o) := rfl
  rw [h, mem_unkAs l, mem_unkA]
  simp only [List.mem_cons, exists_eq_or_imp, or_assoc]
theorem mem_unkP {ts names : List ByteArray} {f : Fl} : ∀ (rs : List Rl) (o : List Fl), f ∈ unkP ts names rs o ↔ f ∈ o ∨ ∃ r ∈ rs, ∃ a ∈ r.2, ∃ n ∈ a, n ∉ names ∧ n ∉ ts ∧ f = (2, n)
 | [], o => by simp [unkP]
 | m :: l, o => by
  have h : unkP ts names (m :: l) o = unkP ts names l (unkAs ts names m.2 o) := rfl
  rw [h, mem_unkP l, mem_unkAs]
  simp only [List.mem_cons, exists_eq_or_imp, or_assoc]
theorem mem_restM {kd : Int} {m : ByteArray → Bool} {f : Fl} : ∀ (l : List ByteArray) (o : List Fl), f ∈ restM kd m l o ↔ f ∈ o ∨ ∃ n ∈ l, m n = false ∧ f = (kd, n)
 | [], o => by simp [restM]
 | n :: l, o => by
  have h : restM kd m (n :: l) o = restM kd m l (if (!m n) = true then layP o (kd, n) else o) := rfl
  rw [h, mem_restM l]
  simp only [List.mem_cons, exists_eq_or_imp]
  cases hm : m n
  ·rw [if_pos (by rfl), mem_lay, or_assoc]
   simp
  ·rw [if_neg (by decide)]
   simp
theorem mem_FLW {rs : List RlD} {ts : List ByteArray} {f : Fl} : f ∈ FLW rs ts ↔ f ∈ dblN ts (rs.map RlD.n) rs.length ∨ (∃ r ∈ grP rs, ∃ a ∈ r.2, ∃ n ∈ a, n ∉ rs.map RlD.n ∧ n ∉ ts ∧ f = (2, n)) ∨ (∃ n ∈ rs.map RlD.n, fertM rs ts n = false ∧ f = (3, n)) ∨ ∃ n ∈ rs.map RlD.n, nearM rs n = false ∧ f = (4, n) := by
 unfold FLW
 rw [mem_restM, mem_restM, mem_unkP]
 simp only [or_assoc]
end Go.Proofs.Ythogiakfbgehnaa
namespace Go.Proofs.Ythogiakfbgehnaa
open Go.RowKit
theorem backR_mem10 {ts ns : List ByteArray} : ∀ {l : List ByteArray} {al : List (List (List Int))}, l.length = al.length → ∀ {r : Rl}, r ∈ backR ts ns l al → ∃ k, ∃ h : k < l.length, r = (l[k], (al.getD k []).map (fun x => x.map (nmP ts ns)))
 | [], [], _, r, hr => by cases hr
 | [], _ :: _, h, _, _ => by cases h
 | _ :: _, [], h, _, _ => by cases h
 | n :: l, a :: al, h, r, hr => by
  rcases List.mem_cons.1 hr with rfl | hr
  ·exact ⟨0, by simp, rfl⟩
  ·obtain ⟨k, hk, rfl⟩ := backR_mem10 (l := l) (al := al) (by simpa using h) hr
   exact ⟨k + 1, by simpa using hk, rfl⟩
/-- What a list has, if each of its numbers comes to something: it may be empty, or something stands first. -/
theorem lead_some {al : List (List (List Int))} : ∀ {a : List Int}, (∀ x ∈ a, x < 0 → nulB al (ruL x) = true ∨ ∃ t, TokP al (nulB al) [x] t) → emp (nulB al) a = true ∨ ∃ t, TokP al (nulB al) (ahd (nulB al) a) t
 | [], _ => .inl rfl
 | x :: s, h => by
  by_cases hx : (decide (x < 0) && nulB al (ruL x)) = true
  ·rcases lead_some (a := s) (fun y hy => h y (List.mem_cons_of_mem _ hy)) with h1 | ⟨t, h1⟩
   ·exact .inl (by rw [emp_cons, hx, h1]; rfl)
   ·refine .inr ⟨t, ?_⟩
    unfold ahd
    rw [if_pos hx]
    obtain ⟨y, hy, h2⟩ := tok_iff.1 h1
    exact tok_iff.2 ⟨y, List.mem_cons_of_mem _ hy, h2⟩
  ·refine .inr ?_
   unfold ahd
   rw [if_neg hx]
   by_cases h0 : x < 0
   ·rcases h x (by simp) h0 with h1 | h1
    ·rw [decide_eq_true h0, h1] at hx
     exact absurd rfl hx
    ·exact h1
   ·exact ⟨x, tok_self (by omega)⟩
theorem der_some {al : List (List (List Int))} {r : Nat} {m : Int} (h : Der al r m) : nulB al r = true ∨ ∃ t, TokP al (nulB al) [-1 - (r : Int)] t := by
 induction h with
 | @by_ r a W ha hk ih =>
  have hr : r < al.length := by
   refine Classical.byContradiction fun hn => ?_
   rw [List.getD_eq_getElem?_getD, List.getElem?_eq_none (by omega)] at ha
   cases ha
  rcases lead_some (a := a) (fun x hx h0 => by
   have := ih x hx h0
   rwa [of_ruL h0] at this) with h1 | ⟨t, h1⟩
  ·exact .inl ((nul_iff hr).2 ⟨a, ha, h1⟩)
  ·exact .inr ⟨t, tok_rule ha h1⟩
/-- What a grammar that may be has, in its own words. -/
structure MayG (ts ns : List ByteArray) (al : List (List (List Int))) : Prop where
 len : ns.length = al.length
 ok : ∀ r, ∀ a ∈ al.getD r [], ∀ x ∈ a, -(ns.length : Int) ≤ x ∧ x < (ts.length : Int)
 out : ∀ i (h : i < ns.length), ns[i] ∉ ts
 inj : ∀ i j (hi : i < ns.length) (hj : j < ns.length), ns[i] = ns[j] → i = j
 fert : ∀ n ∈ ns, Fert (backR ts ns ns al) ts n
 near : ∀ n ∈ ns, ∃ h : 0 < ns.length, Lead (backR ts ns ns al) ns[0] n
theorem may_of {d : CfD} (h : validE d.p = 0) : MayG d.toks d.names (d.alts.map IrD.p) := by
 have h0 := h
 unfold validE at h
 split at h
 ·next h1 =>
  split at h
  ·next h2 =>
   have hb := h1
   unfold backE at h1
   split at h1
   ·next h3 =>
    split at h1
    ·next h4 =>
     have e1 : d.p.alts = d.alts.map IrD.p := rfl
     have e2 : d.p.names = d.names := rfl
     have e3 : d.p.toks = d.toks := rfl
     have e4 : backG d.p = backR d.toks d.names d.names (d.alts.map IrD.p) := rfl
     rw [e1, e2] at h3
     rw [e3, e4] at h2
     have hnm : (can (backR d.toks d.names d.names (d.alts.map IrD.p))).map RlD.n = d.names := by
      rw [names_grP, grP_can, backR_fst _ _ _ _ h3]
     obtain ⟨a1, a2⟩ := num_apart2 h2
     rw [hnm] at a2
     have hfl : FLW (can (backR d.toks d.names d.names (d.alts.map IrD.p))) d.toks = [] := by
      unfold numE at h2
      split at h2
      ·split at h2
       ·split at h2
        ·next h9 => exact List.length_eq_zero_iff.1 h9
        ·cases h2
       ·next h9 => exact absurd h2 h9
      ·next h9 => exact absurd h2 h9
     have hno : ∀ f, f ∉ FLW (can (backR d.toks d.names d.names (d.alts.map IrD.p))) d.toks := fun f hf => by rw [hfl] at hf; cases hf
     refine ⟨h3, fun r a ha x hx => ?_, fun i hi => (a2 i hi).1, fun i j hi hj e => apart_inj (fun i hi => (a2 i hi).2) hi hj e, fun n hn => ?_, fun n hn => ?_⟩
     ·by_cases hr : r < (d.alts.map IrD.p).length
      ·have hm : (d.alts.map IrD.p)[r] ∈ d.p.alts := List.getElem_mem hr
       rw [List.getD_eq_getElem?_getD, List.getElem?_eq_getElem hr] at ha
       have ha : a ∈ (d.alts.map IrD.p)[r] := ha
       unfold numsB at h4
       have := List.all_eq_true.1 (List.all_eq_true.1 (List.all_eq_true.1 h4 _ hm) a ha) x hx
       exact okN_iff.1 this
      ·rw [List.getD_eq_getElem?_getD, List.getElem?_eq_none (by omega)] at ha
       cases ha
     ·have h5 : fertM (can (backR d.toks d.names d.names (d.alts.map IrD.p))) d.toks n = true := by
       cases e : fertM (can (backR d.toks d.names d.names (d.alts.map IrD.p))) d.toks n
       ·exact absurd (mem_FLW.2 (.inr (.inr (.inl ⟨n, by rw [hnm]; exact hn, e, rfl⟩)))) (hno _)
       ·rfl
      have h6 := (fertM_iff _ _ _).1 h5
      rwa [grP_can] at h6
     ·have h5 : nearM (can (backR d.toks d.names d.names (d.alts.map IrD.p))) n = true := by
       cases e : nearM (can (backR d.toks d.names d.names (d.alts.map IrD.p))) n
       ·exact absurd (mem_FLW.2 (.inr (.inr (.inr ⟨n, by rw [hnm]; exact hn, e, rfl⟩)))) (hno _)
       ·rfl
      obtain ⟨q, hq, hl⟩ := (nearM_iff _ _).1 h5
      rw [grP_can] at hl
      have hpos : 0 < d.names.length := List.length_pos_of_mem hn
      refine ⟨hpos, ?_⟩
      have e9 : ((can (backR d.toks d.names d.names (d.alts.map IrD.p))).map RlD.n).head? = some q.n := by rw [List.head?_map, hq]; rfl
      rw [hnm, List.head?_eq_getElem?, List.getElem?_eq_getElem hpos] at e9
      have e10 : d.names[0] = q.n := by simpa using e9
      rw [e10]
      exact hl
    ·cases h1
   ·cases h1
  ·cases h
 ·cases h
theorem nmP_rule {ts ns : List ByteArray} {x : Int} (h0 : x < 0) (h : ruL x < ns.length) : nmP ts ns x = ns[ruL x] := by
 unfold nmP
 rw [if_pos h0]
 show ns.getD (ruL x) _ = _
 rw [List.getD_eq_getElem?_getD, List.getElem?_eq_getElem h]
 rfl
theorem MayG.der {ts ns : List ByteArray} {al : List (List (List Int))} (h : MayG ts ns al) (k : Nat) (hk : k < ns.length) : ∃ m, Der al k m := by
 classical
 have key : ∀ s, Fert (backR ts ns ns al) ts s → ∀ k (hk : k < ns.length), s = ns[k] → ∃ m, Der al k m := by
  intro s hs
  induction hs with
  | tok ht => intro k hk e; rw [e] at ht; exact absurd ht (h.out k hk)
  | @rule r a hr ha _ ih =>
   intro k hk e
   obtain ⟨j, hj, rfl⟩ := backR_mem10 h.len hr
   dsimp only at e ha
   have := h.inj j k hj hk e
   subst this
   obtain ⟨a0, ha0, rfl⟩ := List.mem_map.1 ha
   refine ⟨_, Der.by_ (fun q => if hq : ∃ m, Der al q m then Classical.choose hq else 0) ha0 (fun x hx h0 => ?_)⟩
   have h1 := h.ok j a0 ha0 x hx
   have h2 : ruL x < ns.length := by unfold ruL; omega
   have h3 := ih (nmP ts ns x) (List.mem_map.2 ⟨x, hx, rfl⟩) (ruL x) h2 (nmP_rule h0 h2)
   rw [dif_pos h3]
   exact Classical.choose_spec h3
 exact key _ (h.fert _ (List.getElem_mem hk)) k hk rfl
theorem MayG.rest {ts ns : List ByteArray} {al : List (List (List Int))} (h : MayG ts ns al) {r : Nat} {a b : List Int} (ha : a ∈ al.getD r []) (hb : ∀ x ∈ b, x ∈ a) : emp (nulB al) b = true ∨ ∃ t, TokP al (nulB al) (ahd (nulB al) b) t :=
 lead_some (fun x hx h0 => by
  have h1 := h.ok r a ha x (hb x hx)
  obtain ⟨m, hm⟩ := h.der (ruL x) (by unfold ruL; omega)
  have := der_some hm
  rwa [of_ruL h0] at this)
theorem few10_may {d : CfD} (h : few10 d = true) : MayG d.toks d.names (d.alts.map IrD.p) := by
 unfold few10 at h
 rw [Bool.and_eq_true, decide_eq_true_eq, decide_eq_true_eq] at h
 exact may_of h.2
end Go.Proofs.Ythogiakfbgehnaa
