/- Texts of layer 2 joined: WMt PMt. -/
import Derived.Test.YtkdfobnkebkpfaaJCu
import Derived.Test.YtkdfobnkebkpfaaJV5
import Derived.Test.YtkdfobnkebkpfaaJO
import Derived.Test.YtkdfobnkebkpfaaJRr
set_option linter.unusedVariables false
set_option linter.unusedSimpArgs false
/- The law RegexMatches. -/
namespace Go.Proofs.Ytkdfobnkebkpfaa
open Go.RowKit Go.Shelf

attribute [local go_sem] Oper.semAt_some

set_option maxRecDepth 100000 in
set_option maxHeartbeats 1000000 in
theorem regexMatches_any (ea : Ea) (s : ByteArray) (w : World) (hss : Sps w ea.sa ea.sc ea.x.h.set) (hI : Items w ea.a ea.c ea.x.k) :
    Calls Try.prog 6 #[.agg #[.int .i64 ea.x.h.k, .slice ea.sa ea.x.h.set.length ea.sc, .slice ea.a ea.x.k.len ea.c], .string s] w fun e w' => e = .returned (.bool true) ∧ Below w.heap.size w w' := by
  have hA0 := Blk.new w 25 #[.int .i64 ea.x.h.k, .slice ea.sa ea.x.h.set.length ea.sc, .slice ea.a ea.x.k.len ea.c]
  have hb0 : Below w.heap.size w (w.alloc (.cells #[.int .i64 ea.x.h.k, .slice ea.sa ea.x.h.set.length ea.sc, .slice ea.a ea.x.k.len ea.c] 25)) := (Below.refl w.heap.size w).alloc (Nat.le_refl _) _
  go_enter Try.func6, Try.ntmps6
  go_wp2_with (fail)
  refine (live_any _).mono ?_
  rintro e w1 ⟨rfl, hb1⟩
  have hA1 := hA0.below hb1 hA0.lt
  have hbw1 := hb0.trans (hb1.mono hb0.size)
  clear hA0 hb0 hb1
  have x0 := hA1.cell 0
  have x1 := hA1.cell 1
  have x2 := hA1.cell 2
  simp only [List.getElem?_cons_zero, List.getElem?_cons_succ] at x0 x1 x2
  have xl := hA1.lt
  go_wp2_with (fail)
  refine (hard_any ea s w1 (hss.grown hbw1) (hI.grown hbw1)).mono ?_
  rintro e w2 ⟨rfl, hb2⟩
  have hA2 := hA1.below hb2 hA1.lt
  have hbw2 := hbw1.trans (hb2.mono hbw1.size)
  clear hA1 hbw1 hb2 x0 x1 x2 xl
  have x0 := hA2.cell 0
  have x1 := hA2.cell 1
  have x2 := hA2.cell 2
  simp only [List.getElem?_cons_zero, List.getElem?_cons_succ] at x0 x1 x2
  have xl := hA2.lt
  obtain ⟨Ha, hHa⟩ : ∃ b, Hid (hardE ea.x s.size = b) := ⟨_, Lib.hid rfl⟩
  rw [hHa.out]
  cases Ha
  case true =>
    go_wp2_with (fail)
    exact bodyPost_ret (v := .bool true) (by simp [results, Try.results6, go_sem]; try rfl) rfl ⟨rfl, hbw2⟩
  obtain ⟨hza, hsn⟩ := hardE_no hHa.out
  go_wp2_with (fail)
  refine (check_E ea w2 (hss.grown hbw2) (hI.grown hbw2) (by omega)).mono ?_
  rintro e w3 ⟨rfl, hb3⟩
  have hA3 := hA2.below hb3 hA2.lt
  have hbw3 := hbw2.trans (hb3.mono hbw2.size)
  clear hA2 hbw2 hb3 x0 x1 x2 xl
  have x0 := hA3.cell 0
  have x1 := hA3.cell 1
  have x2 := hA3.cell 2
  simp only [List.getElem?_cons_zero, List.getElem?_cons_succ] at x0 x1 x2
  have xl := hA3.lt
  obtain ⟨Ca, hCa⟩ : ∃ b, Hid (ckX ea.x = b) := ⟨_, Lib.hid rfl⟩
  rw [hCa.out]
  by_cases hca : Ca = 0
  case neg =>
    have hcaI : (Ca != 0) = true := by simp [hca]
    go_wp2_with (fail)
    exact bodyPost_ret (v := .bool true) (by simp [results, Try.results6, go_sem]; try rfl) rfl ⟨rfl, hbw3⟩
  have hcaI : (Ca != 0) = false := by simp [hca]
  have hka : Hid (ckX ea.x ≠ 1) := Lib.hid (by rw [hCa.out, hca]; decide)
  clear hca
  obtain ⟨R, hR⟩ : ∃ b, Hid (mE ea.x s.data.toList = b) := ⟨_, Lib.hid rfl⟩
  have hKeep : ∀ V, Below w3.heap.size w3 V → (Below w3.heap.size w3 V ∧ V.cell? ⟨w.heap.size, 0, none⟩ = some (.int .i64 ea.x.h.k) ∧ V.cell? ⟨w.heap.size, 1, none⟩ = some (.slice ea.sa ea.x.h.set.length ea.sc) ∧ V.cell? ⟨w.heap.size, 2, none⟩ = some (.slice ea.a ea.x.k.len ea.c)) := fun V hb => by
    have k1 := hA3.below hb hA3.lt
    exact ⟨hb, k1.cell 0, k1.cell 1, k1.cell 2⟩
  have cA : ∀ V, Below w3.heap.size w3 V → Calls Try.prog 26 #[.agg #[.int .i64 ea.x.h.k, .slice ea.sa ea.x.h.set.length ea.sc, .slice ea.a ea.x.k.len ea.c], .string s] V fun e V' => e = .returned (.bool R) ∧ Below w3.heap.size w3 V' := fun V hb => by
    have hbw := hbw3.trans (hb.mono hbw3.size)
    have hc := match_E ea s V (hss.grown hbw) (hI.grown hbw) (by omega) hsn
    rw [hR.out] at hc
    exact hc.mono fun e V' hp => ⟨hp.1, hb.trans (hp.2.mono hb.size)⟩
  have cB : ∀ V, Below w3.heap.size w3 V → Calls Try.prog 27 #[.agg #[.int .i64 ea.x.h.k, .slice ea.sa ea.x.h.set.length ea.sc, .slice ea.a ea.x.k.len ea.c], .string s] V fun e V' => e = .returned (.bool R) ∧ Below w3.heap.size w3 V' := fun V hb => by
    have hbw := hbw3.trans (hb.mono hbw3.size)
    have hc := refMatch_any ea s V (by omega) hka.out (hss.grown hbw) (hI.grown hbw)
    rw [hR.out] at hc
    exact hc.mono fun e V' hp => ⟨hp.1, hb.trans (hp.2.mono hb.size)⟩
  have HK := Lib.hid hKeep
  have hS0 := hKeep w3.drew (Below.refl _ w3).drew
  clear hKeep hss hI hA3
  go_wp2_with (fail)
  refine wp_region_held_drew (S := fun w' => (Below w3.heap.size w3 w' ∧ w'.cell? ⟨w.heap.size, 0, none⟩ = some (.int .i64 ea.x.h.k) ∧ w'.cell? ⟨w.heap.size, 1, none⟩ = some (.slice ea.sa ea.x.h.set.length ea.sc) ∧ w'.cell? ⟨w.heap.size, 2, none⟩ = some (.slice ea.a ea.x.k.len ea.c))) (by kernel_rfl) ?_ (fun hHeld => ?_)
  · exact hS0
  refine wpAnyH_take (i := 0) (v := ?_) (atL atZ) (by kernel_rfl) (by kernel_rfl) (by kernel_rfl) (fun _ _ _ h => h) (Or.inl ⟨by rfl, ?_⟩) (by assumption) ?_
  rotate_left
  · intro w hSw
    try dsimp only at hSw
    go_simp
    all_goals with_reducible rfl
  try simp only [Act.put, List.setIfInBounds_toArray, List.set_cons_zero, List.set_cons_succ]
  refine wpAnyH_take (i := 1) (v := ?_) (atL (atS atZ)) (by kernel_rfl) (by kernel_rfl) (by kernel_rfl) (fun _ _ _ h => h) (Or.inl ⟨by rfl, ?_⟩) (by assumption) ?_
  rotate_left
  · intro w hSw
    try dsimp only at hSw
    go_simp
    all_goals with_reducible rfl
  try simp only [Act.put, List.setIfInBounds_toArray, List.set_cons_zero, List.set_cons_succ]
  refine wpAnyH_take (i := 2) (v := ?_) (atL (atS (atS atZ))) (by kernel_rfl) (by kernel_rfl) (by kernel_rfl) (fun _ _ _ h => h) (Or.inl ⟨by rfl, ?_⟩) (by assumption) ?_
  rotate_left
  · intro w hSw
    try dsimp only at hSw
    go_simp
    all_goals with_reducible rfl
  try simp only [Act.put, List.setIfInBounds_toArray, List.set_cons_zero, List.set_cons_succ]
  refine wpAnyH_take (i := 3) (v := ?_) (atL (atS (atS (atS atZ)))) (by kernel_rfl) (by kernel_rfl) (by kernel_rfl) (fun _ _ _ h => h) (Or.inl ⟨by rfl, ?_⟩) (by assumption) ?_
  rotate_left
  · intro w hSw
    try dsimp only at hSw
    go_simp
    all_goals with_reducible rfl
  try simp only [Act.put, List.setIfInBounds_toArray, List.set_cons_zero, List.set_cons_succ]
  refine wpAnyH_take (i := 5) (v := ?_) (atL (atS (atS (atS (atS (atS atZ)))))) (by kernel_rfl) (by kernel_rfl) (by kernel_rfl) (fun _ _ _ h => h) (Or.inl ⟨by rfl, ?_⟩) (by assumption) ?_
  rotate_left
  · intro w hSw
    try dsimp only at hSw
    go_simp
    all_goals with_reducible rfl
  try simp only [Act.put, List.setIfInBounds_toArray, List.set_cons_zero, List.set_cons_succ]
  refine wpAnyH_take (i := 6) (v := ?_) (atL (atS (atS (atS (atS (atS (atS atZ))))))) (by kernel_rfl) (by kernel_rfl) (by kernel_rfl) (fun _ _ _ h => h) (Or.inl ⟨by rfl, ?_⟩) (by assumption) ?_
  rotate_left
  · intro w hSw
    try dsimp only at hSw
    go_simp
    all_goals with_reducible rfl
  try simp only [Act.put, List.setIfInBounds_toArray, List.set_cons_zero, List.set_cons_succ]
  refine wpAnyH_ready (rs := [4]) (by kernel_rfl) (by simp) ?_
  refine AllReadyH.cons (atL (atS (atS (atS (atS atZ))))) (fun K hK => ?_) AllReadyH.nil
  go_simp
  go_at_call 26
  (with_reducible refine (cA _ hHeld.1).mono ?_)
  rintro e w6 ⟨rfl, hb6⟩
  refine hK.out _ _ ?_ (fun hHeld => ?_)
  · exact HK.out _ hb6
  clear hK K
  try simp only [Act.put, List.setIfInBounds_toArray, List.set_cons_zero, List.set_cons_succ]
  refine wpAnyH_ready (rs := [7]) (by kernel_rfl) (by simp) ?_
  refine AllReadyH.cons (atL (atS (atS (atS (atS (atS (atS (atS atZ)))))))) (fun K hK => ?_) AllReadyH.nil
  go_simp
  go_at_call 27
  (with_reducible refine (cB _ hb6).mono ?_)
  rintro e w7 ⟨rfl, hb7⟩
  refine hK.out _ _ ?_ (fun hHeld => ?_)
  · exact HK.out _ hb7
  clear hK K
  try simp only [Act.put, List.setIfInBounds_toArray, List.set_cons_zero, List.set_cons_succ]
  refine wpAnyH_take (i := 8) (v := ?_) (atL (atS (atS (atS (atS (atS (atS (atS (atS atZ))))))))) (by kernel_rfl) (by kernel_rfl) (by kernel_rfl) (fun _ _ _ h => h) (Or.inl ⟨by rfl, ?_⟩) (by assumption) ?_
  rotate_left
  · intro w hSw
    try dsimp only at hSw
    go_simp
    all_goals with_reducible rfl
  try simp only [Act.put, List.setIfInBounds_toArray, List.set_cons_zero, List.set_cons_succ]
  refine wpAnyH_take (i := 9) (v := ?_) (atL (atS (atS (atS (atS (atS (atS (atS (atS (atS atZ)))))))))) (by kernel_rfl) (by kernel_rfl) (by kernel_rfl) (fun _ _ _ h => h) (Or.inl ⟨by rfl, ?_⟩) (by assumption) ?_
  rotate_left
  · intro w hSw
    try dsimp only at hSw
    go_simp
    all_goals with_reducible rfl
  try simp only [Act.put, List.setIfInBounds_toArray, List.set_cons_zero, List.set_cons_succ]
  refine wpAnyH_take (i := 10) (v := ?_) (atL (atS (atS (atS (atS (atS (atS (atS (atS (atS (atS atZ))))))))))) (by kernel_rfl) (by kernel_rfl) (by kernel_rfl) (fun _ _ _ h => h) (Or.inl ⟨by rfl, ?_⟩) (by assumption) ?_
  rotate_left
  · intro w hSw
    try dsimp only at hSw
    go_simp
    all_goals with_reducible rfl
  try simp only [Act.put, List.setIfInBounds_toArray, List.set_cons_zero, List.set_cons_succ]
  refine wpAnyH_done (by kernel_rfl) ?_ _
  go_wp2_with (fail)
  exact bodyPost_ret (v := .bool true) (by simp [results, Try.results6, go_sem]; try rfl) rfl ⟨rfl, hbw3.trans (hb7.mono hbw3.size)⟩
end Go.Proofs.Ytkdfobnkebkpfaa

/- The row RegexMatches: for every input: any expression, any text: Match is the document's: the law answers true and changes nothing that was there; no premise beyond the row's own. -/
namespace Go.Proofs.Ytkdfobnkebkpfaa
open Go.ChangeShapes Go.WideShapes Go.ChangeAt Go.RowKit

set_option maxRecDepth 100000 in
theorem open_u8 {H : Type} {enc : TypeId × Value → H} {W : World} {v : Value} {d : DataW H} {ps : List MemPlace} (hok : Value.okWide Try.prog W .any 0 5 v) (h : DataW.Trod enc Try.prog W 0 (fun _ => true) true 5 v d ps) :
    ∃ n : Nat, n < 256 ∧ v = .int .u8 (n : Int) := by
  obtain ⟨k, rfl, _, _, w0⟩ := open_int Try.underlying5 hok h
  simp [Lit.wf, IntKind.min, IntKind.max, IntKind.signed, IntKind.bits] at w0
  exact ⟨k.toNat, by omega, by congr 1; omega⟩

set_option maxRecDepth 100000 in
theorem regexMatches_lifted (os : Os) (started : os.Started) (H : Type) (enc : TypeId × Value → H) :
    ReturnsInHanded {} Try.checked os 6 .any (Rows.regexMatchesSpec.pre6 enc Try.prog Try.f6 Rows.regexMatchesRow.domain false) (Rows.regexMatchesSpec.post enc Try.prog Try.f6 false true false false) := by
  refine returnsInHanded_of_change (C := Try.checked) Try.own started (by kernel_rfl) Try.func6
    (ChangeSpec.witness6 (enc := enc) (C := Try.checked) false ⟨#[], #[.agg #[.int .i64 0, .slice none 0 0, .slice none 0 0], .string ⟨#[]⟩], []⟩ 8 (by kernel_rfl) (by kernel_rfl) (by kernel_rfl) (by kernel_rfl)) ?_
  intro W base args ds gs before hval0 hW _ _
  have hval : ∀ (j : Nat) t v, Try.f6.params[j]? = some t → args[j]? = some v → Value.okWide Try.prog W .any base t v := hval0
  have hW' := hW
  obtain ⟨p, q, hA0, hV, rfl, hfz, hnd⟩ := hW
  have hA : DataW.TrodAll enc Try.prog W 0 (fun _ => true) true Try.f6.params.toList args.toList ds p := hA0
  rw [Try.params6] at hA hval
  obtain ⟨v0, v1, d0, d1, p0, p1, rfl, rfl, rfl, h0, h1⟩ := trodAll_two hA
  obtain ⟨h, sa, sc, a, cap, kids, rfl, hs, hI⟩ := open_re (hval 0 25 v0 rfl rfl) h0
  obtain ⟨s, rfl, _⟩ := open_str (hval 1 9 v1 rfl rfl) h1
  refine (regexMatches_any ⟨⟨h, kids⟩, sa, sc, a, cap⟩ s W hs hI).mono fun e W' ⟨he, hw⟩ => ?_
  subst he
  exact ⟨_, rfl, law_post hW' rfl rfl (by kernel_rfl) (by rw [Try.params6]; intro t ht; simp at ht; rcases ht with rfl | rfl; exact ⟨by kernel_rfl, of_decide_eq_true (by kernel_rfl)⟩; exact ⟨by kernel_rfl, of_decide_eq_true (by kernel_rfl)⟩) hw⟩

theorem regexMatches_holds : Rows.RegexMatchesSaid :=
  OpenClaim.holds_of_wide 6 Try.f6 rfl rfl rfl rfl rfl rfl rfl ⟨rfl, rfl, rfl, rfl, rfl⟩ rfl rfl rfl rfl rfl (by kernel_rfl) Try.func6 (by kernel_rfl)
    (of_decide_eq_true (by kernel_rfl)) (by unfold Func.isWrapper; first | (rw [if_pos (by decide +kernel)]; kernel_rfl) | (rw [if_neg (by decide +kernel)]; exact ⟨rfl, rfl⟩))
    (fun os started H enc _ => regexMatches_lifted os started H enc)
end Go.Proofs.Ytkdfobnkebkpfaa
