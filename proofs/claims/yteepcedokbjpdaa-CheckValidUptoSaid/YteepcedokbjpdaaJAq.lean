/- The row CheckBack in its second form: for every grammar and tokens whose reading is of bulk at most 1048576: the law answers true and changes nothing that was there. -/
/- The row CheckFlaws in its second form: for every grammar and tokens whose reading is of bulk at most 1048576: the law answers true and changes nothing that was there. -/
/- Texts joined: Iy PFl Iz Ka PBk Kb. -/
import Derived.Test.YteepcedokbjpdaaJAp
import Derived.Test.YteepcedokbjpdaaJAf
import Derived.Test.YteepcedokbjpdaaJAc
set_option linter.unusedVariables false
set_option linter.unusedSimpArgs false
namespace Go.Proofs.Yteepcedokbjpdaa
open Go.RowKit Go.Maps

attribute [local go_sem] Oper.semAt_some

theorem names_szR (rs : List RlD) : (namesR (grP rs)).length ≤ szR rs := by
  rw [namesR_flat]
  induction rs with
  | nil => simp
  | cons r rs ih =>
    have e : szR (r :: rs) = (r.ds.length + szA r.ds) + szR rs := by simp [szR]
    have e2 : (flat r.ds).length = szA r.ds := by simp [flat, szA, List.length_flatten, List.map_map]; rfl
    rw [List.flatMap_cons, List.length_append, e, e2]
    omega
theorem refFlaws_any2 (rs : List RlD) (a : Option Addr) (cap : Nat) (ts : List ByteArray) (ta : Option Addr) (tc : Nat) (w : World) (hl : Rls w a cap rs) (ht : Nms w ta tc ts) (hfew : rs.length + ts.length + szR rs ≤ 1000) :
    Calls Try.prog 13 #[.agg #[.slice a rs.length cap], .slice ta ts.length tc] w (FlawQ w (FLW rs ts)) := by
  have := names_szR rs
  refine (refFlaws_any rs a cap ts ta tc w hl ht (by omega) (by omega) (by omega)).mono ?_
  rintro e w' ⟨a', c', o, hO, rfl, h, hb⟩
  rw [flawsP_is hO] at h ⊢
  exact ⟨a', c', rfl, h, hb⟩

set_option maxRecDepth 100000 in
set_option maxHeartbeats 4000000 in
theorem lawFlaws_any (rs : List RlD) (a : Option Addr) (cap : Nat) (ts : List ByteArray) (ta : Option Addr) (tc : Nat) (w : World) (hl : Rls w a cap rs) (ht : Nms w ta tc ts) (hf : FitG rs ts) (hfew : rs.length + ts.length + szR rs ≤ 1000000000000) :
    Calls Try.prog 3 #[.agg #[.slice a rs.length cap], .slice ta ts.length tc] w fun e w' => e = .returned (.bool true) ∧ Below w.heap.size w w' := by
  have hlm : rs.length ≤ cap ∧ cap ≤ 9223372036854775807 := ⟨hl.le, hl.max⟩
  have htm : ts.length ≤ tc ∧ tc ≤ 9223372036854775807 := ⟨by have := ht.le; rwa [List.length_map] at this, ht.max⟩
  have hA0 := Blk.new w 24 #[.slice a rs.length cap]
  have hb0 : Below w.heap.size w (w.alloc (.cells #[.slice a rs.length cap] 24)) := (Below.refl _ w).alloc (Nat.le_refl _) _
  have Hbig := Lib.hid (fun W (hb : Below w.heap.size w W) => big8_any rs a cap ts ta tc W (hl.grown hb) (ht.grown hb) hfew)
  have Hf1 := Lib.hid (fun (hs : rs.length + ts.length + szR rs ≤ 1000) W (hb : Below w.heap.size w W) => flaws_any rs a cap ts ta tc W (hl.grown hb) (ht.grown hb) hf hs)
  have Hf2 := Lib.hid (fun (hs : rs.length + ts.length + szR rs ≤ 1000) W (hb : Below w.heap.size w W) => refFlaws_any2 rs a cap ts ta tc W (hl.grown hb) (ht.grown hb) hs)
  obtain ⟨Z, hZ⟩ : ∃ q, Hid (decide (600 < rs.length + ts.length + szR rs) = q) := ⟨_, Lib.hid rfl⟩
  have hZs : Hid (Z = false → rs.length + ts.length + szR rs ≤ 1000) := Lib.hid (fun h => by
    have h1 := hZ.out.trans h
    rw [decide_eq_false_iff_not] at h1
    omega)
  obtain ⟨F, hF⟩ : ∃ q, Hid (FLW rs ts = q) := ⟨_, Lib.hid rfl⟩
  rw [hZ.out] at Hbig
  rw [hF.out] at Hf1 Hf2
  have Hg1 := Lib.hid (fun (h : Z = false) => Hf1.out (hZs.out h))
  have Hg2 := Lib.hid (fun (h : Z = false) => Hf2.out (hZs.out h))
  clear Hf1 Hf2 hZs hZ
  obtain ⟨L, HL⟩ : ∃ q, Hid (rs.length = q) := ⟨_, Lib.hid rfl⟩
  obtain ⟨M, HM⟩ : ∃ q, Hid (ts.length = q) := ⟨_, Lib.hid rfl⟩
  rw [HL.out] at hlm hA0 hb0 Hbig Hg1 Hg2 ⊢
  rw [HM.out] at htm Hbig Hg1 Hg2 ⊢
  have Hbig' : Hid (∀ W, Below w.heap.size w W → Calls Try.prog 10 #[.agg #[.slice a L cap], .slice ta M tc] W fun r w' => r = .returned (.bool Z) ∧ Below W.heap.size W w') := Hbig
  have Hg1' : Hid (Z = false → ∀ W, Below w.heap.size w W → Calls Try.prog 12 #[.agg #[.slice a L cap], .slice ta M tc] W (FlawQ W F)) := Hg1
  have Hg2' : Hid (Z = false → ∀ W, Below w.heap.size w W → Calls Try.prog 13 #[.agg #[.slice a L cap], .slice ta M tc] W (FlawQ W F)) := Hg2
  obtain ⟨x, hx⟩ : ∃ q, Hid (w.heap.size = q) := ⟨_, Lib.hid rfl⟩
  rw [hx.out] at Hbig' Hg1' Hg2' hb0 hA0 ⊢
  have hxs : x ≤ (w.alloc (.cells #[.slice a L cap] 24)).heap.size := by rw [← hx.out]; simp [go_sem]
  clear Hbig Hg1 Hg2 hl ht hf hfew HL HM hF
  go_enter Try.func3, Try.ntmps3
  go_wp2_with (fail)
  rw [hx.out]
  generalize hV : World.alloc w _ = V at hA0 hb0 hxs ⊢
  clear hV
  refine (live8_any V).mono ?_
  rintro e w1 ⟨rfl, hb1⟩
  have HA1 := Lib.hid (hA0.below hb1 hA0.lt)
  have Hb1 := Lib.hid (hb0.trans (hb1.mono hxs))
  have hx1 := Nat.le_trans hxs hb1.size
  clear hA0 hb0 hb1 hxs
  have x0 := HA1.out.cell 0
  have xl := HA1.out.lt
  simp only [List.getElem?_cons_zero] at x0
  go_wp2_with (fail)
  refine (Hbig'.out _ Hb1.out).mono ?_
  rintro e w2 ⟨rfl, hb2⟩
  have HA2 := Lib.hid (HA1.out.below hb2 HA1.out.lt)
  have Hb2 := Lib.hid (Hb1.out.trans (hb2.mono hx1))
  have hx2 := Nat.le_trans hx1 hb2.size
  clear hb2 HA1 Hb1 hx1 x0 xl Hbig'
  cases Z
  case true =>
    clear Hg1' Hg2' HA2
    go_wp2_with (fail)
    exact bodyPost_ret (v := .bool true) (by simp [results, Try.results3, go_sem]; try first | rfl | assumption | omega) rfl ⟨rfl, Hb2.out⟩
  case false =>
  have HS0 : Hid (w2.cell? ⟨x, 0, none⟩ = some (.slice a L cap)) := Lib.hid (by simpa using HA2.out.cell 0)
  have Hd2 := Lib.hid (Hb2.out.drew)
  have hx2d : x ≤ w2.drew.heap.size := hx2
  have HS0d : Hid (w2.drew.cell? ⟨x, 0, none⟩ = some (.slice a L cap)) := HS0
  have G1 := Lib.hid (Hg1'.out rfl)
  have G2 := Lib.hid (Hg2'.out rfl)
  clear Hg1' Hg2' HA2
  go_wp2_with (fail)
  refine wp_region_held_drew (S := fun w' => w'.cell? ⟨x, 0, none⟩ = some (.slice a L cap)) (by kernel_rfl) ?_ (fun hHeld => ?_)
  · exact HS0.out
  refine wpAnyH_take (i := 0) (v := ?_) (iatLS iatZS) (by kernel_rfl) (by kernel_rfl) (by kernel_rfl) (fun _ _ _ h => h) (Or.inl ⟨by rfl, ?_⟩) (by assumption) ?_
  rotate_left
  · intro w hSw
    try dsimp only at hSw
    go_simp
    all_goals with_reducible rfl
  try simp only [Act.put, List.setIfInBounds_toArray, List.set_cons_zero, List.set_cons_succ]
  refine wpAnyH_take (i := 1) (v := ?_) (iatLS (iatSS iatZS)) (by kernel_rfl) (by kernel_rfl) (by kernel_rfl) (fun _ _ _ h => h) (Or.inl ⟨by rfl, ?_⟩) (by assumption) ?_
  rotate_left
  · intro w hSw
    try dsimp only at hSw
    go_simp
    all_goals with_reducible rfl
  try simp only [Act.put, List.setIfInBounds_toArray, List.set_cons_zero, List.set_cons_succ]
  refine wpAnyH_take (i := 2) (v := ?_) (iatLS (iatSS (iatSS iatZS))) (by kernel_rfl) (by kernel_rfl) (by kernel_rfl) (fun _ _ _ h => h) (Or.inl ⟨by rfl, ?_⟩) (by assumption) ?_
  rotate_left
  · intro w hSw
    try dsimp only at hSw
    go_simp
    all_goals with_reducible rfl
  try simp only [Act.put, List.setIfInBounds_toArray, List.set_cons_zero, List.set_cons_succ]
  refine wpAnyH_take (i := 3) (v := ?_) (iatLS (iatSS (iatSS (iatSS iatZS)))) (by kernel_rfl) (by kernel_rfl) (by kernel_rfl) (fun _ _ _ h => h) (Or.inl ⟨by rfl, ?_⟩) (by assumption) ?_
  rotate_left
  · intro w hSw
    try dsimp only at hSw
    go_simp
    all_goals with_reducible rfl
  try simp only [Act.put, List.setIfInBounds_toArray, List.set_cons_zero, List.set_cons_succ]
  refine wpAnyH_take (i := 5) (v := ?_) (iatLS (iatSS (iatSS (iatSS (iatSS (iatSS iatZS)))))) (by kernel_rfl) (by kernel_rfl) (by kernel_rfl) (fun _ _ _ h => h) (Or.inl ⟨by rfl, ?_⟩) (by assumption) ?_
  rotate_left
  · intro w hSw
    try dsimp only at hSw
    go_simp
    all_goals with_reducible rfl
  try simp only [Act.put, List.setIfInBounds_toArray, List.set_cons_zero, List.set_cons_succ]
  refine wpAnyH_take (i := 6) (v := ?_) (iatLS (iatSS (iatSS (iatSS (iatSS (iatSS (iatSS iatZS))))))) (by kernel_rfl) (by kernel_rfl) (by kernel_rfl) (fun _ _ _ h => h) (Or.inl ⟨by rfl, ?_⟩) (by assumption) ?_
  rotate_left
  · intro w hSw
    try dsimp only at hSw
    go_simp
    all_goals with_reducible rfl
  try simp only [Act.put, List.setIfInBounds_toArray, List.set_cons_zero, List.set_cons_succ]
  refine wpAnyH_ready (rs := [4]) (by kernel_rfl) (by simp) ?_
  refine AllReadyH.cons (iatLS (iatSS (iatSS (iatSS (iatSS iatZS))))) (fun K hK => ?_) AllReadyH.nil
  go_simp
  refine (G1.out _ Hd2.out).mono ?_
  rintro e w3 ⟨ya, yc, rfl, hy, hb3⟩
  have HS3 : Hid (w3.cell? ⟨x, 0, none⟩ = some (.slice a L cap)) := Lib.hid (cell_up hb3 HS0d.out)
  have Hb3 := Lib.hid (Hd2.out.trans (hb3.mono hx2d))
  have hx3 := Nat.le_trans hx2d hb3.size
  refine hK.out _ _ ?_ (fun hHeld => ?_)
  · exact HS3.out
  clear hK K
  try simp only [Act.put, List.setIfInBounds_toArray, List.set_cons_zero, List.set_cons_succ]
  refine wpAnyH_ready (rs := [7]) (by kernel_rfl) (by simp) ?_
  refine AllReadyH.cons (iatLS (iatSS (iatSS (iatSS (iatSS (iatSS (iatSS (iatSS iatZS)))))))) (fun K hK => ?_) AllReadyH.nil
  go_simp
  refine (G2.out _ Hb3.out).mono ?_
  rintro e w4 ⟨za, zc, rfl, hz, hb4⟩
  have HS4 : Hid (w4.cell? ⟨x, 0, none⟩ = some (.slice a L cap)) := Lib.hid (cell_up hb4 HS3.out)
  have Hb4 := Lib.hid (Hb3.out.trans (hb4.mono hx3))
  have hx4 := Nat.le_trans hx3 hb4.size
  have HY := Lib.hid (own_fls (World.ownsRow.kept hy (below_grownBy hb4 none) (by cases h : (Value.slice ya F.length yc).ownBlock <;> simp)))
  have HZ := Lib.hid (own_fls hz)
  clear hy hz hb3 hb4
  refine hK.out _ _ ?_ (fun hHeld => ?_)
  · exact HS4.out
  clear hK K
  try simp only [Act.put, List.setIfInBounds_toArray, List.set_cons_zero, List.set_cons_succ]
  refine wpAnyH_ready (rs := [8]) (by kernel_rfl) (by simp) ?_
  refine AllReadyH.cons (iatLS (iatSS (iatSS (iatSS (iatSS (iatSS (iatSS (iatSS (iatSS iatZS))))))))) (fun K hK => ?_) AllReadyH.nil
  go_simp
  refine (sameFlaws_any _ _ _ _ F F _ HY.out HZ.out).mono ?_
  rintro e w5 ⟨rfl, hb5⟩
  rw [decide_eq_true (rfl : F = F)]
  have HS5 : Hid (w5.cell? ⟨x, 0, none⟩ = some (.slice a L cap)) := Lib.hid (cell_up hb5 HS4.out)
  have Hb5 := Lib.hid (Hb4.out.trans (hb5.mono hx4))
  refine hK.out _ _ ?_ (fun hHeld => ?_)
  · exact HS5.out
  clear hK K
  try simp only [Act.put, List.setIfInBounds_toArray, List.set_cons_zero, List.set_cons_succ]
  refine wpAnyH_take (i := 9) (v := ?_) (iatLS (iatSS (iatSS (iatSS (iatSS (iatSS (iatSS (iatSS (iatSS (iatSS iatZS)))))))))) (by kernel_rfl) (by kernel_rfl) (by kernel_rfl) (fun _ _ _ h => h) (Or.inl ⟨by rfl, ?_⟩) (by assumption) ?_
  rotate_left
  · intro w hSw
    try dsimp only at hSw
    go_simp
    all_goals with_reducible rfl
  try simp only [Act.put, List.setIfInBounds_toArray, List.set_cons_zero, List.set_cons_succ]
  refine wpAnyH_ready (rs := [10]) (by kernel_rfl) (by simp) ?_
  refine AllReadyH.cons (iatLS (iatSS (iatSS (iatSS (iatSS (iatSS (iatSS (iatSS (iatSS (iatSS (iatSS iatZS))))))))))) (fun K hK => ?_) AllReadyH.nil
  go_simp
  refine hK.out _ _ ?_ (fun hHeld => ?_)
  · exact HS5.out
  clear hK K
  try simp only [Act.put, List.setIfInBounds_toArray, List.set_cons_zero, List.set_cons_succ]
  refine wpAnyH_done (by kernel_rfl) ?_ _
  go_wp2_with (fail)
  exact bodyPost_ret (v := .bool true) (by simp [results, Try.results3, go_sem]; try first | rfl | assumption | omega) rfl ⟨rfl, Hb5.out⟩
end Go.Proofs.Yteepcedokbjpdaa

namespace Go.Proofs.Yteepcedokbjpdaa
open Go.ChangeShapes Go.WideShapes Go.ChangeAt Go.RowKit

set_option maxRecDepth 100000 in
theorem checkFlaws_contract (H : Type) (enc : TypeId × Value → H) (W : World) (args : Array Value) (ds gs : List (DataW H)) (before : List MemPlace)
    (hval : ∀ (j : Nat) t v, Try.f3.params[j]? = some t → args[j]? = some v → Value.okWide Try.prog W .any 0 t v)
    (hW : DataW.Whole enc Try.prog Try.f3.params.toList Rows.checkFlawsSpec.vars false W args.toList ds gs before) (hk : Rows.uptoSmall H (ds ++ gs) = true) :
    Calls Try.prog 3 args W fun e W' => ∃ v, e = .returned v ∧ Rows.checkFlawsSpec.post enc Try.prog Try.f3 false true false false W args v W' := by
  have hW' := hW
  obtain ⟨p, q, hA0, hV, rfl, hfz, hnd⟩ := hW
  have hA : DataW.TrodAll enc Try.prog W 0 (fun _ => true) true Try.f3.params.toList args.toList ds p := hA0
  rw [Try.params3] at hA hval
  obtain ⟨v0, v1, d0, d1, p0, p1, rfl, rfl, rfl, h0, h1⟩ := trodAll_two hA
  have hb : Rows.uptoBulkAll ([d0, d1] ++ gs) ≤ 1048576 := of_decide_eq_true hk
  simp only [List.cons_append, List.nil_append, Rows.uptoBulkAll] at hb
  obtain ⟨a, cap, l, rfl, hl, hf, hz⟩ := open_gram2 (hval 0 24 v0 rfl rfl) h0
  obtain ⟨ta, tc, ts, rfl, ht, hg, hy⟩ := open_toks2 (hval 1 25 v1 rfl rfl) h1
  refine (lawFlaws_any l a cap ts ta tc W hl ht ⟨hf.rules, hg, hf.alts⟩ (by omega)).mono fun e W' ⟨he, hw⟩ => ?_
  subst he
  exact ⟨_, rfl, law_post hW' rfl rfl (by kernel_rfl) (by rw [Try.params3]; intro t ht; simp at ht; rcases ht with rfl | rfl <;> exact ⟨by kernel_rfl, of_decide_eq_true (by kernel_rfl)⟩) hw⟩

set_option maxRecDepth 100000 in
theorem checkFlaws_lifted (os : Os) (started : os.Started) (H : Type) (enc : TypeId × Value → H) (F : Stop.Interp) :
    ReturnsInHanded {} Try.checked os 3 .any ((Rows.OpenSpec.upto Rows.checkFlawsSpec).pre6 enc Try.prog Try.f3 Rows.checkFlawsUptoRow.domain false) (((Rows.OpenSpec.upto Rows.checkFlawsSpec).at F).post enc Try.prog Try.f3 false true false false) := by
  refine returnsInHanded_of_cond (C := Try.checked) (s := Rows.OpenSpec.upto Rows.checkFlawsSpec) (k := Rows.uptoSmall) rfl Try.own started (by kernel_rfl) Try.func3
    (OpenSpec.witness (enc := enc) (C := Try.checked) (s := Rows.OpenSpec.upto Rows.checkFlawsSpec) (k := Rows.uptoSmall) rfl false ⟨#[], #[.agg #[.slice none 0 0], .slice none 0 0], []⟩ 8 (by kernel_rfl) (by kernel_rfl) (by kernel_rfl)
      (x := ([.agg [.nil], .nil], [], [])) (by kernel_rfl) rfl (by kernel_rfl)) ?_
  intro W base args ds gs before hval hW _ hk _
  exact checkFlaws_contract H enc W args ds gs before hval hW hk

theorem checkFlaws_holds : Rows.CheckFlawsUptoSaid :=
  OpenClaim.holds_of_cond 3 Try.f3 rfl rfl rfl rfl rfl rfl rfl ⟨rfl, rfl, rfl, rfl, rfl⟩ rfl rfl rfl rfl rfl (by kernel_rfl) Try.func3 (by kernel_rfl)
    (of_decide_eq_true (by kernel_rfl)) (by unfold Func.isWrapper; first | (rw [if_pos (by decide +kernel)]; kernel_rfl) | (rw [if_neg (by decide +kernel)]; exact ⟨rfl, rfl⟩))
    (fun os started H enc _ F => checkFlaws_lifted os started H enc F)
end Go.Proofs.Yteepcedokbjpdaa

namespace Go.Proofs.Yteepcedokbjpdaa
open Go.RowKit

theorem lay_nil {o : List Fl} {x : Fl} (h : layP o x = []) : False := by
  unfold layP at h
  split at h
  · next hm => rw [h] at hm; simp [memF] at hm
  · simp at h
theorem unkS_nil {ts names o : List _} {n : ByteArray} (h : unkS ts names o n = []) : o = [] ∧ (n ∈ names ∨ n ∈ ts) := by
  unfold unkS at h
  split at h
  · exact (lay_nil h).elim
  · next hc =>
    refine ⟨h, ?_⟩
    simp only [Bool.and_eq_true, Bool.not_eq_true', not_and, Bool.not_eq_false] at hc
    by_cases hn : n ∈ names
    · exact .inl hn
    · refine .inr (mem_iff.1 (hc ?_))
      rw [Bool.eq_false_iff]
      exact fun e => hn (mem_iff.1 e)
theorem unkA_nil (ts names : List ByteArray) : ∀ (l : List ByteArray) (o : List Fl), unkA ts names l o = [] → o = [] ∧ ∀ n ∈ l, n ∈ names ∨ n ∈ ts
  | [], o, h => ⟨h, fun n hn => by cases hn⟩
  | m :: l, o, h => by
    obtain ⟨h1, h2⟩ := unkA_nil ts names l (unkS ts names o m) h
    obtain ⟨h3, h4⟩ := unkS_nil h1
    refine ⟨h3, fun n hn => ?_⟩
    rcases List.mem_cons.1 hn with rfl | hn
    · exact h4
    · exact h2 n hn
theorem unkAs_nil (ts names : List ByteArray) : ∀ (al : List (List ByteArray)) (o : List Fl), unkAs ts names al o = [] → o = [] ∧ ∀ a ∈ al, ∀ n ∈ a, n ∈ names ∨ n ∈ ts
  | [], o, h => ⟨h, fun n hn => by cases hn⟩
  | m :: l, o, h => by
    obtain ⟨h1, h2⟩ := unkAs_nil ts names l (unkA ts names m o) h
    obtain ⟨h3, h4⟩ := unkA_nil ts names m o h1
    refine ⟨h3, fun n hn => ?_⟩
    rcases List.mem_cons.1 hn with rfl | hn
    · exact h4
    · exact h2 n hn
theorem unkP_nil (ts names : List ByteArray) : ∀ (rs : List Rl) (o : List Fl), unkP ts names rs o = [] → o = [] ∧ ∀ r ∈ rs, ∀ a ∈ r.2, ∀ n ∈ a, n ∈ names ∨ n ∈ ts
  | [], o, h => ⟨h, fun n hn => by cases hn⟩
  | m :: l, o, h => by
    obtain ⟨h1, h2⟩ := unkP_nil ts names l (unkAs ts names m.2 o) h
    obtain ⟨h3, h4⟩ := unkAs_nil ts names m.2 o h1
    refine ⟨h3, fun n hn => ?_⟩
    rcases List.mem_cons.1 hn with rfl | hn
    · exact h4
    · exact h2 n hn
theorem restM_nil (kd : Int) (m : ByteArray → Bool) : ∀ (l : List ByteArray) (o : List Fl), restM kd m l o = [] → o = []
  | [], o, h => h
  | n :: l, o, h => by
    have h1 := restM_nil kd m l (if (!m n) = true then layP o (kd, n) else o) h
    split at h1
    · exact (lay_nil h1).elim
    · exact h1
/-- No flaws: each name is a rule's or a token. -/
theorem flw_known {rs : List RlD} {ts : List ByteArray} (h : FLW rs ts = []) : ∀ r ∈ rs, ∀ d ∈ r.ds, ∀ n ∈ d.l, n ∈ rs.map RlD.n ∨ n ∈ ts := by
  unfold FLW at h
  have h1 := (unkP_nil _ _ _ _ (restM_nil _ _ _ _ (restM_nil _ _ _ _ h))).2
  intro r hr d hd n hn
  exact h1 r.p (by unfold grP; exact List.mem_map.2 ⟨r, hr, rfl⟩) d.l (List.mem_map.2 ⟨d, hd, rfl⟩) n hn
theorem tkN_ok (ts : List ByteArray) (t : ByteArray) : ∀ k, k ≤ ts.length → (∃ i, i < k ∧ ts[i]? = some t) → ∃ j, j < k ∧ tkN ts k t = (j : Int) ∧ ts[j]? = some t
  | 0, _, ⟨i, hi, _⟩ => absurd hi (by omega)
  | k + 1, hk, ⟨i, hi, he⟩ => by
    have hs : ts[k]? = some ts[k] := List.getElem?_eq_getElem (by omega)
    have e : tkN ts (k + 1) t = if t = ts[k] then (k : Int) else tkN ts k t := by
      show (match ts[k]? with | some s => fun t => if t = s then (k : Int) else tkN ts k t | none => tkN ts k) t = _
      rw [hs]
    by_cases ht : t = ts[k]
    · exact ⟨k, by omega, by rw [e, if_pos ht], by rw [hs, ht]⟩
    · have hik : i ≠ k := fun h => by subst h; rw [hs] at he; exact ht (Option.some.inj he).symm
      obtain ⟨j, hj, h1, h2⟩ := tkN_ok ts t k (by omega) ⟨i, by omega, he⟩
      exact ⟨j, by omega, by rw [e, if_neg ht, h1], h2⟩
theorem rlN_step (ts names : List ByteArray) (t : ByteArray) (k : Nat) (hk : k < names.length) : rlN ts names (k + 1) t = if t = names[k] then -1 - (k : Int) else rlN ts names k t := by
  have hs : names[k]? = some names[k] := List.getElem?_eq_getElem hk
  show (match names[k]? with | some s => fun t => if t = s then -1 - (k : Int) else rlN ts names k t | none => rlN ts names k) t = _
  rw [hs]
theorem rlN_ok (ts names : List ByteArray) (t : ByteArray) : ∀ k, k ≤ names.length → (∃ i, i < k ∧ names[i]? = some t) → ∃ j, j < k ∧ rlN ts names k t = -1 - (j : Int) ∧ names[j]? = some t
  | 0, _, ⟨i, hi, _⟩ => absurd hi (by omega)
  | k + 1, hk, ⟨i, hi, he⟩ => by
    have hs : names[k]? = some names[k] := List.getElem?_eq_getElem (by omega)
    have e := rlN_step ts names t k (by omega)
    by_cases ht : t = names[k]
    · exact ⟨k, by omega, by rw [e, if_pos ht], by rw [hs, ht]⟩
    · have hik : i ≠ k := fun h => by subst h; rw [hs] at he; exact ht (Option.some.inj he).symm
      obtain ⟨j, hj, h1, h2⟩ := rlN_ok ts names t k (by omega) ⟨i, by omega, he⟩
      exact ⟨j, by omega, by rw [e, if_neg ht, h1], h2⟩
theorem rlN_tk (ts names : List ByteArray) (t : ByteArray) (ht : t ∉ names) : ∀ k, k ≤ names.length → rlN ts names k t = tkN ts ts.length t
  | 0, _ => rfl
  | k + 1, hk => by
    rw [rlN_step ts names t k (by omega), if_neg (fun e => ht (by rw [e]; exact List.getElem_mem _)), rlN_tk ts names t ht k (by omega)]
/-- A known name's number: it may be, and its name is the name. -/
theorem rl_name {ts names : List ByteArray} {t : ByteArray} (h : t ∈ names ∨ t ∈ ts) : okN ts.length names.length (rlN ts names names.length t) = true ∧ nmP ts names (rlN ts names names.length t) = t := by
  by_cases hn : t ∈ names
  · obtain ⟨i, hi, he⟩ := List.getElem_of_mem hn
    obtain ⟨j, hj, h1, h2⟩ := rlN_ok ts names t names.length (Nat.le_refl _) ⟨i, hi, by rw [List.getElem?_eq_getElem hi, he]⟩
    rw [h1]
    refine ⟨okN_iff.2 ⟨by omega, by omega⟩, ?_⟩
    unfold nmP
    rw [if_pos (by omega), show (-1 - (-1 - (j : Int))).toNat = j by omega, List.getD_eq_getElem?_getD, h2]
    rfl
  · have ht : t ∈ ts := h.resolve_left hn
    obtain ⟨i, hi, he⟩ := List.getElem_of_mem ht
    obtain ⟨j, hj, h1, h2⟩ := tkN_ok ts t ts.length (Nat.le_refl _) ⟨i, hi, by rw [List.getElem?_eq_getElem hi, he]⟩
    rw [rlN_tk ts names t hn _ (Nat.le_refl _), h1]
    refine ⟨okN_iff.2 ⟨by omega, by omega⟩, ?_⟩
    unfold nmP
    rw [if_neg (by omega), show ((j : Int)).toNat = j by omega, List.getD_eq_getElem?_getD, h2]
    rfl
theorem backR_num (ts ns : List ByteArray) (m : ByteArray → Int) : ∀ (l : List RlD), (∀ r ∈ l, ∀ d ∈ r.ds, ∀ n ∈ d.l, nmP ts ns (m n) = n) → backR ts ns (l.map RlD.n) (l.map (fun r => r.ds.map (fun d => d.l.map m))) = grP l
  | [], _ => rfl
  | r :: l, h => by
    have ih := backR_num ts ns m l (fun r hr => h r (List.mem_cons_of_mem _ hr))
    have h1 : (r.ds.map (fun d => d.l.map m)).map (fun x => x.map (nmP ts ns)) = r.ds.map AltD.l := by
      rw [List.map_map]
      refine List.map_congr_left (fun d hd => ?_)
      show (d.l.map m).map (nmP ts ns) = d.l
      rw [List.map_map]
      exact (List.map_congr_left (fun n hn => h r (List.mem_cons_self ..) d hd n hn)).trans (List.map_id _)
    show (r.n, (r.ds.map (fun d => d.l.map m)).map (fun x => x.map (nmP ts ns))) :: backR ts ns (l.map RlD.n) (l.map (fun r => r.ds.map (fun d => d.l.map m))) = r.p :: grP l
    rw [h1, ih]
    rfl
theorem numE_flw {rs : List RlD} {ts : List ByteArray} (h : numE rs ts = 0) : FLW rs ts = [] := by
  unfold numE at h
  split at h
  · split at h
    · split at h
      · next h1 => exact List.length_eq_zero_iff.1 h1
      · cases h
    · next h1 => exact absurd h h1
  · next h1 => exact absurd h h1
theorem num_backE {rs : List RlD} {ts : List ByteArray} (h : numE rs ts = 0) : backE (numC rs ts) = 0 := by
  have hk := flw_known (numE_flw h)
  unfold backE numC
  rw [if_pos (by simp), if_pos ?_]
  unfold numsB
  simp only [List.all_eq_true, List.mem_map]
  rintro _ ⟨r, hr, rfl⟩ _ ha x hx
  obtain ⟨d, hd, rfl⟩ := List.mem_map.1 ha
  obtain ⟨n, hn, rfl⟩ := List.mem_map.1 hx
  have := (rl_name (hk r hr d hd n hn)).1
  rwa [List.length_map] at this ⊢
theorem num_backG {rs : List RlD} {ts : List ByteArray} (h : numE rs ts = 0) : backG (numC rs ts) = grP rs := by
  have hk := flw_known (numE_flw h)
  unfold backG numC
  refine backR_num ts _ _ rs (fun r hr d hd n hn => ?_)
  have := (rl_name (hk r hr d hd n hn)).2
  rwa [List.length_map] at this
theorem num_valid {rs : List RlD} {ts : List ByteArray} (h : numE rs ts = 0) : validE (numC rs ts) = 0 := by
  unfold validE
  rw [if_pos (num_backE h), num_backG h, numE_congr (grP_can (grP rs)), if_pos]
  exact h
theorem szC_num (m : ByteArray → Int) : ∀ rs : List RlD, szC (rs.map (fun r => r.ds.map (fun d => d.l.map m))) = szR rs
  | [] => rfl
  | r :: rs => by
    have ih := szC_num m rs
    unfold szC szR szA at *
    simp only [List.map_cons, List.sum_cons, List.map_map, List.length_map, Function.comp_def] at ih ⊢
theorem num_few {rs : List RlD} {ts : List ByteArray} {d : CfD} (hf : FitG rs ts) (hp : d.p = numC rs ts) (hs : rs.length + ts.length + szR rs ≤ 1000) : FewC d := by
  have h1 : d.toks = ts := congrArg CfP.toks hp
  have h2 : d.names = rs.map RlD.n := congrArg CfP.names hp
  have h3 : d.alts.map IrD.p = _ := congrArg CfP.alts hp
  refine ⟨?_, ?_, ?_⟩
  · rw [h3, h2, h1, List.length_map]
    show ts.length + rs.length + szC (rs.map _) ≤ 1000
    rw [szC_num]
    omega
  · rw [h1]; exact hf.toks
  · rw [h2]
    intro t ht
    obtain ⟨r, hr, rfl⟩ := List.mem_map.1 ht
    exact hf.rules r hr
end Go.Proofs.Yteepcedokbjpdaa

namespace Go.Proofs.Yteepcedokbjpdaa
open Go.RowKit Go.Maps

attribute [local go_sem] Oper.semAt_some

set_option maxRecDepth 100000 in
set_option maxHeartbeats 4000000 in
theorem lawBack_any (rs : List RlD) (a : Option Addr) (cap : Nat) (ts : List ByteArray) (ta : Option Addr) (tc : Nat) (w : World) (hl : Rls w a cap rs) (ht : Nms w ta tc ts) (hf : FitG rs ts) (hfew : rs.length + ts.length + szR rs ≤ 1000000000000) :
    Calls Try.prog 6 #[.agg #[.slice a rs.length cap], .slice ta ts.length tc] w fun e w' => e = .returned (.bool true) ∧ Below w.heap.size w w' := by
  have hlm : rs.length ≤ cap ∧ cap ≤ 9223372036854775807 := ⟨hl.le, hl.max⟩
  have htm : ts.length ≤ tc ∧ tc ≤ 9223372036854775807 := ⟨by have := ht.le; rwa [List.length_map] at this, ht.max⟩
  have hA0 := Blk.new w 24 #[.slice a rs.length cap]
  have hb0 : Below w.heap.size w (w.alloc (.cells #[.slice a rs.length cap] 24)) := (Below.refl _ w).alloc (Nat.le_refl _) _
  have Hbig := Lib.hid (fun W (hb : Below w.heap.size w W) => big8_any rs a cap ts ta tc W (hl.grown hb) (ht.grown hb) hfew)
  have Hf1 := Lib.hid (fun (hs : rs.length + ts.length + szR rs ≤ 1000) W (hb : Below w.heap.size w W) => flaws_any rs a cap ts ta tc W (hl.grown hb) (ht.grown hb) hf hs)
  have Hf2 := Lib.hid (fun (hs : rs.length + ts.length + szR rs ≤ 1000) W (hb : Below w.heap.size w W) => number_any rs a cap ts ta tc W (hl.grown hb) (ht.grown hb) hf hs)
  have Hsm := Lib.hid (fun W (hb : Below w.heap.size w W) ga gc gs (hg : Rls W ga gc gs) => refGSame_any a ga cap gc rs gs W (hl.grown hb) hg)
  have Hfw := Lib.hid (fun (hs : rs.length + ts.length + szR rs ≤ 1000) (d : CfD) (hp : d.p = numC rs ts) => num_few hf hp hs)
  obtain ⟨Z, hZ⟩ : ∃ q, Hid (decide (600 < rs.length + ts.length + szR rs) = q) := ⟨_, Lib.hid rfl⟩
  have hZs : Hid (Z = false → rs.length + ts.length + szR rs ≤ 1000) := Lib.hid (fun h => by
    have h1 := hZ.out.trans h
    rw [decide_eq_false_iff_not] at h1
    omega)
  obtain ⟨F, hF⟩ : ∃ q, Hid (FLW rs ts = q) := ⟨_, Lib.hid rfl⟩
  obtain ⟨NE, hNE⟩ : ∃ q, Hid (numE rs ts = q) := ⟨_, Lib.hid rfl⟩
  obtain ⟨C, hC⟩ : ∃ q, Hid (numC rs ts = q) := ⟨_, Lib.hid rfl⟩
  obtain ⟨G, hG⟩ : ∃ q, Hid (grP rs = q) := ⟨_, Lib.hid rfl⟩
  have hF0 : Hid (NE = 0 → F = []) := Lib.hid (fun h => by rw [← hF.out]; exact numE_flw (hNE.out.trans h))
  have hC0 : Hid (NE = 0 → backE C = 0 ∧ backG C = G ∧ validE C = 0) := Lib.hid (fun h => by
    have h0 := hNE.out.trans h
    rw [← hC.out, ← hG.out]
    exact ⟨num_backE h0, num_backG h0, num_valid h0⟩)
  rw [hZ.out] at Hbig
  rw [hF.out] at Hf1
  rw [hNE.out, hC.out] at Hf2
  rw [hC.out] at Hfw
  rw [hG.out] at Hsm
  have Hg1 := Lib.hid (fun (h : Z = false) => Hf1.out (hZs.out h))
  have Hg2 := Lib.hid (fun (h : Z = false) => Hf2.out (hZs.out h))
  have Hg3 := Lib.hid (fun (h : Z = false) => Hfw.out (hZs.out h))
  clear Hf1 Hf2 hZs hZ Hfw hC hNE hF hG
  obtain ⟨L, HL⟩ : ∃ q, Hid (rs.length = q) := ⟨_, Lib.hid rfl⟩
  obtain ⟨M, HM⟩ : ∃ q, Hid (ts.length = q) := ⟨_, Lib.hid rfl⟩
  rw [HL.out] at hlm hA0 hb0 Hbig Hg1 Hg2 Hsm ⊢
  rw [HM.out] at htm Hbig Hg1 Hg2 ⊢
  have Hbig' : Hid (∀ W, Below w.heap.size w W → Calls Try.prog 10 #[.agg #[.slice a L cap], .slice ta M tc] W fun r w' => r = .returned (.bool Z) ∧ Below W.heap.size W w') := Hbig
  have Hg1' : Hid (Z = false → ∀ W, Below w.heap.size w W → Calls Try.prog 12 #[.agg #[.slice a L cap], .slice ta M tc] W (FlawQ W F)) := Hg1
  have Hg2' : Hid (Z = false → ∀ W, Below w.heap.size w W → Calls Try.prog 14 #[.agg #[.slice a L cap], .slice ta M tc] W (NumQ W NE C)) := Hg2
  have Hg3' : Hid (Z = false → ∀ d : CfD, d.p = C → FewC d) := Hg3
  have Hsm' : Hid (∀ W, Below w.heap.size w W → ∀ (ga : Option Addr) (gc : Nat) (gs : List RlD), Rls W ga gc gs → Calls Try.prog 22 #[.agg #[.slice a L cap], .agg #[.slice ga gs.length gc]] W fun e w' => e = .returned (.bool (decide (G = grP gs))) ∧ Below W.heap.size W w') := Hsm
  obtain ⟨x, hx⟩ : ∃ q, Hid (w.heap.size = q) := ⟨_, Lib.hid rfl⟩
  rw [hx.out] at Hbig' Hg1' Hg2' Hsm' hb0 hA0 ⊢
  have hxs : x ≤ (w.alloc (.cells #[.slice a L cap] 24)).heap.size := by rw [← hx.out]; simp [go_sem]
  clear Hbig Hg1 Hg2 Hg3 Hsm hl ht hf hfew HL HM
  go_enter Try.func6, Try.ntmps6
  go_wp2_with (fail)
  rw [hx.out]
  generalize hV : World.alloc w _ = V at hA0 hb0 hxs ⊢
  clear hV
  refine (live8_any V).mono ?_
  rintro e w1 ⟨rfl, hb1⟩
  have HA1 := Lib.hid (hA0.below hb1 hA0.lt)
  have Hb1 := Lib.hid (hb0.trans (hb1.mono hxs))
  have hx1 := Nat.le_trans hxs hb1.size
  clear hA0 hb0 hb1 hxs
  have x0 := HA1.out.cell 0
  have xl := HA1.out.lt
  simp only [List.getElem?_cons_zero] at x0
  go_wp2_with (fail)
  refine (Hbig'.out _ Hb1.out).mono ?_
  rintro e w2 ⟨rfl, hb2⟩
  have HA2 := Lib.hid (HA1.out.below hb2 HA1.out.lt)
  have Hb2 := Lib.hid (Hb1.out.trans (hb2.mono hx1))
  have hx2 := Nat.le_trans hx1 hb2.size
  clear hb2 HA1 Hb1 hx1 x0 xl Hbig'
  cases Z
  case true =>
    clear Hg1' Hg2' Hg3' Hsm' hF0 hC0 HA2
    go_wp2_with (fail)
    exact bodyPost_ret (v := .bool true) (by simp [results, Try.results6, go_sem]; try first | rfl | assumption | omega) rfl ⟨rfl, Hb2.out⟩
  case false =>
  have G1 := Lib.hid (Hg1'.out rfl)
  have G2 := Lib.hid (Hg2'.out rfl)
  have G3 := Lib.hid (Hg3'.out rfl)
  clear Hg1' Hg2' Hg3'
  have x0 := HA2.out.cell 0
  have xl := HA2.out.lt
  simp only [List.getElem?_cons_zero] at x0
  go_wp2_with (fail)
  refine (G2.out _ Hb2.out).mono ?_
  rintro e w3 ⟨d, rfl, hd, hp, hb3⟩
  have HA3 := Lib.hid (HA2.out.below hb3 HA2.out.lt)
  have Hb3 := Lib.hid (Hb2.out.trans (hb3.mono hx2))
  have hx3 := Nat.le_trans hx2 hb3.size
  clear hb3 HA2 Hb2 hx2 x0 xl G2
  have hg4 : Below w3.heap.size w3 (w3.alloc (.cells #[.slice d.ta d.toks.length d.tc, .slice d.na d.names.length d.nc, .slice d.aa d.alts.length d.ac] 33)) := (Below.refl _ w3).alloc (Nat.le_refl _) _
  have hC4 := Blk.new w3 33 #[.slice d.ta d.toks.length d.tc, .slice d.na d.names.length d.nc, .slice d.aa d.alts.length d.ac]
  have HD4 := Lib.hid (hd.grown hg4)
  have HA4 := Lib.hid (HA3.out.below hg4 HA3.out.lt)
  have Hb4 := Lib.hid (Hb3.out.trans (hg4.mono hx3))
  have hx4 := Nat.le_trans hx3 hg4.size
  have hcl : x < w3.heap.size := HA3.out.lt
  clear hg4 hd HA3 Hb3 hx3
  by_cases h0 : NE = 0
  case neg =>
    rw [if_neg h0] at hp
    have hn : d.names.length = 0 := by
      have h := congrArg CfP.names hp
      exact List.length_eq_zero_iff.2 h
    have hne : (NE != 0) = true := by rw [bne_iff_ne]; exact h0
    unfold CfD.v
    rw [hn] at hC4 HA4 Hb4 HD4 hx4 ⊢
    have c0 := hC4.cell 0
    have c1 := hC4.cell 1
    have c2 := hC4.cell 2
    have cl := hC4.lt
    simp only [List.getElem?_cons_zero, List.getElem?_cons_succ] at c0 c1 c2
    clear h0 hp hn G1 G3 Hsm' hF0 hC0 hC4 HA4 HD4
    go_wp2_with (fail)
    exact bodyPost_ret (v := .bool true) (by simp [results, Try.results6, go_sem]; try first | rfl | assumption | omega) rfl ⟨rfl, Hb4.out⟩
  case pos =>
  have hne : (NE != 0) = false := by rw [h0]; rfl
  rw [if_pos h0] at hp
  obtain ⟨hC1, hC2, hC3⟩ := hC0.out h0
  have hF1 := hF0.out h0
  have Hfw := Lib.hid (G3.out d hp)
  have Hbk := Lib.hid (fun W (h : CfAt W d) => back_any d W h Hfw.out.hs)
  have Hva := Lib.hid (fun W (h : CfAt W d) => valid_any d W h Hfw.out)
  rw [hp, hC1, hC2] at Hbk
  rw [hp, hC3] at Hva
  rw [hF1] at G1
  have HC4 := Lib.hid hC4
  have Hh0 := Lib.hid h0
  obtain ⟨y, hy⟩ : ∃ q, Hid (w3.heap.size = q) := ⟨_, Lib.hid rfl⟩
  rw [hy.out] at HC4 hcl
  have c0 := hC4.cell 0
  have c1 := hC4.cell 1
  have c2 := hC4.cell 2
  have cl := hC4.lt
  simp only [List.getElem?_cons_zero, List.getElem?_cons_succ] at c0 c1 c2
  clear h0 hp G3 hF0 hC0 hC1 hC2 hC3 hF1 Hfw hC4
  go_wp2_with (fail)
  rw [hy.out]
  generalize hV : World.alloc w3 _ = W4 at HC4 HA4 HD4 Hb4 hx4 c0 c1 c2 cl ⊢
  clear hV c0 c1 c2 cl
  refine (Hbk.out _ HD4.out).mono ?_
  rintro e w5 ⟨gs, ga, gc, rfl, hgs, hgp, hb5⟩
  rw [if_pos rfl] at hgp
  clear Hbk
  have hg6 : Below w5.heap.size w5 (w5.alloc (.cells #[.slice ga gs.length gc] 24)) := (Below.refl _ w5).alloc (Nat.le_refl _) _
  have hE6 := Blk.new w5 24 #[.slice ga gs.length gc]
  have hb46 := hb5.trans (hg6.mono hb5.size)
  have HC6 := Lib.hid (HC4.out.below hb46 HC4.out.lt)
  have HA6 := Lib.hid (HA4.out.below hb46 HA4.out.lt)
  have HD6 := Lib.hid (HD4.out.grown hb46)
  have Hb6 := Lib.hid (Hb4.out.trans (hb46.mono hx4))
  have hx6 := Nat.le_trans hx4 hb46.size
  have Hgs6 := Lib.hid (hgs.grown hg6)
  have hdec : decide (G = grP gs) = true := decide_eq_true hgp.symm
  have Hs6 := Lib.hid (Hsm'.out _ Hb6.out ga gc gs Hgs6.out)
  rw [hdec] at Hs6
  obtain ⟨K, HK⟩ : ∃ q, Hid (gs.length = q) := ⟨_, Lib.hid rfl⟩
  rw [HK.out] at hE6 HC6 HA6 HD6 Hb6 hx6 Hs6 ⊢
  have x0 := HA6.out.cell 0
  have xl := HA6.out.lt
  have y0 := hE6.cell 0
  have yl := hE6.lt
  simp only [List.getElem?_cons_zero] at x0 y0
  clear hg6 hE6 hb46 HC4 HA4 HD4 Hb4 hx4 hgs hgp hdec Hsm' Hgs6 hb5
  go_wp2_with (fail)
  generalize hV : World.alloc w5 _ = W6 at HC6 HA6 HD6 Hb6 hx6 Hs6 x0 xl y0 yl ⊢
  clear hV
  refine Hs6.out.mono ?_
  rintro e w7 ⟨rfl, hb7⟩
  have HC7 := Lib.hid (HC6.out.below hb7 HC6.out.lt)
  have HA7 := Lib.hid (HA6.out.below hb7 HA6.out.lt)
  have HD7 := Lib.hid (HD6.out.grown hb7)
  have Hb7 := Lib.hid (Hb6.out.trans (hb7.mono hx6))
  have hx7 := Nat.le_trans hx6 hb7.size
  have c0 := HC7.out.cell 0
  have c1 := HC7.out.cell 1
  have c2 := HC7.out.cell 2
  have cl := HC7.out.lt
  simp only [List.getElem?_cons_zero, List.getElem?_cons_succ] at c0 c1 c2
  clear hb7 HC6 HA6 HD6 Hb6 hx6 Hs6 x0 xl y0 yl
  go_wp2_with (fail)
  refine (Hva.out _ HD7.out).mono ?_
  rintro e w8 ⟨rfl, hb8⟩
  have HA8 := Lib.hid (HA7.out.below hb8 HA7.out.lt)
  have Hb8 := Lib.hid (Hb7.out.trans (hb8.mono hx7))
  have hx8 := Nat.le_trans hx7 hb8.size
  have x0 := HA8.out.cell 0
  have xl := HA8.out.lt
  simp only [List.getElem?_cons_zero] at x0
  clear hb8 HC7 HA7 HD7 Hb7 hx7 c0 c1 c2 cl Hva
  go_wp2_with (fail)
  refine (G1.out _ Hb8.out).mono ?_
  rintro e w9 ⟨fa, fc, rfl, _, hb9⟩
  have Hb9 := Lib.hid (Hb8.out.trans (hb9.mono hx8))
  clear hb9 x0 xl
  go_wp2_with (fail)
  exact bodyPost_ret (v := .bool true) (by simp [results, Try.results6, go_sem]; try first | rfl | assumption | omega) rfl ⟨rfl, Hb9.out⟩
end Go.Proofs.Yteepcedokbjpdaa

namespace Go.Proofs.Yteepcedokbjpdaa
open Go.ChangeShapes Go.WideShapes Go.ChangeAt Go.RowKit

set_option maxRecDepth 100000 in
theorem checkBack_contract (H : Type) (enc : TypeId × Value → H) (W : World) (args : Array Value) (ds gs : List (DataW H)) (before : List MemPlace)
    (hval : ∀ (j : Nat) t v, Try.f6.params[j]? = some t → args[j]? = some v → Value.okWide Try.prog W .any 0 t v)
    (hW : DataW.Whole enc Try.prog Try.f6.params.toList Rows.checkBackSpec.vars false W args.toList ds gs before) (hk : Rows.uptoSmall H (ds ++ gs) = true) :
    Calls Try.prog 6 args W fun e W' => ∃ v, e = .returned v ∧ Rows.checkBackSpec.post enc Try.prog Try.f6 false true false false W args v W' := by
  have hW' := hW
  obtain ⟨p, q, hA0, hV, rfl, hfz, hnd⟩ := hW
  have hA : DataW.TrodAll enc Try.prog W 0 (fun _ => true) true Try.f6.params.toList args.toList ds p := hA0
  rw [Try.params6] at hA hval
  obtain ⟨v0, v1, d0, d1, p0, p1, rfl, rfl, rfl, h0, h1⟩ := trodAll_two hA
  have hb : Rows.uptoBulkAll ([d0, d1] ++ gs) ≤ 1048576 := of_decide_eq_true hk
  simp only [List.cons_append, List.nil_append, Rows.uptoBulkAll] at hb
  obtain ⟨a, cap, l, rfl, hl, hf, hz⟩ := open_gram2 (hval 0 24 v0 rfl rfl) h0
  obtain ⟨ta, tc, ts, rfl, ht, hg, hy⟩ := open_toks2 (hval 1 25 v1 rfl rfl) h1
  refine (lawBack_any l a cap ts ta tc W hl ht ⟨hf.rules, hg, hf.alts⟩ (by omega)).mono fun e W' ⟨he, hw⟩ => ?_
  subst he
  exact ⟨_, rfl, law_post hW' rfl rfl (by kernel_rfl) (by rw [Try.params6]; intro t ht; simp at ht; rcases ht with rfl | rfl <;> exact ⟨by kernel_rfl, of_decide_eq_true (by kernel_rfl)⟩) hw⟩

set_option maxRecDepth 100000 in
theorem checkBack_lifted (os : Os) (started : os.Started) (H : Type) (enc : TypeId × Value → H) (F : Stop.Interp) :
    ReturnsInHanded {} Try.checked os 6 .any ((Rows.OpenSpec.upto Rows.checkBackSpec).pre6 enc Try.prog Try.f6 Rows.checkBackUptoRow.domain false) (((Rows.OpenSpec.upto Rows.checkBackSpec).at F).post enc Try.prog Try.f6 false true false false) := by
  refine returnsInHanded_of_cond (C := Try.checked) (s := Rows.OpenSpec.upto Rows.checkBackSpec) (k := Rows.uptoSmall) rfl Try.own started (by kernel_rfl) Try.func6
    (OpenSpec.witness (enc := enc) (C := Try.checked) (s := Rows.OpenSpec.upto Rows.checkBackSpec) (k := Rows.uptoSmall) rfl false ⟨#[], #[.agg #[.slice none 0 0], .slice none 0 0], []⟩ 8 (by kernel_rfl) (by kernel_rfl) (by kernel_rfl)
      (x := ([.agg [.nil], .nil], [], [])) (by kernel_rfl) rfl (by kernel_rfl)) ?_
  intro W base args ds gs before hval hW _ hk _
  exact checkBack_contract H enc W args ds gs before hval hW hk

theorem checkBack_holds : Rows.CheckBackUptoSaid :=
  OpenClaim.holds_of_cond 6 Try.f6 rfl rfl rfl rfl rfl rfl rfl ⟨rfl, rfl, rfl, rfl, rfl⟩ rfl rfl rfl rfl rfl (by kernel_rfl) Try.func6 (by kernel_rfl)
    (of_decide_eq_true (by kernel_rfl)) (by unfold Func.isWrapper; first | (rw [if_pos (by decide +kernel)]; kernel_rfl) | (rw [if_neg (by decide +kernel)]; exact ⟨rfl, rfl⟩))
    (fun os started H enc _ F => checkBack_lifted os started H enc F)
end Go.Proofs.Yteepcedokbjpdaa

namespace Go.Proofs.Yteepcedokbjpdaa
open Go.RowKit Go.Maps Go.WideMaps

/-- A map from names to bools: false, where nothing stands. -/
def BoolT (W : World) (b n : Nat) (m : ByteArray → Bool) : Prop :=
  ∃ D : DataW Unit, W.ownsMap Try.prog 9 (plainElem Try.prog 4) b n D ∧ IsMap D ∧ ∀ s : ByteArray, D.atKey (.string s.data.toList) (.lit (.bool false)) = .lit (.bool (m s))
theorem zero_bool8 (w : World) : (zeroValue 4).run Try.prog w = .ok (.bool false) w := by kernel_rfl
theorem BoolT.kept {W W' : World} {row : Option Nat} {b n : Nat} {m : ByteArray → Bool} (h : BoolT W b n m) (hg : W.grownBy W' row) (hne : some b ≠ row) : BoolT W' b n m := by
  obtain ⟨D, h1, h2, h3⟩ := h
  exact ⟨D, h1.kept hg hne, h2, h3⟩
theorem BoolT.obj {W : World} {b n : Nat} {m : ByteArray → Bool} (h : BoolT W b n m) : ∃ es k, W.heap[b]? = some (.map es k) := by
  obtain ⟨D, ⟨es, k, hb, _⟩, _⟩ := h
  exact ⟨es, k, hb⟩
theorem BoolT.new (W : World) : BoolT (W.alloc (.map #[] 0)) W.heap.size 0 (fun _ => false) :=
  ⟨.map [], World.ownsMap_made _ _ _ _, isMap_empty, fun _ => rfl⟩
set_option maxRecDepth 100000 in
theorem plain_bool_inv {H : Type} {v : Value} {x : Bool} {ps : List MemPlace} (h : plainElem (H := H) Try.prog 4 v = some (.lit (.bool x), ps)) : v = .bool x := by
  unfold plainElem at h
  rw [Try.underlying4] at h
  cases v <;> simp at h
  rw [h.1]
set_option maxRecDepth 100000 in
theorem BoolT.look {W : World} {b n : Nat} {m : ByteArray → Bool} (h : BoolT W b n m) (s : ByteArray) (hs : s.size ≤ maxLen) :
    (Instr.lookup 52 (.map (some b)) (.string s) false).run Try.prog W = .ok (.bool (m s)) W := by
  obtain ⟨D, h1, h2, h3⟩ := h
  obtain ⟨v, ps, hrun, hv⟩ := h1.lookup str_law Try.underlying52 (zero_bool8 W) (plainElem_bool Try.underlying4 false) (keyOf_string_mk Try.underlying9 hs)
  rw [h3 s] at hv
  rw [plain_bool_inv hv] at hrun
  exact hrun
set_option maxRecDepth 100000 in
theorem BoolT.store {W : World} {b n : Nat} {m : ByteArray → Bool} (h : BoolT W b n m) (s : ByteArray) (hs : s.size ≤ maxLen) (hn : n < maxLen) :
    ∃ W', (Instr.mapUpdate 52 (.map (some b)) (.string s) (.bool true)).run Try.prog W = .ok () W' ∧ BoolT W' b (n + 1) (fun t => decide (t = s) || m t) ∧ W.grownBy W' (some b) := by
  obtain ⟨D, h1, h2, h3⟩ := h
  obtain ⟨W', hrun, ho, hg⟩ := h1.update str_law Try.underlying52 hn (keyOf_string_mk Try.underlying9 hs) (plainElem_bool Try.underlying4 true)
  refine ⟨W', hrun, ⟨_, ho, h2.put _ _, fun t => ?_⟩, hg⟩
  by_cases e : t = s
  · subst e
    rw [atKey_put_same h2 (by simp [WideAt.IsKeyLit])]
    simp
  · rw [atKey_put_other (fun h => e (str_key h)), h3 t]
    simp [e]
theorem tokB_apart : ∀ (ts seen : List ByteArray), tokB seen ts = true → ∀ i (h : i < ts.length), ts[i] ∉ seen ++ ts.take i
  | [], _, _, i, h => by simp at h
  | t :: r, seen, hb, i, h => by
    unfold tokB at hb
    simp only [Bool.and_eq_true, Bool.not_eq_true'] at hb
    cases i with
    | zero =>
      simp only [List.getElem_cons_zero, List.take_zero, List.append_nil]
      exact fun hm => by rw [mem_iff.2 hm] at hb; exact absurd hb.1.2 (by decide)
    | succ i =>
      have := tokB_apart r (seen ++ [t]) hb.2 i (by simpa using h)
      simpa using this
theorem dblN_nil (ts names : List ByteArray) : ∀ k, k ≤ names.length → dblN ts names k = [] → ∀ i (h : i < names.length), i < k → names[i] ∉ ts ∧ names[i] ∉ names.take i
  | 0, _, _, i, _, hi => absurd hi (by omega)
  | k + 1, hk, h, i, hl, hi => by
    have hs : names[k]? = some names[k] := List.getElem?_eq_getElem (by omega)
    have e : dblN ts names (k + 1) = if (mem names[k] ts || mem names[k] (names.take k)) = true then layP (dblN ts names k) (1, names[k]) else dblN ts names k := by
      show (match names[k]? with | some n => _ | none => _) = _
      rw [hs]
    rw [e] at h
    split at h
    · exact (lay_nil h).elim
    · next hc =>
      by_cases hik : i = k
      · subst hik
        simp only [Bool.or_eq_true, not_or] at hc
        exact ⟨fun hm => hc.1 (mem_iff.2 hm), fun hm => hc.2 (mem_iff.2 hm)⟩
      · exact dblN_nil ts names k (by omega) h i hl (by omega)
/-- A grammar that may be: tokens and rules' names are all apart. -/
theorem num_apart {rs : List RlD} {ts : List ByteArray} (h : numE rs ts = 0) : ∀ i (hi : i < (ts ++ rs.map RlD.n).length), (ts ++ rs.map RlD.n)[i] ∉ (ts ++ rs.map RlD.n).take i := by
  have h0 := numE_flw h
  unfold FLW at h0
  have h1 := dblN_nil ts (rs.map RlD.n) rs.length (by simp) (unkP_nil _ _ _ _ (restM_nil _ _ _ _ (restM_nil _ _ _ _ h0))).1
  have h2 : tokB [] ts = true := by
    unfold numE at h
    split at h
    · split at h
      · next hc =>
        unfold ckT at hc
        split at hc
        · assumption
        · cases hc
      · next hc => exact absurd h hc
    · next hc => exact absurd h hc
  intro i hi
  by_cases hlt : i < ts.length
  · rw [List.getElem_append_left hlt, List.take_append_of_le_length (by omega)]
    have := tokB_apart ts [] h2 i hlt
    simpa using this
  · rw [List.getElem_append_right (by omega), List.take_append, List.take_of_length_le (by omega), List.mem_append]
    rw [List.length_append] at hi
    have := h1 (i - ts.length) (by omega) (by rw [List.length_map] at hi; omega)
    exact fun hm => hm.elim this.1 this.2
end Go.Proofs.Yteepcedokbjpdaa

