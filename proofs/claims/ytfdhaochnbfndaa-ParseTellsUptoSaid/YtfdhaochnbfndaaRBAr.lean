/- Texts joined: Zk Zl Zm Zn Zo Zp Qq Zq Zr. -/
import Derived.Test.YtfdhaochnbfndaaRBAq
import Derived.Test.YtfdhaochnbfndaaMem
import Derived.Test.YtfdhaochnbfndaaRBAp
import Derived.Test.YtfdhaochnbfndaaRBAj
import Derived.Test.YtfdhaochnbfndaaRBAk
set_option linter.unusedVariables false
set_option linter.unusedSimpArgs false
namespace Go.Proofs.Ytfdhaochnbfndaa
open Go.RowKit Go.Maps
attribute [local go_sem] Oper.semAt_some
set_option maxRecDepth 100000 in
set_option maxHeartbeats 16000000 in
theorem pnext_any (d : CfD) (ta : Option Addr) (TB tc : Nat) (ka : Option Addr) (kc : Nat) (toks : List Int) (al : List (List (List Int))) (tb : List (List Int)) (a bp : Nat) (nd : Int) (op : Value) (w : World) (hd : CfAt w d) (hk : Ints w ka kc toks) (hB : Blk w bp 155 [.slice d.ta d.toks.length d.tc, .slice d.na d.names.length d.nc, .slice d.aa d.alts.length d.ac, .slice ta TB tc, .slice ka toks.length kc, .int .i64 (a : Int), .int .i64 nd, op]) (ha : a ≤ toks.length) :
 Calls Try.prog 186 #[.pointer (some ⟨bp, 0, none⟩)] w fun e w' => e = .returned (.int .i64 ((⟨al, tb, d.toks.length, toks⟩ : PsG).next a)) ∧ Below w.heap.size w w' := by
 obtain ⟨ans, hans⟩ : ∃ q, Hid ((⟨al, tb, d.toks.length, toks⟩ : PsG).next a = q) := ⟨_, Lib.hid rfl⟩
 have hlo : Hid (∀ h : a < toks.length, ans = toks[a]) := Lib.hid (fun h => by rw [← hans.out, next_at h])
 have hle : Hid (¬ a < toks.length → ans = (d.toks.length : Int)) := Lib.hid (fun h => by rw [← hans.out, next_end (by show toks.length ≤ a; omega)])
 rw [hans.out]
 clear hans
 have hxt : d.toks.length ≤ d.tc ∧ d.tc ≤ 9223372036854775807 := ⟨by have := hd.toks.le; rwa [List.length_map] at this, hd.toks.max⟩
 have hkm : toks.length ≤ kc ∧ kc ≤ 9223372036854775807 := ⟨by have := hk.le; rw [List.length_map] at this; exact this, hk.max⟩
 obtain ⟨xt, xta, xtc, xn, xna, xnc, xa, xaa, xac⟩ := d
 dsimp only at *
 have Hk := Lib.hid hk
 obtain ⟨T, HT⟩ : ∃ q, Hid (xt.length = q) := ⟨_, Lib.hid rfl⟩
 obtain ⟨N, HN⟩ : ∃ q, Hid (xn.length = q) := ⟨_, Lib.hid rfl⟩
 obtain ⟨L, HL⟩ : ∃ q, Hid (xa.length = q) := ⟨_, Lib.hid rfl⟩
 obtain ⟨K, HK⟩ : ∃ q, Hid (toks.length = q) := ⟨_, Lib.hid rfl⟩
 rw [HT.out, HN.out, HL.out, HK.out] at hB
 rw [HT.out] at hxt hle
 rw [HK.out] at hkm ha
 clear hd hk
 have y0 := hB.cell 0
 have y1 := hB.cell 1
 have y2 := hB.cell 2
 have y3 := hB.cell 3
 have y4 := hB.cell 4
 have y5 := hB.cell 5
 have y6 := hB.cell 6
 have yl := hB.lt
 simp only [List.getElem?_cons_zero, List.getElem?_cons_succ] at y0 y1 y2 y3 y4 y5 y6
 have hd2 := (Below.refl w.heap.size w).drew
 have HB2 := Lib.hid (hB.below hd2 yl)
 clear hB
 go_enter Try.func186, Try.ntmps186
 by_cases hlt : a < K
 ·have hal : a < toks.length := by rw [HK.out]; exact hlt
  have haI : (a : Int) < (K : Int) := by omega
  have haI0 : (0 : Int) ≤ (a : Int) := by omega
  have hne : ¬ (a : Int) = (K : Int) := by omega
  have hneb : ((a : Int) == (K : Int)) = false := by rw [beq_eq_false_iff_ne]; exact hne
  have htk := hlo.out hal
  go_wp2_with (fail)
  clear y0 y1 y2 y3 y4 y5 y6 yl
  obtain ⟨z9, zo9, hz9⟩ := Hk.out.at_ a (by rw [List.length_map]; exact hal)
  have hd3 := (Below.refl w.drew.heap.size w.drew).drew
  have hb3 := hd2.trans (hd3.mono hd2.size)
  have HBB := Lib.hid (HB2.out.below hd3 HB2.out.lt)
  have HBW := Lib.hid hb3
  have cz9 := (Hk.out.grown hb3).cell z9 zo9 hz9 a (by rw [List.length_map]; exact hal)
  rw [List.getElem_map, ← htk] at cz9
  obtain ⟨n, hn⟩ : ∃ q, Hid (ans = q) := ⟨_, Lib.hid rfl⟩
  have HANS := hn
  rw [hn.out] at cz9
  have HS2 : Hid (w.drew.cell? ⟨bp, 4, none⟩ = some (.slice ka K kc) ∧ w.drew.cell? ⟨bp, 5, none⟩ = some (.int .i64 (a : Int))) := Lib.hid ⟨HB2.out.cell 4, HB2.out.cell 5⟩
  have HS3 : Hid (w.drew.drew.cell? ⟨bp, 4, none⟩ = some (.slice ka K kc) ∧ w.drew.drew.cell? ⟨bp, 5, none⟩ = some (.int .i64 (a : Int)) ∧ w.drew.drew.cell? ⟨z9, zo9 + a, none⟩ = some (.int .i64 n)) := Lib.hid ⟨HBB.out.cell 4, HBB.out.cell 5, cz9⟩
  subst hz9
  clear hd2 hd3 hb3 cz9 htk Hk hn
  refine wp_region_held_drew (S := fun w' => w'.cell? ⟨bp, 4, none⟩ = some (.slice (some ⟨z9, zo9, none⟩) K kc) ∧ w'.cell? ⟨bp, 5, none⟩ = some (.int .i64 (a : Int))) (by kernel_rfl) ?_ (fun hHeld => ?_)
  ·exact HS2.out
  refine wpAnyH_take (i := 0) (v := ?_) (iatLS iatZS) (by kernel_rfl) (by kernel_rfl) (by kernel_rfl) (fun _ _ _ h => h) (Or.inl ⟨by rfl, ?_⟩) (by assumption) ?_
  rotate_left
  ·intro w hSw
   try dsimp only at hSw
   go_simp
   all_goals with_reducible rfl
  try simp only [Act.put, List.setIfInBounds_toArray, List.set_cons_zero, List.set_cons_succ]
  refine wpAnyH_take (i := 1) (v := ?_) (iatLS (iatSS iatZS)) (by kernel_rfl) (by kernel_rfl) (by kernel_rfl) (fun _ _ _ h => h) (Or.inl ⟨by rfl, ?_⟩) (by assumption) ?_
  rotate_left
  ·intro w hSw
   try dsimp only at hSw
   go_simp
   all_goals with_reducible rfl
  try simp only [Act.put, List.setIfInBounds_toArray, List.set_cons_zero, List.set_cons_succ]
  refine wpAnyH_take (i := 2) (v := ?_) (iatLS (iatSS (iatSS iatZS))) (by kernel_rfl) (by kernel_rfl) (by kernel_rfl) (fun _ _ _ h => h) (Or.inl ⟨by rfl, ?_⟩) (by assumption) ?_
  rotate_left
  ·intro w hSw
   try dsimp only at hSw
   go_simp
   all_goals with_reducible rfl
  try simp only [Act.put, List.setIfInBounds_toArray, List.set_cons_zero, List.set_cons_succ]
  refine wpAnyH_take (i := 3) (v := ?_) (iatLS (iatSS (iatSS (iatSS iatZS)))) (by kernel_rfl) (by kernel_rfl) (by kernel_rfl) (fun _ _ _ h => h) (Or.inl ⟨by rfl, ?_⟩) (by assumption) ?_
  rotate_left
  ·intro w hSw
   try dsimp only at hSw
   go_simp
   all_goals with_reducible rfl
  try simp only [Act.put, List.setIfInBounds_toArray, List.set_cons_zero, List.set_cons_succ]
  refine wpAnyH_take (i := 4) (v := ?_) (iatLS (iatSS (iatSS (iatSS (iatSS iatZS))))) (by kernel_rfl) (by kernel_rfl) (by kernel_rfl) (fun _ _ _ h => h) (Or.inl ⟨by rfl, ?_⟩) (by assumption) ?_
  rotate_left
  ·intro w hSw
   try dsimp only at hSw
   go_simp
   all_goals with_reducible rfl
  try simp only [Act.put, List.setIfInBounds_toArray, List.set_cons_zero, List.set_cons_succ]
  refine wpAnyH_take (i := 5) (v := ?_) (iatLS (iatSS (iatSS (iatSS (iatSS (iatSS iatZS)))))) (by kernel_rfl) (by kernel_rfl) (by kernel_rfl) (fun _ _ _ h => h) (Or.inl ⟨by rfl, ?_⟩) (by assumption) ?_
  rotate_left
  ·intro w hSw
   try dsimp only at hSw
   go_simp
   all_goals with_reducible rfl
  try simp only [Act.put, List.setIfInBounds_toArray, List.set_cons_zero, List.set_cons_succ]
  refine wpAnyH_take (i := 6) (v := ?_) (iatLS (iatSS (iatSS (iatSS (iatSS (iatSS (iatSS iatZS))))))) (by kernel_rfl) (by kernel_rfl) (by kernel_rfl) (fun _ _ _ h => h) (Or.inl ⟨by rfl, ?_⟩) (by assumption) ?_
  rotate_left
  ·intro w hSw
   try dsimp only at hSw
   go_simp
   all_goals with_reducible rfl
  try simp only [Act.put, List.setIfInBounds_toArray, List.set_cons_zero, List.set_cons_succ]
  refine wpAnyH_take (i := 7) (v := ?_) (iatLS (iatSS (iatSS (iatSS (iatSS (iatSS (iatSS (iatSS iatZS)))))))) (by kernel_rfl) (by kernel_rfl) (by kernel_rfl) (fun _ _ _ h => h) (Or.inl ⟨by rfl, ?_⟩) (by assumption) ?_
  rotate_left
  ·intro w hSw
   try dsimp only at hSw
   go_simp
   all_goals with_reducible rfl
  try simp only [Act.put, List.setIfInBounds_toArray, List.set_cons_zero, List.set_cons_succ]
  refine wpAnyH_take (i := 8) (v := ?_) (iatLS (iatSS (iatSS (iatSS (iatSS (iatSS (iatSS (iatSS (iatSS iatZS))))))))) (by kernel_rfl) (by kernel_rfl) (by kernel_rfl) (fun _ _ _ h => h) (Or.inl ⟨by rfl, ?_⟩) (by assumption) ?_
  rotate_left
  ·intro w hSw
   try dsimp only at hSw
   go_simp
   all_goals with_reducible rfl
  try simp only [Act.put, List.setIfInBounds_toArray, List.set_cons_zero, List.set_cons_succ]
  refine wpAnyH_take (i := 9) (v := ?_) (iatLS (iatSS (iatSS (iatSS (iatSS (iatSS (iatSS (iatSS (iatSS (iatSS iatZS)))))))))) (by kernel_rfl) (by kernel_rfl) (by kernel_rfl) (fun _ _ _ h => h) (Or.inl ⟨by rfl, ?_⟩) (by assumption) ?_
  rotate_left
  ·intro w hSw
   try dsimp only at hSw
   go_simp
   all_goals with_reducible rfl
  try simp only [Act.put, List.setIfInBounds_toArray, List.set_cons_zero, List.set_cons_succ]
  refine wpAnyH_done (by kernel_rfl) ?_ _
  go_wp2_with (fail)
  refine wp_region_held_drew (S := fun w' => w'.cell? ⟨bp, 4, none⟩ = some (.slice (some ⟨z9, zo9, none⟩) K kc) ∧ w'.cell? ⟨bp, 5, none⟩ = some (.int .i64 (a : Int)) ∧ w'.cell? ⟨z9, zo9 + a, none⟩ = some (.int .i64 n)) (by kernel_rfl) ?_ (fun hHeld => ?_)
  ·exact HS3.out
  refine wpAnyH_take (i := 0) (v := ?_) (iatLS iatZS) (by kernel_rfl) (by kernel_rfl) (by kernel_rfl) (fun _ _ _ h => h) (Or.inl ⟨by rfl, ?_⟩) (by assumption) ?_
  rotate_left
  ·intro w hSw
   try dsimp only at hSw
   go_simp
   all_goals with_reducible rfl
  try simp only [Act.put, List.setIfInBounds_toArray, List.set_cons_zero, List.set_cons_succ]
  refine wpAnyH_take (i := 1) (v := ?_) (iatLS (iatSS iatZS)) (by kernel_rfl) (by kernel_rfl) (by kernel_rfl) (fun _ _ _ h => h) (Or.inl ⟨by rfl, ?_⟩) (by assumption) ?_
  rotate_left
  ·intro w hSw
   try dsimp only at hSw
   go_simp
   all_goals with_reducible rfl
  try simp only [Act.put, List.setIfInBounds_toArray, List.set_cons_zero, List.set_cons_succ]
  refine wpAnyH_take (i := 2) (v := ?_) (iatLS (iatSS (iatSS iatZS))) (by kernel_rfl) (by kernel_rfl) (by kernel_rfl) (fun _ _ _ h => h) (Or.inl ⟨by rfl, ?_⟩) (by assumption) ?_
  rotate_left
  ·intro w hSw
   try dsimp only at hSw
   go_simp
   all_goals with_reducible rfl
  try simp only [Act.put, List.setIfInBounds_toArray, List.set_cons_zero, List.set_cons_succ]
  refine wpAnyH_take (i := 3) (v := ?_) (iatLS (iatSS (iatSS (iatSS iatZS)))) (by kernel_rfl) (by kernel_rfl) (by kernel_rfl) (fun _ _ _ h => h) (Or.inl ⟨by rfl, ?_⟩) (by assumption) ?_
  rotate_left
  ·intro w hSw
   try dsimp only at hSw
   go_simp
   all_goals with_reducible rfl
  try simp only [Act.put, List.setIfInBounds_toArray, List.set_cons_zero, List.set_cons_succ]
  refine wpAnyH_take (i := 4) (v := ?_) (iatLS (iatSS (iatSS (iatSS (iatSS iatZS))))) (by kernel_rfl) (by kernel_rfl) (by kernel_rfl) (fun _ _ _ h => h) (Or.inl ⟨by rfl, ?_⟩) (by assumption) ?_
  rotate_left
  ·intro w hSw
   try dsimp only at hSw
   go_simp
   all_goals with_reducible rfl
  try simp only [Act.put, List.setIfInBounds_toArray, List.set_cons_zero, List.set_cons_succ]
  refine wpAnyH_take (i := 5) (v := ?_) (iatLS (iatSS (iatSS (iatSS (iatSS (iatSS iatZS)))))) (by kernel_rfl) (by kernel_rfl) (by kernel_rfl) (fun _ _ _ h => h) (Or.inl ⟨by rfl, ?_⟩) (by assumption) ?_
  rotate_left
  ·intro w hSw
   try dsimp only at hSw
   go_simp
   all_goals with_reducible rfl
  try simp only [Act.put, List.setIfInBounds_toArray, List.set_cons_zero, List.set_cons_succ]
  refine wpAnyH_take (i := 6) (v := ?_) (iatLS (iatSS (iatSS (iatSS (iatSS (iatSS (iatSS iatZS))))))) (by kernel_rfl) (by kernel_rfl) (by kernel_rfl) (fun _ _ _ h => h) (Or.inl ⟨by rfl, ?_⟩) (by assumption) ?_
  rotate_left
  ·intro w hSw
   try dsimp only at hSw
   go_simp
   all_goals with_reducible rfl
  try simp only [Act.put, List.setIfInBounds_toArray, List.set_cons_zero, List.set_cons_succ]
  refine wpAnyH_take (i := 7) (v := ?_) (iatLS (iatSS (iatSS (iatSS (iatSS (iatSS (iatSS (iatSS iatZS)))))))) (by kernel_rfl) (by kernel_rfl) (by kernel_rfl) (fun _ _ _ h => h) (Or.inl ⟨by rfl, ?_⟩) (by assumption) ?_
  rotate_left
  ·intro w hSw
   try dsimp only at hSw
   go_simp
   all_goals with_reducible rfl
  try simp only [Act.put, List.setIfInBounds_toArray, List.set_cons_zero, List.set_cons_succ]
  refine wpAnyH_take (i := 8) (v := ?_) (iatLS (iatSS (iatSS (iatSS (iatSS (iatSS (iatSS (iatSS (iatSS iatZS))))))))) (by kernel_rfl) (by kernel_rfl) (by kernel_rfl) (fun _ _ _ h => h) (Or.inl ⟨by rfl, ?_⟩) (by assumption) ?_
  rotate_left
  ·intro w hSw
   try dsimp only at hSw
   go_simp
   all_goals with_reducible rfl
  try simp only [Act.put, List.setIfInBounds_toArray, List.set_cons_zero, List.set_cons_succ]
  refine wpAnyH_take (i := 9) (v := ?_) (iatLS (iatSS (iatSS (iatSS (iatSS (iatSS (iatSS (iatSS (iatSS (iatSS iatZS)))))))))) (by kernel_rfl) (by kernel_rfl) (by kernel_rfl) (fun _ _ _ h => h) (Or.inl ⟨by rfl, ?_⟩) (by assumption) ?_
  rotate_left
  ·intro w hSw
   try dsimp only at hSw
   go_simp
   all_goals with_reducible rfl
  try simp only [Act.put, List.setIfInBounds_toArray, List.set_cons_zero, List.set_cons_succ]
  refine wpAnyH_take (i := 10) (v := ?_) (iatLS (iatSS (iatSS (iatSS (iatSS (iatSS (iatSS (iatSS (iatSS (iatSS (iatSS iatZS))))))))))) (by kernel_rfl) (by kernel_rfl) (by kernel_rfl) (fun _ _ _ h => h) (Or.inl ⟨by rfl, ?_⟩) (by assumption) ?_
  rotate_left
  ·intro w hSw
   try dsimp only at hSw
   go_simp
   all_goals with_reducible rfl
  try simp only [Act.put, List.setIfInBounds_toArray, List.set_cons_zero, List.set_cons_succ]
  refine wpAnyH_done (by kernel_rfl) ?_ _
  go_wp2_with (fail)
  first | exact ⟨by rw [HANS.out], HBW.out⟩ | exact bodyPost_ret (v := .int .i64 (n)) (by simp [results, Try.results186, go_sem]; try first | rfl | assumption | omega) rfl ⟨by rw [HANS.out], HBW.out⟩ | trace_state
 ·have hal : ¬ a < toks.length := by rw [HK.out]; exact hlt
  have haK : a = K := by omega
  have HANS := Lib.hid (hle.out hal)
  subst haK
  go_wp2_with (fail)
  clear y0 y1 y2 y3 y4 y5 y6 yl
  have HBB := HB2
  have HBW := Lib.hid hd2
  have HS2 : Hid (w.drew.cell? ⟨bp, 4, none⟩ = some (.slice ka a kc) ∧ w.drew.cell? ⟨bp, 5, none⟩ = some (.int .i64 (a : Int))) := Lib.hid ⟨HB2.out.cell 4, HB2.out.cell 5⟩
  clear hd2 Hk
  refine wp_region_held_drew (S := fun w' => w'.cell? ⟨bp, 4, none⟩ = some (.slice ka a kc) ∧ w'.cell? ⟨bp, 5, none⟩ = some (.int .i64 (a : Int))) (by kernel_rfl) ?_ (fun hHeld => ?_)
  ·exact HS2.out
  refine wpAnyH_take (i := 0) (v := ?_) (iatLS iatZS) (by kernel_rfl) (by kernel_rfl) (by kernel_rfl) (fun _ _ _ h => h) (Or.inl ⟨by rfl, ?_⟩) (by assumption) ?_
  rotate_left
  ·intro w hSw
   try dsimp only at hSw
   go_simp
   all_goals with_reducible rfl
  try simp only [Act.put, List.setIfInBounds_toArray, List.set_cons_zero, List.set_cons_succ]
  refine wpAnyH_take (i := 1) (v := ?_) (iatLS (iatSS iatZS)) (by kernel_rfl) (by kernel_rfl) (by kernel_rfl) (fun _ _ _ h => h) (Or.inl ⟨by rfl, ?_⟩) (by assumption) ?_
  rotate_left
  ·intro w hSw
   try dsimp only at hSw
   go_simp
   all_goals with_reducible rfl
  try simp only [Act.put, List.setIfInBounds_toArray, List.set_cons_zero, List.set_cons_succ]
  refine wpAnyH_take (i := 2) (v := ?_) (iatLS (iatSS (iatSS iatZS))) (by kernel_rfl) (by kernel_rfl) (by kernel_rfl) (fun _ _ _ h => h) (Or.inl ⟨by rfl, ?_⟩) (by assumption) ?_
  rotate_left
  ·intro w hSw
   try dsimp only at hSw
   go_simp
   all_goals with_reducible rfl
  try simp only [Act.put, List.setIfInBounds_toArray, List.set_cons_zero, List.set_cons_succ]
  refine wpAnyH_take (i := 3) (v := ?_) (iatLS (iatSS (iatSS (iatSS iatZS)))) (by kernel_rfl) (by kernel_rfl) (by kernel_rfl) (fun _ _ _ h => h) (Or.inl ⟨by rfl, ?_⟩) (by assumption) ?_
  rotate_left
  ·intro w hSw
   try dsimp only at hSw
   go_simp
   all_goals with_reducible rfl
  try simp only [Act.put, List.setIfInBounds_toArray, List.set_cons_zero, List.set_cons_succ]
  refine wpAnyH_take (i := 4) (v := ?_) (iatLS (iatSS (iatSS (iatSS (iatSS iatZS))))) (by kernel_rfl) (by kernel_rfl) (by kernel_rfl) (fun _ _ _ h => h) (Or.inl ⟨by rfl, ?_⟩) (by assumption) ?_
  rotate_left
  ·intro w hSw
   try dsimp only at hSw
   go_simp
   all_goals with_reducible rfl
  try simp only [Act.put, List.setIfInBounds_toArray, List.set_cons_zero, List.set_cons_succ]
  refine wpAnyH_take (i := 5) (v := ?_) (iatLS (iatSS (iatSS (iatSS (iatSS (iatSS iatZS)))))) (by kernel_rfl) (by kernel_rfl) (by kernel_rfl) (fun _ _ _ h => h) (Or.inl ⟨by rfl, ?_⟩) (by assumption) ?_
  rotate_left
  ·intro w hSw
   try dsimp only at hSw
   go_simp
   all_goals with_reducible rfl
  try simp only [Act.put, List.setIfInBounds_toArray, List.set_cons_zero, List.set_cons_succ]
  refine wpAnyH_take (i := 6) (v := ?_) (iatLS (iatSS (iatSS (iatSS (iatSS (iatSS (iatSS iatZS))))))) (by kernel_rfl) (by kernel_rfl) (by kernel_rfl) (fun _ _ _ h => h) (Or.inl ⟨by rfl, ?_⟩) (by assumption) ?_
  rotate_left
  ·intro w hSw
   try dsimp only at hSw
   go_simp
   all_goals with_reducible rfl
  try simp only [Act.put, List.setIfInBounds_toArray, List.set_cons_zero, List.set_cons_succ]
  refine wpAnyH_take (i := 7) (v := ?_) (iatLS (iatSS (iatSS (iatSS (iatSS (iatSS (iatSS (iatSS iatZS)))))))) (by kernel_rfl) (by kernel_rfl) (by kernel_rfl) (fun _ _ _ h => h) (Or.inl ⟨by rfl, ?_⟩) (by assumption) ?_
  rotate_left
  ·intro w hSw
   try dsimp only at hSw
   go_simp
   all_goals with_reducible rfl
  try simp only [Act.put, List.setIfInBounds_toArray, List.set_cons_zero, List.set_cons_succ]
  refine wpAnyH_take (i := 8) (v := ?_) (iatLS (iatSS (iatSS (iatSS (iatSS (iatSS (iatSS (iatSS (iatSS iatZS))))))))) (by kernel_rfl) (by kernel_rfl) (by kernel_rfl) (fun _ _ _ h => h) (Or.inl ⟨by rfl, ?_⟩) (by assumption) ?_
  rotate_left
  ·intro w hSw
   try dsimp only at hSw
   go_simp
   all_goals with_reducible rfl
  try simp only [Act.put, List.setIfInBounds_toArray, List.set_cons_zero, List.set_cons_succ]
  refine wpAnyH_take (i := 9) (v := ?_) (iatLS (iatSS (iatSS (iatSS (iatSS (iatSS (iatSS (iatSS (iatSS (iatSS iatZS)))))))))) (by kernel_rfl) (by kernel_rfl) (by kernel_rfl) (fun _ _ _ h => h) (Or.inl ⟨by rfl, ?_⟩) (by assumption) ?_
  rotate_left
  ·intro w hSw
   try dsimp only at hSw
   go_simp
   all_goals with_reducible rfl
  try simp only [Act.put, List.setIfInBounds_toArray, List.set_cons_zero, List.set_cons_succ]
  refine wpAnyH_done (by kernel_rfl) ?_ _
  generalize hWW : w.drew = W at HBB HBW ⊢
  clear hWW
  have y0 := HBB.out.cell 0
  have y1 := HBB.out.cell 1
  have y2 := HBB.out.cell 2
  have y3 := HBB.out.cell 3
  have yl := HBB.out.lt
  simp only [List.getElem?_cons_zero, List.getElem?_cons_succ] at y0 y1 y2 y3
  go_wp2_with (fail)
  first | exact ⟨by rw [HANS.out], HBW.out⟩ | exact bodyPost_ret (v := .int .i64 ((T : Int))) (by simp [results, Try.results186, go_sem]; try first | rfl | assumption | omega) rfl ⟨by rw [HANS.out], HBW.out⟩ | trace_state
end Go.Proofs.Ytfdhaochnbfndaa
namespace Go.Proofs.Ytfdhaochnbfndaa
open Go.RowKit
def TrF.len : TrF → Nat
 | .nil => 0
 | .cons _ _ rest => rest.len + 1
theorem TrF.app_len : ∀ (f g : TrF), (f.app g).len = f.len + g.len
 | .nil, g => by simp [TrF.app, TrF.len]
 | .cons h kids rest, g => by
  show (rest.app g).len + 1 = rest.len + 1 + g.len
  rw [TrF.app_len rest g]; omega
/-- The cells from an address on read as these trees; what is in them lies in blocks of a kind. -/
def TrEl (w : World) (P : Nat → Prop) : TrF → Nat → Nat → Prop
 | .nil, _, _ => True
 | .cons h kids rest, b, off =>
  w.cell? ⟨b, off, none⟩ = some (.int .i64 h.k) ∧ w.cell? ⟨b, off + 1, none⟩ = some (.int .i64 h.i) ∧ w.cell? ⟨b, off + 2, none⟩ = some (.int .i64 h.a) ∧
  (∃ ga gc, w.cell? ⟨b, off + 3, none⟩ = some (.slice ga kids.len gc) ∧ kids.len ≤ gc ∧ gc ≤ 9223372036854775807 ∧ (ga = none → gc = 0) ∧ (0 < kids.len → ∃ b' o', ga = some ⟨b', o', none⟩ ∧ P b' ∧ TrEl w P kids b' o')) ∧
  TrEl w P rest b (off + 4)
/-- A slice of trees. -/
structure TrS (w : World) (P : Nat → Prop) (a : Option Addr) (cap : Nat) (f : TrF) : Prop where
 le : f.len ≤ cap
 max : cap ≤ 9223372036854775807
 nil_ : a = none → cap = 0
 at_ : 0 < f.len → ∃ b off, a = some ⟨b, off, none⟩ ∧ P b ∧ TrEl w P f b off
/-- What lies in blocks of the kind is kept. -/
theorem TrEl.kept {w w' : World} {P : Nat → Prop} (hc : ∀ b off v, P b → w.cell? ⟨b, off, none⟩ = some v → w'.cell? ⟨b, off, none⟩ = some v) : ∀ (f : TrF) (b off : Nat), P b → TrEl w P f b off → TrEl w' P f b off := by
 intro f
 induction f with
 | nil => intro b off _ _; trivial
 | cons h kids rest ihk ihr =>
  rintro b off hb ⟨h1, h2, h3, ⟨ga, gc, h4, h5, h6, h7, h8⟩, h9⟩
  exact ⟨hc _ _ _ hb h1, hc _ _ _ hb h2, hc _ _ _ hb h3, ⟨ga, gc, hc _ _ _ hb h4, h5, h6, h7, fun hn => by obtain ⟨b', o', e, hl, hk⟩ := h8 hn; exact ⟨b', o', e, hl, ihk _ _ hl hk⟩⟩, ihr _ _ hb h9⟩
theorem TrS.kept {w w' : World} {P : Nat → Prop} {cap : Nat} {a : Option Addr} {f : TrF} (h : TrS w P a cap f) (hc : ∀ b off v, P b → w.cell? ⟨b, off, none⟩ = some v → w'.cell? ⟨b, off, none⟩ = some v) : TrS w' P a cap f :=
 ⟨h.le, h.max, h.nil_, fun hn => by obtain ⟨b, o, e, hl, hk⟩ := h.at_ hn; exact ⟨b, o, e, hl, TrEl.kept hc f b o hl hk⟩⟩
theorem TrS.grown {w w' : World} {P : Nat → Prop} {cap : Nat} {a : Option Addr} {f : TrF} (h : TrS w P a cap f) (hb : Below w.heap.size w w') : TrS w' P a cap f :=
 h.kept (fun b off v _ hv => (hb.cell (p := ⟨b, off, none⟩) (World.block_lt_of_cell? w _ hv)).trans hv)
/-- The kind of blocks may be told otherwise. -/
theorem TrEl.imp {w : World} {P Q : Nat → Prop} (hp : ∀ b, P b → b < w.heap.size → Q b) : ∀ (f : TrF) (b off : Nat), TrEl w P f b off → TrEl w Q f b off := by
 intro f
 induction f with
 | nil => intro b off _; trivial
 | cons h kids rest ihk ihr =>
  rintro b off ⟨h1, h2, h3, ⟨ga, gc, h4, h5, h6, h7, h8⟩, h9⟩
  refine ⟨h1, h2, h3, ⟨ga, gc, h4, h5, h6, h7, fun hn => ?_⟩, ihr _ _ h9⟩
  obtain ⟨b', o', e, hl, hk⟩ := h8 hn
  refine ⟨b', o', e, hp b' hl ?_, ihk _ _ hk⟩
  cases kids with
  | nil => simp [TrF.len] at hn
  | cons x y z => exact World.block_lt_of_cell? w ⟨b', o', none⟩ hk.1
theorem TrS.imp {w : World} {P Q : Nat → Prop} (hp : ∀ b, P b → b < w.heap.size → Q b) {cap : Nat} {a : Option Addr} {f : TrF} (h : TrS w P a cap f) : TrS w Q a cap f :=
 ⟨h.le, h.max, h.nil_, fun hn => by
  obtain ⟨b, o, e, hl, hk⟩ := h.at_ hn
  refine ⟨b, o, e, hp b hl ?_, TrEl.imp hp f b o hk⟩
  cases f with
  | nil => simp [TrF.len] at hn
  | cons x y z => exact World.block_lt_of_cell? w ⟨b, o, none⟩ hk.1⟩
theorem TrS.nil (w : World) (P : Nat → Prop) : TrS w P none 0 .nil := ⟨by simp [TrF.len], by omega, fun _ => rfl, fun h => by simp [TrF.len] at h⟩
/-- How many there are in all. -/
def TrF.size : TrF → Nat
 | .nil => 0
 | .cons _ kids rest => kids.size + rest.size + 1
def TrF.drop : Nat → TrF → TrF
 | 0, f => f
 | _ + 1, .nil => .nil
 | k + 1, .cons _ _ rest => rest.drop k
theorem TrF.drop_len : ∀ (k : Nat) (f : TrF), (f.drop k).len = f.len - k := by
 intro k
 induction k with
 | zero => intro f; rfl
 | succ k ih => intro f; cases f with
  | nil => simp [TrF.drop, TrF.len]
  | cons h kids rest => simp only [TrF.drop, TrF.len, ih]; omega
theorem TrF.drop_succ : ∀ (k : Nat) (f : TrF) (h : TrH) (kids rest : TrF), f.drop k = .cons h kids rest → f.drop (k + 1) = rest := by
 intro k
 induction k with
 | zero => intro f h kids rest e; simp only [TrF.drop] at e; subst e; rfl
 | succ k ih => intro f h kids rest e; cases f with
  | nil => simp [TrF.drop] at e
  | cons h' kids' rest' => simp only [TrF.drop] at e ⊢; exact ih _ _ _ _ e
theorem TrF.drop_cons {k : Nat} {f : TrF} (h : k < f.len) : ∃ hd kids rest, f.drop k = .cons hd kids rest := by
 have := TrF.drop_len k f
 cases e : f.drop k with
 | nil => rw [e] at this; simp [TrF.len] at this; omega
 | cons hd kids rest => exact ⟨_, _, _, rfl⟩
theorem TrF.drop_all {f : TrF} {k : Nat} (h : f.len ≤ k) : f.drop k = .nil := by
 have := TrF.drop_len k f
 cases e : f.drop k with
 | nil => rfl
 | cons hd kids rest => rw [e] at this; simp [TrF.len] at this; omega
theorem TrF.drop_size : ∀ (k : Nat) (f : TrF), (f.drop k).size ≤ f.size := by
 intro k
 induction k with
 | zero => intro f; exact Nat.le_refl _
 | succ k ih => intro f; cases f with
  | nil => exact Nat.le_refl _
  | cons h kids rest => simp only [TrF.drop, TrF.size]; have := ih rest; omega
theorem TrEl.drop {w : World} {P : Nat → Prop} : ∀ (k : Nat) (f : TrF) (b off : Nat), TrEl w P f b off → TrEl w P (f.drop k) b (off + k * 4) := by
 intro k
 induction k with
 | zero => intro f b off h; simpa [TrF.drop] using h
 | succ k ih => intro f b off h; cases f with
  | nil => trivial
  | cons hd kids rest =>
   have := ih rest b (off + 4) h.2.2.2.2
   rw [show off + (k + 1) * 4 = off + 4 + k * 4 from by omega]
   exact this
/-- One element of a list, where the list is read in turn. -/
structure TrAt (w : World) (P : Nat → Prop) (b off k : Nat) (kids : TrF) (hd : TrH) (ks : TrF) (xa : Option Addr) (xcap : Nat) : Prop where
 c0 : w.cell? ⟨b, off + k * 4, none⟩ = some (.int .i64 hd.k)
 c1 : w.cell? ⟨b, off + k * 4 + 1, none⟩ = some (.int .i64 hd.i)
 c2 : w.cell? ⟨b, off + k * 4 + 2, none⟩ = some (.int .i64 hd.a)
 c3 : w.cell? ⟨b, off + k * 4 + 3, none⟩ = some (.slice xa ks.len xcap)
 its : TrS w P xa xcap ks
 cut : kids.drop k = .cons hd ks (kids.drop (k + 1))
theorem TrS.at {w : World} {P : Nat → Prop} {a : Option Addr} {cap : Nat} {kids : TrF} (hI : TrS w P a cap kids) {k : Nat} (hk : k < kids.len) : ∃ b off hd ks xa xcap, a = some ⟨b, off, none⟩ ∧ TrAt w P b off k kids hd ks xa xcap := by
 obtain ⟨hd, ks, rs, hdr⟩ := TrF.drop_cons hk
 obtain ⟨b, off, rfl, hlo, hel⟩ := hI.at_ (by omega)
 have hel2 := TrEl.drop k kids b off hel
 rw [hdr] at hel2
 obtain ⟨x0, x1, x2, ⟨xa, xcap, x3, hx1, hx2, hx3, hx4⟩, _⟩ := hel2
 exact ⟨b, off, hd, ks, xa, xcap, rfl, x0, x1, x2, x3, ⟨hx1, hx2, hx3, hx4⟩, by rw [TrF.drop_succ k kids hd ks rs hdr]; exact hdr⟩
theorem TrAt.size {w : World} {P : Nat → Prop} {b off k xcap : Nat} {kids ks : TrF} {hd : TrH} {xa : Option Addr} (h : TrAt w P b off k kids hd ks xa xcap) : (kids.drop k).size = ks.size + (kids.drop (k + 1)).size + 1 ∧ (kids.drop k).size ≤ kids.size := by
 have h1 := TrF.drop_size k kids
 rw [h.cut] at h1 ⊢
 exact ⟨rfl, h1⟩
/-- A tree as a value. -/
abbrev treV (h : TrH) (ga : Option Addr) (n gc : Nat) : Value := .agg #[.int .i64 h.k, .int .i64 h.i, .int .i64 h.a, .slice ga n gc]
end Go.Proofs.Ytfdhaochnbfndaa
namespace Go.Proofs.Ytfdhaochnbfndaa
open Go.RowKit
theorem retT_bool {a b : Bool} (h : a = b) : Ending.returned (.bool a) = .returned (.bool b) := by rw [h]
def hdT (h g : TrH) (n m : Nat) : Bool := (h.k == g.k) && (h.i == g.i) && (h.a == g.a) && ((n : Int) == m)
/-- The same items, one by one. -/
def sameT : TrF → TrF → Bool
 | .nil, .nil => true
 | .cons h k r, .cons h' k' r' => hdT h h' k.len k'.len && sameT k k' && sameT r r'
 | _, _ => false
theorem TrAt.same {w w2 : World} {P P2 : Nat → Prop} {b off b2 off2 k xcap ycap : Nat} {kids ks gids gs : TrF} {hd gd : TrH} {xa ya : Option Addr} (h : TrAt w P b off k kids hd ks xa xcap) (g : TrAt w2 P2 b2 off2 k gids gd gs ya ycap) :
 sameT (kids.drop k) (gids.drop k) = (hdT hd gd ks.len gs.len && sameT ks gs && sameT (kids.drop (k + 1)) (gids.drop (k + 1))) := by
 rw [h.cut, g.cut, TrF.drop_succ _ _ _ _ _ h.cut, TrF.drop_succ _ _ _ _ _ g.cut]
 simp only [sameT]
set_option maxRecDepth 100000 in
set_option maxHeartbeats 1000000 in
theorem refSameT_any : ∀ (N : Nat) (h g : TrH) (kids gids : TrF) (a b : Option Addr) (cap dap : Nat) (w : World) (P P2 : Nat → Prop), kids.size < N → TrS w P a cap kids → TrS w P2 b dap gids →
 Calls Try.prog 43 #[treV h a kids.len cap, treV g b gids.len dap] w fun e w' => e = .returned (.bool (hdT h g kids.len gids.len && sameT kids gids)) ∧ Below w.heap.size w w' := by
 intro N
 induction N with
 | zero => intro h g kids gids a b cap dap w hN; omega
 | succ N ih =>
  intro h g kids gids a b cap dap w P P2 hN hI hJ
  obtain ⟨hk, hn, hs⟩ := h
  obtain ⟨gk, gn, gs⟩ := g
  have hlm : kids.len ≤ cap ∧ cap ≤ 9223372036854775807 := ⟨hI.le, hI.max⟩
  have hlm2 : gids.len ≤ dap ∧ dap ≤ 9223372036854775807 := ⟨hJ.le, hJ.max⟩
  obtain ⟨L, HL⟩ : ∃ L, Hid (kids.len = L) := ⟨_, Lib.hid rfl⟩
  obtain ⟨M, HM⟩ : ∃ L, Hid (gids.len = L) := ⟨_, Lib.hid rfl⟩
  rw [HL.out] at hlm ⊢
  rw [HM.out] at hlm2 ⊢
  go_enter Try.func43, Try.ntmps43
  have hb0 : Below w.heap.size w ((w.alloc (.cells #[.int .i64 hk, .int .i64 hn, .int .i64 hs, .slice a L cap] 51)).alloc (.cells #[.int .i64 gk, .int .i64 gn, .int .i64 gs, .slice b M dap] 51)) := ((Below.refl w.heap.size w).alloc (Nat.le_refl _) _).alloc (by simp) _
  have hBa := (Blk.new w 51 #[.int .i64 hk, .int .i64 hn, .int .i64 hs, .slice a L cap]).alloc (.cells #[.int .i64 gk, .int .i64 gn, .int .i64 gs, .slice b M dap] 51)
  have hBb := Blk.new (w.alloc (.cells #[.int .i64 hk, .int .i64 hn, .int .i64 hs, .slice a L cap] 51)) 51 #[.int .i64 gk, .int .i64 gn, .int .i64 gs, .slice b M dap]
  rw [World.size_alloc] at hBb
  by_cases hh : hdT ⟨hk, hn, hs⟩ ⟨gk, gn, gs⟩ L M = true
  ·have hh' := hh
   simp only [hdT, Bool.and_eq_true, beq_iff_eq] at hh'
   obtain ⟨⟨⟨rfl, rfl⟩, rfl⟩, hLM⟩ := hh'
   obtain rfl : L = M := by omega
   have HH := Lib.hid hh
   clear hh hLM
   go_wp2_with (fail)
   go_loopw [5, 37] (fun _ i wr => ∃ (k : Nat), k ≤ L ∧ i = .int .i64 k ∧ sameT kids gids = sameT (kids.drop k) (gids.drop k) ∧ Below w.heap.size w wr ∧ Blk wr w.heap.size 51 [.int .i64 hk, .int .i64 hn, .int .i64 hs, .slice a L cap] ∧ Blk wr (w.heap.size + 1) 51 [.int .i64 hk, .int .i64 hn, .int .i64 hs, .slice b L dap]) (fun _ i _ => L - (RowKit.intOf i).toNat)
   case atStart => exact ⟨0, by omega, rfl, rfl, hb0, hBa, hBb⟩
   case round =>
    obtain ⟨k, hk', rfl, hr, hbr, hB1, hB2⟩ := hrel
    have HR := Lib.hid hr
    clear hr hb0 hBa hBb
    by_cases hlt : k < L
    ·obtain ⟨b1, off, hd, ks, xa, xcap, rfl, hat⟩ := (hI.grown hbr).at (k := k) (by rw [HL.out]; exact hlt)
     obtain ⟨b2, off2, gd, gks, ya, ycap, rfl, gat⟩ := (hJ.grown hbr).at (k := k) (by rw [HM.out]; exact hlt)
     have HS := Lib.hid (TrAt.size hat)
     have HQ := Lib.hid (TrAt.same hat gat)
     obtain ⟨x0, x1, x2, x3, hIk, hc1⟩ := hat
     obtain ⟨z0, z1, z2, z3, hJk, hc2⟩ := gat
     clear hc1 hc2
     have y3 := hB1.cell 3
     have q3 := hB2.cell 3
     simp only [List.getElem?_cons_zero, List.getElem?_cons_succ] at y3 q3
     have hlt1 := hB1.lt
     have hlt2 := hB2.lt
     have hdr : Below wr.heap.size wr wr.drew := grownBy_below (grownBy_drew wr none) (fun i e => by cases e)
     have hmx := hIk.le
     have hmx2 := hIk.max
     have hmy := hJk.le
     have hmy2 := hJk.max
     have hIH := ih hd gd ks gks xa ya xcap ycap wr.drew P P2 (by have := HS.out; omega) (hIk.grown hdr) (hJk.grown hdr)
     obtain ⟨R, HB⟩ : ∃ R, Hid ((hdT hd gd ks.len gks.len && sameT ks gks) = R) := ⟨_, Lib.hid rfl⟩
     rw [HB.out] at hIH HQ
     have hbd : Below w.heap.size w wr.drew := hbr.trans (hdr.mono hbr.size)
     have hBd1 := hB1.below hdr hlt1
     have hBd2 := hB2.below hdr hlt2
     clear hIk hJk hB1 hB2
     go_wp2_with (fail)
     go_region_with ((go_at_call 43; (with_reducible refine hIH.mono ?_); rintro e w4 ⟨rfl, hb4⟩))
     all_goals
      have hb5 : Below w.heap.size w w4 := hbd.trans (hb4.mono hbd.size)
      have hB5 := hBd1.below hb4 (by exact hlt1)
      have hB6 := hBd2.below hb4 (by exact hlt2)
      clear hb4 hbd hIH hdr hBd1 hBd2 x0 x1 x2 x3 z0 z1 z2 z3 y3 q3 hbr
      cases R
      ·go_wp2_with (fail)
       exact bodyPost_ret (v := .bool false) (by simp [results, Try.results43, go_sem]; try rfl) rfl ⟨retT_bool (by rw [HR.out, HQ.out]; simp), hb5⟩
      ·go_wp2_with (fail)
       go_roundw
       case rel => exact ⟨k + 1, by omega, by go_num, by rw [HR.out, HQ.out, Bool.true_and], hb5, hB5, hB6⟩
       case measure => simp [RowKit.intOf]; omega
    ·obtain rfl : k = L := by omega
     have HK : Hid (sameT kids gids = true) := Lib.hid (by rw [HR.out, TrF.drop_all (by rw [HL.out]; exact Nat.le_refl _), TrF.drop_all (by rw [HM.out]; exact Nat.le_refl _)]; rfl)
     go_wp2_with (fail)
     exact bodyPost_ret (v := .bool true) (by simp [results, Try.results43, go_sem]; try rfl) rfl ⟨retT_bool (by rw [HH.out, HK.out]; rfl), hbr⟩
  ·have HH : Hid ((hdT ⟨hk, hn, hs⟩ ⟨gk, gn, gs⟩ L M && sameT kids gids) = false) := Lib.hid (by rw [Bool.eq_false_iff.2 hh]; rfl)
   rw [HH.out]
   simp only [hdT, Bool.and_eq_true, beq_iff_eq] at hh
   go_wp2_with (fail)
   all_goals first
    | exact bodyPost_ret (v := .bool false) (by simp [results, Try.results43, go_sem]; try rfl) rfl ⟨rfl, ((Below.refl w.heap.size w).alloc (Nat.le_refl _) _).alloc (by simp) _⟩
    | (exfalso; simp_all)
end Go.Proofs.Ytfdhaochnbfndaa
namespace Go.Proofs.Ytfdhaochnbfndaa
open Go.RowKit Go.Maps
attribute [local go_sem] Oper.semAt_some
set_option maxRecDepth 100000 in
set_option maxHeartbeats 16000000 in
theorem rfail_any (bp : Nat) (v0 v1 v2 v3 v4 v5 v6 : Value) (e x : Int) (w : World) (hB : Blk w bp 108 [v0, v1, v2, v3, v4, v5, v6, .int .i64 e]) :
 Calls Try.prog 123 #[.pointer (some ⟨bp, 0, none⟩), .int .i64 x] w fun e w' => e = .returned (treV ⟨0, 0, 0⟩ none 0 0) ∧ Blk w' bp 108 [v0, v1, v2, v3, v4, v5, v6, .int .i64 x] ∧ w.grownBy w' (some bp) := by
 have yl := hB.lt
 have y7 := hB.cell 7
 have y70 := hB.frozen 7
 simp only [List.getElem?_cons_zero, List.getElem?_cons_succ] at y7
 have hA1 := hB.alloc (.cells #[.int .i64 0, .int .i64 0, .int .i64 0, .slice none 0 0] 51)
 have hN1 := Blk.new w 51 #[.int .i64 0, .int .i64 0, .int .i64 0, .slice none 0 0]
 have z7 := hA1.cell 7
 have z70 := hA1.frozen 7
 simp only [List.getElem?_cons_zero, List.getElem?_cons_succ] at z7
 go_enter Try.func123, Try.ntmps123
 go_wp2_with (fail)
 have hs : (w.setCell ⟨bp, 7, none⟩ (.int .i64 x)).heap.size = w.heap.size := Array.size_modify
 have hC := hB.set 7 (.int .i64 x)
 have hW := hC.alloc (.cells #[.int .i64 0, .int .i64 0, .int .i64 0, .slice none 0 0] 51)
 have hG : w.grownBy ((w.setCell ⟨bp, 7, none⟩ (.int .i64 x)).alloc (.cells #[.int .i64 0, .int .i64 0, .int .i64 0, .slice none 0 0] 51)) (some bp) := grownBy_trans (grownBy_set w bp 7 _) (World.grownBy_alloc _ _ (some bp)) (fun i e => .inl e)
 have hX := heap_alloc_new (w.setCell ⟨bp, 7, none⟩ (.int .i64 x)) (.cells #[.int .i64 0, .int .i64 0, .int .i64 0, .slice none 0 0] 51)
 rw [hs] at hX
 exact bodyPost_ret (v := treV ⟨0, 0, 0⟩ none 0 0) (results_cell_row (p := 4) (ty := 51) rfl _ _ w.heap.size 51 #[.int .i64 0, .int .i64 0, .int .i64 0, .slice none 0 0] (0, 0) _ rfl hX Try.underlying51 rfl (by kernel_rfl)) rfl ⟨rfl, hW, hG⟩
end Go.Proofs.Ytfdhaochnbfndaa
namespace Go.Proofs.Ytfdhaochnbfndaa
open Go.RowKit
/-- These cells are these trees'. -/
def TrCs (w : World) (P : Nat → Prop) : TrF → List Value → Prop
 | .nil, cs => cs = []
 | .cons h kids rest, cs => ∃ ga gc r, cs = .int .i64 h.k :: .int .i64 h.i :: .int .i64 h.a :: .slice ga kids.len gc :: r ∧ TrS w P ga gc kids ∧ TrCs w P rest r
theorem TrCs.len {w : World} {P : Nat → Prop} : ∀ {f : TrF} {cs : List Value}, TrCs w P f cs → cs.length = f.len * 4
 | .nil, cs, h => by
  have h : cs = [] := h
  subst h; rfl
 | .cons x kids rest, cs, h => by
  obtain ⟨ga, gc, r, rfl, _, h2⟩ := h
  have := TrCs.len h2
  show r.length + 1 + 1 + 1 + 1 = (rest.len + 1) * 4
  omega
theorem TrCs.app {w : World} {P : Nat → Prop} : ∀ {f g : TrF} {cs ds : List Value}, TrCs w P f cs → TrCs w P g ds → TrCs w P (f.app g) (cs ++ ds)
 | .nil, g, cs, ds, h, h2 => by
  have h : cs = [] := h
  subst h
  exact h2
 | .cons x kids rest, g, cs, ds, h, h2 => by
  obtain ⟨ga, gc, r, rfl, h3, h4⟩ := h
  exact ⟨ga, gc, r ++ ds, rfl, h3, TrCs.app h4 h2⟩
theorem TrCs.one {w : World} {P : Nat → Prop} {h : TrH} {kids : TrF} {ga : Option Addr} {gc : Nat} (hk : TrS w P ga gc kids) : TrCs w P (.cons h kids .nil) [.int .i64 h.k, .int .i64 h.i, .int .i64 h.a, .slice ga kids.len gc] := ⟨ga, gc, [], rfl, hk, rfl⟩
theorem TrCs.kept {w w' : World} {P : Nat → Prop} (hc : ∀ b off v, P b → w.cell? ⟨b, off, none⟩ = some v → w'.cell? ⟨b, off, none⟩ = some v) : ∀ {f : TrF} {cs : List Value}, TrCs w P f cs → TrCs w' P f cs
 | .nil, _, h => h
 | .cons x kids rest, _, h => by
  obtain ⟨ga, gc, r, e, h3, h4⟩ := h
  exact ⟨ga, gc, r, e, h3.kept hc, TrCs.kept hc h4⟩
theorem TrCs.imp {w : World} {P Q : Nat → Prop} (hp : ∀ b, P b → b < w.heap.size → Q b) : ∀ {f : TrF} {cs : List Value}, TrCs w P f cs → TrCs w Q f cs
 | .nil, _, h => h
 | .cons x kids rest, _, h => by
  obtain ⟨ga, gc, r, e, h3, h4⟩ := h
  exact ⟨ga, gc, r, e, h3.imp hp, TrCs.imp hp h4⟩
theorem TrCs.el {w : World} {P : Nat → Prop} : ∀ {f : TrF} {cs : List Value} {b off : Nat}, TrCs w P f cs → (∀ j v, cs[j]? = some v → w.cell? ⟨b, off + j, none⟩ = some v) → TrEl w P f b off
 | .nil, _, _, _, _, _ => trivial
 | .cons x kids rest, cs, b, off, h, hr => by
  obtain ⟨ga, gc, r, rfl, h3, h4⟩ := h
  refine ⟨hr 0 _ rfl, hr 1 _ rfl, hr 2 _ rfl, ⟨ga, gc, hr 3 _ rfl, h3.le, h3.max, h3.nil_, h3.at_⟩, TrCs.el h4 (fun j v hj => ?_)⟩
  have := hr (j + 4) v (by simpa using hj)
  rwa [show off + (j + 4) = off + 4 + j by omega] at this
theorem row_trs {W : World} {base c : Nat} {e : TypeId} {a : Option Addr} {f : TrF} {cs : List Value} {P : Nat → Prop} (h : W.ownsRow base e 4 (.slice a f.len c) f.len cs) (hc : TrCs W P f cs) (hp : ∀ g o, a = some ⟨g, o, none⟩ → base ≤ g → P g) : TrS W P a c f := by
 rcases h.2 with ⟨e1, e2⟩ | ⟨g, cap', cur, e1, hb, hg, hle, hm, hs, ht⟩
 ·simp only [Value.slice.injEq] at e1
  obtain ⟨rfl, e3, rfl⟩ := e1
  exact ⟨by omega, by omega, fun _ => rfl, fun hn => by omega⟩
 ·simp only [Value.slice.injEq] at e1
  obtain ⟨rfl, -, rfl⟩ := e1
  have hm2 : c ≤ 9223372036854775807 := by unfold maxLen at hm; omega
  refine ⟨hle, hm2, fun e => (by cases e), fun hn => ⟨g, 0, rfl, hp g 0 rfl hb, hc.el (fun j v hj => ?_)⟩⟩
  have hlt := (List.getElem?_eq_some_iff.1 hj).1
  rw [Nat.zero_add, h.cellAt j (by rw [← hc.len]; exact hlt)]
  exact hj
end Go.Proofs.Ytfdhaochnbfndaa
namespace Go.Proofs.Ytfdhaochnbfndaa
open Go.RowKit
theorem info_tree : (Try.prog.info? 51).map (fun i => (i.zero, i.size, i.bytes)) = some (some (.agg #[.int .i64 0, .int .i64 0, .int .i64 0, .slice none 0 0]), 4, 48) := by kernel_rfl
end Go.Proofs.Ytfdhaochnbfndaa
namespace Go.Proofs.Ytfdhaochnbfndaa
open Go.RowKit Go.Maps
attribute [local go_sem] Oper.semAt_some
theorem OwnCl.at_ {W : World} {base c : Nat} {a : Option Addr} {l : List Cl4} (h : OwnCl W base a c l) (i : Nat) (hi : i < l.length) :
 ∃ g, a = some ⟨g, 0, none⟩ ∧ g < W.heap.size ∧ W.cell? ⟨g, i * 4, none⟩ = some (.int .i64 (l[i].1 : Int)) ∧ W.cell? ⟨g, i * 4 + 1, none⟩ = some (.int .i64 (l[i].2.1 : Int)) ∧ W.cell? ⟨g, i * 4 + 2, none⟩ = some (.int .i64 (l[i].2.2.1 : Int)) ∧ W.cell? ⟨g, i * 4 + 3, none⟩ = some (.int .i64 (l[i].2.2.2 : Int)) := by
 rcases h.2 with ⟨_, e2⟩ | ⟨g, cap', cur, e1, hb, hg, hle, hm, hs, ht⟩
 ·omega
 ·simp only [Value.slice.injEq] at e1
  obtain ⟨rfl, -, rfl⟩ := e1
  have key : ∀ (l : List Cl4) (i : Nat) (hi : i < l.length), (l.flatMap clC)[i * 4]? = some (.int .i64 (l[i].1 : Int)) ∧ (l.flatMap clC)[i * 4 + 1]? = some (.int .i64 (l[i].2.1 : Int)) ∧ (l.flatMap clC)[i * 4 + 2]? = some (.int .i64 (l[i].2.2.1 : Int)) ∧ (l.flatMap clC)[i * 4 + 3]? = some (.int .i64 (l[i].2.2.2 : Int)) := by
   intro l
   induction l with
   | nil => intro i hi; cases hi
   | cons x l ih =>
    intro i hi
    rw [List.flatMap_cons]
    cases i with
    | zero => simp [clC]
    | succ i =>
     have h4 : (clC x).length = 4 := rfl
     have := ih i (by simpa using hi)
     rw [List.getElem?_append_right (by rw [h4]; omega), List.getElem?_append_right (by rw [h4]; omega), List.getElem?_append_right (by rw [h4]; omega), List.getElem?_append_right (by rw [h4]; omega), h4, show (i + 1) * 4 - 4 = i * 4 by omega, show (i + 1) * 4 + 1 - 4 = i * 4 + 1 by omega, show (i + 1) * 4 + 2 - 4 = i * 4 + 2 by omega, show (i + 1) * 4 + 3 - 4 = i * 4 + 3 by omega]
     simpa using this
  obtain ⟨k0, k1, k2, k3⟩ := key l i hi
  refine ⟨g, rfl, (Array.getElem?_eq_some_iff.1 hg).1, ?_, ?_, ?_, ?_⟩
  ·rw [h.cellAt (i * 4) (by omega)]; exact k0
  ·rw [h.cellAt (i * 4 + 1) (by omega)]; exact k1
  ·rw [h.cellAt (i * 4 + 2) (by omega)]; exact k2
  ·rw [h.cellAt (i * 4 + 3) (by omega)]; exact k3
noncomputable def few10 (d : CfD) : Bool := decide (d.toks.length + d.names.length + szC (d.alts.map IrD.p) ≤ 150) && decide (validE d.p = 0)
theorem few10_fit {d : CfD} (h : few10 d = true) : FitC d := by
 unfold few10 at h
 rw [Bool.and_eq_true, decide_eq_true_eq, decide_eq_true_eq] at h
 exact valid_fit h.2
end Go.Proofs.Ytfdhaochnbfndaa
namespace Go.Proofs.Ytfdhaochnbfndaa
open Go.RowKit Go.Maps
attribute [local go_sem] Oper.semAt_some
/-- What tables answers: none, or the grammar's own table. -/
def TbsQ (w : World) (d : CfD) (e : Ending) (W' : World) : Prop := Below w.heap.size w W' ∧ (e = .returned (.tuple #[.slice none 0 0, .bool false]) ∨
 (few10 d = true ∧ allCl (d.alts.map IrD.p) (nulB (d.alts.map IrD.p)) d.toks.length = [] ∧ ∃ oa oc, ∃ rs : List IltD, e = .returned (.tuple #[.slice oa rs.length oc, .bool true]) ∧ rs.length = (d.alts.map IrD.p).length ∧ AltsI W' oa oc rs ∧ ∀ r, r < (d.alts.map IrD.p).length → rowL rs r = rowT (fun t j => takB (d.alts.map IrD.p) (nulB (d.alts.map IrD.p)) d.toks.length r (t : Int) j) ((d.alts.map IrD.p).getD r []).length (d.toks.length + 1)))
set_option maxRecDepth 100000 in
set_option maxHeartbeats 16000000 in
theorem tables_any (d : CfD) (w : World) (hd : CfAt w d) (h1 : ∀ t ∈ d.toks, t.size ≤ maxLen) (h2 : ∀ t ∈ d.names, t.size ≤ maxLen) (h3 : ∀ r ∈ d.alts, ∀ a ∈ r.ds, ∀ x ∈ a.l, -9223372036854775808 ≤ x ∧ x ≤ 9223372036854775807) (hs : d.toks.length + d.names.length + szC (d.alts.map IrD.p) ≤ 1000000000000) :
 Calls Try.prog 40 #[d.v] w (TbsQ w d) := by
 have HF := Lib.hid (fun W (hb : Below w.heap.size w W) => refFewM_any 150 (by omega) d W (hd.grown hb) hs)
 have HV := Lib.hid (fun W (hb : Below w.heap.size w W) (hf : d.toks.length + d.names.length + szC (d.alts.map IrD.p) ≤ 150) => refValid_any d W (hd.grown hb) ⟨by omega, h1, h2⟩ h3)
 have HT0 := Lib.hid (fun W (hb : Below w.heap.size w W) (hf : FitC d) => refBuild_any10 d W (hd.grown hb) hf)
 have Hfw : Hid (d.toks.length + d.names.length + szC (d.alts.map IrD.p) ≤ 150 → validE d.p = 0 → few10 d = true) := Lib.hid (fun ha hb => by unfold few10; rw [decide_eq_true ha, decide_eq_true hb]; rfl)
 have Hft : Hid (few10 d = true → FitC d) := Lib.hid few10_fit
 obtain ⟨Q, hQ⟩ : ∃ Q : Ending → World → Prop, Hid (TbsQ w d = Q) := ⟨_, Lib.hid rfl⟩
 rw [hQ.out]
 have HN0 : Hid (∀ W, Below w.heap.size w W → Q (.returned (.tuple #[.slice none 0 0, .bool false])) W) := Lib.hid (fun W hb => by rw [← hQ.out]; exact ⟨hb, .inl rfl⟩)
 have HY0 : Hid (few10 d = true → ∀ w1 e W, Below w.heap.size w w1 → BldR w1 (d.alts.map IrD.p) (nulB (d.alts.map IrD.p)) d.toks.length e W → (e = .returned (.tuple #[.slice none 0 0, .int .i64 100]) ∧ Below w.heap.size w W) ∨ ∃ oa oc n, e = .returned (.tuple #[.slice oa n oc, .int .i64 0]) ∧ Below w.heap.size w W ∧ n ≤ oc ∧ oc ≤ 9223372036854775807 ∧ Q (.returned (.tuple #[.slice oa n oc, .bool true])) W) := Lib.hid (fun hw w1 e W hb hB => by
  rcases hB with ⟨_, rfl, hb2⟩ | ⟨h4, oa, oc, rs, rfl, h5, h6, h7, hb2⟩
  ·exact .inl ⟨rfl, hb.trans (hb2.mono hb.size)⟩
  ·have hl := h6.row.le
   rw [List.length_map] at hl
   refine .inr ⟨oa, oc, rs.length, rfl, hb.trans (hb2.mono hb.size), hl, h6.row.max, ?_⟩
   rw [← hQ.out]
   exact ⟨hb.trans (hb2.mono hb.size), .inr ⟨hw, h4, oa, oc, rs, rfl, h5, h6, h7⟩⟩)
 clear hQ
 obtain ⟨E, hE⟩ : ∃ q, Hid (validE d.p = q) := ⟨_, Lib.hid rfl⟩
 rw [hE.out] at HV Hfw
 obtain ⟨Z, hZ⟩ : ∃ q, Hid (d.toks.length + d.names.length + szC (d.alts.map IrD.p) = q) := ⟨_, Lib.hid rfl⟩
 rw [hZ.out] at HF HV Hfw
 obtain ⟨FW, hFW⟩ : ∃ q : Prop, Hid ((few10 d = true) = q) := ⟨_, Lib.hid rfl⟩
 rw [hFW.out] at Hfw Hft HY0
 obtain ⟨xt, xta, xtc, xn, xna, xnc, xa, xaa, xac⟩ := d
 dsimp only [CfD.v] at *
 have hb1 : Below w.heap.size w (w.alloc (.cells #[.slice xta xt.length xtc, .slice xna xn.length xnc, .slice xaa xa.length xac] 25)) := (Below.refl _ w).alloc (Nat.le_refl _) _
 have hA := Blk.new w 25 #[.slice xta xt.length xtc, .slice xna xn.length xnc, .slice xaa xa.length xac]
 have HTb := Lib.hid (fun (h : FW) W hb => HT0.out W hb (Hft.out h))
 obtain ⟨BR, hBR⟩ : ∃ q : World → Ending → World → Prop, Hid ((fun w1 => BldR w1 (xa.map IrD.p) (nulB (xa.map IrD.p)) xt.length) = q) := ⟨_, Lib.hid rfl⟩
 have HT2 : Hid (∀ (h : FW) W (hb : Below w.heap.size w W), Calls Try.prog 34 #[.agg #[.slice xta xt.length xtc, .slice xna xn.length xnc, .slice xaa xa.length xac]] W (BR W)) := Lib.hid (fun h W hb => by rw [← hBR.out]; exact HTb.out h W hb)
 have HY : Hid (FW → ∀ w1 e W, Below w.heap.size w w1 → BR w1 e W → (e = .returned (.tuple #[.slice none 0 0, .int .i64 100]) ∧ Below w.heap.size w W) ∨ ∃ oa oc n, e = .returned (.tuple #[.slice oa n oc, .int .i64 0]) ∧ Below w.heap.size w W ∧ n ≤ oc ∧ oc ≤ 9223372036854775807 ∧ Q (.returned (.tuple #[.slice oa n oc, .bool true])) W) := Lib.hid (by rw [← hBR.out]; exact HY0.out)
 clear HT0 HTb HY0 Hft hBR hFW hZ hE
 obtain ⟨T, HT⟩ : ∃ q, Hid (xt.length = q) := ⟨_, Lib.hid rfl⟩
 obtain ⟨N, HN⟩ : ∃ q, Hid (xn.length = q) := ⟨_, Lib.hid rfl⟩
 obtain ⟨L, HL⟩ : ∃ q, Hid (xa.length = q) := ⟨_, Lib.hid rfl⟩
 rw [HT.out, HN.out, HL.out] at hA hb1 HF HV HT2 ⊢
 have x0 := hA.cell 0
 have x1 := hA.cell 1
 have x2 := hA.cell 2
 have xl := hA.lt
 simp only [List.getElem?_cons_zero, List.getElem?_cons_succ] at x0 x1 x2
 have HA := Lib.hid hA
 have Hb1 := Lib.hid hb1
 have HF' : Hid (∀ W, Below w.heap.size w W → Calls Try.prog 50 #[.agg #[.slice xta T xtc, .slice xna N xnc, .slice xaa L xac], .int .i64 150] W fun e w' => e = .returned (.bool (decide (Z ≤ 150))) ∧ Below W.heap.size W w') := HF
 have Hc1 := Lib.hid (HF'.out _ hb1)
 clear hd hA hb1 h1 h2 h3 hs HF HF'
 by_cases hz : Z ≤ 150
 ·rw [decide_eq_true hz] at Hc1
  have HV' : Hid (∀ W, Below w.heap.size w W → Calls Try.prog 56 #[.agg #[.slice xta T xtc, .slice xna N xnc, .slice xaa L xac]] W fun e w' => e = .returned (.int .i64 E) ∧ Below W.heap.size W w') := Lib.hid (fun W hb => HV.out W hb hz)
  have Hfw2 : Hid (E = 0 → FW) := Lib.hid (Hfw.out hz)
  clear HV hz Hfw
  go_enter Try.func40, Try.ntmps40
  go_wp2_with (fail)
  obtain ⟨bx, hbx⟩ : ∃ q, Hid (w.heap.size = q) := ⟨_, Lib.hid rfl⟩
  rw [hbx.out] at HA xl x0 x1 x2 ⊢
  generalize hV : World.alloc w _ = V at HA x0 x1 x2 xl Hb1 Hc1 ⊢
  clear hV
  refine Hc1.out.mono ?_
  rintro e w2 ⟨rfl, hb2⟩
  have HA2 := Lib.hid (HA.out.below hb2 HA.out.lt)
  have Hb2 := Lib.hid (Hb1.out.trans (hb2.mono Hb1.out.size))
  clear x0 x1 x2 xl hb2 Hc1
  have x0 := HA2.out.cell 0
  have x1 := HA2.out.cell 1
  have x2 := HA2.out.cell 2
  have xl := HA2.out.lt
  simp only [List.getElem?_cons_zero, List.getElem?_cons_succ] at x0 x1 x2
  go_wp2_with (fail)
  refine (HV'.out w2 Hb2.out).mono ?_
  rintro e w3 ⟨rfl, hb2⟩
  have HA3 := Lib.hid (HA2.out.below hb2 HA2.out.lt)
  have Hb3 := Lib.hid (Hb2.out.trans (hb2.mono Hb2.out.size))
  clear x0 x1 x2 xl hb2 HV'
  have x0 := HA3.out.cell 0
  have x1 := HA3.out.cell 1
  have x2 := HA3.out.cell 2
  have xl := HA3.out.lt
  simp only [List.getElem?_cons_zero, List.getElem?_cons_succ] at x0 x1 x2
  by_cases he : E = 0
  ·have Hw := Lib.hid (Hfw2.out he)
   subst he
   go_wp2_with (fail)
   refine (HT2.out Hw.out w3 Hb3.out).mono ?_
   rintro e w4 hB
   rcases HY.out Hw.out w3 e w4 Hb3.out hB with ⟨rfl, hb⟩ | ⟨oa, oc, n, rfl, hb, hn, hc, hq⟩
   ·have Hfin := Lib.hid (HN0.out w4 hb)
    clear x0 x1 x2 xl hB hb
    go_wp2_with (fail)
    first | exact Hfin.out | exact bodyPost_ret (v := .tuple #[.slice none 0 0, .bool false]) (by simp [results, Try.results40, go_sem]; try first | rfl | assumption | omega) rfl Hfin.out
   ·have Hfin := Lib.hid hq
    clear x0 x1 x2 xl hB hb hq
    go_wp2_with (fail)
    first | exact Hfin.out | exact bodyPost_ret (v := .tuple #[.slice oa n oc, .bool true]) (by simp [results, Try.results40, go_sem]; try first | rfl | assumption | omega) rfl Hfin.out
  ·have heb : (E != 0) = true := by simp [he]
   have Hfin := Lib.hid (HN0.out w3 Hb3.out)
   go_wp2_with (fail)
   first | exact Hfin.out | exact bodyPost_ret (v := .tuple #[.slice none 0 0, .bool false]) (by simp [results, Try.results40, go_sem]; try first | rfl | assumption | omega) rfl Hfin.out
 ·rw [decide_eq_false hz] at Hc1
  clear HV hz Hfw
  go_enter Try.func40, Try.ntmps40
  go_wp2_with (fail)
  obtain ⟨bx, hbx⟩ : ∃ q, Hid (w.heap.size = q) := ⟨_, Lib.hid rfl⟩
  rw [hbx.out] at HA xl x0 x1 x2 ⊢
  generalize hV : World.alloc w _ = V at HA x0 x1 x2 xl Hb1 Hc1 ⊢
  clear hV
  refine Hc1.out.mono ?_
  rintro e w2 ⟨rfl, hb2⟩
  have Hfin := Lib.hid (HN0.out w2 (Hb1.out.trans (hb2.mono Hb1.out.size)))
  clear x0 x1 x2 xl hb2 Hc1
  go_wp2_with (fail)
  first | exact Hfin.out | exact bodyPost_ret (v := .tuple #[.slice none 0 0, .bool false]) (by simp [results, Try.results40, go_sem]; try first | rfl | assumption | omega) rfl Hfin.out
end Go.Proofs.Ytfdhaochnbfndaa
namespace Go.Proofs.Ytfdhaochnbfndaa
open Go.RowKit Go.Maps
attribute [local go_sem] Oper.semAt_some
/-- The panic that giving up is. -/
def refuP (a e : Int) : Ending := .panicked [{ v := .iface 152 (.agg #[.int .i64 a, .int .i64 e]), recovered := false }]
set_option maxRecDepth 100000 in
set_option maxHeartbeats 16000000 in
theorem giveUp_any (bp : Nat) (v0 v1 v2 v3 v4 v6 v7 : Value) (a e : Int) (w : World) (hB : Blk w bp 155 [v0, v1, v2, v3, v4, .int .i64 a, v6, v7]) :
 Calls Try.prog 122 #[.pointer (some ⟨bp, 0, none⟩), .int .i64 e] w fun E w' => E = refuP a e ∧ w' = w := by
 have yl := hB.lt
 have y5 := hB.cell 5
 simp only [List.getElem?_cons_zero, List.getElem?_cons_succ] at y5
 clear hB
 go_enter Try.func122, Try.ntmps122
 go_wp2_with (fail)
 first | exact bodyPost_panic rfl ⟨rfl, rfl⟩ | exact ⟨rfl, rfl⟩ | (simp [bodyPost, refuP]; done) | exact ⟨rfl, _, rfl, rfl, rfl⟩
end Go.Proofs.Ytfdhaochnbfndaa
