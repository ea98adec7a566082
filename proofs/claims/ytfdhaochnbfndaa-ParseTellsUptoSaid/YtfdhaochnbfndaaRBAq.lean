/- Texts joined: Zi Zj. -/
import Derived.Test.YtfdhaochnbfndaaRBAa
import Derived.Test.YtfdhaochnbfndaaRBAg
import Derived.Test.YtfdhaochnbfndaaRBAp
set_option linter.unusedVariables false
set_option linter.unusedSimpArgs false
namespace Go.Proofs.Ytfdhaochnbfndaa
open Go.RowKit Go.Maps
attribute [local go_sem] Oper.semAt_some
/-- What is parsed by, of a grammar by numbers, a table and tokens in memory. -/
def gOf (d : CfD) (tbs : List IltD) (toks : List Int) : PsG := ⟨d.alts.map IrD.p, tbs.map (fun x => x.l), d.toks.length, toks⟩
def psI : Option (Nat × List Int) → Int
 | none => -1
 | some p => (p.1 : Int)
theorem next_at {G : PsG} {a : Nat} (h : a < G.toks.length) : G.next a = G.toks[a] := by
 unfold PsG.next
 rw [List.getElem?_eq_getElem h]
 rfl
theorem next_end {G : PsG} {a : Nat} (h : G.toks.length ≤ a) : G.next a = (G.T : Int) := by
 unfold PsG.next
 rw [List.getElem?_eq_none h]
 rfl
theorem alt_norow {G : PsG} {r a : Nat} (h : G.tb.length ≤ r) : G.alt r a = none := by
 unfold PsG.alt
 rw [List.getD_eq_getElem?_getD, List.getElem?_eq_none h]
 simp
theorem alt_nocell {G : PsG} {r a : Nat} (h : (G.tb.getD r []).length ≤ (G.next a).toNat) : G.alt r a = none := by
 unfold PsG.alt
 rw [List.getElem?_eq_none h]
theorem alt_cell {G : PsG} {r a : Nat} {i : Int} (h : (G.tb.getD r [])[(G.next a).toNat]? = some i) : G.alt r a = if 0 ≤ i then ((G.al.getD r [])[i.toNat]?).map (fun l => (i.toNat, l)) else none := by
 unfold PsG.alt
 rw [h]
theorem alt_norule {G : PsG} {r a : Nat} (h : G.al.length ≤ r) : G.alt r a = none := by
 unfold PsG.alt
 have h2 : G.al.getD r [] = [] := by rw [List.getD_eq_getElem?_getD, List.getElem?_eq_none h]; rfl
 rw [h2]
 split
 ·rfl
 ·simp
theorem alt_noalt {G : PsG} {r a : Nat} {i : Int} (h : (G.tb.getD r [])[(G.next a).toNat]? = some i) (hi : i < 0 ∨ ((G.al.getD r []).length : Int) ≤ i) : psI (G.alt r a) = -1 := by
 rw [alt_cell h]
 by_cases h0 : 0 ≤ i
 ·rw [if_pos h0, List.getElem?_eq_none (by omega)]
  rfl
 ·rw [if_neg h0]
  rfl
theorem alt_is {G : PsG} {r a : Nat} {i : Int} (h : (G.tb.getD r [])[(G.next a).toNat]? = some i) (h0 : 0 ≤ i) (hi : i < ((G.al.getD r []).length : Int)) : psI (G.alt r a) = i := by
 rw [alt_cell h, if_pos h0, List.getElem?_eq_getElem (by omega)]
 show ((i.toNat : Nat) : Int) = i
 omega
set_option maxRecDepth 100000 in
set_option maxHeartbeats 16000000 in
theorem ralt_any (d : CfD) (ta : Option Addr) (tc : Nat) (tbs : List IltD) (ka : Option Addr) (kc : Nat) (toks : List Int) (a bp : Nat) (nd e : Int) (r : Nat) (w : World) (hd : CfAt w d) (ht : AltsI w ta tc tbs) (hk : Ints w ka kc toks) (hB : Blk w bp 108 [.slice d.ta d.toks.length d.tc, .slice d.na d.names.length d.nc, .slice d.aa d.alts.length d.ac, .slice ta tbs.length tc, .slice ka toks.length kc, .int .i64 (a : Int), .int .i64 nd, .int .i64 e]) (h0 : ∀ x ∈ toks, 0 ≤ x) (ha : a ≤ toks.length) :
 Calls Try.prog 124 #[.pointer (some ⟨bp, 0, none⟩), .int .i64 (r : Int)] w fun e w' => e = .returned (.int .i64 (psI ((gOf d tbs toks).alt r a))) ∧ Below w.heap.size w w' := by
 obtain ⟨m, hm⟩ : ∃ m : Nat, (gOf d tbs toks).next a = (m : Int) := by
  by_cases hlt : a < toks.length
  ·rw [next_at (G := gOf d tbs toks) hlt]
   exact ⟨toks[a].toNat, by have := h0 _ (List.getElem_mem hlt); show toks[a] = _; omega⟩
  ·rw [next_end (G := gOf d tbs toks) (by show toks.length ≤ a; omega)]
   exact ⟨_, rfl⟩
 obtain ⟨ans, hans⟩ : ∃ q, Hid (psI ((gOf d tbs toks).alt r a) = q) := ⟨_, Lib.hid rfl⟩
 have A1 : Hid (tbs.length ≤ r → ans = -1) := Lib.hid (fun h => by rw [← hans.out, alt_norow (by show (tbs.map _).length ≤ r; rw [List.length_map]; exact h)]; rfl)
 have A3 : Hid (d.alts.length ≤ r → ans = -1) := Lib.hid (fun h => by rw [← hans.out, alt_norule (by show (d.alts.map _).length ≤ r; rw [List.length_map]; exact h)]; rfl)
 have hrow : ∀ h : r < tbs.length, (gOf d tbs toks).tb.getD r [] = (tbs[r]).l := fun h => by
  show (tbs.map (fun x => x.l)).getD r [] = _
  rw [List.getD_eq_getElem?_getD, List.getElem?_map, List.getElem?_eq_getElem h]
  rfl
 have A2 : Hid (∀ h : r < tbs.length, (tbs[r]).l.length ≤ m → ans = -1) := Lib.hid (fun h h2 => by rw [← hans.out, alt_nocell (by rw [hrow h, hm]; omega)]; rfl)
 have A4 : Hid (∀ h : r < tbs.length, ∀ h2 : m < (tbs[r]).l.length, ((tbs[r]).l[m] < 0 ∨ (((d.alts.map IrD.p).getD r []).length : Int) ≤ (tbs[r]).l[m]) → ans = -1) := Lib.hid (fun h h2 h3 => by
  rw [← hans.out]
  exact alt_noalt (i := (tbs[r]).l[m]) (by rw [hrow h, hm, Int.toNat_natCast, List.getElem?_eq_getElem h2]) h3)
 have A5 : Hid (∀ h : r < tbs.length, ∀ h2 : m < (tbs[r]).l.length, 0 ≤ (tbs[r]).l[m] → (tbs[r]).l[m] < (((d.alts.map IrD.p).getD r []).length : Int) → ans = (tbs[r]).l[m]) := Lib.hid (fun h h2 h3 h4 => by
  rw [← hans.out]
  exact alt_is (by rw [hrow h, hm, Int.toNat_natCast, List.getElem?_eq_getElem h2]) h3 h4)
 have Hnn : Hid (∀ (r : Nat) (h : r < d.alts.length), ((d.alts.map IrD.p).getD r []).length = (d.alts[r]).ds.length) := Lib.hid (fun r h => by
  rw [List.getD_eq_getElem?_getD, List.getElem?_map, List.getElem?_eq_getElem h]
  exact List.length_map _)
 have hlo : Hid (∀ h : a < toks.length, toks[a] = (m : Int)) := Lib.hid (fun h => by rw [← hm, next_at (G := gOf d tbs toks) h]; rfl)
 have hle : Hid (¬ a < toks.length → d.toks.length = m) := Lib.hid (fun h => by
  have := next_end (G := gOf d tbs toks) (a := a) (by show toks.length ≤ a; omega)
  rw [hm] at this
  have h2 : ((m : Nat) : Int) = (d.toks.length : Int) := this
  omega)
 rw [hans.out]
 clear hans hm hrow h0
 have hxm : d.alts.length ≤ d.ac ∧ d.ac ≤ 9223372036854775807 := ⟨by have := hd.alts.le; rwa [List.length_map] at this, hd.alts.max⟩
 have hxt : d.toks.length ≤ d.tc ∧ d.tc ≤ 9223372036854775807 := ⟨by have := hd.toks.le; rwa [List.length_map] at this, hd.toks.max⟩
 have htm : tbs.length ≤ tc ∧ tc ≤ 9223372036854775807 := ⟨by have := ht.row.le; rwa [List.length_map] at this, ht.row.max⟩
 have hkm : toks.length ≤ kc ∧ kc ≤ 9223372036854775807 := ⟨by have := hk.le; rw [List.length_map] at this; exact this, hk.max⟩
 obtain ⟨xt, xta, xtc, xn, xna, xnc, xa, xaa, xac⟩ := d
 dsimp only at *
 have Hd := Lib.hid hd
 have Ht := Lib.hid ht
 have Hk := Lib.hid hk
 obtain ⟨T, HT⟩ : ∃ q, Hid (xt.length = q) := ⟨_, Lib.hid rfl⟩
 obtain ⟨N, HN⟩ : ∃ q, Hid (xn.length = q) := ⟨_, Lib.hid rfl⟩
 obtain ⟨L, HL⟩ : ∃ q, Hid (xa.length = q) := ⟨_, Lib.hid rfl⟩
 obtain ⟨TB, HTB⟩ : ∃ q, Hid (tbs.length = q) := ⟨_, Lib.hid rfl⟩
 obtain ⟨K, HK⟩ : ∃ q, Hid (toks.length = q) := ⟨_, Lib.hid rfl⟩
 rw [HT.out, HN.out, HL.out, HTB.out, HK.out] at hB
 rw [HTB.out] at A1 htm
 rw [HL.out] at A3 hxm
 rw [HT.out] at hxt hle
 rw [HK.out] at hkm ha
 have HB := Lib.hid hB
 clear hd ht hk
 have y0 := hB.cell 0
 have y1 := hB.cell 1
 have y2 := hB.cell 2
 have y3 := hB.cell 3
 have y4 := hB.cell 4
 have y5 := hB.cell 5
 have y6 := hB.cell 6
 have y7 := hB.cell 7
 have yl := hB.lt
 simp only [List.getElem?_cons_zero, List.getElem?_cons_succ] at y0 y1 y2 y3 y4 y5 y6 y7
 have hd2 := (Below.refl w.heap.size w).drew
 have HB2 := Lib.hid (hB.below hd2 yl)
 clear hB
 go_enter Try.func124, Try.ntmps124
 by_cases hlt : a < K
 ·have hal : a < toks.length := by rw [HK.out]; exact hlt
  have haI : (a : Int) < (K : Int) := by omega
  have haI0 : (0 : Int) ≤ (a : Int) := by omega
  have htk := hlo.out hal
  go_wp2_with (fail)
  clear y0 y1 y2 y3 y4 y5 y6 y7 yl
  obtain ⟨z9, zo9, hz9⟩ := Hk.out.at_ a (by rw [List.length_map]; exact hal)
  have hd3 := (Below.refl w.drew.heap.size w.drew).drew
  have hb3 := hd2.trans (hd3.mono hd2.size)
  have HBB := Lib.hid (HB2.out.below hd3 HB2.out.lt)
  have HTT := Lib.hid (Ht.out.grown hb3)
  have HDD := Lib.hid (Hd.out.grown hb3)
  have HBW := Lib.hid hb3
  have cz9 := (Hk.out.grown hb3).cell z9 zo9 hz9 a (by rw [List.length_map]; exact hal)
  rw [List.getElem_map, htk] at cz9
  have HS2 : Hid (w.drew.cell? ⟨bp, 4, none⟩ = some (.slice ka K kc) ∧ w.drew.cell? ⟨bp, 5, none⟩ = some (.int .i64 (a : Int))) := Lib.hid ⟨HB2.out.cell 4, HB2.out.cell 5⟩
  have HS3 : Hid (w.drew.drew.cell? ⟨bp, 4, none⟩ = some (.slice ka K kc) ∧ w.drew.drew.cell? ⟨bp, 5, none⟩ = some (.int .i64 (a : Int)) ∧ w.drew.drew.cell? ⟨z9, zo9 + a, none⟩ = some (.int .i64 (m : Int))) := Lib.hid ⟨HBB.out.cell 4, HBB.out.cell 5, cz9⟩
  subst hz9
  clear hd2 hd3 hb3 cz9 htk Hk
  refine wp_region_held_drew (S := fun w' => w'.cell? ⟨bp, 4, none⟩ = some (.slice (some ⟨z9, zo9, none⟩) K kc) ∧ w'.cell? ⟨bp, 5, none⟩ = some (.int .i64 (a : Int))) (by kernel_rfl) ?_ (fun hHeld => ?_)
  ·exact HS2.out
  refine wpAnyH_take (i := 0) (v := ?_) (iatLS iatZS) (by kernel_rfl) (by kernel_rfl) (by kernel_rfl) (fun _ _ _ h => h) (Or.inl ⟨by rfl, ?_⟩) (by assumption) ?_
  rotate_left
  ·intro w hSw
   try dsimp only at hSw
   go_simp
   all_goals with_reducible rfl
  try simp only [Act.put, List.setIfInBounds_toArray, List.set_cons_zero, List.set_cons_succ]
  refine wpAnyH_take (i := 1) (v := ?_) (iatLS (iatSS iatZS)) (by kernel_rfl) (by kernel_rfl) (by kernel_rfl) (fun _ _ _ h => h) (Or.inl ⟨by rfl, ?_⟩) (by assumption) ?_
  rotate_left
  ·intro w hSw
   try dsimp only at hSw
   go_simp
   all_goals with_reducible rfl
  try simp only [Act.put, List.setIfInBounds_toArray, List.set_cons_zero, List.set_cons_succ]
  refine wpAnyH_take (i := 2) (v := ?_) (iatLS (iatSS (iatSS iatZS))) (by kernel_rfl) (by kernel_rfl) (by kernel_rfl) (fun _ _ _ h => h) (Or.inl ⟨by rfl, ?_⟩) (by assumption) ?_
  rotate_left
  ·intro w hSw
   try dsimp only at hSw
   go_simp
   all_goals with_reducible rfl
  try simp only [Act.put, List.setIfInBounds_toArray, List.set_cons_zero, List.set_cons_succ]
  refine wpAnyH_take (i := 3) (v := ?_) (iatLS (iatSS (iatSS (iatSS iatZS)))) (by kernel_rfl) (by kernel_rfl) (by kernel_rfl) (fun _ _ _ h => h) (Or.inl ⟨by rfl, ?_⟩) (by assumption) ?_
  rotate_left
  ·intro w hSw
   try dsimp only at hSw
   go_simp
   all_goals with_reducible rfl
  try simp only [Act.put, List.setIfInBounds_toArray, List.set_cons_zero, List.set_cons_succ]
  refine wpAnyH_take (i := 4) (v := ?_) (iatLS (iatSS (iatSS (iatSS (iatSS iatZS))))) (by kernel_rfl) (by kernel_rfl) (by kernel_rfl) (fun _ _ _ h => h) (Or.inl ⟨by rfl, ?_⟩) (by assumption) ?_
  rotate_left
  ·intro w hSw
   try dsimp only at hSw
   go_simp
   all_goals with_reducible rfl
  try simp only [Act.put, List.setIfInBounds_toArray, List.set_cons_zero, List.set_cons_succ]
  refine wpAnyH_take (i := 5) (v := ?_) (iatLS (iatSS (iatSS (iatSS (iatSS (iatSS iatZS)))))) (by kernel_rfl) (by kernel_rfl) (by kernel_rfl) (fun _ _ _ h => h) (Or.inl ⟨by rfl, ?_⟩) (by assumption) ?_
  rotate_left
  ·intro w hSw
   try dsimp only at hSw
   go_simp
   all_goals with_reducible rfl
  try simp only [Act.put, List.setIfInBounds_toArray, List.set_cons_zero, List.set_cons_succ]
  refine wpAnyH_take (i := 6) (v := ?_) (iatLS (iatSS (iatSS (iatSS (iatSS (iatSS (iatSS iatZS))))))) (by kernel_rfl) (by kernel_rfl) (by kernel_rfl) (fun _ _ _ h => h) (Or.inl ⟨by rfl, ?_⟩) (by assumption) ?_
  rotate_left
  ·intro w hSw
   try dsimp only at hSw
   go_simp
   all_goals with_reducible rfl
  try simp only [Act.put, List.setIfInBounds_toArray, List.set_cons_zero, List.set_cons_succ]
  refine wpAnyH_take (i := 7) (v := ?_) (iatLS (iatSS (iatSS (iatSS (iatSS (iatSS (iatSS (iatSS iatZS)))))))) (by kernel_rfl) (by kernel_rfl) (by kernel_rfl) (fun _ _ _ h => h) (Or.inl ⟨by rfl, ?_⟩) (by assumption) ?_
  rotate_left
  ·intro w hSw
   try dsimp only at hSw
   go_simp
   all_goals with_reducible rfl
  try simp only [Act.put, List.setIfInBounds_toArray, List.set_cons_zero, List.set_cons_succ]
  refine wpAnyH_take (i := 8) (v := ?_) (iatLS (iatSS (iatSS (iatSS (iatSS (iatSS (iatSS (iatSS (iatSS iatZS))))))))) (by kernel_rfl) (by kernel_rfl) (by kernel_rfl) (fun _ _ _ h => h) (Or.inl ⟨by rfl, ?_⟩) (by assumption) ?_
  rotate_left
  ·intro w hSw
   try dsimp only at hSw
   go_simp
   all_goals with_reducible rfl
  try simp only [Act.put, List.setIfInBounds_toArray, List.set_cons_zero, List.set_cons_succ]
  refine wpAnyH_take (i := 9) (v := ?_) (iatLS (iatSS (iatSS (iatSS (iatSS (iatSS (iatSS (iatSS (iatSS (iatSS iatZS)))))))))) (by kernel_rfl) (by kernel_rfl) (by kernel_rfl) (fun _ _ _ h => h) (Or.inl ⟨by rfl, ?_⟩) (by assumption) ?_
  rotate_left
  ·intro w hSw
   try dsimp only at hSw
   go_simp
   all_goals with_reducible rfl
  try simp only [Act.put, List.setIfInBounds_toArray, List.set_cons_zero, List.set_cons_succ]
  refine wpAnyH_done (by kernel_rfl) ?_ _
  go_wp2_with (fail)
  refine wp_region_held_drew (S := fun w' => w'.cell? ⟨bp, 4, none⟩ = some (.slice (some ⟨z9, zo9, none⟩) K kc) ∧ w'.cell? ⟨bp, 5, none⟩ = some (.int .i64 (a : Int)) ∧ w'.cell? ⟨z9, zo9 + a, none⟩ = some (.int .i64 (m : Int))) (by kernel_rfl) ?_ (fun hHeld => ?_)
  ·exact HS3.out
  refine wpAnyH_take (i := 0) (v := ?_) (iatLS iatZS) (by kernel_rfl) (by kernel_rfl) (by kernel_rfl) (fun _ _ _ h => h) (Or.inl ⟨by rfl, ?_⟩) (by assumption) ?_
  rotate_left
  ·intro w hSw
   try dsimp only at hSw
   go_simp
   all_goals with_reducible rfl
  try simp only [Act.put, List.setIfInBounds_toArray, List.set_cons_zero, List.set_cons_succ]
  refine wpAnyH_take (i := 1) (v := ?_) (iatLS (iatSS iatZS)) (by kernel_rfl) (by kernel_rfl) (by kernel_rfl) (fun _ _ _ h => h) (Or.inl ⟨by rfl, ?_⟩) (by assumption) ?_
  rotate_left
  ·intro w hSw
   try dsimp only at hSw
   go_simp
   all_goals with_reducible rfl
  try simp only [Act.put, List.setIfInBounds_toArray, List.set_cons_zero, List.set_cons_succ]
  refine wpAnyH_take (i := 2) (v := ?_) (iatLS (iatSS (iatSS iatZS))) (by kernel_rfl) (by kernel_rfl) (by kernel_rfl) (fun _ _ _ h => h) (Or.inl ⟨by rfl, ?_⟩) (by assumption) ?_
  rotate_left
  ·intro w hSw
   try dsimp only at hSw
   go_simp
   all_goals with_reducible rfl
  try simp only [Act.put, List.setIfInBounds_toArray, List.set_cons_zero, List.set_cons_succ]
  refine wpAnyH_take (i := 3) (v := ?_) (iatLS (iatSS (iatSS (iatSS iatZS)))) (by kernel_rfl) (by kernel_rfl) (by kernel_rfl) (fun _ _ _ h => h) (Or.inl ⟨by rfl, ?_⟩) (by assumption) ?_
  rotate_left
  ·intro w hSw
   try dsimp only at hSw
   go_simp
   all_goals with_reducible rfl
  try simp only [Act.put, List.setIfInBounds_toArray, List.set_cons_zero, List.set_cons_succ]
  refine wpAnyH_take (i := 4) (v := ?_) (iatLS (iatSS (iatSS (iatSS (iatSS iatZS))))) (by kernel_rfl) (by kernel_rfl) (by kernel_rfl) (fun _ _ _ h => h) (Or.inl ⟨by rfl, ?_⟩) (by assumption) ?_
  rotate_left
  ·intro w hSw
   try dsimp only at hSw
   go_simp
   all_goals with_reducible rfl
  try simp only [Act.put, List.setIfInBounds_toArray, List.set_cons_zero, List.set_cons_succ]
  refine wpAnyH_take (i := 5) (v := ?_) (iatLS (iatSS (iatSS (iatSS (iatSS (iatSS iatZS)))))) (by kernel_rfl) (by kernel_rfl) (by kernel_rfl) (fun _ _ _ h => h) (Or.inl ⟨by rfl, ?_⟩) (by assumption) ?_
  rotate_left
  ·intro w hSw
   try dsimp only at hSw
   go_simp
   all_goals with_reducible rfl
  try simp only [Act.put, List.setIfInBounds_toArray, List.set_cons_zero, List.set_cons_succ]
  refine wpAnyH_take (i := 6) (v := ?_) (iatLS (iatSS (iatSS (iatSS (iatSS (iatSS (iatSS iatZS))))))) (by kernel_rfl) (by kernel_rfl) (by kernel_rfl) (fun _ _ _ h => h) (Or.inl ⟨by rfl, ?_⟩) (by assumption) ?_
  rotate_left
  ·intro w hSw
   try dsimp only at hSw
   go_simp
   all_goals with_reducible rfl
  try simp only [Act.put, List.setIfInBounds_toArray, List.set_cons_zero, List.set_cons_succ]
  refine wpAnyH_take (i := 7) (v := ?_) (iatLS (iatSS (iatSS (iatSS (iatSS (iatSS (iatSS (iatSS iatZS)))))))) (by kernel_rfl) (by kernel_rfl) (by kernel_rfl) (fun _ _ _ h => h) (Or.inl ⟨by rfl, ?_⟩) (by assumption) ?_
  rotate_left
  ·intro w hSw
   try dsimp only at hSw
   go_simp
   all_goals with_reducible rfl
  try simp only [Act.put, List.setIfInBounds_toArray, List.set_cons_zero, List.set_cons_succ]
  refine wpAnyH_take (i := 8) (v := ?_) (iatLS (iatSS (iatSS (iatSS (iatSS (iatSS (iatSS (iatSS (iatSS iatZS))))))))) (by kernel_rfl) (by kernel_rfl) (by kernel_rfl) (fun _ _ _ h => h) (Or.inl ⟨by rfl, ?_⟩) (by assumption) ?_
  rotate_left
  ·intro w hSw
   try dsimp only at hSw
   go_simp
   all_goals with_reducible rfl
  try simp only [Act.put, List.setIfInBounds_toArray, List.set_cons_zero, List.set_cons_succ]
  refine wpAnyH_take (i := 9) (v := ?_) (iatLS (iatSS (iatSS (iatSS (iatSS (iatSS (iatSS (iatSS (iatSS (iatSS iatZS)))))))))) (by kernel_rfl) (by kernel_rfl) (by kernel_rfl) (fun _ _ _ h => h) (Or.inl ⟨by rfl, ?_⟩) (by assumption) ?_
  rotate_left
  ·intro w hSw
   try dsimp only at hSw
   go_simp
   all_goals with_reducible rfl
  try simp only [Act.put, List.setIfInBounds_toArray, List.set_cons_zero, List.set_cons_succ]
  refine wpAnyH_take (i := 10) (v := ?_) (iatLS (iatSS (iatSS (iatSS (iatSS (iatSS (iatSS (iatSS (iatSS (iatSS (iatSS iatZS))))))))))) (by kernel_rfl) (by kernel_rfl) (by kernel_rfl) (fun _ _ _ h => h) (Or.inl ⟨by rfl, ?_⟩) (by assumption) ?_
  rotate_left
  ·intro w hSw
   try dsimp only at hSw
   go_simp
   all_goals with_reducible rfl
  try simp only [Act.put, List.setIfInBounds_toArray, List.set_cons_zero, List.set_cons_succ]
  refine wpAnyH_done (by kernel_rfl) ?_ _
  generalize hWW : w.drew.drew = W at HBB HTT HDD HBW ⊢
  clear hWW
  have y0 := HBB.out.cell 0
  have y1 := HBB.out.cell 1
  have y2 := HBB.out.cell 2
  have y3 := HBB.out.cell 3
  have y4 := HBB.out.cell 4
  have y5 := HBB.out.cell 5
  have y6 := HBB.out.cell 6
  have y7 := HBB.out.cell 7
  have yl := HBB.out.lt
  simp only [List.getElem?_cons_zero, List.getElem?_cons_succ] at y0 y1 y2 y3 y4 y5 y6 y7
  by_cases c1 : TB ≤ r
  ·have c1I : (TB : Int) ≤ (r : Int) := by omega
   have HANS : Hid (ans = -1) := Lib.hid (A1.out c1)
   clear c1
   go_wp2_with (fail)
   first | exact ⟨by rw [HANS.out], HBW.out⟩ | exact bodyPost_ret (v := .int .i64 (-1)) (by simp [results, Try.results124, go_sem]; try first | rfl | assumption | omega) rfl ⟨by rw [HANS.out], HBW.out⟩ | trace_state
  have c1I : ¬ (TB : Int) ≤ (r : Int) := by omega
  have hrt : r < tbs.length := by rw [HTB.out]; omega
  obtain ⟨q, qo, hq⟩ := HTT.out.row.at_ r (by rw [List.length_map]; exact hrt)
  have cq := HTT.out.row.cell q qo hq r (by rw [List.length_map]; exact hrt)
  rw [List.getElem_map] at cq
  have hti := HTT.out.nms _ (List.getElem_mem hrt)
  have hA2 := A2.out hrt
  have hA4 := A4.out hrt
  have hA5 := A5.out hrt
  obtain ⟨row, hrow⟩ : ∃ v, Hid (tbs[r]'hrt = v) := ⟨_, Lib.hid rfl⟩
  rw [hrow.out] at cq hti hA2 hA4 hA5
  obtain ⟨rl, ra, rc⟩ := row
  change _ = some (Value.slice ra rl.length rc) at cq
  dsimp only at hti hA2 hA4 hA5
  have hrm : rl.length ≤ rc ∧ rc ≤ 9223372036854775807 := ⟨by have := hti.le; rw [List.length_map] at this; exact this, hti.max⟩
  have Hti := Lib.hid hti
  have H2 := Lib.hid hA2
  have H4 := Lib.hid hA4
  have H5 := Lib.hid hA5
  clear hti hA2 hA4 hA5
  obtain ⟨RL, hRL⟩ : ∃ q, Hid (rl.length = q) := ⟨_, Lib.hid rfl⟩
  rw [hRL.out] at cq hrm
  have hblq := World.block_lt_of_cell? _ _ cq
  subst hq
  by_cases c2 : RL ≤ m
  ·have c2I : (RL : Int) ≤ (m : Int) := by omega
   have HANS : Hid (ans = -1) := Lib.hid (H2.out (by rw [hRL.out]; exact c2))
   clear c2
   go_wp2_with (fail)
   first | exact ⟨by rw [HANS.out], HBW.out⟩ | exact bodyPost_ret (v := .int .i64 (-1)) (by simp [results, Try.results124, go_sem]; try first | rfl | assumption | omega) rfl ⟨by rw [HANS.out], HBW.out⟩ | trace_state
  have c2I : ¬ (RL : Int) ≤ (m : Int) := by omega
  by_cases c3 : L ≤ r
  ·have c3I : (L : Int) ≤ (r : Int) := by omega
   have HANS : Hid (ans = -1) := Lib.hid (A3.out c3)
   clear c3
   go_wp2_with (fail)
   first | exact ⟨by rw [HANS.out], HBW.out⟩ | exact bodyPost_ret (v := .int .i64 (-1)) (by simp [results, Try.results124, go_sem]; try first | rfl | assumption | omega) rfl ⟨by rw [HANS.out], HBW.out⟩ | trace_state
  have c3I : ¬ (L : Int) ≤ (r : Int) := by omega
  have hm0 : (0 : Int) ≤ (m : Int) := by omega
  have hr0 : (0 : Int) ≤ (r : Int) := by omega
  have hmI : (m : Int) < (RL : Int) := by omega
  have hrI : (r : Int) < (TB : Int) := by omega
  have hrL : (r : Int) < (L : Int) := by omega
  have hml : m < rl.length := by rw [hRL.out]; omega
  obtain ⟨z, zo, hz⟩ := Hti.out.at_ m (by rw [List.length_map]; exact hml)
  have cz := Hti.out.cell z zo hz m (by rw [List.length_map]; exact hml)
  rw [List.getElem_map] at cz
  have hblz := World.block_lt_of_cell? _ _ cz
  have h4 := H4.out hml
  have h5 := H5.out hml
  obtain ⟨i, hi⟩ : ∃ v, Hid (rl[m]'hml = v) := ⟨_, Lib.hid rfl⟩
  rw [hi.out] at cz h4 h5
  subst hz
  have hrx : r < xa.length := by rw [HL.out]; omega
  obtain ⟨p, po, hp⟩ := HDD.out.alts.at_ r (by rw [List.length_map]; exact hrx)
  have cp := HDD.out.alts.cell p po hp r (by rw [List.length_map]; exact hrx)
  rw [List.getElem_map] at cp
  have hnm := Hnn.out r hrx
  have hme := (HDD.out.rules _ (List.getElem_mem hrx)).row
  have hme2 : (xa[r]).ds.length ≤ (xa[r]).c ∧ (xa[r]).c ≤ 9223372036854775807 := ⟨by have := hme.le; rwa [List.length_map] at this, hme.max⟩
  clear hme
  obtain ⟨ee, he⟩ : ∃ v, Hid (xa[r]'hrx = v) := ⟨_, Lib.hid rfl⟩
  rw [he.out] at cp hnm hme2
  have hblp := World.block_lt_of_cell? _ _ cp
  obtain ⟨eds, ea, ec⟩ := ee
  change _ = some (Value.slice ea eds.length ec) at cp
  dsimp only at hnm hme2
  obtain ⟨M, hM⟩ : ∃ q, Hid (eds.length = q) := ⟨_, Lib.hid rfl⟩
  rw [hM.out] at cp hnm hme2
  rw [hnm] at h4 h5
  subst hp
  clear hnm c1 c2 c3
  by_cases d1 : i < 0
  ·have HANS : Hid (ans = -1) := Lib.hid (h4 (.inl d1))
   clear h4 h5
   go_wp2_with (fail)
   first | exact ⟨by rw [HANS.out], HBW.out⟩ | exact bodyPost_ret (v := .int .i64 (-1)) (by simp [results, Try.results124, go_sem]; try first | rfl | assumption | omega) rfl ⟨by rw [HANS.out], HBW.out⟩ | trace_state
  have d1I : (0 : Int) ≤ i := by omega
  by_cases d2 : (M : Int) ≤ i
  ·have HANS : Hid (ans = -1) := Lib.hid (h4 (.inr d2))
   clear h4 h5
   go_wp2_with (fail)
   first | exact ⟨by rw [HANS.out], HBW.out⟩ | exact bodyPost_ret (v := .int .i64 (-1)) (by simp [results, Try.results124, go_sem]; try first | rfl | assumption | omega) rfl ⟨by rw [HANS.out], HBW.out⟩ | trace_state
  have HANS : Hid (ans = i) := Lib.hid (h5 d1I (by omega))
  have d2I : i < (M : Int) := by omega
  clear h4 h5
  go_wp2_with (fail)
  first | exact ⟨by rw [HANS.out], HBW.out⟩ | exact bodyPost_ret (v := .int .i64 (i)) (by simp [results, Try.results124, go_sem]; try first | rfl | assumption | omega) rfl ⟨by rw [HANS.out], HBW.out⟩ | trace_state
 ·have hal : ¬ a < toks.length := by rw [HK.out]; exact hlt
  have haI : ¬ (a : Int) < (K : Int) := by omega
  have hTm := hle.out hal
  go_wp2_with (fail)
  clear y0 y1 y2 y3 y4 y5 y6 y7 yl
  have HBB := HB2
  have HTT := Lib.hid (Ht.out.grown hd2)
  have HDD := Lib.hid (Hd.out.grown hd2)
  have HBW := Lib.hid hd2
  have HS2 : Hid (w.drew.cell? ⟨bp, 4, none⟩ = some (.slice ka K kc) ∧ w.drew.cell? ⟨bp, 5, none⟩ = some (.int .i64 (a : Int))) := Lib.hid ⟨HB2.out.cell 4, HB2.out.cell 5⟩
  subst hTm
  clear hd2 Hk
  refine wp_region_held_drew (S := fun w' => w'.cell? ⟨bp, 4, none⟩ = some (.slice ka K kc) ∧ w'.cell? ⟨bp, 5, none⟩ = some (.int .i64 (a : Int))) (by kernel_rfl) ?_ (fun hHeld => ?_)
  ·exact HS2.out
  refine wpAnyH_take (i := 0) (v := ?_) (iatLS iatZS) (by kernel_rfl) (by kernel_rfl) (by kernel_rfl) (fun _ _ _ h => h) (Or.inl ⟨by rfl, ?_⟩) (by assumption) ?_
  rotate_left
  ·intro w hSw
   try dsimp only at hSw
   go_simp
   all_goals with_reducible rfl
  try simp only [Act.put, List.setIfInBounds_toArray, List.set_cons_zero, List.set_cons_succ]
  refine wpAnyH_take (i := 1) (v := ?_) (iatLS (iatSS iatZS)) (by kernel_rfl) (by kernel_rfl) (by kernel_rfl) (fun _ _ _ h => h) (Or.inl ⟨by rfl, ?_⟩) (by assumption) ?_
  rotate_left
  ·intro w hSw
   try dsimp only at hSw
   go_simp
   all_goals with_reducible rfl
  try simp only [Act.put, List.setIfInBounds_toArray, List.set_cons_zero, List.set_cons_succ]
  refine wpAnyH_take (i := 2) (v := ?_) (iatLS (iatSS (iatSS iatZS))) (by kernel_rfl) (by kernel_rfl) (by kernel_rfl) (fun _ _ _ h => h) (Or.inl ⟨by rfl, ?_⟩) (by assumption) ?_
  rotate_left
  ·intro w hSw
   try dsimp only at hSw
   go_simp
   all_goals with_reducible rfl
  try simp only [Act.put, List.setIfInBounds_toArray, List.set_cons_zero, List.set_cons_succ]
  refine wpAnyH_take (i := 3) (v := ?_) (iatLS (iatSS (iatSS (iatSS iatZS)))) (by kernel_rfl) (by kernel_rfl) (by kernel_rfl) (fun _ _ _ h => h) (Or.inl ⟨by rfl, ?_⟩) (by assumption) ?_
  rotate_left
  ·intro w hSw
   try dsimp only at hSw
   go_simp
   all_goals with_reducible rfl
  try simp only [Act.put, List.setIfInBounds_toArray, List.set_cons_zero, List.set_cons_succ]
  refine wpAnyH_take (i := 4) (v := ?_) (iatLS (iatSS (iatSS (iatSS (iatSS iatZS))))) (by kernel_rfl) (by kernel_rfl) (by kernel_rfl) (fun _ _ _ h => h) (Or.inl ⟨by rfl, ?_⟩) (by assumption) ?_
  rotate_left
  ·intro w hSw
   try dsimp only at hSw
   go_simp
   all_goals with_reducible rfl
  try simp only [Act.put, List.setIfInBounds_toArray, List.set_cons_zero, List.set_cons_succ]
  refine wpAnyH_take (i := 5) (v := ?_) (iatLS (iatSS (iatSS (iatSS (iatSS (iatSS iatZS)))))) (by kernel_rfl) (by kernel_rfl) (by kernel_rfl) (fun _ _ _ h => h) (Or.inl ⟨by rfl, ?_⟩) (by assumption) ?_
  rotate_left
  ·intro w hSw
   try dsimp only at hSw
   go_simp
   all_goals with_reducible rfl
  try simp only [Act.put, List.setIfInBounds_toArray, List.set_cons_zero, List.set_cons_succ]
  refine wpAnyH_take (i := 6) (v := ?_) (iatLS (iatSS (iatSS (iatSS (iatSS (iatSS (iatSS iatZS))))))) (by kernel_rfl) (by kernel_rfl) (by kernel_rfl) (fun _ _ _ h => h) (Or.inl ⟨by rfl, ?_⟩) (by assumption) ?_
  rotate_left
  ·intro w hSw
   try dsimp only at hSw
   go_simp
   all_goals with_reducible rfl
  try simp only [Act.put, List.setIfInBounds_toArray, List.set_cons_zero, List.set_cons_succ]
  refine wpAnyH_take (i := 7) (v := ?_) (iatLS (iatSS (iatSS (iatSS (iatSS (iatSS (iatSS (iatSS iatZS)))))))) (by kernel_rfl) (by kernel_rfl) (by kernel_rfl) (fun _ _ _ h => h) (Or.inl ⟨by rfl, ?_⟩) (by assumption) ?_
  rotate_left
  ·intro w hSw
   try dsimp only at hSw
   go_simp
   all_goals with_reducible rfl
  try simp only [Act.put, List.setIfInBounds_toArray, List.set_cons_zero, List.set_cons_succ]
  refine wpAnyH_take (i := 8) (v := ?_) (iatLS (iatSS (iatSS (iatSS (iatSS (iatSS (iatSS (iatSS (iatSS iatZS))))))))) (by kernel_rfl) (by kernel_rfl) (by kernel_rfl) (fun _ _ _ h => h) (Or.inl ⟨by rfl, ?_⟩) (by assumption) ?_
  rotate_left
  ·intro w hSw
   try dsimp only at hSw
   go_simp
   all_goals with_reducible rfl
  try simp only [Act.put, List.setIfInBounds_toArray, List.set_cons_zero, List.set_cons_succ]
  refine wpAnyH_take (i := 9) (v := ?_) (iatLS (iatSS (iatSS (iatSS (iatSS (iatSS (iatSS (iatSS (iatSS (iatSS iatZS)))))))))) (by kernel_rfl) (by kernel_rfl) (by kernel_rfl) (fun _ _ _ h => h) (Or.inl ⟨by rfl, ?_⟩) (by assumption) ?_
  rotate_left
  ·intro w hSw
   try dsimp only at hSw
   go_simp
   all_goals with_reducible rfl
  try simp only [Act.put, List.setIfInBounds_toArray, List.set_cons_zero, List.set_cons_succ]
  refine wpAnyH_done (by kernel_rfl) ?_ _
  generalize hWW : w.drew = W at HBB HTT HDD HBW ⊢
  clear hWW
  have y0 := HBB.out.cell 0
  have y1 := HBB.out.cell 1
  have y2 := HBB.out.cell 2
  have y3 := HBB.out.cell 3
  have y4 := HBB.out.cell 4
  have y5 := HBB.out.cell 5
  have y6 := HBB.out.cell 6
  have y7 := HBB.out.cell 7
  have yl := HBB.out.lt
  simp only [List.getElem?_cons_zero, List.getElem?_cons_succ] at y0 y1 y2 y3 y4 y5 y6 y7
  by_cases c1 : TB ≤ r
  ·have c1I : (TB : Int) ≤ (r : Int) := by omega
   have HANS : Hid (ans = -1) := Lib.hid (A1.out c1)
   clear c1
   go_wp2_with (fail)
   first | exact ⟨by rw [HANS.out], HBW.out⟩ | exact bodyPost_ret (v := .int .i64 (-1)) (by simp [results, Try.results124, go_sem]; try first | rfl | assumption | omega) rfl ⟨by rw [HANS.out], HBW.out⟩ | trace_state
  have c1I : ¬ (TB : Int) ≤ (r : Int) := by omega
  have hrt : r < tbs.length := by rw [HTB.out]; omega
  obtain ⟨q, qo, hq⟩ := HTT.out.row.at_ r (by rw [List.length_map]; exact hrt)
  have cq := HTT.out.row.cell q qo hq r (by rw [List.length_map]; exact hrt)
  rw [List.getElem_map] at cq
  have hti := HTT.out.nms _ (List.getElem_mem hrt)
  have hA2 := A2.out hrt
  have hA4 := A4.out hrt
  have hA5 := A5.out hrt
  obtain ⟨row, hrow⟩ : ∃ v, Hid (tbs[r]'hrt = v) := ⟨_, Lib.hid rfl⟩
  rw [hrow.out] at cq hti hA2 hA4 hA5
  obtain ⟨rl, ra, rc⟩ := row
  change _ = some (Value.slice ra rl.length rc) at cq
  dsimp only at hti hA2 hA4 hA5
  have hrm : rl.length ≤ rc ∧ rc ≤ 9223372036854775807 := ⟨by have := hti.le; rw [List.length_map] at this; exact this, hti.max⟩
  have Hti := Lib.hid hti
  have H2 := Lib.hid hA2
  have H4 := Lib.hid hA4
  have H5 := Lib.hid hA5
  clear hti hA2 hA4 hA5
  obtain ⟨RL, hRL⟩ : ∃ q, Hid (rl.length = q) := ⟨_, Lib.hid rfl⟩
  rw [hRL.out] at cq hrm
  have hblq := World.block_lt_of_cell? _ _ cq
  subst hq
  by_cases c2 : RL ≤ T
  ·have c2I : (RL : Int) ≤ (T : Int) := by omega
   have HANS : Hid (ans = -1) := Lib.hid (H2.out (by rw [hRL.out]; exact c2))
   clear c2
   go_wp2_with (fail)
   first | exact ⟨by rw [HANS.out], HBW.out⟩ | exact bodyPost_ret (v := .int .i64 (-1)) (by simp [results, Try.results124, go_sem]; try first | rfl | assumption | omega) rfl ⟨by rw [HANS.out], HBW.out⟩ | trace_state
  have c2I : ¬ (RL : Int) ≤ (T : Int) := by omega
  by_cases c3 : L ≤ r
  ·have c3I : (L : Int) ≤ (r : Int) := by omega
   have HANS : Hid (ans = -1) := Lib.hid (A3.out c3)
   clear c3
   go_wp2_with (fail)
   first | exact ⟨by rw [HANS.out], HBW.out⟩ | exact bodyPost_ret (v := .int .i64 (-1)) (by simp [results, Try.results124, go_sem]; try first | rfl | assumption | omega) rfl ⟨by rw [HANS.out], HBW.out⟩ | trace_state
  have c3I : ¬ (L : Int) ≤ (r : Int) := by omega
  have hm0 : (0 : Int) ≤ (T : Int) := by omega
  have hr0 : (0 : Int) ≤ (r : Int) := by omega
  have hmI : (T : Int) < (RL : Int) := by omega
  have hrI : (r : Int) < (TB : Int) := by omega
  have hrL : (r : Int) < (L : Int) := by omega
  have hml : T < rl.length := by rw [hRL.out]; omega
  obtain ⟨z, zo, hz⟩ := Hti.out.at_ T (by rw [List.length_map]; exact hml)
  have cz := Hti.out.cell z zo hz T (by rw [List.length_map]; exact hml)
  rw [List.getElem_map] at cz
  have hblz := World.block_lt_of_cell? _ _ cz
  have h4 := H4.out hml
  have h5 := H5.out hml
  obtain ⟨i, hi⟩ : ∃ v, Hid (rl[T]'hml = v) := ⟨_, Lib.hid rfl⟩
  rw [hi.out] at cz h4 h5
  subst hz
  have hrx : r < xa.length := by rw [HL.out]; omega
  obtain ⟨p, po, hp⟩ := HDD.out.alts.at_ r (by rw [List.length_map]; exact hrx)
  have cp := HDD.out.alts.cell p po hp r (by rw [List.length_map]; exact hrx)
  rw [List.getElem_map] at cp
  have hnm := Hnn.out r hrx
  have hme := (HDD.out.rules _ (List.getElem_mem hrx)).row
  have hme2 : (xa[r]).ds.length ≤ (xa[r]).c ∧ (xa[r]).c ≤ 9223372036854775807 := ⟨by have := hme.le; rwa [List.length_map] at this, hme.max⟩
  clear hme
  obtain ⟨ee, he⟩ : ∃ v, Hid (xa[r]'hrx = v) := ⟨_, Lib.hid rfl⟩
  rw [he.out] at cp hnm hme2
  have hblp := World.block_lt_of_cell? _ _ cp
  obtain ⟨eds, ea, ec⟩ := ee
  change _ = some (Value.slice ea eds.length ec) at cp
  dsimp only at hnm hme2
  obtain ⟨M, hM⟩ : ∃ q, Hid (eds.length = q) := ⟨_, Lib.hid rfl⟩
  rw [hM.out] at cp hnm hme2
  rw [hnm] at h4 h5
  subst hp
  clear hnm c1 c2 c3
  by_cases d1 : i < 0
  ·have HANS : Hid (ans = -1) := Lib.hid (h4 (.inl d1))
   clear h4 h5
   go_wp2_with (fail)
   first | exact ⟨by rw [HANS.out], HBW.out⟩ | exact bodyPost_ret (v := .int .i64 (-1)) (by simp [results, Try.results124, go_sem]; try first | rfl | assumption | omega) rfl ⟨by rw [HANS.out], HBW.out⟩ | trace_state
  have d1I : (0 : Int) ≤ i := by omega
  by_cases d2 : (M : Int) ≤ i
  ·have HANS : Hid (ans = -1) := Lib.hid (h4 (.inr d2))
   clear h4 h5
   go_wp2_with (fail)
   first | exact ⟨by rw [HANS.out], HBW.out⟩ | exact bodyPost_ret (v := .int .i64 (-1)) (by simp [results, Try.results124, go_sem]; try first | rfl | assumption | omega) rfl ⟨by rw [HANS.out], HBW.out⟩ | trace_state
  have HANS : Hid (ans = i) := Lib.hid (h5 d1I (by omega))
  have d2I : i < (M : Int) := by omega
  clear h4 h5
  go_wp2_with (fail)
  first | exact ⟨by rw [HANS.out], HBW.out⟩ | exact bodyPost_ret (v := .int .i64 (i)) (by simp [results, Try.results124, go_sem]; try first | rfl | assumption | omega) rfl ⟨by rw [HANS.out], HBW.out⟩ | trace_state
end Go.Proofs.Ytfdhaochnbfndaa
namespace Go.Proofs.Ytfdhaochnbfndaa
open Go.RowKit Go.Maps
attribute [local go_sem] Oper.semAt_some
set_option maxRecDepth 100000 in
set_option maxHeartbeats 16000000 in
theorem pruleOf_any (k : Int) (w : World) (h : -9223372036854775807 ≤ k ∧ k ≤ 9223372036854775807) :
 Calls Try.prog 153 #[.int .i64 k] w fun e w' => e = .returned (.int .i64 (-1 - k)) ∧ w' = w := by
 have hw : IntKind.i64.wrap (-1 - k) = -1 - k := IntWalk.i64_in _ (by omega)
 go_enter Try.func153, Try.ntmps153
 go_wp2_with (fail)
 first | exact ⟨rfl, rfl⟩ | exact bodyPost_ret (v := .int .i64 (-1 - k)) (by simp [results, Try.results153, go_sem]; try first | rfl | assumption | omega) rfl ⟨rfl, rfl⟩
set_option maxRecDepth 100000 in
set_option maxHeartbeats 16000000 in
/-- An element of a list of numbers. -/
theorem elemI_any (a : Option Addr) (c : Nat) (l : List Int) (i : Int) (w : World) (hl : Ints w a c l) (hi : -9223372036854775808 ≤ i ∧ i ≤ 9223372036854775807) :
 Calls Try.prog 185 #[.slice a l.length c, .int .i64 i] w fun e w' => e = .returned (.tuple #[.int .i64 (if i < 0 then 0 else (l[i.toNat]?).getD 0), .bool (decide (0 ≤ i ∧ i < (l.length : Int)))]) ∧ w' = w := by
 have hlm : l.length ≤ c ∧ c ≤ 9223372036854775807 := ⟨by have := hl.le; rw [List.length_map] at this; exact this, hl.max⟩
 obtain ⟨L, HL⟩ : ∃ L, Hid (l.length = L) := ⟨_, Lib.hid rfl⟩
 obtain ⟨R, HR⟩ : ∃ R, Hid ((if i < 0 then 0 else (l[i.toNat]?).getD 0) = R) := ⟨_, Lib.hid rfl⟩
 rw [HL.out] at hlm ⊢
 rw [HR.out]
 by_cases h0 : i < 0
 ·have hR : Hid (R = 0) := Lib.hid (by rw [← HR.out, if_pos h0])
  have hd : decide (0 ≤ i ∧ i < (L : Int)) = false := decide_eq_false (by omega)
  rw [hd, hR.out]
  clear HR hl hd hR
  go_enter Try.func185, Try.ntmps185
  go_wp2_with (fail)
  first | exact ⟨rfl, rfl⟩ | exact bodyPost_ret (v := .tuple #[.int .i64 0, .bool false]) (by simp [results, Try.results185, go_sem]; try first | rfl | assumption | omega) rfl ⟨rfl, rfl⟩
 by_cases h1 : (L : Int) ≤ i
 ·have hR : Hid (R = 0) := Lib.hid (by rw [← HR.out, if_neg h0, List.getElem?_eq_none (by rw [HL.out]; omega)]; rfl)
  have hd : decide (0 ≤ i ∧ i < (L : Int)) = false := decide_eq_false (by omega)
  rw [hd, hR.out]
  clear HR hl hd hR
  go_enter Try.func185, Try.ntmps185
  go_wp2_with (fail)
  first | exact ⟨rfl, rfl⟩ | exact bodyPost_ret (v := .tuple #[.int .i64 0, .bool false]) (by simp [results, Try.results185, go_sem]; try first | rfl | assumption | omega) rfl ⟨rfl, rfl⟩
 ·obtain ⟨m, rfl⟩ : ∃ m : Nat, i = (m : Int) := ⟨i.toNat, by omega⟩
  have hml : m < l.length := by rw [HL.out]; omega
  have hm0 : (0 : Int) ≤ (m : Int) := by omega
  have hmI : (m : Int) < (L : Int) := by omega
  have hR : R = l[m] := by rw [← HR.out, if_neg h0, Int.toNat_natCast, List.getElem?_eq_getElem hml]; rfl
  have hd : decide ((0 : Int) ≤ (m : Int) ∧ (m : Int) < (L : Int)) = true := decide_eq_true ⟨hm0, hmI⟩
  obtain ⟨z, zo, hz⟩ := hl.at_ m (by rw [List.length_map]; exact hml)
  have cz := hl.cell z zo hz m (by rw [List.length_map]; exact hml)
  rw [List.getElem_map, ← hR] at cz
  have hblz := World.block_lt_of_cell? _ _ cz
  subst hz
  rw [hd]
  clear HR hl hd hR
  go_enter Try.func185, Try.ntmps185
  go_wp2_with (fail)
  first | exact ⟨rfl, rfl⟩ | exact bodyPost_ret (v := .tuple #[.int .i64 R, .bool true]) (by simp [results, Try.results185, go_sem]; try first | rfl | assumption | omega) rfl ⟨rfl, rfl⟩
set_option maxRecDepth 100000 in
set_option maxHeartbeats 16000000 in
/-- An element of a list of rows of numbers. -/
theorem elemR_any (a : Option Addr) (c : Nat) (l : List Value) (i : Int) (w : World) (hl : Vs w a c l) (hi : -9223372036854775808 ≤ i ∧ i ≤ 9223372036854775807) :
 Calls Try.prog 184 #[.slice a l.length c, .int .i64 i] w fun e w' => e = .returned (.tuple #[(if i < 0 then .slice none 0 0 else (l[i.toNat]?).getD (.slice none 0 0)), .bool (decide (0 ≤ i ∧ i < (l.length : Int)))]) ∧ w' = w := by
 have hlm : l.length ≤ c ∧ c ≤ 9223372036854775807 := ⟨hl.le, hl.max⟩
 obtain ⟨L, HL⟩ : ∃ L, Hid (l.length = L) := ⟨_, Lib.hid rfl⟩
 obtain ⟨R, HR⟩ : ∃ R, Hid ((if i < 0 then Value.slice none 0 0 else (l[i.toNat]?).getD (.slice none 0 0)) = R) := ⟨_, Lib.hid rfl⟩
 rw [HL.out] at hlm ⊢
 rw [HR.out]
 by_cases h0 : i < 0
 ·have hR : Hid (R = .slice none 0 0) := Lib.hid (by rw [← HR.out, if_pos h0])
  have hd : decide (0 ≤ i ∧ i < (L : Int)) = false := decide_eq_false (by omega)
  rw [hd, hR.out]
  clear HR hl hd hR
  go_enter Try.func184, Try.ntmps184
  go_wp2_with (fail)
  first | exact ⟨rfl, rfl⟩ | exact bodyPost_ret (v := .tuple #[.slice none 0 0, .bool false]) (by simp [results, Try.results184, go_sem]; try first | rfl | assumption | omega) rfl ⟨rfl, rfl⟩
 by_cases h1 : (L : Int) ≤ i
 ·have hR : Hid (R = .slice none 0 0) := Lib.hid (by rw [← HR.out, if_neg h0, List.getElem?_eq_none (by rw [HL.out]; omega)]; rfl)
  have hd : decide (0 ≤ i ∧ i < (L : Int)) = false := decide_eq_false (by omega)
  rw [hd, hR.out]
  clear HR hl hd hR
  go_enter Try.func184, Try.ntmps184
  go_wp2_with (fail)
  first | exact ⟨rfl, rfl⟩ | exact bodyPost_ret (v := .tuple #[.slice none 0 0, .bool false]) (by simp [results, Try.results184, go_sem]; try first | rfl | assumption | omega) rfl ⟨rfl, rfl⟩
 ·obtain ⟨m, rfl⟩ : ∃ m : Nat, i = (m : Int) := ⟨i.toNat, by omega⟩
  have hml : m < l.length := by rw [HL.out]; omega
  have hm0 : (0 : Int) ≤ (m : Int) := by omega
  have hmI : (m : Int) < (L : Int) := by omega
  have hR : R = l[m] := by rw [← HR.out, if_neg h0, Int.toNat_natCast, List.getElem?_eq_getElem hml]; rfl
  have hd : decide ((0 : Int) ≤ (m : Int) ∧ (m : Int) < (L : Int)) = true := decide_eq_true ⟨hm0, hmI⟩
  obtain ⟨z, zo, hz⟩ := hl.at_ m hml
  have cz := hl.cell z zo hz m hml
  rw [← hR] at cz
  have hblz := World.block_lt_of_cell? _ _ cz
  subst hz
  rw [hd]
  clear HR hl hd hR
  go_enter Try.func184, Try.ntmps184
  go_wp2_with (fail)
  first | exact ⟨rfl, rfl⟩ | exact bodyPost_ret (v := .tuple #[R, .bool true]) (by simp [results, Try.results184, go_sem]; try first | rfl | assumption | omega) rfl ⟨rfl, rfl⟩
set_option maxRecDepth 100000 in
set_option maxHeartbeats 16000000 in
/-- An element of a list of rules. -/
theorem elemA_any (a : Option Addr) (c : Nat) (l : List Value) (i : Int) (w : World) (hl : Vs w a c l) (hi : -9223372036854775808 ≤ i ∧ i ≤ 9223372036854775807) :
 Calls Try.prog 187 #[.slice a l.length c, .int .i64 i] w fun e w' => e = .returned (.tuple #[(if i < 0 then .slice none 0 0 else (l[i.toNat]?).getD (.slice none 0 0)), .bool (decide (0 ≤ i ∧ i < (l.length : Int)))]) ∧ w' = w := by
 have hlm : l.length ≤ c ∧ c ≤ 9223372036854775807 := ⟨hl.le, hl.max⟩
 obtain ⟨L, HL⟩ : ∃ L, Hid (l.length = L) := ⟨_, Lib.hid rfl⟩
 obtain ⟨R, HR⟩ : ∃ R, Hid ((if i < 0 then Value.slice none 0 0 else (l[i.toNat]?).getD (.slice none 0 0)) = R) := ⟨_, Lib.hid rfl⟩
 rw [HL.out] at hlm ⊢
 rw [HR.out]
 by_cases h0 : i < 0
 ·have hR : Hid (R = .slice none 0 0) := Lib.hid (by rw [← HR.out, if_pos h0])
  have hd : decide (0 ≤ i ∧ i < (L : Int)) = false := decide_eq_false (by omega)
  rw [hd, hR.out]
  clear HR hl hd hR
  go_enter Try.func187, Try.ntmps187
  go_wp2_with (fail)
  first | exact ⟨rfl, rfl⟩ | exact bodyPost_ret (v := .tuple #[.slice none 0 0, .bool false]) (by simp [results, Try.results187, go_sem]; try first | rfl | assumption | omega) rfl ⟨rfl, rfl⟩
 by_cases h1 : (L : Int) ≤ i
 ·have hR : Hid (R = .slice none 0 0) := Lib.hid (by rw [← HR.out, if_neg h0, List.getElem?_eq_none (by rw [HL.out]; omega)]; rfl)
  have hd : decide (0 ≤ i ∧ i < (L : Int)) = false := decide_eq_false (by omega)
  rw [hd, hR.out]
  clear HR hl hd hR
  go_enter Try.func187, Try.ntmps187
  go_wp2_with (fail)
  first | exact ⟨rfl, rfl⟩ | exact bodyPost_ret (v := .tuple #[.slice none 0 0, .bool false]) (by simp [results, Try.results187, go_sem]; try first | rfl | assumption | omega) rfl ⟨rfl, rfl⟩
 ·obtain ⟨m, rfl⟩ : ∃ m : Nat, i = (m : Int) := ⟨i.toNat, by omega⟩
  have hml : m < l.length := by rw [HL.out]; omega
  have hm0 : (0 : Int) ≤ (m : Int) := by omega
  have hmI : (m : Int) < (L : Int) := by omega
  have hR : R = l[m] := by rw [← HR.out, if_neg h0, Int.toNat_natCast, List.getElem?_eq_getElem hml]; rfl
  have hd : decide ((0 : Int) ≤ (m : Int) ∧ (m : Int) < (L : Int)) = true := decide_eq_true ⟨hm0, hmI⟩
  obtain ⟨z, zo, hz⟩ := hl.at_ m hml
  have cz := hl.cell z zo hz m hml
  rw [← hR] at cz
  have hblz := World.block_lt_of_cell? _ _ cz
  subst hz
  rw [hd]
  clear HR hl hd hR
  go_enter Try.func187, Try.ntmps187
  go_wp2_with (fail)
  first | exact ⟨rfl, rfl⟩ | exact bodyPost_ret (v := .tuple #[R, .bool true]) (by simp [results, Try.results187, go_sem]; try first | rfl | assumption | omega) rfl ⟨rfl, rfl⟩
end Go.Proofs.Ytfdhaochnbfndaa
