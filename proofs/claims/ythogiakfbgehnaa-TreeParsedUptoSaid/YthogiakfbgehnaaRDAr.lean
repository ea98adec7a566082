/- Texts joined: Zi Zj Zk Zl Zm Zn Zo Zp Qq Zq Zr Zs. -/
import Derived.Test.YthogiakfbgehnaaRDAa
import Derived.Test.YthogiakfbgehnaaRDAg
import Derived.Test.YthogiakfbgehnaaRDAq
import Derived.Test.YthogiakfbgehnaaRDAk
set_option linter.unusedVariables false
set_option linter.unusedSimpArgs false
namespace Go.Proofs.Ythogiakfbgehnaa
open Go.RowKit Go.Maps
attribute [local go_sem] Oper.semAt_some
/-- What is parsed by, of a grammar by numbers, a table and tokens in memory. -/
def gOf (d : CfD) (tbs : List IltD) (toks : List Int) : PsG := ⟨d.alts.map IrD.p, tbs.map (fun x => x.l), d.toks.length, toks⟩
def psI : Option (Nat × List Int) → Int
 | none => -1
 | some p => (p.1 : Int)
theorem next_at {G : PsG} {a : Nat} (h : a < G.toks.length) : G.next a = G.toks[a] := by
 unfold PsG.next
 rw [List.getElem?_eq_getElem h]
 rfl
theorem next_end {G : PsG} {a : Nat} (h : G.toks.length ≤ a) : G.next a = (G.T : Int) := by
 unfold PsG.next
 rw [List.getElem?_eq_none h]
 rfl
theorem alt_norow {G : PsG} {r a : Nat} (h : G.tb.length ≤ r) : G.alt r a = none := by
 unfold PsG.alt
 rw [List.getD_eq_getElem?_getD, List.getElem?_eq_none h]
 simp
theorem alt_nocell {G : PsG} {r a : Nat} (h : (G.tb.getD r []).length ≤ (G.next a).toNat) : G.alt r a = none := by
 unfold PsG.alt
 rw [List.getElem?_eq_none h]
theorem alt_cell {G : PsG} {r a : Nat} {i : Int} (h : (G.tb.getD r [])[(G.next a).toNat]? = some i) : G.alt r a = if 0 ≤ i then ((G.al.getD r [])[i.toNat]?).map (fun l => (i.toNat, l)) else none := by
 unfold PsG.alt
 rw [h]
theorem alt_norule {G : PsG} {r a : Nat} (h : G.al.length ≤ r) : G.alt r a = none := by
 unfold PsG.alt
 have h2 : G.al.getD r [] = [] := by rw [List.getD_eq_getElem?_getD, List.getElem?_eq_none h]; rfl
 rw [h2]
 split
 ·rfl
 ·simp
theorem alt_noalt {G : PsG} {r a : Nat} {i : Int} (h : (G.tb.getD r [])[(G.next a).toNat]? = some i) (hi : i < 0 ∨ ((G.al.getD r []).length : Int) ≤ i) : psI (G.alt r a) = -1 := by
 rw [alt_cell h]
 by_cases h0 : 0 ≤ i
 ·rw [if_pos h0, List.getElem?_eq_none (by omega)]
  rfl
 ·rw [if_neg h0]
  rfl
theorem alt_is {G : PsG} {r a : Nat} {i : Int} (h : (G.tb.getD r [])[(G.next a).toNat]? = some i) (h0 : 0 ≤ i) (hi : i < ((G.al.getD r []).length : Int)) : psI (G.alt r a) = i := by
 rw [alt_cell h, if_pos h0, List.getElem?_eq_getElem (by omega)]
 show ((i.toNat : Nat) : Int) = i
 omega
set_option maxRecDepth 100000 in
set_option maxHeartbeats 16000000 in
theorem ralt_any (d : CfD) (ta : Option Addr) (tc : Nat) (tbs : List IltD) (ka : Option Addr) (kc : Nat) (toks : List Int) (a bp : Nat) (nd e : Int) (r : Nat) (w : World) (hd : CfAt w d) (ht : AltsI w ta tc tbs) (hk : Ints w ka kc toks) (hB : Blk w bp 108 [.slice d.ta d.toks.length d.tc, .slice d.na d.names.length d.nc, .slice d.aa d.alts.length d.ac, .slice ta tbs.length tc, .slice ka toks.length kc, .int .i64 (a : Int), .int .i64 nd, .int .i64 e]) (h0 : ∀ x ∈ toks, 0 ≤ x) (ha : a ≤ toks.length) :
 Calls Try.prog 124 #[.pointer (some ⟨bp, 0, none⟩), .int .i64 (r : Int)] w fun e w' => e = .returned (.int .i64 (psI ((gOf d tbs toks).alt r a))) ∧ Below w.heap.size w w' := by
 obtain ⟨m, hm⟩ : ∃ m : Nat, (gOf d tbs toks).next a = (m : Int) := by
  by_cases hlt : a < toks.length
  ·rw [next_at (G := gOf d tbs toks) hlt]
   exact ⟨toks[a].toNat, by have := h0 _ (List.getElem_mem hlt); show toks[a] = _; omega⟩
  ·rw [next_end (G := gOf d tbs toks) (by show toks.length ≤ a; omega)]
   exact ⟨_, rfl⟩
 obtain ⟨ans, hans⟩ : ∃ q, Hid (psI ((gOf d tbs toks).alt r a) = q) := ⟨_, Lib.hid rfl⟩
 have A1 : Hid (tbs.length ≤ r → ans = -1) := Lib.hid (fun h => by rw [← hans.out, alt_norow (by show (tbs.map _).length ≤ r; rw [List.length_map]; exact h)]; rfl)
 have A3 : Hid (d.alts.length ≤ r → ans = -1) := Lib.hid (fun h => by rw [← hans.out, alt_norule (by show (d.alts.map _).length ≤ r; rw [List.length_map]; exact h)]; rfl)
 have hrow : ∀ h : r < tbs.length, (gOf d tbs toks).tb.getD r [] = (tbs[r]).l := fun h => by
  show (tbs.map (fun x => x.l)).getD r [] = _
  rw [List.getD_eq_getElem?_getD, List.getElem?_map, List.getElem?_eq_getElem h]
  rfl
 have A2 : Hid (∀ h : r < tbs.length, (tbs[r]).l.length ≤ m → ans = -1) := Lib.hid (fun h h2 => by rw [← hans.out, alt_nocell (by rw [hrow h, hm]; omega)]; rfl)
 have A4 : Hid (∀ h : r < tbs.length, ∀ h2 : m < (tbs[r]).l.length, ((tbs[r]).l[m] < 0 ∨ (((d.alts.map IrD.p).getD r []).length : Int) ≤ (tbs[r]).l[m]) → ans = -1) := Lib.hid (fun h h2 h3 => by
  rw [← hans.out]
  exact alt_noalt (i := (tbs[r]).l[m]) (by rw [hrow h, hm, Int.toNat_natCast, List.getElem?_eq_getElem h2]) h3)
 have A5 : Hid (∀ h : r < tbs.length, ∀ h2 : m < (tbs[r]).l.length, 0 ≤ (tbs[r]).l[m] → (tbs[r]).l[m] < (((d.alts.map IrD.p).getD r []).length : Int) → ans = (tbs[r]).l[m]) := Lib.hid (fun h h2 h3 h4 => by
  rw [← hans.out]
  exact alt_is (by rw [hrow h, hm, Int.toNat_natCast, List.getElem?_eq_getElem h2]) h3 h4)
 have Hnn : Hid (∀ (r : Nat) (h : r < d.alts.length), ((d.alts.map IrD.p).getD r []).length = (d.alts[r]).ds.length) := Lib.hid (fun r h => by
  rw [List.getD_eq_getElem?_getD, List.getElem?_map, List.getElem?_eq_getElem h]
  exact List.length_map _)
 have hlo : Hid (∀ h : a < toks.length, toks[a] = (m : Int)) := Lib.hid (fun h => by rw [← hm, next_at (G := gOf d tbs toks) h]; rfl)
 have hle : Hid (¬ a < toks.length → d.toks.length = m) := Lib.hid (fun h => by
  have := next_end (G := gOf d tbs toks) (a := a) (by show toks.length ≤ a; omega)
  rw [hm] at this
  have h2 : ((m : Nat) : Int) = (d.toks.length : Int) := this
  omega)
 rw [hans.out]
 clear hans hm hrow h0
 have hxm : d.alts.length ≤ d.ac ∧ d.ac ≤ 9223372036854775807 := ⟨by have := hd.alts.le; rwa [List.length_map] at this, hd.alts.max⟩
 have hxt : d.toks.length ≤ d.tc ∧ d.tc ≤ 9223372036854775807 := ⟨by have := hd.toks.le; rwa [List.length_map] at this, hd.toks.max⟩
 have htm : tbs.length ≤ tc ∧ tc ≤ 9223372036854775807 := ⟨by have := ht.row.le; rwa [List.length_map] at this, ht.row.max⟩
 have hkm : toks.length ≤ kc ∧ kc ≤ 9223372036854775807 := ⟨by have := hk.le; rw [List.length_map] at this; exact this, hk.max⟩
 obtain ⟨xt, xta, xtc, xn, xna, xnc, xa, xaa, xac⟩ := d
 dsimp only at *
 have Hd := Lib.hid hd
 have Ht := Lib.hid ht
 have Hk := Lib.hid hk
 obtain ⟨T, HT⟩ : ∃ q, Hid (xt.length = q) := ⟨_, Lib.hid rfl⟩
 obtain ⟨N, HN⟩ : ∃ q, Hid (xn.length = q) := ⟨_, Lib.hid rfl⟩
 obtain ⟨L, HL⟩ : ∃ q, Hid (xa.length = q) := ⟨_, Lib.hid rfl⟩
 obtain ⟨TB, HTB⟩ : ∃ q, Hid (tbs.length = q) := ⟨_, Lib.hid rfl⟩
 obtain ⟨K, HK⟩ : ∃ q, Hid (toks.length = q) := ⟨_, Lib.hid rfl⟩
 rw [HT.out, HN.out, HL.out, HTB.out, HK.out] at hB
 rw [HTB.out] at A1 htm
 rw [HL.out] at A3 hxm
 rw [HT.out] at hxt hle
 rw [HK.out] at hkm ha
 have HB := Lib.hid hB
 clear hd ht hk
 have y0 := hB.cell 0
 have y1 := hB.cell 1
 have y2 := hB.cell 2
 have y3 := hB.cell 3
 have y4 := hB.cell 4
 have y5 := hB.cell 5
 have y6 := hB.cell 6
 have y7 := hB.cell 7
 have yl := hB.lt
 simp only [List.getElem?_cons_zero, List.getElem?_cons_succ] at y0 y1 y2 y3 y4 y5 y6 y7
 have hd2 := (Below.refl w.heap.size w).drew
 have HB2 := Lib.hid (hB.below hd2 yl)
 clear hB
 go_enter Try.func124, Try.ntmps124
 by_cases hlt : a < K
 ·have hal : a < toks.length := by rw [HK.out]; exact hlt
  have haI : (a : Int) < (K : Int) := by omega
  have haI0 : (0 : Int) ≤ (a : Int) := by omega
  have htk := hlo.out hal
  go_wp2_with (fail)
  clear y0 y1 y2 y3 y4 y5 y6 y7 yl
  obtain ⟨z9, zo9, hz9⟩ := Hk.out.at_ a (by rw [List.length_map]; exact hal)
  have hd3 := (Below.refl w.drew.heap.size w.drew).drew
  have hb3 := hd2.trans (hd3.mono hd2.size)
  have HBB := Lib.hid (HB2.out.below hd3 HB2.out.lt)
  have HTT := Lib.hid (Ht.out.grown hb3)
  have HDD := Lib.hid (Hd.out.grown hb3)
  have HBW := Lib.hid hb3
  have cz9 := (Hk.out.grown hb3).cell z9 zo9 hz9 a (by rw [List.length_map]; exact hal)
  rw [List.getElem_map, htk] at cz9
  have HS2 : Hid (w.drew.cell? ⟨bp, 4, none⟩ = some (.slice ka K kc) ∧ w.drew.cell? ⟨bp, 5, none⟩ = some (.int .i64 (a : Int))) := Lib.hid ⟨HB2.out.cell 4, HB2.out.cell 5⟩
  have HS3 : Hid (w.drew.drew.cell? ⟨bp, 4, none⟩ = some (.slice ka K kc) ∧ w.drew.drew.cell? ⟨bp, 5, none⟩ = some (.int .i64 (a : Int)) ∧ w.drew.drew.cell? ⟨z9, zo9 + a, none⟩ = some (.int .i64 (m : Int))) := Lib.hid ⟨HBB.out.cell 4, HBB.out.cell 5, cz9⟩
  subst hz9
  clear hd2 hd3 hb3 cz9 htk Hk
  refine wp_region_held_drew (S := fun w' => w'.cell? ⟨bp, 4, none⟩ = some (.slice (some ⟨z9, zo9, none⟩) K kc) ∧ w'.cell? ⟨bp, 5, none⟩ = some (.int .i64 (a : Int))) (by kernel_rfl) ?_ (fun hHeld => ?_)
  ·exact HS2.out
  refine wpAnyH_take (i := 0) (v := ?_) (iatLS iatZS) (by kernel_rfl) (by kernel_rfl) (by kernel_rfl) (fun _ _ _ h => h) (Or.inl ⟨by rfl, ?_⟩) (by assumption) ?_
  rotate_left
  ·intro w hSw
   try dsimp only at hSw
   go_simp
   all_goals with_reducible rfl
  try simp only [Act.put, List.setIfInBounds_toArray, List.set_cons_zero, List.set_cons_succ]
  refine wpAnyH_take (i := 1) (v := ?_) (iatLS (iatSS iatZS)) (by kernel_rfl) (by kernel_rfl) (by kernel_rfl) (fun _ _ _ h => h) (Or.inl ⟨by rfl, ?_⟩) (by assumption) ?_
  rotate_left
  ·intro w hSw
   try dsimp only at hSw
   go_simp
   all_goals with_reducible rfl
  try simp only [Act.put, List.setIfInBounds_toArray, List.set_cons_zero, List.set_cons_succ]
  refine wpAnyH_take (i := 2) (v := ?_) (iatLS (iatSS (iatSS iatZS))) (by kernel_rfl) (by kernel_rfl) (by kernel_rfl) (fun _ _ _ h => h) (Or.inl ⟨by rfl, ?_⟩) (by assumption) ?_
  rotate_left
  ·intro w hSw
   try dsimp only at hSw
   go_simp
   all_goals with_reducible rfl
  try simp only [Act.put, List.setIfInBounds_toArray, List.set_cons_zero, List.set_cons_succ]
  refine wpAnyH_take (i := 3) (v := ?_) (iatLS (iatSS (iatSS (iatSS iatZS)))) (by kernel_rfl) (by kernel_rfl) (by kernel_rfl) (fun _ _ _ h => h) (Or.inl ⟨by rfl, ?_⟩) (by assumption) ?_
  rotate_left
  ·intro w hSw
   try dsimp only at hSw
   go_simp
   all_goals with_reducible rfl
  try simp only [Act.put, List.setIfInBounds_toArray, List.set_cons_zero, List.set_cons_succ]
  refine wpAnyH_take (i := 4) (v := ?_) (iatLS (iatSS (iatSS (iatSS (iatSS iatZS))))) (by kernel_rfl) (by kernel_rfl) (by kernel_rfl) (fun _ _ _ h => h) (Or.inl ⟨by rfl, ?_⟩) (by assumption) ?_
  rotate_left
  ·intro w hSw
   try dsimp only at hSw
   go_simp
   all_goals with_reducible rfl
  try simp only [Act.put, List.setIfInBounds_toArray, List.set_cons_zero, List.set_cons_succ]
  refine wpAnyH_take (i := 5) (v := ?_) (iatLS (iatSS (iatSS (iatSS (iatSS (iatSS iatZS)))))) (by kernel_rfl) (by kernel_rfl) (by kernel_rfl) (fun _ _ _ h => h) (Or.inl ⟨by rfl, ?_⟩) (by assumption) ?_
  rotate_left
  ·intro w hSw
   try dsimp only at hSw
   go_simp
   all_goals with_reducible rfl
  try simp only [Act.put, List.setIfInBounds_toArray, List.set_cons_zero, List.set_cons_succ]
  refine wpAnyH_take (i := 6) (v := ?_) (iatLS (iatSS (iatSS (iatSS (iatSS (iatSS (iatSS iatZS))))))) (by kernel_rfl) (by kernel_rfl) (by kernel_rfl) (fun _ _ _ h => h) (Or.inl ⟨by rfl, ?_⟩) (by assumption) ?_
  rotate_left
  ·intro w hSw
   try dsimp only at hSw
   go_simp
   all_goals with_reducible rfl
  try simp only [Act.put, List.setIfInBounds_toArray, List.set_cons_zero, List.set_cons_succ]
  refine wpAnyH_take (i := 7) (v := ?_) (iatLS (iatSS (iatSS (iatSS (iatSS (iatSS (iatSS (iatSS iatZS)))))))) (by kernel_rfl) (by kernel_rfl) (by kernel_rfl) (fun _ _ _ h => h) (Or.inl ⟨by rfl, ?_⟩) (by assumption) ?_
  rotate_left
  ·intro w hSw
   try dsimp only at hSw
   go_simp
   all_goals with_reducible rfl
  try simp only [Act.put, List.setIfInBounds_toArray, List.set_cons_zero, List.set_cons_succ]
  refine wpAnyH_take (i := 8) (v := ?_) (iatLS (iatSS (iatSS (iatSS (iatSS (iatSS (iatSS (iatSS (iatSS iatZS))))))))) (by kernel_rfl) (by kernel_rfl) (by kernel_rfl) (fun _ _ _ h => h) (Or.inl ⟨by rfl, ?_⟩) (by assumption) ?_
  rotate_left
  ·intro w hSw
   try dsimp only at hSw
   go_simp
   all_goals with_reducible rfl
  try simp only [Act.put, List.setIfInBounds_toArray, List.set_cons_zero, List.set_cons_succ]
  refine wpAnyH_take (i := 9) (v := ?_) (iatLS (iatSS (iatSS (iatSS (iatSS (iatSS (iatSS (iatSS (iatSS (iatSS iatZS)))))))))) (by kernel_rfl) (by kernel_rfl) (by kernel_rfl) (fun _ _ _ h => h) (Or.inl ⟨by rfl, ?_⟩) (by assumption) ?_
  rotate_left
  ·intro w hSw
   try dsimp only at hSw
   go_simp
   all_goals with_reducible rfl
  try simp only [Act.put, List.setIfInBounds_toArray, List.set_cons_zero, List.set_cons_succ]
  refine wpAnyH_done (by kernel_rfl) ?_ _
  go_wp2_with (fail)
  refine wp_region_held_drew (S := fun w' => w'.cell? ⟨bp, 4, none⟩ = some (.slice (some ⟨z9, zo9, none⟩) K kc) ∧ w'.cell? ⟨bp, 5, none⟩ = some (.int .i64 (a : Int)) ∧ w'.cell? ⟨z9, zo9 + a, none⟩ = some (.int .i64 (m : Int))) (by kernel_rfl) ?_ (fun hHeld => ?_)
  ·exact HS3.out
  refine wpAnyH_take (i := 0) (v := ?_) (iatLS iatZS) (by kernel_rfl) (by kernel_rfl) (by kernel_rfl) (fun _ _ _ h => h) (Or.inl ⟨by rfl, ?_⟩) (by assumption) ?_
  rotate_left
  ·intro w hSw
   try dsimp only at hSw
   go_simp
   all_goals with_reducible rfl
  try simp only [Act.put, List.setIfInBounds_toArray, List.set_cons_zero, List.set_cons_succ]
  refine wpAnyH_take (i := 1) (v := ?_) (iatLS (iatSS iatZS)) (by kernel_rfl) (by kernel_rfl) (by kernel_rfl) (fun _ _ _ h => h) (Or.inl ⟨by rfl, ?_⟩) (by assumption) ?_
  rotate_left
  ·intro w hSw
   try dsimp only at hSw
   go_simp
   all_goals with_reducible rfl
  try simp only [Act.put, List.setIfInBounds_toArray, List.set_cons_zero, List.set_cons_succ]
  refine wpAnyH_take (i := 2) (v := ?_) (iatLS (iatSS (iatSS iatZS))) (by kernel_rfl) (by kernel_rfl) (by kernel_rfl) (fun _ _ _ h => h) (Or.inl ⟨by rfl, ?_⟩) (by assumption) ?_
  rotate_left
  ·intro w hSw
   try dsimp only at hSw
   go_simp
   all_goals with_reducible rfl
  try simp only [Act.put, List.setIfInBounds_toArray, List.set_cons_zero, List.set_cons_succ]
  refine wpAnyH_take (i := 3) (v := ?_) (iatLS (iatSS (iatSS (iatSS iatZS)))) (by kernel_rfl) (by kernel_rfl) (by kernel_rfl) (fun _ _ _ h => h) (Or.inl ⟨by rfl, ?_⟩) (by assumption) ?_
  rotate_left
  ·intro w hSw
   try dsimp only at hSw
   go_simp
   all_goals with_reducible rfl
  try simp only [Act.put, List.setIfInBounds_toArray, List.set_cons_zero, List.set_cons_succ]
  refine wpAnyH_take (i := 4) (v := ?_) (iatLS (iatSS (iatSS (iatSS (iatSS iatZS))))) (by kernel_rfl) (by kernel_rfl) (by kernel_rfl) (fun _ _ _ h => h) (Or.inl ⟨by rfl, ?_⟩) (by assumption) ?_
  rotate_left
  ·intro w hSw
   try dsimp only at hSw
   go_simp
   all_goals with_reducible rfl
  try simp only [Act.put, List.setIfInBounds_toArray, List.set_cons_zero, List.set_cons_succ]
  refine wpAnyH_take (i := 5) (v := ?_) (iatLS (iatSS (iatSS (iatSS (iatSS (iatSS iatZS)))))) (by kernel_rfl) (by kernel_rfl) (by kernel_rfl) (fun _ _ _ h => h) (Or.inl ⟨by rfl, ?_⟩) (by assumption) ?_
  rotate_left
  ·intro w hSw
   try dsimp only at hSw
   go_simp
   all_goals with_reducible rfl
  try simp only [Act.put, List.setIfInBounds_toArray, List.set_cons_zero, List.set_cons_succ]
  refine wpAnyH_take (i := 6) (v := ?_) (iatLS (iatSS (iatSS (iatSS (iatSS (iatSS (iatSS iatZS))))))) (by kernel_rfl) (by kernel_rfl) (by kernel_rfl) (fun _ _ _ h => h) (Or.inl ⟨by rfl, ?_⟩) (by assumption) ?_
  rotate_left
  ·intro w hSw
   try dsimp only at hSw
   go_simp
   all_goals with_reducible rfl
  try simp only [Act.put, List.setIfInBounds_toArray, List.set_cons_zero, List.set_cons_succ]
  refine wpAnyH_take (i := 7) (v := ?_) (iatLS (iatSS (iatSS (iatSS (iatSS (iatSS (iatSS (iatSS iatZS)))))))) (by kernel_rfl) (by kernel_rfl) (by kernel_rfl) (fun _ _ _ h => h) (Or.inl ⟨by rfl, ?_⟩) (by assumption) ?_
  rotate_left
  ·intro w hSw
   try dsimp only at hSw
   go_simp
   all_goals with_reducible rfl
  try simp only [Act.put, List.setIfInBounds_toArray, List.set_cons_zero, List.set_cons_succ]
  refine wpAnyH_take (i := 8) (v := ?_) (iatLS (iatSS (iatSS (iatSS (iatSS (iatSS (iatSS (iatSS (iatSS iatZS))))))))) (by kernel_rfl) (by kernel_rfl) (by kernel_rfl) (fun _ _ _ h => h) (Or.inl ⟨by rfl, ?_⟩) (by assumption) ?_
  rotate_left
  ·intro w hSw
   try dsimp only at hSw
   go_simp
   all_goals with_reducible rfl
  try simp only [Act.put, List.setIfInBounds_toArray, List.set_cons_zero, List.set_cons_succ]
  refine wpAnyH_take (i := 9) (v := ?_) (iatLS (iatSS (iatSS (iatSS (iatSS (iatSS (iatSS (iatSS (iatSS (iatSS iatZS)))))))))) (by kernel_rfl) (by kernel_rfl) (by kernel_rfl) (fun _ _ _ h => h) (Or.inl ⟨by rfl, ?_⟩) (by assumption) ?_
  rotate_left
  ·intro w hSw
   try dsimp only at hSw
   go_simp
   all_goals with_reducible rfl
  try simp only [Act.put, List.setIfInBounds_toArray, List.set_cons_zero, List.set_cons_succ]
  refine wpAnyH_take (i := 10) (v := ?_) (iatLS (iatSS (iatSS (iatSS (iatSS (iatSS (iatSS (iatSS (iatSS (iatSS (iatSS iatZS))))))))))) (by kernel_rfl) (by kernel_rfl) (by kernel_rfl) (fun _ _ _ h => h) (Or.inl ⟨by rfl, ?_⟩) (by assumption) ?_
  rotate_left
  ·intro w hSw
   try dsimp only at hSw
   go_simp
   all_goals with_reducible rfl
  try simp only [Act.put, List.setIfInBounds_toArray, List.set_cons_zero, List.set_cons_succ]
  refine wpAnyH_done (by kernel_rfl) ?_ _
  generalize hWW : w.drew.drew = W at HBB HTT HDD HBW ⊢
  clear hWW
  have y0 := HBB.out.cell 0
  have y1 := HBB.out.cell 1
  have y2 := HBB.out.cell 2
  have y3 := HBB.out.cell 3
  have y4 := HBB.out.cell 4
  have y5 := HBB.out.cell 5
  have y6 := HBB.out.cell 6
  have y7 := HBB.out.cell 7
  have yl := HBB.out.lt
  simp only [List.getElem?_cons_zero, List.getElem?_cons_succ] at y0 y1 y2 y3 y4 y5 y6 y7
  by_cases c1 : TB ≤ r
  ·have c1I : (TB : Int) ≤ (r : Int) := by omega
   have HANS : Hid (ans = -1) := Lib.hid (A1.out c1)
   clear c1
   go_wp2_with (fail)
   first | exact ⟨by rw [HANS.out], HBW.out⟩ | exact bodyPost_ret (v := .int .i64 (-1)) (by simp [results, Try.results124, go_sem]; try first | rfl | assumption | omega) rfl ⟨by rw [HANS.out], HBW.out⟩ | trace_state
  have c1I : ¬ (TB : Int) ≤ (r : Int) := by omega
  have hrt : r < tbs.length := by rw [HTB.out]; omega
  obtain ⟨q, qo, hq⟩ := HTT.out.row.at_ r (by rw [List.length_map]; exact hrt)
  have cq := HTT.out.row.cell q qo hq r (by rw [List.length_map]; exact hrt)
  rw [List.getElem_map] at cq
  have hti := HTT.out.nms _ (List.getElem_mem hrt)
  have hA2 := A2.out hrt
  have hA4 := A4.out hrt
  have hA5 := A5.out hrt
  obtain ⟨row, hrow⟩ : ∃ v, Hid (tbs[r]'hrt = v) := ⟨_, Lib.hid rfl⟩
  rw [hrow.out] at cq hti hA2 hA4 hA5
  obtain ⟨rl, ra, rc⟩ := row
  change _ = some (Value.slice ra rl.length rc) at cq
  dsimp only at hti hA2 hA4 hA5
  have hrm : rl.length ≤ rc ∧ rc ≤ 9223372036854775807 := ⟨by have := hti.le; rw [List.length_map] at this; exact this, hti.max⟩
  have Hti := Lib.hid hti
  have H2 := Lib.hid hA2
  have H4 := Lib.hid hA4
  have H5 := Lib.hid hA5
  clear hti hA2 hA4 hA5
  obtain ⟨RL, hRL⟩ : ∃ q, Hid (rl.length = q) := ⟨_, Lib.hid rfl⟩
  rw [hRL.out] at cq hrm
  have hblq := World.block_lt_of_cell? _ _ cq
  subst hq
  by_cases c2 : RL ≤ m
  ·have c2I : (RL : Int) ≤ (m : Int) := by omega
   have HANS : Hid (ans = -1) := Lib.hid (H2.out (by rw [hRL.out]; exact c2))
   clear c2
   go_wp2_with (fail)
   first | exact ⟨by rw [HANS.out], HBW.out⟩ | exact bodyPost_ret (v := .int .i64 (-1)) (by simp [results, Try.results124, go_sem]; try first | rfl | assumption | omega) rfl ⟨by rw [HANS.out], HBW.out⟩ | trace_state
  have c2I : ¬ (RL : Int) ≤ (m : Int) := by omega
  by_cases c3 : L ≤ r
  ·have c3I : (L : Int) ≤ (r : Int) := by omega
   have HANS : Hid (ans = -1) := Lib.hid (A3.out c3)
   clear c3
   go_wp2_with (fail)
   first | exact ⟨by rw [HANS.out], HBW.out⟩ | exact bodyPost_ret (v := .int .i64 (-1)) (by simp [results, Try.results124, go_sem]; try first | rfl | assumption | omega) rfl ⟨by rw [HANS.out], HBW.out⟩ | trace_state
  have c3I : ¬ (L : Int) ≤ (r : Int) := by omega
  have hm0 : (0 : Int) ≤ (m : Int) := by omega
  have hr0 : (0 : Int) ≤ (r : Int) := by omega
  have hmI : (m : Int) < (RL : Int) := by omega
  have hrI : (r : Int) < (TB : Int) := by omega
  have hrL : (r : Int) < (L : Int) := by omega
  have hml : m < rl.length := by rw [hRL.out]; omega
  obtain ⟨z, zo, hz⟩ := Hti.out.at_ m (by rw [List.length_map]; exact hml)
  have cz := Hti.out.cell z zo hz m (by rw [List.length_map]; exact hml)
  rw [List.getElem_map] at cz
  have hblz := World.block_lt_of_cell? _ _ cz
  have h4 := H4.out hml
  have h5 := H5.out hml
  obtain ⟨i, hi⟩ : ∃ v, Hid (rl[m]'hml = v) := ⟨_, Lib.hid rfl⟩
  rw [hi.out] at cz h4 h5
  subst hz
  have hrx : r < xa.length := by rw [HL.out]; omega
  obtain ⟨p, po, hp⟩ := HDD.out.alts.at_ r (by rw [List.length_map]; exact hrx)
  have cp := HDD.out.alts.cell p po hp r (by rw [List.length_map]; exact hrx)
  rw [List.getElem_map] at cp
  have hnm := Hnn.out r hrx
  have hme := (HDD.out.rules _ (List.getElem_mem hrx)).row
  have hme2 : (xa[r]).ds.length ≤ (xa[r]).c ∧ (xa[r]).c ≤ 9223372036854775807 := ⟨by have := hme.le; rwa [List.length_map] at this, hme.max⟩
  clear hme
  obtain ⟨ee, he⟩ : ∃ v, Hid (xa[r]'hrx = v) := ⟨_, Lib.hid rfl⟩
  rw [he.out] at cp hnm hme2
  have hblp := World.block_lt_of_cell? _ _ cp
  obtain ⟨eds, ea, ec⟩ := ee
  change _ = some (Value.slice ea eds.length ec) at cp
  dsimp only at hnm hme2
  obtain ⟨M, hM⟩ : ∃ q, Hid (eds.length = q) := ⟨_, Lib.hid rfl⟩
  rw [hM.out] at cp hnm hme2
  rw [hnm] at h4 h5
  subst hp
  clear hnm c1 c2 c3
  by_cases d1 : i < 0
  ·have HANS : Hid (ans = -1) := Lib.hid (h4 (.inl d1))
   clear h4 h5
   go_wp2_with (fail)
   first | exact ⟨by rw [HANS.out], HBW.out⟩ | exact bodyPost_ret (v := .int .i64 (-1)) (by simp [results, Try.results124, go_sem]; try first | rfl | assumption | omega) rfl ⟨by rw [HANS.out], HBW.out⟩ | trace_state
  have d1I : (0 : Int) ≤ i := by omega
  by_cases d2 : (M : Int) ≤ i
  ·have HANS : Hid (ans = -1) := Lib.hid (h4 (.inr d2))
   clear h4 h5
   go_wp2_with (fail)
   first | exact ⟨by rw [HANS.out], HBW.out⟩ | exact bodyPost_ret (v := .int .i64 (-1)) (by simp [results, Try.results124, go_sem]; try first | rfl | assumption | omega) rfl ⟨by rw [HANS.out], HBW.out⟩ | trace_state
  have HANS : Hid (ans = i) := Lib.hid (h5 d1I (by omega))
  have d2I : i < (M : Int) := by omega
  clear h4 h5
  go_wp2_with (fail)
  first | exact ⟨by rw [HANS.out], HBW.out⟩ | exact bodyPost_ret (v := .int .i64 (i)) (by simp [results, Try.results124, go_sem]; try first | rfl | assumption | omega) rfl ⟨by rw [HANS.out], HBW.out⟩ | trace_state
 ·have hal : ¬ a < toks.length := by rw [HK.out]; exact hlt
  have haI : ¬ (a : Int) < (K : Int) := by omega
  have hTm := hle.out hal
  go_wp2_with (fail)
  clear y0 y1 y2 y3 y4 y5 y6 y7 yl
  have HBB := HB2
  have HTT := Lib.hid (Ht.out.grown hd2)
  have HDD := Lib.hid (Hd.out.grown hd2)
  have HBW := Lib.hid hd2
  have HS2 : Hid (w.drew.cell? ⟨bp, 4, none⟩ = some (.slice ka K kc) ∧ w.drew.cell? ⟨bp, 5, none⟩ = some (.int .i64 (a : Int))) := Lib.hid ⟨HB2.out.cell 4, HB2.out.cell 5⟩
  subst hTm
  clear hd2 Hk
  refine wp_region_held_drew (S := fun w' => w'.cell? ⟨bp, 4, none⟩ = some (.slice ka K kc) ∧ w'.cell? ⟨bp, 5, none⟩ = some (.int .i64 (a : Int))) (by kernel_rfl) ?_ (fun hHeld => ?_)
  ·exact HS2.out
  refine wpAnyH_take (i := 0) (v := ?_) (iatLS iatZS) (by kernel_rfl) (by kernel_rfl) (by kernel_rfl) (fun _ _ _ h => h) (Or.inl ⟨by rfl, ?_⟩) (by assumption) ?_
  rotate_left
  ·intro w hSw
   try dsimp only at hSw
   go_simp
   all_goals with_reducible rfl
  try simp only [Act.put, List.setIfInBounds_toArray, List.set_cons_zero, List.set_cons_succ]
  refine wpAnyH_take (i := 1) (v := ?_) (iatLS (iatSS iatZS)) (by kernel_rfl) (by kernel_rfl) (by kernel_rfl) (fun _ _ _ h => h) (Or.inl ⟨by rfl, ?_⟩) (by assumption) ?_
  rotate_left
  ·intro w hSw
   try dsimp only at hSw
   go_simp
   all_goals with_reducible rfl
  try simp only [Act.put, List.setIfInBounds_toArray, List.set_cons_zero, List.set_cons_succ]
  refine wpAnyH_take (i := 2) (v := ?_) (iatLS (iatSS (iatSS iatZS))) (by kernel_rfl) (by kernel_rfl) (by kernel_rfl) (fun _ _ _ h => h) (Or.inl ⟨by rfl, ?_⟩) (by assumption) ?_
  rotate_left
  ·intro w hSw
   try dsimp only at hSw
   go_simp
   all_goals with_reducible rfl
  try simp only [Act.put, List.setIfInBounds_toArray, List.set_cons_zero, List.set_cons_succ]
  refine wpAnyH_take (i := 3) (v := ?_) (iatLS (iatSS (iatSS (iatSS iatZS)))) (by kernel_rfl) (by kernel_rfl) (by kernel_rfl) (fun _ _ _ h => h) (Or.inl ⟨by rfl, ?_⟩) (by assumption) ?_
  rotate_left
  ·intro w hSw
   try dsimp only at hSw
   go_simp
   all_goals with_reducible rfl
  try simp only [Act.put, List.setIfInBounds_toArray, List.set_cons_zero, List.set_cons_succ]
  refine wpAnyH_take (i := 4) (v := ?_) (iatLS (iatSS (iatSS (iatSS (iatSS iatZS))))) (by kernel_rfl) (by kernel_rfl) (by kernel_rfl) (fun _ _ _ h => h) (Or.inl ⟨by rfl, ?_⟩) (by assumption) ?_
  rotate_left
  ·intro w hSw
   try dsimp only at hSw
   go_simp
   all_goals with_reducible rfl
  try simp only [Act.put, List.setIfInBounds_toArray, List.set_cons_zero, List.set_cons_succ]
  refine wpAnyH_take (i := 5) (v := ?_) (iatLS (iatSS (iatSS (iatSS (iatSS (iatSS iatZS)))))) (by kernel_rfl) (by kernel_rfl) (by kernel_rfl) (fun _ _ _ h => h) (Or.inl ⟨by rfl, ?_⟩) (by assumption) ?_
  rotate_left
  ·intro w hSw
   try dsimp only at hSw
   go_simp
   all_goals with_reducible rfl
  try simp only [Act.put, List.setIfInBounds_toArray, List.set_cons_zero, List.set_cons_succ]
  refine wpAnyH_take (i := 6) (v := ?_) (iatLS (iatSS (iatSS (iatSS (iatSS (iatSS (iatSS iatZS))))))) (by kernel_rfl) (by kernel_rfl) (by kernel_rfl) (fun _ _ _ h => h) (Or.inl ⟨by rfl, ?_⟩) (by assumption) ?_
  rotate_left
  ·intro w hSw
   try dsimp only at hSw
   go_simp
   all_goals with_reducible rfl
  try simp only [Act.put, List.setIfInBounds_toArray, List.set_cons_zero, List.set_cons_succ]
  refine wpAnyH_take (i := 7) (v := ?_) (iatLS (iatSS (iatSS (iatSS (iatSS (iatSS (iatSS (iatSS iatZS)))))))) (by kernel_rfl) (by kernel_rfl) (by kernel_rfl) (fun _ _ _ h => h) (Or.inl ⟨by rfl, ?_⟩) (by assumption) ?_
  rotate_left
  ·intro w hSw
   try dsimp only at hSw
   go_simp
   all_goals with_reducible rfl
  try simp only [Act.put, List.setIfInBounds_toArray, List.set_cons_zero, List.set_cons_succ]
  refine wpAnyH_take (i := 8) (v := ?_) (iatLS (iatSS (iatSS (iatSS (iatSS (iatSS (iatSS (iatSS (iatSS iatZS))))))))) (by kernel_rfl) (by kernel_rfl) (by kernel_rfl) (fun _ _ _ h => h) (Or.inl ⟨by rfl, ?_⟩) (by assumption) ?_
  rotate_left
  ·intro w hSw
   try dsimp only at hSw
   go_simp
   all_goals with_reducible rfl
  try simp only [Act.put, List.setIfInBounds_toArray, List.set_cons_zero, List.set_cons_succ]
  refine wpAnyH_take (i := 9) (v := ?_) (iatLS (iatSS (iatSS (iatSS (iatSS (iatSS (iatSS (iatSS (iatSS (iatSS iatZS)))))))))) (by kernel_rfl) (by kernel_rfl) (by kernel_rfl) (fun _ _ _ h => h) (Or.inl ⟨by rfl, ?_⟩) (by assumption) ?_
  rotate_left
  ·intro w hSw
   try dsimp only at hSw
   go_simp
   all_goals with_reducible rfl
  try simp only [Act.put, List.setIfInBounds_toArray, List.set_cons_zero, List.set_cons_succ]
  refine wpAnyH_done (by kernel_rfl) ?_ _
  generalize hWW : w.drew = W at HBB HTT HDD HBW ⊢
  clear hWW
  have y0 := HBB.out.cell 0
  have y1 := HBB.out.cell 1
  have y2 := HBB.out.cell 2
  have y3 := HBB.out.cell 3
  have y4 := HBB.out.cell 4
  have y5 := HBB.out.cell 5
  have y6 := HBB.out.cell 6
  have y7 := HBB.out.cell 7
  have yl := HBB.out.lt
  simp only [List.getElem?_cons_zero, List.getElem?_cons_succ] at y0 y1 y2 y3 y4 y5 y6 y7
  by_cases c1 : TB ≤ r
  ·have c1I : (TB : Int) ≤ (r : Int) := by omega
   have HANS : Hid (ans = -1) := Lib.hid (A1.out c1)
   clear c1
   go_wp2_with (fail)
   first | exact ⟨by rw [HANS.out], HBW.out⟩ | exact bodyPost_ret (v := .int .i64 (-1)) (by simp [results, Try.results124, go_sem]; try first | rfl | assumption | omega) rfl ⟨by rw [HANS.out], HBW.out⟩ | trace_state
  have c1I : ¬ (TB : Int) ≤ (r : Int) := by omega
  have hrt : r < tbs.length := by rw [HTB.out]; omega
  obtain ⟨q, qo, hq⟩ := HTT.out.row.at_ r (by rw [List.length_map]; exact hrt)
  have cq := HTT.out.row.cell q qo hq r (by rw [List.length_map]; exact hrt)
  rw [List.getElem_map] at cq
  have hti := HTT.out.nms _ (List.getElem_mem hrt)
  have hA2 := A2.out hrt
  have hA4 := A4.out hrt
  have hA5 := A5.out hrt
  obtain ⟨row, hrow⟩ : ∃ v, Hid (tbs[r]'hrt = v) := ⟨_, Lib.hid rfl⟩
  rw [hrow.out] at cq hti hA2 hA4 hA5
  obtain ⟨rl, ra, rc⟩ := row
  change _ = some (Value.slice ra rl.length rc) at cq
  dsimp only at hti hA2 hA4 hA5
  have hrm : rl.length ≤ rc ∧ rc ≤ 9223372036854775807 := ⟨by have := hti.le; rw [List.length_map] at this; exact this, hti.max⟩
  have Hti := Lib.hid hti
  have H2 := Lib.hid hA2
  have H4 := Lib.hid hA4
  have H5 := Lib.hid hA5
  clear hti hA2 hA4 hA5
  obtain ⟨RL, hRL⟩ : ∃ q, Hid (rl.length = q) := ⟨_, Lib.hid rfl⟩
  rw [hRL.out] at cq hrm
  have hblq := World.block_lt_of_cell? _ _ cq
  subst hq
  by_cases c2 : RL ≤ T
  ·have c2I : (RL : Int) ≤ (T : Int) := by omega
   have HANS : Hid (ans = -1) := Lib.hid (H2.out (by rw [hRL.out]; exact c2))
   clear c2
   go_wp2_with (fail)
   first | exact ⟨by rw [HANS.out], HBW.out⟩ | exact bodyPost_ret (v := .int .i64 (-1)) (by simp [results, Try.results124, go_sem]; try first | rfl | assumption | omega) rfl ⟨by rw [HANS.out], HBW.out⟩ | trace_state
  have c2I : ¬ (RL : Int) ≤ (T : Int) := by omega
  by_cases c3 : L ≤ r
  ·have c3I : (L : Int) ≤ (r : Int) := by omega
   have HANS : Hid (ans = -1) := Lib.hid (A3.out c3)
   clear c3
   go_wp2_with (fail)
   first | exact ⟨by rw [HANS.out], HBW.out⟩ | exact bodyPost_ret (v := .int .i64 (-1)) (by simp [results, Try.results124, go_sem]; try first | rfl | assumption | omega) rfl ⟨by rw [HANS.out], HBW.out⟩ | trace_state
  have c3I : ¬ (L : Int) ≤ (r : Int) := by omega
  have hm0 : (0 : Int) ≤ (T : Int) := by omega
  have hr0 : (0 : Int) ≤ (r : Int) := by omega
  have hmI : (T : Int) < (RL : Int) := by omega
  have hrI : (r : Int) < (TB : Int) := by omega
  have hrL : (r : Int) < (L : Int) := by omega
  have hml : T < rl.length := by rw [hRL.out]; omega
  obtain ⟨z, zo, hz⟩ := Hti.out.at_ T (by rw [List.length_map]; exact hml)
  have cz := Hti.out.cell z zo hz T (by rw [List.length_map]; exact hml)
  rw [List.getElem_map] at cz
  have hblz := World.block_lt_of_cell? _ _ cz
  have h4 := H4.out hml
  have h5 := H5.out hml
  obtain ⟨i, hi⟩ : ∃ v, Hid (rl[T]'hml = v) := ⟨_, Lib.hid rfl⟩
  rw [hi.out] at cz h4 h5
  subst hz
  have hrx : r < xa.length := by rw [HL.out]; omega
  obtain ⟨p, po, hp⟩ := HDD.out.alts.at_ r (by rw [List.length_map]; exact hrx)
  have cp := HDD.out.alts.cell p po hp r (by rw [List.length_map]; exact hrx)
  rw [List.getElem_map] at cp
  have hnm := Hnn.out r hrx
  have hme := (HDD.out.rules _ (List.getElem_mem hrx)).row
  have hme2 : (xa[r]).ds.length ≤ (xa[r]).c ∧ (xa[r]).c ≤ 9223372036854775807 := ⟨by have := hme.le; rwa [List.length_map] at this, hme.max⟩
  clear hme
  obtain ⟨ee, he⟩ : ∃ v, Hid (xa[r]'hrx = v) := ⟨_, Lib.hid rfl⟩
  rw [he.out] at cp hnm hme2
  have hblp := World.block_lt_of_cell? _ _ cp
  obtain ⟨eds, ea, ec⟩ := ee
  change _ = some (Value.slice ea eds.length ec) at cp
  dsimp only at hnm hme2
  obtain ⟨M, hM⟩ : ∃ q, Hid (eds.length = q) := ⟨_, Lib.hid rfl⟩
  rw [hM.out] at cp hnm hme2
  rw [hnm] at h4 h5
  subst hp
  clear hnm c1 c2 c3
  by_cases d1 : i < 0
  ·have HANS : Hid (ans = -1) := Lib.hid (h4 (.inl d1))
   clear h4 h5
   go_wp2_with (fail)
   first | exact ⟨by rw [HANS.out], HBW.out⟩ | exact bodyPost_ret (v := .int .i64 (-1)) (by simp [results, Try.results124, go_sem]; try first | rfl | assumption | omega) rfl ⟨by rw [HANS.out], HBW.out⟩ | trace_state
  have d1I : (0 : Int) ≤ i := by omega
  by_cases d2 : (M : Int) ≤ i
  ·have HANS : Hid (ans = -1) := Lib.hid (h4 (.inr d2))
   clear h4 h5
   go_wp2_with (fail)
   first | exact ⟨by rw [HANS.out], HBW.out⟩ | exact bodyPost_ret (v := .int .i64 (-1)) (by simp [results, Try.results124, go_sem]; try first | rfl | assumption | omega) rfl ⟨by rw [HANS.out], HBW.out⟩ | trace_state
  have HANS : Hid (ans = i) := Lib.hid (h5 d1I (by omega))
  have d2I : i < (M : Int) := by omega
  clear h4 h5
  go_wp2_with (fail)
  first | exact ⟨by rw [HANS.out], HBW.out⟩ | exact bodyPost_ret (v := .int .i64 (i)) (by simp [results, Try.results124, go_sem]; try first | rfl | assumption | omega) rfl ⟨by rw [HANS.out], HBW.out⟩ | trace_state
end Go.Proofs.Ythogiakfbgehnaa
namespace Go.Proofs.Ythogiakfbgehnaa
open Go.RowKit Go.Maps
attribute [local go_sem] Oper.semAt_some
end Go.Proofs.Ythogiakfbgehnaa
namespace Go.Proofs.Ythogiakfbgehnaa
open Go.RowKit Go.Maps
attribute [local go_sem] Oper.semAt_some
end Go.Proofs.Ythogiakfbgehnaa
namespace Go.Proofs.Ythogiakfbgehnaa
open Go.RowKit
def TrF.len : TrF → Nat
 | .nil => 0
 | .cons _ _ rest => rest.len + 1
theorem TrF.app_len : ∀ (f g : TrF), (f.app g).len = f.len + g.len
 | .nil, g => by simp [TrF.app, TrF.len]
 | .cons h kids rest, g => by
  show (rest.app g).len + 1 = rest.len + 1 + g.len
  rw [TrF.app_len rest g]; omega
/-- The cells from an address on read as these trees; what is in them lies in blocks of a kind. -/
def TrEl (w : World) (P : Nat → Prop) : TrF → Nat → Nat → Prop
 | .nil, _, _ => True
 | .cons h kids rest, b, off =>
  w.cell? ⟨b, off, none⟩ = some (.int .i64 h.k) ∧ w.cell? ⟨b, off + 1, none⟩ = some (.int .i64 h.i) ∧ w.cell? ⟨b, off + 2, none⟩ = some (.int .i64 h.a) ∧
  (∃ ga gc, w.cell? ⟨b, off + 3, none⟩ = some (.slice ga kids.len gc) ∧ kids.len ≤ gc ∧ gc ≤ 9223372036854775807 ∧ (ga = none → gc = 0) ∧ (0 < kids.len → ∃ b' o', ga = some ⟨b', o', none⟩ ∧ P b' ∧ TrEl w P kids b' o')) ∧
  TrEl w P rest b (off + 4)
/-- A slice of trees. -/
structure TrS (w : World) (P : Nat → Prop) (a : Option Addr) (cap : Nat) (f : TrF) : Prop where
 le : f.len ≤ cap
 max : cap ≤ 9223372036854775807
 nil_ : a = none → cap = 0
 at_ : 0 < f.len → ∃ b off, a = some ⟨b, off, none⟩ ∧ P b ∧ TrEl w P f b off
/-- What lies in blocks of the kind is kept. -/
theorem TrEl.kept {w w' : World} {P : Nat → Prop} (hc : ∀ b off v, P b → w.cell? ⟨b, off, none⟩ = some v → w'.cell? ⟨b, off, none⟩ = some v) : ∀ (f : TrF) (b off : Nat), P b → TrEl w P f b off → TrEl w' P f b off := by
 intro f
 induction f with
 | nil => intro b off _ _; trivial
 | cons h kids rest ihk ihr =>
  rintro b off hb ⟨h1, h2, h3, ⟨ga, gc, h4, h5, h6, h7, h8⟩, h9⟩
  exact ⟨hc _ _ _ hb h1, hc _ _ _ hb h2, hc _ _ _ hb h3, ⟨ga, gc, hc _ _ _ hb h4, h5, h6, h7, fun hn => by obtain ⟨b', o', e, hl, hk⟩ := h8 hn; exact ⟨b', o', e, hl, ihk _ _ hl hk⟩⟩, ihr _ _ hb h9⟩
theorem TrS.kept {w w' : World} {P : Nat → Prop} {cap : Nat} {a : Option Addr} {f : TrF} (h : TrS w P a cap f) (hc : ∀ b off v, P b → w.cell? ⟨b, off, none⟩ = some v → w'.cell? ⟨b, off, none⟩ = some v) : TrS w' P a cap f :=
 ⟨h.le, h.max, h.nil_, fun hn => by obtain ⟨b, o, e, hl, hk⟩ := h.at_ hn; exact ⟨b, o, e, hl, TrEl.kept hc f b o hl hk⟩⟩
theorem TrS.grown {w w' : World} {P : Nat → Prop} {cap : Nat} {a : Option Addr} {f : TrF} (h : TrS w P a cap f) (hb : Below w.heap.size w w') : TrS w' P a cap f :=
 h.kept (fun b off v _ hv => (hb.cell (p := ⟨b, off, none⟩) (World.block_lt_of_cell? w _ hv)).trans hv)
/-- The kind of blocks may be told otherwise. -/
theorem TrEl.imp {w : World} {P Q : Nat → Prop} (hp : ∀ b, P b → b < w.heap.size → Q b) : ∀ (f : TrF) (b off : Nat), TrEl w P f b off → TrEl w Q f b off := by
 intro f
 induction f with
 | nil => intro b off _; trivial
 | cons h kids rest ihk ihr =>
  rintro b off ⟨h1, h2, h3, ⟨ga, gc, h4, h5, h6, h7, h8⟩, h9⟩
  refine ⟨h1, h2, h3, ⟨ga, gc, h4, h5, h6, h7, fun hn => ?_⟩, ihr _ _ h9⟩
  obtain ⟨b', o', e, hl, hk⟩ := h8 hn
  refine ⟨b', o', e, hp b' hl ?_, ihk _ _ hk⟩
  cases kids with
  | nil => simp [TrF.len] at hn
  | cons x y z => exact World.block_lt_of_cell? w ⟨b', o', none⟩ hk.1
theorem TrS.imp {w : World} {P Q : Nat → Prop} (hp : ∀ b, P b → b < w.heap.size → Q b) {cap : Nat} {a : Option Addr} {f : TrF} (h : TrS w P a cap f) : TrS w Q a cap f :=
 ⟨h.le, h.max, h.nil_, fun hn => by
  obtain ⟨b, o, e, hl, hk⟩ := h.at_ hn
  refine ⟨b, o, e, hp b hl ?_, TrEl.imp hp f b o hk⟩
  cases f with
  | nil => simp [TrF.len] at hn
  | cons x y z => exact World.block_lt_of_cell? w ⟨b, o, none⟩ hk.1⟩
theorem TrS.nil (w : World) (P : Nat → Prop) : TrS w P none 0 .nil := ⟨by simp [TrF.len], by omega, fun _ => rfl, fun h => by simp [TrF.len] at h⟩
/-- How many there are in all. -/
def TrF.size : TrF → Nat
 | .nil => 0
 | .cons _ kids rest => kids.size + rest.size + 1
def TrF.drop : Nat → TrF → TrF
 | 0, f => f
 | _ + 1, .nil => .nil
 | k + 1, .cons _ _ rest => rest.drop k
theorem TrF.drop_len : ∀ (k : Nat) (f : TrF), (f.drop k).len = f.len - k := by
 intro k
 induction k with
 | zero => intro f; rfl
 | succ k ih => intro f; cases f with
  | nil => simp [TrF.drop, TrF.len]
  | cons h kids rest => simp only [TrF.drop, TrF.len, ih]; omega
theorem TrF.drop_succ : ∀ (k : Nat) (f : TrF) (h : TrH) (kids rest : TrF), f.drop k = .cons h kids rest → f.drop (k + 1) = rest := by
 intro k
 induction k with
 | zero => intro f h kids rest e; simp only [TrF.drop] at e; subst e; rfl
 | succ k ih => intro f h kids rest e; cases f with
  | nil => simp [TrF.drop] at e
  | cons h' kids' rest' => simp only [TrF.drop] at e ⊢; exact ih _ _ _ _ e
theorem TrF.drop_cons {k : Nat} {f : TrF} (h : k < f.len) : ∃ hd kids rest, f.drop k = .cons hd kids rest := by
 have := TrF.drop_len k f
 cases e : f.drop k with
 | nil => rw [e] at this; simp [TrF.len] at this; omega
 | cons hd kids rest => exact ⟨_, _, _, rfl⟩
theorem TrF.drop_all {f : TrF} {k : Nat} (h : f.len ≤ k) : f.drop k = .nil := by
 have := TrF.drop_len k f
 cases e : f.drop k with
 | nil => rfl
 | cons hd kids rest => rw [e] at this; simp [TrF.len] at this; omega
theorem TrF.drop_size : ∀ (k : Nat) (f : TrF), (f.drop k).size ≤ f.size := by
 intro k
 induction k with
 | zero => intro f; exact Nat.le_refl _
 | succ k ih => intro f; cases f with
  | nil => exact Nat.le_refl _
  | cons h kids rest => simp only [TrF.drop, TrF.size]; have := ih rest; omega
theorem TrEl.drop {w : World} {P : Nat → Prop} : ∀ (k : Nat) (f : TrF) (b off : Nat), TrEl w P f b off → TrEl w P (f.drop k) b (off + k * 4) := by
 intro k
 induction k with
 | zero => intro f b off h; simpa [TrF.drop] using h
 | succ k ih => intro f b off h; cases f with
  | nil => trivial
  | cons hd kids rest =>
   have := ih rest b (off + 4) h.2.2.2.2
   rw [show off + (k + 1) * 4 = off + 4 + k * 4 from by omega]
   exact this
/-- One element of a list, where the list is read in turn. -/
structure TrAt (w : World) (P : Nat → Prop) (b off k : Nat) (kids : TrF) (hd : TrH) (ks : TrF) (xa : Option Addr) (xcap : Nat) : Prop where
 c0 : w.cell? ⟨b, off + k * 4, none⟩ = some (.int .i64 hd.k)
 c1 : w.cell? ⟨b, off + k * 4 + 1, none⟩ = some (.int .i64 hd.i)
 c2 : w.cell? ⟨b, off + k * 4 + 2, none⟩ = some (.int .i64 hd.a)
 c3 : w.cell? ⟨b, off + k * 4 + 3, none⟩ = some (.slice xa ks.len xcap)
 its : TrS w P xa xcap ks
 cut : kids.drop k = .cons hd ks (kids.drop (k + 1))
theorem TrS.at {w : World} {P : Nat → Prop} {a : Option Addr} {cap : Nat} {kids : TrF} (hI : TrS w P a cap kids) {k : Nat} (hk : k < kids.len) : ∃ b off hd ks xa xcap, a = some ⟨b, off, none⟩ ∧ TrAt w P b off k kids hd ks xa xcap := by
 obtain ⟨hd, ks, rs, hdr⟩ := TrF.drop_cons hk
 obtain ⟨b, off, rfl, hlo, hel⟩ := hI.at_ (by omega)
 have hel2 := TrEl.drop k kids b off hel
 rw [hdr] at hel2
 obtain ⟨x0, x1, x2, ⟨xa, xcap, x3, hx1, hx2, hx3, hx4⟩, _⟩ := hel2
 exact ⟨b, off, hd, ks, xa, xcap, rfl, x0, x1, x2, x3, ⟨hx1, hx2, hx3, hx4⟩, by rw [TrF.drop_succ k kids hd ks rs hdr]; exact hdr⟩
theorem TrAt.size {w : World} {P : Nat → Prop} {b off k xcap : Nat} {kids ks : TrF} {hd : TrH} {xa : Option Addr} (h : TrAt w P b off k kids hd ks xa xcap) : (kids.drop k).size = ks.size + (kids.drop (k + 1)).size + 1 ∧ (kids.drop k).size ≤ kids.size := by
 have h1 := TrF.drop_size k kids
 rw [h.cut] at h1 ⊢
 exact ⟨rfl, h1⟩
/-- A tree as a value. -/
abbrev treV (h : TrH) (ga : Option Addr) (n gc : Nat) : Value := .agg #[.int .i64 h.k, .int .i64 h.i, .int .i64 h.a, .slice ga n gc]
end Go.Proofs.Ythogiakfbgehnaa
namespace Go.Proofs.Ythogiakfbgehnaa
open Go.RowKit
theorem retT_bool {a b : Bool} (h : a = b) : Ending.returned (.bool a) = .returned (.bool b) := by rw [h]
def hdT (h g : TrH) (n m : Nat) : Bool := (h.k == g.k) && (h.i == g.i) && (h.a == g.a) && ((n : Int) == m)
/-- The same items, one by one. -/
def sameT : TrF → TrF → Bool
 | .nil, .nil => true
 | .cons h k r, .cons h' k' r' => hdT h h' k.len k'.len && sameT k k' && sameT r r'
 | _, _ => false
theorem TrAt.same {w w2 : World} {P P2 : Nat → Prop} {b off b2 off2 k xcap ycap : Nat} {kids ks gids gs : TrF} {hd gd : TrH} {xa ya : Option Addr} (h : TrAt w P b off k kids hd ks xa xcap) (g : TrAt w2 P2 b2 off2 k gids gd gs ya ycap) :
 sameT (kids.drop k) (gids.drop k) = (hdT hd gd ks.len gs.len && sameT ks gs && sameT (kids.drop (k + 1)) (gids.drop (k + 1))) := by
 rw [h.cut, g.cut, TrF.drop_succ _ _ _ _ _ h.cut, TrF.drop_succ _ _ _ _ _ g.cut]
 simp only [sameT]
set_option maxRecDepth 100000 in
set_option maxHeartbeats 1000000 in
theorem refSameT_any : ∀ (N : Nat) (h g : TrH) (kids gids : TrF) (a b : Option Addr) (cap dap : Nat) (w : World) (P P2 : Nat → Prop), kids.size < N → TrS w P a cap kids → TrS w P2 b dap gids →
 Calls Try.prog 43 #[treV h a kids.len cap, treV g b gids.len dap] w fun e w' => e = .returned (.bool (hdT h g kids.len gids.len && sameT kids gids)) ∧ Below w.heap.size w w' := by
 intro N
 induction N with
 | zero => intro h g kids gids a b cap dap w hN; omega
 | succ N ih =>
  intro h g kids gids a b cap dap w P P2 hN hI hJ
  obtain ⟨hk, hn, hs⟩ := h
  obtain ⟨gk, gn, gs⟩ := g
  have hlm : kids.len ≤ cap ∧ cap ≤ 9223372036854775807 := ⟨hI.le, hI.max⟩
  have hlm2 : gids.len ≤ dap ∧ dap ≤ 9223372036854775807 := ⟨hJ.le, hJ.max⟩
  obtain ⟨L, HL⟩ : ∃ L, Hid (kids.len = L) := ⟨_, Lib.hid rfl⟩
  obtain ⟨M, HM⟩ : ∃ L, Hid (gids.len = L) := ⟨_, Lib.hid rfl⟩
  rw [HL.out] at hlm ⊢
  rw [HM.out] at hlm2 ⊢
  go_enter Try.func43, Try.ntmps43
  have hb0 : Below w.heap.size w ((w.alloc (.cells #[.int .i64 hk, .int .i64 hn, .int .i64 hs, .slice a L cap] 51)).alloc (.cells #[.int .i64 gk, .int .i64 gn, .int .i64 gs, .slice b M dap] 51)) := ((Below.refl w.heap.size w).alloc (Nat.le_refl _) _).alloc (by simp) _
  have hBa := (Blk.new w 51 #[.int .i64 hk, .int .i64 hn, .int .i64 hs, .slice a L cap]).alloc (.cells #[.int .i64 gk, .int .i64 gn, .int .i64 gs, .slice b M dap] 51)
  have hBb := Blk.new (w.alloc (.cells #[.int .i64 hk, .int .i64 hn, .int .i64 hs, .slice a L cap] 51)) 51 #[.int .i64 gk, .int .i64 gn, .int .i64 gs, .slice b M dap]
  rw [World.size_alloc] at hBb
  by_cases hh : hdT ⟨hk, hn, hs⟩ ⟨gk, gn, gs⟩ L M = true
  ·have hh' := hh
   simp only [hdT, Bool.and_eq_true, beq_iff_eq] at hh'
   obtain ⟨⟨⟨rfl, rfl⟩, rfl⟩, hLM⟩ := hh'
   obtain rfl : L = M := by omega
   have HH := Lib.hid hh
   clear hh hLM
   go_wp2_with (fail)
   go_loopw [5, 37] (fun _ i wr => ∃ (k : Nat), k ≤ L ∧ i = .int .i64 k ∧ sameT kids gids = sameT (kids.drop k) (gids.drop k) ∧ Below w.heap.size w wr ∧ Blk wr w.heap.size 51 [.int .i64 hk, .int .i64 hn, .int .i64 hs, .slice a L cap] ∧ Blk wr (w.heap.size + 1) 51 [.int .i64 hk, .int .i64 hn, .int .i64 hs, .slice b L dap]) (fun _ i _ => L - (RowKit.intOf i).toNat)
   case atStart => exact ⟨0, by omega, rfl, rfl, hb0, hBa, hBb⟩
   case round =>
    obtain ⟨k, hk', rfl, hr, hbr, hB1, hB2⟩ := hrel
    have HR := Lib.hid hr
    clear hr hb0 hBa hBb
    by_cases hlt : k < L
    ·obtain ⟨b1, off, hd, ks, xa, xcap, rfl, hat⟩ := (hI.grown hbr).at (k := k) (by rw [HL.out]; exact hlt)
     obtain ⟨b2, off2, gd, gks, ya, ycap, rfl, gat⟩ := (hJ.grown hbr).at (k := k) (by rw [HM.out]; exact hlt)
     have HS := Lib.hid (TrAt.size hat)
     have HQ := Lib.hid (TrAt.same hat gat)
     obtain ⟨x0, x1, x2, x3, hIk, hc1⟩ := hat
     obtain ⟨z0, z1, z2, z3, hJk, hc2⟩ := gat
     clear hc1 hc2
     have y3 := hB1.cell 3
     have q3 := hB2.cell 3
     simp only [List.getElem?_cons_zero, List.getElem?_cons_succ] at y3 q3
     have hlt1 := hB1.lt
     have hlt2 := hB2.lt
     have hdr : Below wr.heap.size wr wr.drew := grownBy_below (grownBy_drew wr none) (fun i e => by cases e)
     have hmx := hIk.le
     have hmx2 := hIk.max
     have hmy := hJk.le
     have hmy2 := hJk.max
     have hIH := ih hd gd ks gks xa ya xcap ycap wr.drew P P2 (by have := HS.out; omega) (hIk.grown hdr) (hJk.grown hdr)
     obtain ⟨R, HB⟩ : ∃ R, Hid ((hdT hd gd ks.len gks.len && sameT ks gks) = R) := ⟨_, Lib.hid rfl⟩
     rw [HB.out] at hIH HQ
     have hbd : Below w.heap.size w wr.drew := hbr.trans (hdr.mono hbr.size)
     have hBd1 := hB1.below hdr hlt1
     have hBd2 := hB2.below hdr hlt2
     clear hIk hJk hB1 hB2
     go_wp2_with (fail)
     go_region_with ((go_at_call 43; (with_reducible refine hIH.mono ?_); rintro e w4 ⟨rfl, hb4⟩))
     all_goals
      have hb5 : Below w.heap.size w w4 := hbd.trans (hb4.mono hbd.size)
      have hB5 := hBd1.below hb4 (by exact hlt1)
      have hB6 := hBd2.below hb4 (by exact hlt2)
      clear hb4 hbd hIH hdr hBd1 hBd2 x0 x1 x2 x3 z0 z1 z2 z3 y3 q3 hbr
      cases R
      ·go_wp2_with (fail)
       exact bodyPost_ret (v := .bool false) (by simp [results, Try.results43, go_sem]; try rfl) rfl ⟨retT_bool (by rw [HR.out, HQ.out]; simp), hb5⟩
      ·go_wp2_with (fail)
       go_roundw
       case rel => exact ⟨k + 1, by omega, by go_num, by rw [HR.out, HQ.out, Bool.true_and], hb5, hB5, hB6⟩
       case measure => simp [RowKit.intOf]; omega
    ·obtain rfl : k = L := by omega
     have HK : Hid (sameT kids gids = true) := Lib.hid (by rw [HR.out, TrF.drop_all (by rw [HL.out]; exact Nat.le_refl _), TrF.drop_all (by rw [HM.out]; exact Nat.le_refl _)]; rfl)
     go_wp2_with (fail)
     exact bodyPost_ret (v := .bool true) (by simp [results, Try.results43, go_sem]; try rfl) rfl ⟨retT_bool (by rw [HH.out, HK.out]; rfl), hbr⟩
  ·have HH : Hid ((hdT ⟨hk, hn, hs⟩ ⟨gk, gn, gs⟩ L M && sameT kids gids) = false) := Lib.hid (by rw [Bool.eq_false_iff.2 hh]; rfl)
   rw [HH.out]
   simp only [hdT, Bool.and_eq_true, beq_iff_eq] at hh
   go_wp2_with (fail)
   all_goals first
    | exact bodyPost_ret (v := .bool false) (by simp [results, Try.results43, go_sem]; try rfl) rfl ⟨rfl, ((Below.refl w.heap.size w).alloc (Nat.le_refl _) _).alloc (by simp) _⟩
    | (exfalso; simp_all)
end Go.Proofs.Ythogiakfbgehnaa
namespace Go.Proofs.Ythogiakfbgehnaa
open Go.RowKit Go.Maps
attribute [local go_sem] Oper.semAt_some
set_option maxRecDepth 100000 in
set_option maxHeartbeats 16000000 in
theorem rfail_any (bp : Nat) (v0 v1 v2 v3 v4 v5 v6 : Value) (e x : Int) (w : World) (hB : Blk w bp 108 [v0, v1, v2, v3, v4, v5, v6, .int .i64 e]) :
 Calls Try.prog 123 #[.pointer (some ⟨bp, 0, none⟩), .int .i64 x] w fun e w' => e = .returned (treV ⟨0, 0, 0⟩ none 0 0) ∧ Blk w' bp 108 [v0, v1, v2, v3, v4, v5, v6, .int .i64 x] ∧ w.grownBy w' (some bp) := by
 have yl := hB.lt
 have y7 := hB.cell 7
 have y70 := hB.frozen 7
 simp only [List.getElem?_cons_zero, List.getElem?_cons_succ] at y7
 have hA1 := hB.alloc (.cells #[.int .i64 0, .int .i64 0, .int .i64 0, .slice none 0 0] 51)
 have hN1 := Blk.new w 51 #[.int .i64 0, .int .i64 0, .int .i64 0, .slice none 0 0]
 have z7 := hA1.cell 7
 have z70 := hA1.frozen 7
 simp only [List.getElem?_cons_zero, List.getElem?_cons_succ] at z7
 go_enter Try.func123, Try.ntmps123
 go_wp2_with (fail)
 have hs : (w.setCell ⟨bp, 7, none⟩ (.int .i64 x)).heap.size = w.heap.size := Array.size_modify
 have hC := hB.set 7 (.int .i64 x)
 have hW := hC.alloc (.cells #[.int .i64 0, .int .i64 0, .int .i64 0, .slice none 0 0] 51)
 have hG : w.grownBy ((w.setCell ⟨bp, 7, none⟩ (.int .i64 x)).alloc (.cells #[.int .i64 0, .int .i64 0, .int .i64 0, .slice none 0 0] 51)) (some bp) := grownBy_trans (grownBy_set w bp 7 _) (World.grownBy_alloc _ _ (some bp)) (fun i e => .inl e)
 have hX := heap_alloc_new (w.setCell ⟨bp, 7, none⟩ (.int .i64 x)) (.cells #[.int .i64 0, .int .i64 0, .int .i64 0, .slice none 0 0] 51)
 rw [hs] at hX
 exact bodyPost_ret (v := treV ⟨0, 0, 0⟩ none 0 0) (results_cell_row (p := 4) (ty := 51) rfl _ _ w.heap.size 51 #[.int .i64 0, .int .i64 0, .int .i64 0, .slice none 0 0] (0, 0) _ rfl hX Try.underlying51 rfl (by kernel_rfl)) rfl ⟨rfl, hW, hG⟩
end Go.Proofs.Ythogiakfbgehnaa
namespace Go.Proofs.Ythogiakfbgehnaa
open Go.RowKit
/-- These cells are these trees'. -/
def TrCs (w : World) (P : Nat → Prop) : TrF → List Value → Prop
 | .nil, cs => cs = []
 | .cons h kids rest, cs => ∃ ga gc r, cs = .int .i64 h.k :: .int .i64 h.i :: .int .i64 h.a :: .slice ga kids.len gc :: r ∧ TrS w P ga gc kids ∧ TrCs w P rest r
theorem TrCs.len {w : World} {P : Nat → Prop} : ∀ {f : TrF} {cs : List Value}, TrCs w P f cs → cs.length = f.len * 4
 | .nil, cs, h => by
  have h : cs = [] := h
  subst h; rfl
 | .cons x kids rest, cs, h => by
  obtain ⟨ga, gc, r, rfl, _, h2⟩ := h
  have := TrCs.len h2
  show r.length + 1 + 1 + 1 + 1 = (rest.len + 1) * 4
  omega
theorem TrCs.app {w : World} {P : Nat → Prop} : ∀ {f g : TrF} {cs ds : List Value}, TrCs w P f cs → TrCs w P g ds → TrCs w P (f.app g) (cs ++ ds)
 | .nil, g, cs, ds, h, h2 => by
  have h : cs = [] := h
  subst h
  exact h2
 | .cons x kids rest, g, cs, ds, h, h2 => by
  obtain ⟨ga, gc, r, rfl, h3, h4⟩ := h
  exact ⟨ga, gc, r ++ ds, rfl, h3, TrCs.app h4 h2⟩
theorem TrCs.one {w : World} {P : Nat → Prop} {h : TrH} {kids : TrF} {ga : Option Addr} {gc : Nat} (hk : TrS w P ga gc kids) : TrCs w P (.cons h kids .nil) [.int .i64 h.k, .int .i64 h.i, .int .i64 h.a, .slice ga kids.len gc] := ⟨ga, gc, [], rfl, hk, rfl⟩
theorem TrCs.kept {w w' : World} {P : Nat → Prop} (hc : ∀ b off v, P b → w.cell? ⟨b, off, none⟩ = some v → w'.cell? ⟨b, off, none⟩ = some v) : ∀ {f : TrF} {cs : List Value}, TrCs w P f cs → TrCs w' P f cs
 | .nil, _, h => h
 | .cons x kids rest, _, h => by
  obtain ⟨ga, gc, r, e, h3, h4⟩ := h
  exact ⟨ga, gc, r, e, h3.kept hc, TrCs.kept hc h4⟩
theorem TrCs.imp {w : World} {P Q : Nat → Prop} (hp : ∀ b, P b → b < w.heap.size → Q b) : ∀ {f : TrF} {cs : List Value}, TrCs w P f cs → TrCs w Q f cs
 | .nil, _, h => h
 | .cons x kids rest, _, h => by
  obtain ⟨ga, gc, r, e, h3, h4⟩ := h
  exact ⟨ga, gc, r, e, h3.imp hp, TrCs.imp hp h4⟩
theorem TrCs.el {w : World} {P : Nat → Prop} : ∀ {f : TrF} {cs : List Value} {b off : Nat}, TrCs w P f cs → (∀ j v, cs[j]? = some v → w.cell? ⟨b, off + j, none⟩ = some v) → TrEl w P f b off
 | .nil, _, _, _, _, _ => trivial
 | .cons x kids rest, cs, b, off, h, hr => by
  obtain ⟨ga, gc, r, rfl, h3, h4⟩ := h
  refine ⟨hr 0 _ rfl, hr 1 _ rfl, hr 2 _ rfl, ⟨ga, gc, hr 3 _ rfl, h3.le, h3.max, h3.nil_, h3.at_⟩, TrCs.el h4 (fun j v hj => ?_)⟩
  have := hr (j + 4) v (by simpa using hj)
  rwa [show off + (j + 4) = off + 4 + j by omega] at this
theorem row_trs {W : World} {base c : Nat} {e : TypeId} {a : Option Addr} {f : TrF} {cs : List Value} {P : Nat → Prop} (h : W.ownsRow base e 4 (.slice a f.len c) f.len cs) (hc : TrCs W P f cs) (hp : ∀ g o, a = some ⟨g, o, none⟩ → base ≤ g → P g) : TrS W P a c f := by
 rcases h.2 with ⟨e1, e2⟩ | ⟨g, cap', cur, e1, hb, hg, hle, hm, hs, ht⟩
 ·simp only [Value.slice.injEq] at e1
  obtain ⟨rfl, e3, rfl⟩ := e1
  exact ⟨by omega, by omega, fun _ => rfl, fun hn => by omega⟩
 ·simp only [Value.slice.injEq] at e1
  obtain ⟨rfl, -, rfl⟩ := e1
  have hm2 : c ≤ 9223372036854775807 := by unfold maxLen at hm; omega
  refine ⟨hle, hm2, fun e => (by cases e), fun hn => ⟨g, 0, rfl, hp g 0 rfl hb, hc.el (fun j v hj => ?_)⟩⟩
  have hlt := (List.getElem?_eq_some_iff.1 hj).1
  rw [Nat.zero_add, h.cellAt j (by rw [← hc.len]; exact hlt)]
  exact hj
end Go.Proofs.Ythogiakfbgehnaa
namespace Go.Proofs.Ythogiakfbgehnaa
open Go.RowKit
theorem info_tree : (Try.prog.info? 51).map (fun i => (i.zero, i.size, i.bytes)) = some (some (.agg #[.int .i64 0, .int .i64 0, .int .i64 0, .slice none 0 0]), 4, 48) := by kernel_rfl
end Go.Proofs.Ythogiakfbgehnaa
namespace Go.Proofs.Ythogiakfbgehnaa
open Go.RowKit Go.Maps
attribute [local go_sem] Oper.semAt_some
theorem OwnCl.at_ {W : World} {base c : Nat} {a : Option Addr} {l : List Cl4} (h : OwnCl W base a c l) (i : Nat) (hi : i < l.length) :
 ∃ g, a = some ⟨g, 0, none⟩ ∧ g < W.heap.size ∧ W.cell? ⟨g, i * 4, none⟩ = some (.int .i64 (l[i].1 : Int)) ∧ W.cell? ⟨g, i * 4 + 1, none⟩ = some (.int .i64 (l[i].2.1 : Int)) ∧ W.cell? ⟨g, i * 4 + 2, none⟩ = some (.int .i64 (l[i].2.2.1 : Int)) ∧ W.cell? ⟨g, i * 4 + 3, none⟩ = some (.int .i64 (l[i].2.2.2 : Int)) := by
 rcases h.2 with ⟨_, e2⟩ | ⟨g, cap', cur, e1, hb, hg, hle, hm, hs, ht⟩
 ·omega
 ·simp only [Value.slice.injEq] at e1
  obtain ⟨rfl, -, rfl⟩ := e1
  have key : ∀ (l : List Cl4) (i : Nat) (hi : i < l.length), (l.flatMap clC)[i * 4]? = some (.int .i64 (l[i].1 : Int)) ∧ (l.flatMap clC)[i * 4 + 1]? = some (.int .i64 (l[i].2.1 : Int)) ∧ (l.flatMap clC)[i * 4 + 2]? = some (.int .i64 (l[i].2.2.1 : Int)) ∧ (l.flatMap clC)[i * 4 + 3]? = some (.int .i64 (l[i].2.2.2 : Int)) := by
   intro l
   induction l with
   | nil => intro i hi; cases hi
   | cons x l ih =>
    intro i hi
    rw [List.flatMap_cons]
    cases i with
    | zero => simp [clC]
    | succ i =>
     have h4 : (clC x).length = 4 := rfl
     have := ih i (by simpa using hi)
     rw [List.getElem?_append_right (by rw [h4]; omega), List.getElem?_append_right (by rw [h4]; omega), List.getElem?_append_right (by rw [h4]; omega), List.getElem?_append_right (by rw [h4]; omega), h4, show (i + 1) * 4 - 4 = i * 4 by omega, show (i + 1) * 4 + 1 - 4 = i * 4 + 1 by omega, show (i + 1) * 4 + 2 - 4 = i * 4 + 2 by omega, show (i + 1) * 4 + 3 - 4 = i * 4 + 3 by omega]
     simpa using this
  obtain ⟨k0, k1, k2, k3⟩ := key l i hi
  refine ⟨g, rfl, (Array.getElem?_eq_some_iff.1 hg).1, ?_, ?_, ?_, ?_⟩
  ·rw [h.cellAt (i * 4) (by omega)]; exact k0
  ·rw [h.cellAt (i * 4 + 1) (by omega)]; exact k1
  ·rw [h.cellAt (i * 4 + 2) (by omega)]; exact k2
  ·rw [h.cellAt (i * 4 + 3) (by omega)]; exact k3
noncomputable def few10 (d : CfD) : Bool := decide (d.toks.length + d.names.length + szC (d.alts.map IrD.p) ≤ 150) && decide (validE d.p = 0)
theorem few10_fit {d : CfD} (h : few10 d = true) : FitC d := by
 unfold few10 at h
 rw [Bool.and_eq_true, decide_eq_true_eq, decide_eq_true_eq] at h
 exact valid_fit h.2
end Go.Proofs.Ythogiakfbgehnaa
namespace Go.Proofs.Ythogiakfbgehnaa
open Go.RowKit Go.Maps
attribute [local go_sem] Oper.semAt_some
end Go.Proofs.Ythogiakfbgehnaa
namespace Go.Proofs.Ythogiakfbgehnaa
open Go.RowKit Go.Maps
attribute [local go_sem] Oper.semAt_some
end Go.Proofs.Ythogiakfbgehnaa
namespace Go.Proofs.Ythogiakfbgehnaa
open Go.RowKit Go.Maps
attribute [local go_sem] Oper.semAt_some
end Go.Proofs.Ythogiakfbgehnaa
