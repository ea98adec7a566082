/- Texts joined: Sj Za Zb Zc. -/
import Derived.Ground.NamesProg
import Derived.Shelf.Sort.Plain
import Derived.Shelf.Slices.In.SortNone
import Derived.Test.YtngbfjimmdkfeaaProg
import Derived.Test.YtngbfjimmdkfeaaPXH8
import Derived.Test.YtngbfjimmdkfeaaPXW1
import Derived.Test.YtngbfjimmdkfeaaPXN4
import Derived.Sort.OwnSortedInts
set_option linter.unusedVariables false
set_option linter.unusedSimpArgs false
namespace Go.Proofs
open Go.Shelf
def Try.laysSort_ren : Go.Shelf.Ren := ⟨fun | 189 => 82 | 125 => 89 | 257 => 88 | 128 => 100 | 129 => 101 | 294 => 91 | 295 => 92 | 296 => 93 | 297 => 94 | 298 => 95 | 299 => 96 | 216 => 97 | 300 => 98 | 301 => 99 | 328 => 102 | 329 => 103 | 330 => 104 | 331 => 105 | 332 => 106 | 215 => 107 | 343 => 108 | n => n, fun | 28 => 23 | 3 => 3 | 46 => 137 | 0 => 0 | 51 => 147 | 53 => 72 | 4 => 4 | 183 => 140 | 182 => 139 | 131 => 101 | 5 => 5 | 9 => 9 | 218 => 149 | 222 => 153 | 228 => 155 | 229 => 156 | n => n, fun | n => n⟩
theorem Try.laysSort : Go.Proofs.Lays.n189 Try.prog Try.laysSort_ren := {
  mixed := by kernel_rfl
  f125 := Try.func89.trans (congrArg some (by kernel_rfl))
  f128 := Try.func100.trans (congrArg some (by kernel_rfl))
  f129 := Try.func101.trans (congrArg some (by kernel_rfl))
  f189 := Try.func82.trans (congrArg some (by kernel_rfl))
  f215 := Try.func107.trans (congrArg some (by kernel_rfl))
  f216 := Try.func97.trans (congrArg some (by kernel_rfl))
  f257 := Try.func88.trans (congrArg some (by kernel_rfl))
  f294 := Try.func91.trans (congrArg some (by kernel_rfl))
  f295 := Try.func92.trans (congrArg some (by kernel_rfl))
  f296 := Try.func93.trans (congrArg some (by kernel_rfl))
  f297 := Try.func94.trans (congrArg some (by kernel_rfl))
  f298 := Try.func95.trans (congrArg some (by kernel_rfl))
  f299 := Try.func96.trans (congrArg some (by kernel_rfl))
  f300 := Try.func98.trans (congrArg some (by kernel_rfl))
  f301 := Try.func99.trans (congrArg some (by kernel_rfl))
  f328 := Try.func102.trans (congrArg some (by kernel_rfl))
  f329 := Try.func103.trans (congrArg some (by kernel_rfl))
  f330 := Try.func104.trans (congrArg some (by kernel_rfl))
  f331 := Try.func105.trans (congrArg some (by kernel_rfl))
  f332 := Try.func106.trans (congrArg some (by kernel_rfl))
  f343 := Try.func108.trans (congrArg some (by kernel_rfl))
  t0 := Try.underlying0
  a0 := Try.isAgg0
  z0 := Try.sizeOf0
  v0 := Try.zeroValue0
  t3 := Try.underlying3
  a3 := Try.isAgg3
  z3 := Try.sizeOf3
  v3 := Try.zeroValue3
  t4 := Try.underlying4
  a4 := Try.isAgg4
  z4 := Try.sizeOf4
  v4 := Try.zeroValue4
  t5 := Try.underlying5
  a5 := Try.isAgg5
  z5 := Try.sizeOf5
  v5 := Try.zeroValue5
  t9 := Try.underlying9
  a9 := Try.isAgg9
  z9 := Try.sizeOf9
  v9 := Try.zeroValue9
  t28 := Try.underlying23
  a28 := Try.isAgg23
  z28 := Try.sizeOf23
  v28 := Try.zeroValue23
  t46 := Try.underlying137
  a46 := Try.isAgg137
  z46 := Try.sizeOf137
  v46 := Try.zeroValue137
  t51 := Try.underlying147
  a51 := Try.isAgg147
  z51 := Try.sizeOf147
  v51 := Try.zeroValue147
  t53 := Try.underlying72
  a53 := Try.isAgg72
  z53 := Try.sizeOf72
  v53 := Try.zeroValue72
  t131 := Try.underlying101
  a131 := Try.isAgg101
  z131 := Try.sizeOf101
  v131 := Try.zeroValue101
  t182 := Try.underlying139
  a182 := Try.isAgg139
  z182 := Try.sizeOf139
  v182 := Try.zeroValue139
  t183 := Try.underlying140
  a183 := Try.isAgg140
  z183 := Try.sizeOf140
  v183 := Try.zeroValue140
  t218 := Try.underlying149
  a218 := Try.isAgg149
  z218 := Try.sizeOf149
  v218 := Try.zeroValue149
  t222 := Try.underlying153
  a222 := Try.isAgg153
  z222 := Try.sizeOf153
  v222 := Try.zeroValue153
  t228 := Try.underlying155
  a228 := Try.isAgg155
  z228 := Try.sizeOf155
  v228 := Try.zeroValue155
  t229 := Try.underlying156
  a229 := Try.isAgg156
  z229 := Try.sizeOf156
  v229 := Try.zeroValue156 }
end Go.Proofs

namespace Go.Proofs.Ytngbfjimmdkfeaa
open Go.RowKit Go.Shelf

attribute [local go_sem] Oper.semAt_some

/-- The list in its order. -/
def riseP (l : List Nat) : List Nat := l.mergeSort (fun a b => decide (a ≤ b))
theorem riseP_mem (l : List Nat) (v : Nat) : v ∈ riseP l ↔ v ∈ l := (List.mergeSort_perm l _).mem_iff
theorem riseP_len (l : List Nat) : (riseP l).length = l.length := List.length_mergeSort l
theorem riseP_rising {l : List Nat} (h : l.Nodup) : Rising (riseP l) := by
  have h1 : (riseP l).Pairwise (fun a b => decide (a ≤ b) = true) := List.pairwise_mergeSort (fun a b c h1 h2 => by simp at *; omega) (fun a b => by simp; omega) l
  have h2 : (riseP l).Nodup := (List.mergeSort_perm l _).nodup_iff.2 h
  unfold Rising
  have h3 := List.Pairwise.and h1 h2
  exact h3.imp (fun ⟨a, b⟩ => by simp at a; omega)
theorem riseP_map (l : List Nat) : (l.map (fun v : Nat => (v : Int))).mergeSort (fun x y => decide (x ≤ y)) = (riseP l).map (fun v : Nat => (v : Int)) := by
  unfold riseP
  rw [List.map_mergeSort]
  intro a _ b _
  simp
theorem rising_eq : ∀ {l m : List Nat}, Rising l → Rising m → (∀ v, v ∈ l ↔ v ∈ m) → l = m
  | [], [], _, _, _ => rfl
  | [], b :: m, _, _, h => absurd ((h b).2 List.mem_cons_self) (by simp)
  | a :: l, [], _, _, h => absurd ((h a).1 List.mem_cons_self) (by simp)
  | a :: l, b :: m, hl, hm, h => by
    unfold Rising at hl hm
    rw [List.pairwise_cons] at hl hm
    have hab : a = b := by
      rcases List.mem_cons.1 ((h a).1 List.mem_cons_self) with e | e
      · exact e
      · rcases List.mem_cons.1 ((h b).2 List.mem_cons_self) with e' | e'
        · exact e'.symm
        · have := hm.1 a e; have := hl.1 b e'; omega
    subst hab
    rw [rising_eq (l := l) (m := m) hl.2 hm.2 (fun v => ?_)]
    constructor
    · intro hv
      rcases List.mem_cons.1 ((h v).1 (List.mem_cons_of_mem _ hv)) with e | e
      · subst e; exact absurd (hl.1 v hv) (Nat.lt_irrefl _)
      · exact e
    · intro hv
      rcases List.mem_cons.1 ((h v).2 (List.mem_cons_of_mem _ hv)) with e | e
      · subst e; exact absurd (hm.1 v hv) (Nat.lt_irrefl _)
      · exact e

theorem sort_any (l : List Nat) (a : Option Addr) (cap base : Nat) (w : World) (h : OwnI w base a l.length cap l) (hl : l.length ≤ 1000000) :
    Calls Try.prog 82 #[.slice a l.length cap] w fun e w' => e = .returned (.tuple #[]) ∧ OwnI w' base a l.length cap (riseP l) ∧ w.grownBy w' (obk a) := by
  rcases h.2 with ⟨e, e0⟩ | ⟨g, cap', cur, e, hb, hk, hnc, hcm, hcs, htk⟩
  · injection e with e1 e2 e3
    subst e1 e3
    rw [e0]
    refine (Any.slices_Sort_int_none Try.laysSort none 0 w).mono ?_
    rintro e w' ⟨rfl, rfl⟩
    have hn : l = [] := List.length_eq_zero_iff.1 e0
    subst hn
    have hr : riseP [] = [] := List.length_eq_zero_iff.1 (riseP_len [])
    rw [hr]
    exact ⟨rfl, World.ownsRow_nil _ _ _ _, World.grownBy.refl _ _⟩
  · injection e with e1 e2 e3
    subst e1 e3
    have ht : cur.toList.take (l.map (fun v : Nat => (v : Int))).length = (l.map (fun v : Nat => (v : Int))).map (Value.int .i64) := by
      rw [List.length_map, List.map_map]
      rw [Nat.mul_one] at htk
      rw [htk]; rfl
    have hH := holds_of_blockI hk ht
    have hg := (Array.getElem?_eq_some_iff.1 hk).1
    have hs := Any.slices_Sort_int Try.laysSort g 0 cap (l.map (fun v : Nat => (v : Int))) w hH hg (by rw [List.length_map]; omega)
    rw [List.length_map] at hs
    refine hs.mono ?_
    rintro e w' ⟨rfl, n, os, rfl⟩
    rw [riseP_map]
    have ho := ownsRow_sortedI (n := n) (os := os) (base := base) (ss := l.map (fun v : Nat => (v : Int))) (ts := (riseP l).map (fun v : Nat => (v : Int))) (by simp [riseP_len]) hb hk (by rw [List.length_map]; exact hnc) hcm hcs
    rw [List.length_map, List.map_map] at ho
    exact ⟨rfl, ho, grownBy_sortedI _⟩

set_option maxRecDepth 100000 in
set_option maxHeartbeats 1000000 in
theorem rising_any (l : List Nat) (a : Option Addr) (cap base : Nat) (w : World) (h : OwnI w base a l.length cap l) (hl : l.length ≤ 1000000) :
    Calls Try.prog 75 #[.slice a l.length cap] w fun e w' => e = .returned (.slice a (riseP l).length cap) ∧ OwnI w' base a (riseP l).length cap (riseP l) ∧ w.grownBy w' (obk a) := by
  have Hs := Lib.hid (sort_any l a cap base w h hl)
  rw [riseP_len]
  obtain ⟨L, HL⟩ : ∃ L, Hid (l.length = L) := ⟨_, Lib.hid rfl⟩
  rw [HL.out] at Hs ⊢
  clear h hl
  go_enter Try.func75, Try.ntmps75
  go_wp2_with (fail)
  refine Hs.out.mono ?_
  rintro e w1 ⟨rfl, ho, hg⟩
  go_wp2_with (fail)
  exact bodyPost_ret (v := .slice a L cap) (by simp [results, Try.results75, go_sem]) rfl ⟨rfl, ho, hg⟩
end Go.Proofs.Ytngbfjimmdkfeaa

namespace Go.Proofs.Ytngbfjimmdkfeaa
open Go.RowKit Go.Shelf

attribute [local go_sem] Oper.semAt_some

set_option maxRecDepth 100000 in
set_option maxHeartbeats 4000000 in
theorem nclose_any (x : Nf) (p : NfL) (set : List Nat) (a : Option Addr) (cap : Nat) (w : World) (hx : NfAt w x p) (hl : linkB x = true) (hM : x.es.length ≤ 500000) (hs : IntsN w a cap set) (hlt : ∀ v ∈ set, v < x.n.toNat) :
    Calls Try.prog 54 #[.agg #[.int .i64 x.n, .int .i64 x.s, .slice p.ea x.ends.length p.ec, .slice p.ga x.es.length p.gc], .slice a set.length cap] w fun e w' => ∃ oa oc out, e = .returned (.slice oa out.length oc) ∧ (IntsN w' oa oc out ∧ Rising out ∧ (∀ v, v ∈ out ↔ Rn x (· ∈ set) v) ∧ ∀ v ∈ out, v < x.n.toNat) ∧ Below w.heap.size w w' := by
  obtain ⟨ea, ec, ga, gc⟩ := p
  have hlm : x.ends.length ≤ ec ∧ ec ≤ 9223372036854775807 := ⟨hx.ends.le, hx.ends.max⟩
  have hlm2 : x.es.length ≤ gc ∧ gc ≤ 9223372036854775807 := ⟨hx.es.le, hx.es.max⟩
  have hle := hs.le
  have hmx := hs.max
  rw [List.length_map] at hle
  have hst : (set.map (fun v : Nat => (v : Int))).all (stB x) = true := by
    rw [List.all_eq_true]
    intro k hk
    obtain ⟨v, hv, rfl⟩ := List.mem_map.1 hk
    have := hlt v hv
    have := (link_n hl).1
    unfold stB
    rw [Bool.and_eq_true]
    exact ⟨decide_eq_true (by omega), decide_eq_true (by omega)⟩
  dsimp only at *
  have hA0 := Blk.new w 32 #[.int .i64 x.n, .int .i64 x.s, .slice ea x.ends.length ec, .slice ga x.es.length gc]
  have hb0 : Below w.heap.size w (w.alloc (.cells #[.int .i64 x.n, .int .i64 x.s, .slice ea x.ends.length ec, .slice ga x.es.length gc] 32)) := (Below.refl _ w).alloc (Nat.le_refl _) _
  obtain ⟨W0, hW0⟩ : ∃ W, Hid (w.alloc (.cells #[.int .i64 x.n, .int .i64 x.s, .slice ea x.ends.length ec, .slice ga x.es.length gc] 32) = W) := ⟨_, Lib.hid rfl⟩
  rw [hW0.out] at hA0 hb0
  have hA0 : Blk W0 w.heap.size 32 [.int .i64 x.n, .int .i64 x.s, .slice ea x.ends.length ec, .slice ga x.es.length gc] := hA0
  have Hlk := Lib.hid (linked_any x ⟨ea, ec, ga, gc⟩ _ (hx.grown hb0))
  rw [hl] at Hlk
  have Hsts := Lib.hid (fun V => fun hV : Below w.heap.size w V => hasStates_any x ⟨ea, ec, ga, gc⟩ (set.map (fun v : Nat => (v : Int))) a cap V (hs.grown hV))
  rw [hst, List.length_map] at Hsts
  have Hnw := Lib.hid (fun V => fun hV : Below w.heap.size w V => newWalker_any x ⟨ea, ec, ga, gc⟩ V (hx.grown hV) hl (by omega))
  have HX := Lib.hid hl
  have HS := Lib.hid hs
  have HLt := Lib.hid hlt
  have HM := Lib.hid hM
  dsimp only at Hlk Hsts Hnw
  have hbk : Hid (∀ b off, a = some ⟨b, off, none⟩ → set ≠ [] → b < w.heap.size) := Lib.hid (fun b off e hn => by
    have hp : 0 < (set.map (fun v : Nat => (v : Int))).length := by rw [List.length_map]; exact List.length_pos_iff.2 hn
    exact World.block_lt_of_cell? w _ (hs.cell b off e 0 hp))
  clear hx hl hs hlt hst hM
  have x0 := hA0.cell 0
  have x1 := hA0.cell 1
  have x2 := hA0.cell 2
  have x3 := hA0.cell 3
  have xl := hA0.lt
  simp only [List.getElem?_cons_zero, List.getElem?_cons_succ] at x0 x1 x2 x3
  go_enter Try.func54, Try.ntmps54
  go_wp2_with (fail)
  rw [hW0.out]
  refine Hlk.out.mono ?_
  rintro e w1 ⟨rfl, hb1⟩
  have hA1 := hA0.below hb1 hA0.lt
  have hb01 := hb0.trans (hb1.mono hb0.size)
  have Hc := Lib.hid (Hsts.out w1 hb01)
  clear hA0 hb0 hb1 Hlk Hsts x0 x1 x2 x3 xl
  have x0 := hA1.cell 0
  have x1 := hA1.cell 1
  have x2 := hA1.cell 2
  have x3 := hA1.cell 3
  have xl := hA1.lt
  simp only [List.getElem?_cons_zero, List.getElem?_cons_succ] at x0 x1 x2 x3
  go_wp2_with (fail)
  refine Hc.out.mono ?_
  rintro e w2 ⟨rfl, hb2⟩
  have hA2 := hA1.below hb2 hA1.lt
  have hb02 := hb01.trans (hb2.mono hb01.size)
  have Hc := Lib.hid (Hnw.out w2 hb02)
  have HB02 := Lib.hid hb02
  clear hA1 hb01 hb2 hb02 Hnw x0 x1 x2 x3 xl
  have x0 := hA2.cell 0
  have x1 := hA2.cell 1
  have x2 := hA2.cell 2
  have x3 := hA2.cell 3
  have xl := hA2.lt
  simp only [List.getElem?_cons_zero, List.getElem?_cons_succ] at x0 x1 x2 x3
  go_wp2_with (fail)
  refine Hc.out.mono ?_
  rintro e w3 ⟨wb, rfl, L, hW3⟩
  have HW3 := Lib.hid hW3
  have Hc2 := Lib.hid (closed_any w2 w3 wb x ⟨ea, ec, ga, gc⟩ L 0 0 (fun _ => 0) a cap set hW3 HX.out (by have := HM.out; omega) (HS.out.grown (HB02.out.trans (hW3.bel.mono HB02.out.size))) (fun b off e hn => by have := hbk.out b off e hn; have := HB02.out.size; have := hW3.own.1; omega) HLt.out (fun a => Int.le_refl _) (by omega) (by omega))
  clear hW3 hA2 Hc x0 x1 x2 x3 xl
  go_wp2_with (fail)
  refine Hc2.out.mono ?_
  rintro e w4 ⟨oa0, oc0, out0, rfl, ho0, mn0, m0, hW4, hT4, hi4, hk4⟩
  have hol := hT4.len HX.out
  have HO := Lib.hid ho0
  have HND := Lib.hid hT4.nd
  have HIF := Lib.hid hi4
  have HLO := Lib.hid hT4.lt
  have HBX : Hid (Below w.heap.size w w4) := Lib.hid (HB02.out.trans ⟨hW4.bel.os, hW4.bel.tape, hW4.bel.output, hW4.bel.size, fun k hk => hW4.bel.block k (Nat.lt_of_lt_of_le hk HB02.out.size)⟩)
  have HOk : Hid (∀ k, obk oa0 = some k → w.heap.size ≤ k) := Lib.hid (fun k e => by
    have h1 := (ho0.typ k (by rw [ownBlock_obk]; exact e)).1
    have h2 := HB02.out.size
    have h3 := HW3.out.bel.size
    omega)
  clear ho0 hW4 hT4 hi4 hk4
  have Hr := Lib.hid (rising_any out0 oa0 oc0 w3.heap.size w4 HO.out (by omega))
  go_wp2_with (fail)
  refine Hr.out.mono ?_
  rintro e w6 ⟨rfl, ho6, hg6⟩
  have Ho6 := Lib.hid ho6
  have HB6 := Lib.hid (HBX.out.grown hg6 HBX.out.size (fun k e => HOk.out k e))
  clear ho6 hg6
  go_wp2_with (fail)
  exact bodyPost_ret (v := .slice oa0 (riseP out0).length oc0) (by simp [results, Try.results54, go_sem]) rfl ⟨oa0, oc0, riseP out0, rfl, ⟨Ho6.out.ints, riseP_rising HND.out, fun v => (riseP_mem _ v).trans (HIF.out v), fun v hv => HLO.out v ((riseP_mem _ v).1 hv)⟩, HB6.out⟩

end Go.Proofs.Ytngbfjimmdkfeaa

namespace Go.Proofs.Ytngbfjimmdkfeaa
open Go.RowKit Go.Shelf

attribute [local go_sem] Oper.semAt_some

end Go.Proofs.Ytngbfjimmdkfeaa

