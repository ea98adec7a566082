/- Texts of layer 2 joined: Sj Za Zb Zc. -/
import Derived.Ground.NamesProg
import Derived.Shelf.Sort.Plain
import Derived.Shelf.Slices.In.SortNone
import Derived.Test.YtpbceejjkdmclaaProg
import Derived.Test.YtpbceejjkdmclaaJH8
import Derived.Test.YtpbceejjkdmclaaJW1
import Derived.Test.YtpbceejjkdmclaaJN6
import Derived.Sort.OwnSortedInts
set_option linter.unusedVariables false
set_option linter.unusedSimpArgs false
/- The library's sort of numbers, laid at this program: the text that the shelf's command prints in plain words. -/
namespace Go.Proofs
open Go.Shelf
def Try.laysSort_ren : Go.Shelf.Ren := ⟨fun | 189 => 63 | 125 => 79 | 257 => 78 | 128 => 90 | 129 => 91 | 294 => 81 | 295 => 82 | 296 => 83 | 297 => 84 | 298 => 85 | 299 => 86 | 216 => 87 | 300 => 88 | 301 => 89 | 328 => 92 | 329 => 93 | 330 => 94 | 331 => 95 | 332 => 96 | 215 => 97 | 343 => 98 | n => n, fun | 28 => 22 | 3 => 3 | 46 => 108 | 0 => 0 | 51 => 120 | 53 => 122 | 4 => 4 | 183 => 112 | 182 => 111 | 131 => 117 | 5 => 5 | 9 => 9 | 218 => 123 | 222 => 127 | 228 => 129 | 229 => 88 | n => n, fun | n => n⟩
theorem Try.laysSort : Go.Proofs.Lays.n189 Try.prog Try.laysSort_ren := {
  mixed := by kernel_rfl
  f125 := Try.func79.trans (congrArg some (by kernel_rfl))
  f128 := Try.func90.trans (congrArg some (by kernel_rfl))
  f129 := Try.func91.trans (congrArg some (by kernel_rfl))
  f189 := Try.func63.trans (congrArg some (by kernel_rfl))
  f215 := Try.func97.trans (congrArg some (by kernel_rfl))
  f216 := Try.func87.trans (congrArg some (by kernel_rfl))
  f257 := Try.func78.trans (congrArg some (by kernel_rfl))
  f294 := Try.func81.trans (congrArg some (by kernel_rfl))
  f295 := Try.func82.trans (congrArg some (by kernel_rfl))
  f296 := Try.func83.trans (congrArg some (by kernel_rfl))
  f297 := Try.func84.trans (congrArg some (by kernel_rfl))
  f298 := Try.func85.trans (congrArg some (by kernel_rfl))
  f299 := Try.func86.trans (congrArg some (by kernel_rfl))
  f300 := Try.func88.trans (congrArg some (by kernel_rfl))
  f301 := Try.func89.trans (congrArg some (by kernel_rfl))
  f328 := Try.func92.trans (congrArg some (by kernel_rfl))
  f329 := Try.func93.trans (congrArg some (by kernel_rfl))
  f330 := Try.func94.trans (congrArg some (by kernel_rfl))
  f331 := Try.func95.trans (congrArg some (by kernel_rfl))
  f332 := Try.func96.trans (congrArg some (by kernel_rfl))
  f343 := Try.func98.trans (congrArg some (by kernel_rfl))
  t0 := Try.underlying0
  a0 := Try.isAgg0
  z0 := Try.sizeOf0
  v0 := Try.zeroValue0
  t3 := Try.underlying3
  a3 := Try.isAgg3
  z3 := Try.sizeOf3
  v3 := Try.zeroValue3
  t4 := Try.underlying4
  a4 := Try.isAgg4
  z4 := Try.sizeOf4
  v4 := Try.zeroValue4
  t5 := Try.underlying5
  a5 := Try.isAgg5
  z5 := Try.sizeOf5
  v5 := Try.zeroValue5
  t9 := Try.underlying9
  a9 := Try.isAgg9
  z9 := Try.sizeOf9
  v9 := Try.zeroValue9
  t28 := Try.underlying22
  a28 := Try.isAgg22
  z28 := Try.sizeOf22
  v28 := Try.zeroValue22
  t46 := Try.underlying108
  a46 := Try.isAgg108
  z46 := Try.sizeOf108
  v46 := Try.zeroValue108
  t51 := Try.underlying120
  a51 := Try.isAgg120
  z51 := Try.sizeOf120
  v51 := Try.zeroValue120
  t53 := Try.underlying122
  a53 := Try.isAgg122
  z53 := Try.sizeOf122
  v53 := Try.zeroValue122
  t131 := Try.underlying117
  a131 := Try.isAgg117
  z131 := Try.sizeOf117
  v131 := Try.zeroValue117
  t182 := Try.underlying111
  a182 := Try.isAgg111
  z182 := Try.sizeOf111
  v182 := Try.zeroValue111
  t183 := Try.underlying112
  a183 := Try.isAgg112
  z183 := Try.sizeOf112
  v183 := Try.zeroValue112
  t218 := Try.underlying123
  a218 := Try.isAgg123
  z218 := Try.sizeOf123
  v218 := Try.zeroValue123
  t222 := Try.underlying127
  a222 := Try.isAgg127
  z222 := Try.sizeOf127
  v222 := Try.zeroValue127
  t228 := Try.underlying129
  a228 := Try.isAgg129
  z228 := Try.sizeOf129
  v228 := Try.zeroValue129
  t229 := Try.underlying88
  a229 := Try.isAgg88
  z229 := Try.sizeOf88
  v229 := Try.zeroValue88 }
end Go.Proofs

/- Layer 3: rising: an own row of numbers, sorted. -/
namespace Go.Proofs.Ytpbceejjkdmclaa
open Go.RowKit Go.Shelf

attribute [local go_sem] Oper.semAt_some

/-- The list in its order. -/
def riseP (l : List Nat) : List Nat := l.mergeSort (fun a b => decide (a ≤ b))
theorem riseP_mem (l : List Nat) (v : Nat) : v ∈ riseP l ↔ v ∈ l := (List.mergeSort_perm l _).mem_iff
theorem riseP_len (l : List Nat) : (riseP l).length = l.length := List.length_mergeSort l
theorem riseP_rising {l : List Nat} (h : l.Nodup) : Rising (riseP l) := by
  have h1 : (riseP l).Pairwise (fun a b => decide (a ≤ b) = true) := List.pairwise_mergeSort (fun a b c h1 h2 => by simp at *; omega) (fun a b => by simp; omega) l
  have h2 : (riseP l).Nodup := (List.mergeSort_perm l _).nodup_iff.2 h
  unfold Rising
  have h3 := List.Pairwise.and h1 h2
  exact h3.imp (fun ⟨a, b⟩ => by simp at a; omega)
theorem riseP_map (l : List Nat) : (l.map (fun v : Nat => (v : Int))).mergeSort (fun x y => decide (x ≤ y)) = (riseP l).map (fun v : Nat => (v : Int)) := by
  unfold riseP
  rw [List.map_mergeSort]
  intro a _ b _
  simp
theorem rising_eq : ∀ {l m : List Nat}, Rising l → Rising m → (∀ v, v ∈ l ↔ v ∈ m) → l = m
  | [], [], _, _, _ => rfl
  | [], b :: m, _, _, h => absurd ((h b).2 List.mem_cons_self) (by simp)
  | a :: l, [], _, _, h => absurd ((h a).1 List.mem_cons_self) (by simp)
  | a :: l, b :: m, hl, hm, h => by
    unfold Rising at hl hm
    rw [List.pairwise_cons] at hl hm
    have hab : a = b := by
      rcases List.mem_cons.1 ((h a).1 List.mem_cons_self) with e | e
      · exact e
      · rcases List.mem_cons.1 ((h b).2 List.mem_cons_self) with e' | e'
        · exact e'.symm
        · have := hm.1 a e; have := hl.1 b e'; omega
    subst hab
    rw [rising_eq (l := l) (m := m) hl.2 hm.2 (fun v => ?_)]
    constructor
    · intro hv
      rcases List.mem_cons.1 ((h v).1 (List.mem_cons_of_mem _ hv)) with e | e
      · subst e; exact absurd (hl.1 v hv) (Nat.lt_irrefl _)
      · exact e
    · intro hv
      rcases List.mem_cons.1 ((h v).2 (List.mem_cons_of_mem _ hv)) with e | e
      · subst e; exact absurd (hm.1 v hv) (Nat.lt_irrefl _)
      · exact e

theorem sort_any (l : List Nat) (a : Option Addr) (cap base : Nat) (w : World) (h : OwnI w base a l.length cap l) (hl : l.length ≤ 1000000) :
    Calls Try.prog 63 #[.slice a l.length cap] w fun e w' => e = .returned (.tuple #[]) ∧ OwnI w' base a l.length cap (riseP l) ∧ w.grownBy w' (obk a) := by
  rcases h.2 with ⟨e, e0⟩ | ⟨g, cap', cur, e, hb, hk, hnc, hcm, hcs, htk⟩
  · injection e with e1 e2 e3
    subst e1 e3
    rw [e0]
    refine (Any.slices_Sort_int_none Try.laysSort none 0 w).mono ?_
    rintro e w' ⟨rfl, rfl⟩
    have hn : l = [] := List.length_eq_zero_iff.1 e0
    subst hn
    have hr : riseP [] = [] := List.length_eq_zero_iff.1 (riseP_len [])
    rw [hr]
    exact ⟨rfl, World.ownsRow_nil _ _ _ _, World.grownBy.refl _ _⟩
  · injection e with e1 e2 e3
    subst e1 e3
    have ht : cur.toList.take (l.map (fun v : Nat => (v : Int))).length = (l.map (fun v : Nat => (v : Int))).map (Value.int .i64) := by
      rw [List.length_map, List.map_map]
      rw [Nat.mul_one] at htk
      rw [htk]; rfl
    have hH := holds_of_blockI hk ht
    have hg := (Array.getElem?_eq_some_iff.1 hk).1
    have hs := Any.slices_Sort_int Try.laysSort g 0 cap (l.map (fun v : Nat => (v : Int))) w hH hg (by rw [List.length_map]; omega)
    rw [List.length_map] at hs
    refine hs.mono ?_
    rintro e w' ⟨rfl, n, os, rfl⟩
    rw [riseP_map]
    have ho := ownsRow_sortedI (n := n) (os := os) (base := base) (ss := l.map (fun v : Nat => (v : Int))) (ts := (riseP l).map (fun v : Nat => (v : Int))) (by simp [riseP_len]) hb hk (by rw [List.length_map]; exact hnc) hcm hcs
    rw [List.length_map, List.map_map] at ho
    exact ⟨rfl, ho, grownBy_sortedI _⟩

set_option maxRecDepth 100000 in
set_option maxHeartbeats 1000000 in
theorem rising_any (l : List Nat) (a : Option Addr) (cap base : Nat) (w : World) (h : OwnI w base a l.length cap l) (hl : l.length ≤ 1000000) :
    Calls Try.prog 42 #[.slice a l.length cap] w fun e w' => e = .returned (.slice a (riseP l).length cap) ∧ OwnI w' base a (riseP l).length cap (riseP l) ∧ w.grownBy w' (obk a) := by
  have Hs := Lib.hid (sort_any l a cap base w h hl)
  rw [riseP_len]
  obtain ⟨L, HL⟩ : ∃ L, Hid (l.length = L) := ⟨_, Lib.hid rfl⟩
  rw [HL.out] at Hs ⊢
  clear h hl
  go_enter Try.func42, Try.ntmps42
  go_wp2_with (fail)
  refine Hs.out.mono ?_
  rintro e w1 ⟨rfl, ho, hg⟩
  go_wp2_with (fail)
  exact bodyPost_ret (v := .slice a L cap) (by simp [results, Try.results42, go_sem]) rfl ⟨rfl, ho, hg⟩
end Go.Proofs.Ytpbceejjkdmclaa

/- Layer 3: Close. -/
namespace Go.Proofs.Ytpbceejjkdmclaa
open Go.RowKit Go.Shelf

attribute [local go_sem] Oper.semAt_some

set_option maxRecDepth 100000 in
set_option maxHeartbeats 4000000 in
theorem nclose_any (x : Nf) (p : NfL) (set : List Nat) (a : Option Addr) (cap : Nat) (w : World) (hx : NfAt w x p) (hl : linkB x = true) (hM : x.es.length ≤ 500000) (hs : IntsN w a cap set) (hlt : ∀ v ∈ set, v < x.n.toNat) :
    Calls Try.prog 19 #[.agg #[.int .i64 x.n, .int .i64 x.s, .slice p.ea x.ends.length p.ec, .slice p.ga x.es.length p.gc], .slice a set.length cap] w fun e w' => ∃ oa oc out, e = .returned (.slice oa out.length oc) ∧ (IntsN w' oa oc out ∧ Rising out ∧ (∀ v, v ∈ out ↔ Rn x (· ∈ set) v) ∧ ∀ v ∈ out, v < x.n.toNat) ∧ Below w.heap.size w w' := by
  obtain ⟨ea, ec, ga, gc⟩ := p
  have hlm : x.ends.length ≤ ec ∧ ec ≤ 9223372036854775807 := ⟨hx.ends.le, hx.ends.max⟩
  have hlm2 : x.es.length ≤ gc ∧ gc ≤ 9223372036854775807 := ⟨hx.es.le, hx.es.max⟩
  have hle := hs.le
  have hmx := hs.max
  rw [List.length_map] at hle
  have hst : (set.map (fun v : Nat => (v : Int))).all (stB x) = true := by
    rw [List.all_eq_true]
    intro k hk
    obtain ⟨v, hv, rfl⟩ := List.mem_map.1 hk
    have := hlt v hv
    have := (link_n hl).1
    unfold stB
    rw [Bool.and_eq_true]
    exact ⟨decide_eq_true (by omega), decide_eq_true (by omega)⟩
  dsimp only at *
  have hA0 := Blk.new w 25 #[.int .i64 x.n, .int .i64 x.s, .slice ea x.ends.length ec, .slice ga x.es.length gc]
  have hb0 : Below w.heap.size w (w.alloc (.cells #[.int .i64 x.n, .int .i64 x.s, .slice ea x.ends.length ec, .slice ga x.es.length gc] 25)) := (Below.refl _ w).alloc (Nat.le_refl _) _
  obtain ⟨W0, hW0⟩ : ∃ W, Hid (w.alloc (.cells #[.int .i64 x.n, .int .i64 x.s, .slice ea x.ends.length ec, .slice ga x.es.length gc] 25) = W) := ⟨_, Lib.hid rfl⟩
  rw [hW0.out] at hA0 hb0
  have hA0 : Blk W0 w.heap.size 25 [.int .i64 x.n, .int .i64 x.s, .slice ea x.ends.length ec, .slice ga x.es.length gc] := hA0
  have Hlk := Lib.hid (linked_any x ⟨ea, ec, ga, gc⟩ _ (hx.grown hb0))
  rw [hl] at Hlk
  have Hsts := Lib.hid (fun V => fun hV : Below w.heap.size w V => hasStates_any x ⟨ea, ec, ga, gc⟩ (set.map (fun v : Nat => (v : Int))) a cap V (hs.grown hV))
  rw [hst, List.length_map] at Hsts
  have Hnw := Lib.hid (fun V => fun hV : Below w.heap.size w V => newWalker_any x ⟨ea, ec, ga, gc⟩ V (hx.grown hV) hl (by omega))
  have HX := Lib.hid hl
  have HS := Lib.hid hs
  have HLt := Lib.hid hlt
  have HM := Lib.hid hM
  dsimp only at Hlk Hsts Hnw
  have hbk : Hid (∀ b off, a = some ⟨b, off, none⟩ → set ≠ [] → b < w.heap.size) := Lib.hid (fun b off e hn => by
    have hp : 0 < (set.map (fun v : Nat => (v : Int))).length := by rw [List.length_map]; exact List.length_pos_iff.2 hn
    exact World.block_lt_of_cell? w _ (hs.cell b off e 0 hp))
  clear hx hl hs hlt hst hM
  have x0 := hA0.cell 0
  have x1 := hA0.cell 1
  have x2 := hA0.cell 2
  have x3 := hA0.cell 3
  have xl := hA0.lt
  simp only [List.getElem?_cons_zero, List.getElem?_cons_succ] at x0 x1 x2 x3
  go_enter Try.func19, Try.ntmps19
  go_wp2_with (fail)
  rw [hW0.out]
  refine Hlk.out.mono ?_
  rintro e w1 ⟨rfl, hb1⟩
  have hA1 := hA0.below hb1 hA0.lt
  have hb01 := hb0.trans (hb1.mono hb0.size)
  have Hc := Lib.hid (Hsts.out w1 hb01)
  clear hA0 hb0 hb1 Hlk Hsts x0 x1 x2 x3 xl
  have x0 := hA1.cell 0
  have x1 := hA1.cell 1
  have x2 := hA1.cell 2
  have x3 := hA1.cell 3
  have xl := hA1.lt
  simp only [List.getElem?_cons_zero, List.getElem?_cons_succ] at x0 x1 x2 x3
  go_wp2_with (fail)
  refine Hc.out.mono ?_
  rintro e w2 ⟨rfl, hb2⟩
  have hA2 := hA1.below hb2 hA1.lt
  have hb02 := hb01.trans (hb2.mono hb01.size)
  have Hc := Lib.hid (Hnw.out w2 hb02)
  have HB02 := Lib.hid hb02
  clear hA1 hb01 hb2 hb02 Hnw x0 x1 x2 x3 xl
  have x0 := hA2.cell 0
  have x1 := hA2.cell 1
  have x2 := hA2.cell 2
  have x3 := hA2.cell 3
  have xl := hA2.lt
  simp only [List.getElem?_cons_zero, List.getElem?_cons_succ] at x0 x1 x2 x3
  go_wp2_with (fail)
  refine Hc.out.mono ?_
  rintro e w3 ⟨wb, rfl, L, hW3⟩
  have HW3 := Lib.hid hW3
  have Hc2 := Lib.hid (closed_any w2 w3 wb x ⟨ea, ec, ga, gc⟩ L 0 0 (fun _ => 0) a cap set hW3 HX.out (by have := HM.out; omega) (HS.out.grown (HB02.out.trans (hW3.bel.mono HB02.out.size))) (fun b off e hn => by have := hbk.out b off e hn; have := HB02.out.size; have := hW3.own.1; omega) HLt.out (fun a => Int.le_refl _) (by omega) (by omega))
  clear hW3 hA2 Hc x0 x1 x2 x3 xl
  go_wp2_with (fail)
  refine Hc2.out.mono ?_
  rintro e w4 ⟨oa0, oc0, out0, rfl, ho0, mn0, m0, hW4, hT4, hi4, hk4⟩
  have hol := hT4.len HX.out
  have HO := Lib.hid ho0
  have HND := Lib.hid hT4.nd
  have HIF := Lib.hid hi4
  have HLO := Lib.hid hT4.lt
  have HBX : Hid (Below w.heap.size w w4) := Lib.hid (HB02.out.trans ⟨hW4.bel.os, hW4.bel.tape, hW4.bel.output, hW4.bel.size, fun k hk => hW4.bel.block k (Nat.lt_of_lt_of_le hk HB02.out.size)⟩)
  have HOk : Hid (∀ k, obk oa0 = some k → w.heap.size ≤ k) := Lib.hid (fun k e => by
    have h1 := (ho0.typ k (by rw [ownBlock_obk]; exact e)).1
    have h2 := HB02.out.size
    have h3 := HW3.out.bel.size
    omega)
  clear ho0 hW4 hT4 hi4 hk4
  have Hr := Lib.hid (rising_any out0 oa0 oc0 w3.heap.size w4 HO.out (by omega))
  go_wp2_with (fail)
  refine Hr.out.mono ?_
  rintro e w6 ⟨rfl, ho6, hg6⟩
  have Ho6 := Lib.hid ho6
  have HB6 := Lib.hid (HBX.out.grown hg6 HBX.out.size (fun k e => HOk.out k e))
  clear ho6 hg6
  go_wp2_with (fail)
  exact bodyPost_ret (v := .slice oa0 (riseP out0).length oc0) (by simp [results, Try.results19, go_sem]) rfl ⟨oa0, oc0, riseP out0, rfl, ⟨Ho6.out.ints, riseP_rising HND.out, fun v => (riseP_mem _ v).trans (HIF.out v), fun v hv => HLO.out v ((riseP_mem _ v).1 hv)⟩, HB6.out⟩

end Go.Proofs.Ytpbceejjkdmclaa

/- Layer 3: Step. -/
namespace Go.Proofs.Ytpbceejjkdmclaa
open Go.RowKit Go.Shelf

attribute [local go_sem] Oper.semAt_some

set_option maxRecDepth 100000 in
set_option maxHeartbeats 4000000 in
theorem nstepf_any (x : Nf) (p : NfL) (set : List Nat) (a : Option Addr) (cap c : Nat) (w : World) (hx : NfAt w x p) (hl : linkB x = true) (hM : x.es.length ≤ 500000) (hs : IntsN w a cap set) (hlt : ∀ v ∈ set, v < x.n.toNat) (hc : c < 256) :
    Calls Try.prog 21 #[.agg #[.int .i64 x.n, .int .i64 x.s, .slice p.ea x.ends.length p.ec, .slice p.ga x.es.length p.gc], .slice a set.length cap, .int .u8 (c : Int)] w fun e w' => ∃ oa oc out, e = .returned (.slice oa out.length oc) ∧ (IntsN w' oa oc out ∧ Rising out ∧ (∀ v, v ∈ out ↔ Rn x (fun b => ∃ a, Rn x (· ∈ set) a ∧ bstep x c a b) v) ∧ ∀ v ∈ out, v < x.n.toNat) ∧ Below w.heap.size w w' := by
  obtain ⟨ea, ec, ga, gc⟩ := p
  have hlm : x.ends.length ≤ ec ∧ ec ≤ 9223372036854775807 := ⟨hx.ends.le, hx.ends.max⟩
  have hlm2 : x.es.length ≤ gc ∧ gc ≤ 9223372036854775807 := ⟨hx.es.le, hx.es.max⟩
  have hle := hs.le
  have hmx := hs.max
  rw [List.length_map] at hle
  have hst : (set.map (fun v : Nat => (v : Int))).all (stB x) = true := by
    rw [List.all_eq_true]
    intro k hk
    obtain ⟨v, hv, rfl⟩ := List.mem_map.1 hk
    have := hlt v hv
    have := (link_n hl).1
    unfold stB
    rw [Bool.and_eq_true]
    exact ⟨decide_eq_true (by omega), decide_eq_true (by omega)⟩
  dsimp only at *
  have hA0 := Blk.new w 25 #[.int .i64 x.n, .int .i64 x.s, .slice ea x.ends.length ec, .slice ga x.es.length gc]
  have hb0 : Below w.heap.size w (w.alloc (.cells #[.int .i64 x.n, .int .i64 x.s, .slice ea x.ends.length ec, .slice ga x.es.length gc] 25)) := (Below.refl _ w).alloc (Nat.le_refl _) _
  obtain ⟨W0, hW0⟩ : ∃ W, Hid (w.alloc (.cells #[.int .i64 x.n, .int .i64 x.s, .slice ea x.ends.length ec, .slice ga x.es.length gc] 25) = W) := ⟨_, Lib.hid rfl⟩
  rw [hW0.out] at hA0 hb0
  have hA0 : Blk W0 w.heap.size 25 [.int .i64 x.n, .int .i64 x.s, .slice ea x.ends.length ec, .slice ga x.es.length gc] := hA0
  have Hlk := Lib.hid (linked_any x ⟨ea, ec, ga, gc⟩ _ (hx.grown hb0))
  rw [hl] at Hlk
  have Hsts := Lib.hid (fun V => fun hV : Below w.heap.size w V => hasStates_any x ⟨ea, ec, ga, gc⟩ (set.map (fun v : Nat => (v : Int))) a cap V (hs.grown hV))
  rw [hst, List.length_map] at Hsts
  have Hnw := Lib.hid (fun V => fun hV : Below w.heap.size w V => newWalker_any x ⟨ea, ec, ga, gc⟩ V (hx.grown hV) hl (by omega))
  have HX := Lib.hid hl
  have HS := Lib.hid hs
  have HLt := Lib.hid hlt
  have HM := Lib.hid hM
  dsimp only at Hlk Hsts Hnw
  have hbk : Hid (∀ b off, a = some ⟨b, off, none⟩ → set ≠ [] → b < w.heap.size) := Lib.hid (fun b off e hn => by
    have hp : 0 < (set.map (fun v : Nat => (v : Int))).length := by rw [List.length_map]; exact List.length_pos_iff.2 hn
    exact World.block_lt_of_cell? w _ (hs.cell b off e 0 hp))
  clear hx hl hs hlt hst hM
  have x0 := hA0.cell 0
  have x1 := hA0.cell 1
  have x2 := hA0.cell 2
  have x3 := hA0.cell 3
  have xl := hA0.lt
  simp only [List.getElem?_cons_zero, List.getElem?_cons_succ] at x0 x1 x2 x3
  go_enter Try.func21, Try.ntmps21
  go_wp2_with (fail)
  rw [hW0.out]
  refine Hlk.out.mono ?_
  rintro e w1 ⟨rfl, hb1⟩
  have hA1 := hA0.below hb1 hA0.lt
  have hb01 := hb0.trans (hb1.mono hb0.size)
  have Hc := Lib.hid (Hsts.out w1 hb01)
  clear hA0 hb0 hb1 Hlk Hsts x0 x1 x2 x3 xl
  have x0 := hA1.cell 0
  have x1 := hA1.cell 1
  have x2 := hA1.cell 2
  have x3 := hA1.cell 3
  have xl := hA1.lt
  simp only [List.getElem?_cons_zero, List.getElem?_cons_succ] at x0 x1 x2 x3
  go_wp2_with (fail)
  refine Hc.out.mono ?_
  rintro e w2 ⟨rfl, hb2⟩
  have hA2 := hA1.below hb2 hA1.lt
  have hb02 := hb01.trans (hb2.mono hb01.size)
  have Hc := Lib.hid (Hnw.out w2 hb02)
  have HB02 := Lib.hid hb02
  clear hA1 hb01 hb2 hb02 Hnw x0 x1 x2 x3 xl
  have x0 := hA2.cell 0
  have x1 := hA2.cell 1
  have x2 := hA2.cell 2
  have x3 := hA2.cell 3
  have xl := hA2.lt
  simp only [List.getElem?_cons_zero, List.getElem?_cons_succ] at x0 x1 x2 x3
  go_wp2_with (fail)
  refine Hc.out.mono ?_
  rintro e w3 ⟨wb, rfl, L, hW3⟩
  have HW3 := Lib.hid hW3
  have Hc2 := Lib.hid (closed_any w2 w3 wb x ⟨ea, ec, ga, gc⟩ L 0 0 (fun _ => 0) a cap set hW3 HX.out (by have := HM.out; omega) (HS.out.grown (HB02.out.trans (hW3.bel.mono HB02.out.size))) (fun b off e hn => by have := hbk.out b off e hn; have := HB02.out.size; have := hW3.own.1; omega) HLt.out (fun a => Int.le_refl _) (by omega) (by omega))
  clear hW3 hA2 Hc x0 x1 x2 x3 xl
  go_wp2_with (fail)
  refine Hc2.out.mono ?_
  rintro e w4 ⟨oa0, oc0, out0, rfl, ho0, mn0, m0, hW4, hT4, hi4, hk4⟩
  have hol := hT4.len HX.out
  have hmn4 := hT4.mn
  have HW4 := Lib.hid hW4
  have Hi4 := Lib.hid hi4
  have Hst := Lib.hid (nstep_any w2 w4 wb x ⟨ea, ec, ga, gc⟩ L 1 mn0 m0 oa0 oc0 out0 c hW4 HX.out (by have := HM.out; omega) (Nat.le_trans (Nat.mul_le_mul hol.2 HM.out) (by omega)) ho0.ints hT4.lt hT4.le (by omega) (by omega) hc)
  clear ho0 hW4 hT4 hi4 hk4 Hc2
  go_wp2_with (fail)
  refine Hst.out.mono ?_
  rintro e w5 ⟨oa9, oc9, out9, rfl, ho9, hi9, hnd9, hlt9, mn9, m9, hW9, hmi9, hml9, hmn9, hk9⟩
  have hol9 := nodup_len _ _ hnd9 hlt9
  have hN2 := (link_n HX.out).2.1
  have HO := Lib.hid ho9
  have HND := Lib.hid hnd9
  have HIF : Hid (∀ v, v ∈ out9 ↔ Rn x (fun b => ∃ a, Rn x (· ∈ set) a ∧ bstep x c a b) v) := Lib.hid (fun v => (hi9 v).trans (Rn.congr (fun b => ⟨fun ⟨a, h1, h2⟩ => ⟨a, (Hi4.out a).1 h1, h2⟩, fun ⟨a, h1, h2⟩ => ⟨a, (Hi4.out a).2 h1, h2⟩⟩) v))
  have HLO := Lib.hid hlt9
  have HBX : Hid (Below w.heap.size w w5) := Lib.hid (HB02.out.trans ⟨hW9.bel.os, hW9.bel.tape, hW9.bel.output, hW9.bel.size, fun k hk => hW9.bel.block k (Nat.lt_of_lt_of_le hk HB02.out.size)⟩)
  have HOk : Hid (∀ k, obk oa9 = some k → w.heap.size ≤ k) := Lib.hid (fun k e => by
    have h1 := (ho9.typ k (by rw [ownBlock_obk]; exact e)).1
    have h2 := HB02.out.size
    have h3 := HW4.out.bel.size
    omega)
  clear ho9 hi9 hnd9 hlt9 hW9 hmi9 hml9 hk9 Hst
  have Hr := Lib.hid (rising_any out9 oa9 oc9 w4.heap.size w5 HO.out (by omega))
  go_wp2_with (fail)
  refine Hr.out.mono ?_
  rintro e w6 ⟨rfl, ho6, hg6⟩
  have Ho6 := Lib.hid ho6
  have HB6 := Lib.hid (HBX.out.grown hg6 HBX.out.size (fun k e => HOk.out k e))
  clear ho6 hg6
  go_wp2_with (fail)
  exact bodyPost_ret (v := .slice oa9 (riseP out9).length oc9) (by simp [results, Try.results21, go_sem]) rfl ⟨oa9, oc9, riseP out9, rfl, ⟨Ho6.out.ints, riseP_rising HND.out, fun v => (riseP_mem _ v).trans (HIF.out v), fun v hv => HLO.out v ((riseP_mem _ v).1 hv)⟩, HB6.out⟩

end Go.Proofs.Ytpbceejjkdmclaa
