/- Texts joined: Sj Ji Jl Jm Jw Jn Jx Jz Jy We Wa Wb. -/
import Derived.Ground.NamesProg
import Derived.Shelf.Sort.Plain
import Derived.Shelf.Slices.In.SortNone
import Derived.Test.YtldmgifphkpdlaaProg
import Derived.Test.YtldmgifphkpdlaaRVAm
import Derived.Lib.SlKeysI
import Derived.Test.YtldmgifphkpdlaaRVAi
import Derived.Laws.CopyRow
import Derived.Test.YtldmgifphkpdlaaRVAg
import Derived.Test.YtldmgifphkpdlaaRVAf
set_option linter.unusedVariables false
set_option linter.unusedSimpArgs false
namespace Go.Proofs
open Go.Shelf
def Try.laysSort_ren : Go.Shelf.Ren := ⟨fun | 189 => 100 | 125 => 121 | 257 => 120 | 128 => 139 | 129 => 140 | 294 => 130 | 295 => 131 | 296 => 132 | 297 => 133 | 298 => 134 | 299 => 135 | 216 => 136 | 300 => 137 | 301 => 138 | 328 => 144 | 329 => 145 | 330 => 146 | 331 => 147 | 332 => 148 | 215 => 149 | 343 => 154 | n => n, fun | 28 => 35 | 3 => 3 | 46 => 127 | 0 => 0 | 51 => 157 | 53 => 160 | 4 => 4 | 183 => 173 | 182 => 172 | 131 => 178 | 5 => 5 | 9 => 9 | 218 => 184 | 222 => 188 | 228 => 193 | 229 => 194 | n => n, fun | n => n⟩
theorem Try.laysSort : Go.Proofs.Lays.n189 Try.prog Try.laysSort_ren := {
 mixed := by kernel_rfl
 f125 := Try.func121.trans (congrArg some (by kernel_rfl))
 f128 := Try.func139.trans (congrArg some (by kernel_rfl))
 f129 := Try.func140.trans (congrArg some (by kernel_rfl))
 f189 := Try.func100.trans (congrArg some (by kernel_rfl))
 f215 := Try.func149.trans (congrArg some (by kernel_rfl))
 f216 := Try.func136.trans (congrArg some (by kernel_rfl))
 f257 := Try.func120.trans (congrArg some (by kernel_rfl))
 f294 := Try.func130.trans (congrArg some (by kernel_rfl))
 f295 := Try.func131.trans (congrArg some (by kernel_rfl))
 f296 := Try.func132.trans (congrArg some (by kernel_rfl))
 f297 := Try.func133.trans (congrArg some (by kernel_rfl))
 f298 := Try.func134.trans (congrArg some (by kernel_rfl))
 f299 := Try.func135.trans (congrArg some (by kernel_rfl))
 f300 := Try.func137.trans (congrArg some (by kernel_rfl))
 f301 := Try.func138.trans (congrArg some (by kernel_rfl))
 f328 := Try.func144.trans (congrArg some (by kernel_rfl))
 f329 := Try.func145.trans (congrArg some (by kernel_rfl))
 f330 := Try.func146.trans (congrArg some (by kernel_rfl))
 f331 := Try.func147.trans (congrArg some (by kernel_rfl))
 f332 := Try.func148.trans (congrArg some (by kernel_rfl))
 f343 := Try.func154.trans (congrArg some (by kernel_rfl))
 t0 := Try.underlying0
 a0 := Try.isAgg0
 z0 := Try.sizeOf0
 v0 := Try.zeroValue0
 t3 := Try.underlying3
 a3 := Try.isAgg3
 z3 := Try.sizeOf3
 v3 := Try.zeroValue3
 t4 := Try.underlying4
 a4 := Try.isAgg4
 z4 := Try.sizeOf4
 v4 := Try.zeroValue4
 t5 := Try.underlying5
 a5 := Try.isAgg5
 z5 := Try.sizeOf5
 v5 := Try.zeroValue5
 t9 := Try.underlying9
 a9 := Try.isAgg9
 z9 := Try.sizeOf9
 v9 := Try.zeroValue9
 t28 := Try.underlying35
 a28 := Try.isAgg35
 z28 := Try.sizeOf35
 v28 := Try.zeroValue35
 t46 := Try.underlying127
 a46 := Try.isAgg127
 z46 := Try.sizeOf127
 v46 := Try.zeroValue127
 t51 := Try.underlying157
 a51 := Try.isAgg157
 z51 := Try.sizeOf157
 v51 := Try.zeroValue157
 t53 := Try.underlying160
 a53 := Try.isAgg160
 z53 := Try.sizeOf160
 v53 := Try.zeroValue160
 t131 := Try.underlying178
 a131 := Try.isAgg178
 z131 := Try.sizeOf178
 v131 := Try.zeroValue178
 t182 := Try.underlying172
 a182 := Try.isAgg172
 z182 := Try.sizeOf172
 v182 := Try.zeroValue172
 t183 := Try.underlying173
 a183 := Try.isAgg173
 z183 := Try.sizeOf173
 v183 := Try.zeroValue173
 t218 := Try.underlying184
 a218 := Try.isAgg184
 z218 := Try.sizeOf184
 v218 := Try.zeroValue184
 t222 := Try.underlying188
 a222 := Try.isAgg188
 z222 := Try.sizeOf188
 v222 := Try.zeroValue188
 t228 := Try.underlying193
 a228 := Try.isAgg193
 z228 := Try.sizeOf193
 v228 := Try.zeroValue193
 t229 := Try.underlying194
 a229 := Try.isAgg194
 z229 := Try.sizeOf194
 v229 := Try.zeroValue194 }
end Go.Proofs
namespace Go.Proofs.Ytldmgifphkpdlaa
open Go.RowKit Go.Maps Go.WideMaps Go.Sort Go.Shelf
/-- A rising list of just the numbers that are meant. -/
structure Ris (l : List Int) (P : Int → Prop) : Prop where
 up : l.Pairwise (· < ·)
 mem : ∀ x, x ∈ l ↔ P x
theorem ris_same : ∀ {l m : List Int}, l.Pairwise (· < ·) → m.Pairwise (· < ·) → (∀ x, x ∈ l ↔ x ∈ m) → l = m
 | [], [], _, _, _ => rfl
 | [], y :: m, _, _, h => by have := (h y).2 (by simp); cases this
 | x :: l, [], _, _, h => by have := (h x).1 (by simp); cases this
 | x :: l, y :: m, hl, hm, h => by
  rw [List.pairwise_cons] at hl hm
  have e : x = y := by
   have h1 := (h x).1 (by simp)
   have h2 := (h y).2 (by simp)
   rcases List.mem_cons.1 h1 with h1 | h1
   ·exact h1
   ·rcases List.mem_cons.1 h2 with h2 | h2
    ·exact h2.symm
    ·have := hm.1 x h1
     have := hl.1 y h2
     omega
  subst e
  congr 1
  refine ris_same hl.2 hm.2 (fun z => ⟨fun hz => ?_, fun hz => ?_⟩)
  ·rcases List.mem_cons.1 ((h z).1 (List.mem_cons_of_mem _ hz)) with e | h1
   ·have := hl.1 z hz
    omega
   ·exact h1
  ·rcases List.mem_cons.1 ((h z).2 (List.mem_cons_of_mem _ hz)) with e | h1
   ·have := hm.1 z hz
    omega
   ·exact h1
theorem Ris.same {l m : List Int} {P Q : Int → Prop} (hl : Ris l P) (hm : Ris m Q) (h : ∀ x, P x ↔ Q x) : l = m :=
 ris_same hl.up hm.up (fun x => (hl.mem x).trans ((h x).trans (hm.mem x).symm))
theorem ris_sort {l : List Int} (hn : l.Nodup) : (l.mergeSort (fun x y => decide (x ≤ y))).Pairwise (· < ·) := by
 have h1 : (l.mergeSort (fun x y => decide (x ≤ y))).Pairwise (fun x y => decide (x ≤ y) = true) := List.pairwise_mergeSort (fun a b c h1 h2 => by simp at *; omega) (fun a b => by simp; omega) l
 have h2 : (l.mergeSort (fun x y => decide (x ≤ y))).Nodup := (List.mergeSort_perm l _).nodup_iff.2 hn
 refine (h1.and h2).imp ?_
 rintro a b ⟨h3, h4⟩
 simp at h3
 omega
theorem set_keys {W : World} {b n : Nat} {D : DataW Unit} (h : W.ownsMap Try.prog 3 unitElem b n D) : (intKeys D).Nodup ∧ ∀ x, x ∈ intKeys D ↔ has D (.int .i64 x) = true := by
 obtain ⟨es, hD, hpw, _⟩ := h.entries int_law
 obtain ⟨es', hD', hko⟩ := h.keysOf
 obtain rfl : es = es' := by rw [hD] at hD'; simpa using hD'
 subst hD
 have hk : ∀ p ∈ es, ∃ x, p.1 = .int .i64 x := fun p hp => by
  obtain ⟨v, hv⟩ := hko p hp
  obtain ⟨x, _, hx, _⟩ := Maps.keyOf_i64 Try.underlying3 hv
  exact ⟨x, hx⟩
 constructor
 ·unfold intKeys List.Nodup
  rw [List.pairwise_map]
  refine hpw.imp_of_mem ?_
  intro p q hp hq hne e
  obtain ⟨x, hx⟩ := hk p hp
  obtain ⟨y, hy⟩ := hk q hq
  rw [hx, hy] at e hne
  exact hne (by rw [show x = y from e])
 ·intro x
  unfold intKeys
  rw [has_eq, List.any_eq_true, List.mem_map]
  constructor
  ·rintro ⟨p, hp, rfl⟩
   obtain ⟨y, hy⟩ := hk p hp
   exact ⟨p, hp, by rw [hy]; simp [Go.Lit.sameKey, Go.intOf]⟩
  ·rintro ⟨p, hp, hs⟩
   obtain ⟨y, hy⟩ := hk p hp
   rw [hy] at hs
   exact ⟨p, hp, by rw [hy]; simpa [Go.Lit.sameKey, Go.intOf] using hs⟩
/-- slices.Sort's two contracts, at the fence that asks nothing. -/
theorem sortsZ (m : Nat) : AnyZI.SortsIn Try.prog Try.sortedZ_ren Fence.wide m :=
 ⟨fun blk off cap ss W hH hblk hsz => callsIn_wide.2 (Any.slices_Sort_int Try.laysSort blk off cap ss W hH hblk hsz),
  fun p cap W => callsIn_wide.2 (Any.slices_Sort_int_none Try.laysSort p cap W)⟩
/-- What ordered answers. -/
def OrdQ (w : World) (M : Int → Bool) (e : Ending) (W' : World) : Prop := ∃ a c l, e = .returned (.slice a l.length c) ∧ Ris l (fun x => M x = true) ∧ OwnKZ W' w.heap.size a c l ∧ Below w.heap.size w W'
set_option maxRecDepth 100000 in
set_option maxHeartbeats 4000000 in
theorem ordered_any (b n : Nat) (M : Int → Bool) (w : World) (h : SetZ w b n M) (hn : n ≤ 10000000000000) : Calls Try.prog 63 #[.map (some b)] w (OrdQ w M) := by
 obtain ⟨D0, hown, hmap, hM⟩ := h
 have hmax : Maps.size D0 ≤ maxLen := Nat.le_trans hown.size_le (by unfold maxLen; omega)
 have hbytes : Maps.size D0 * 8 ≤ 140737488355328 := by have := hown.size_le; omega
 refine (callsIn_wide (n := 6)).1 ?_
 have hbl := hown.lt
 have hseq : SeqGives Fence.wide 2 Try.prog 116 #[.pointer (some ⟨w.heap.size, 0, none⟩)] encZ (fun ss => ss.Perm (intKeys D0)) (Maps.size D0) (w.alloc (.cells #[.map (some b)] 79)) :=
  AnyZI.keys_gives (ρ := Try.keysZ_ren) { Try.keysZ with } Fence.wide _ trivial rfl (by omega) w.heap.size b n D0 _ (by simp) (by simp) (by
   obtain ⟨es, clock, hb, Ft, hs, hD⟩ := hown
   exact ⟨es, clock, (Below.heap_alloc _ _ b hbl).trans hb, Ft, hs, hD⟩)
 have cK : ∀ mb W, CallsIn Fence.wide 5 Try.prog 96 #[.map mb] W fun e w' => e = .returned (.func (.func 116) #[] #[.pointer (some ⟨W.heap.size, 0, none⟩)]) ∧ w' = W.alloc (.cells #[.map mb] 79) := fun mb W => AnyZI.keys_in Try.keysZ Fence.wide 5 trivial rfl mb W
 have cS := AnyZI.sorted_in Try.sortedZ Fence.wide 5 trivial trivial trivial trivial rfl (by omega) (sortsZ _) (enters_of Try.func100 (by kernel_rfl) rfl) 116 #[.pointer (some ⟨w.heap.size, 0, none⟩)] trivial (enters_of Try.func116 (by kernel_rfl) rfl) _ _ hmax hbytes _ hseq
 change CallsIn _ _ Try.prog 95 _ _ _ at cS
 have hfK : Fence.wide.fn 96 := trivial
 have hfS : Fence.wide.fn 95 := trivial
 obtain ⟨hk1, hk2⟩ := set_keys hown
 refine callsIn_of_wp Try.func63 rfl trivial ?_ rfl
 simp only [Try.ntmps63, List.size_toArray, List.length_cons, List.length_nil, Nat.reduceAdd, Nat.reduceSub, Array.replicate_succ, Array.replicate_zero, List.push_toArray, List.append_toArray, List.nil_append, List.cons_append]
 gi_wp2_with (first
  | (gi_at_call 96; refine (cK _ _).mono ?_; rintro e w' ⟨rfl, rfl⟩)
  | (gi_at_call 95; refine cS.mono ?_; rintro e w' ⟨v, ss, rfl, hS, hrow, hnil, hb⟩))
 go_ret
 have hs1 : (ss.mergeSort (fun x y => decide (x ≤ y))).length = ss.length := by simp
 have hrow2 := ownsRow_base_a hrow (show w.heap.size ≤ _ by simp)
 obtain ⟨a, c, rfl⟩ := slice_of_own hrow2
 have hris : Ris (ss.mergeSort (fun x y => decide (x ≤ y))) (fun x => M x = true) := ⟨ris_sort (hS.nodup_iff.2 hk1), fun x => by
  rw [(List.mergeSort_perm ss _).mem_iff, hS.mem_iff, hk2, hM]⟩
 exact ⟨a, c, _, by rw [hs1]; rfl, hris, by unfold OwnKZ; rw [hs1]; exact hrow2, ((Below.refl _ w).alloc (Nat.le_refl _) _).trans (hb.mono (by simp))⟩
end Go.Proofs.Ytldmgifphkpdlaa
namespace Go.Proofs.Ytldmgifphkpdlaa
open Go.RowKit Go.Maps
attribute [local go_sem] Oper.semAt_some
/-- Numbers that are not far. -/
def nearU (n : Nat) : List Int := (List.range 300).map (fun i : Nat => (i : Int) - (n : Int))
theorem nearU_mem {n : Nat} {x : Int} : x ∈ nearU n ↔ -(n : Int) ≤ x ∧ x < 300 - (n : Int) := by
 unfold nearU
 rw [List.mem_map]
 constructor
 ·rintro ⟨i, hi, rfl⟩
  rw [List.mem_range] at hi
  omega
 ·intro h
  exact ⟨(x + n).toNat, List.mem_range.2 (by omega), by omega⟩
theorem al_mem {xa : List IrD} {r : Nat} {a : List Int} (h : a ∈ (xa.map IrD.p).getD r []) : ∃ e ∈ xa, ∃ x ∈ e.ds, a = x.l := by
 rw [List.getD_eq_getElem?_getD, List.getElem?_map] at h
 cases e : xa[r]? with
 | none => rw [e] at h; cases h
 | some q =>
  rw [e] at h
  obtain ⟨x, hx, rfl⟩ := List.mem_map.1 h
  exact ⟨q, List.mem_of_getElem? e, x, hx, rfl⟩
theorem rchd_near {d : CfD} (hf : FitC d) {f : Nat → Bool} {l : List Int} (hl : ∀ x ∈ l, -(d.alts.length : Int) ≤ x ∧ x ≤ 100) {x : Int} (h : Rchd l (StA (d.alts.map IrD.p) f) x) : -(d.alts.length : Int) ≤ x ∧ x ≤ 100 := by
 induction h with
 | base h => exact hl _ h
 | step _ h2 _ =>
  obtain ⟨_, a, ha, hy⟩ := h2
  obtain ⟨e, he, q, hq, rfl⟩ := al_mem ha
  have := (hf.l e he q hq).2 _ (ahd_sub hy)
  have := hf.t
  omega
/-- What tells some numbers: a row of one's own, rising. -/
def RisQ (w : World) (P : Int → Prop) (e : Ending) (W' : World) : Prop := ∃ a c l, e = .returned (.slice a l.length c) ∧ Ris l P ∧ OwnKZ W' w.heap.size a c l ∧ Below w.heap.size w W'
set_option maxRecDepth 100000 in
set_option maxHeartbeats 16000000 in
theorem tokens_any (d : CfD) (na : Option Addr) (nc : Nat) (f : Nat → Bool) (l : List Int) (la : Option Addr) (lc : Nat) (w : World) (hd : CfAt w d) (hn : BlsF w na nc d.alts.length f) (hf : FitC d) (hl : Ints w la lc l)
 (hok : ∀ x ∈ l, -(d.alts.length : Int) ≤ x ∧ x ≤ 100) (hll : l.length ≤ 1000) (hlb : l ≠ [] → ∀ g off, la = some ⟨g, off, none⟩ → g < w.heap.size) :
 Calls Try.prog 55 #[.agg #[.slice d.aa d.alts.length d.ac, .slice na d.alts.length nc], .slice la l.length lc] w (RisQ w (TokP (d.alts.map IrD.p) f l)) := by
 have hb1 : Below w.heap.size w (w.alloc (.cells #[.slice d.aa d.alts.length d.ac, .slice na d.alts.length nc] 68)) := (Below.refl _ w).alloc (Nat.le_refl _) _
 have hA := Blk.new w 68 #[.slice d.aa d.alts.length d.ac, .slice na d.alts.length nc]
 have hBg : BgAt (w.alloc (.cells #[.slice d.aa d.alts.length d.ac, .slice na d.alts.length nc] 68)) w.heap.size d na nc f := ⟨hA, hd.grown hb1, hn.grown hb1⟩
 have hK : ∀ (args : Array Value) (w : World), (callFunc 90 args).run Try.prog w = .ok (.enter 90 args) w := fun args w => by kernel_rfl
 have hr := hf.r
 have ht := hf.t
 have Hc := Lib.hid (reach_anyZ (w.alloc (.cells #[.slice d.aa d.alts.length d.ac, .slice na d.alts.length nc] 68)) 90 (.pointer (some ⟨w.heap.size, 0, none⟩)) l la lc (hl.grown hb1) (fun hz g off e => Nat.lt_of_lt_of_le (hlb hz g off e) hb1.size) (fun x hx => wf9 (by have := hok x hx; omega))
  (StA (d.alts.map IrD.p) f) (nearU d.alts.length) (fun x hx => nearU_mem.2 (by have := rchd_near hf hok hx; omega)) (by unfold nearU; rw [List.length_map, List.length_range]; omega) (by omega) hK (fun W' n2 a2 c2 F O x hb hxU hxf hO hn2 hR =>
   tokNext_any _ W' w.heap.size d na nc f n2 a2 c2 F O x hBg hf hb (nearU_mem.1 hxU).1 hR hO hn2))
 have HE2 := Lib.hid (fun x => isNeg_any x)
 obtain ⟨Q, hQ⟩ : ∃ Q, Hid (RisQ w (TokP (d.alts.map IrD.p) f l) = Q) := ⟨_, Lib.hid rfl⟩
 rw [hQ.out]
 have HQ := Lib.hid hQ.out
 obtain ⟨St, hSt⟩ : ∃ q, Hid (Rchd l (StA (d.alts.map IrD.p) f) = q) := ⟨_, Lib.hid rfl⟩
 have HP : Hid (∀ x, TokP (d.alts.map IrD.p) f l x ↔ 0 ≤ x ∧ St x) := Lib.hid (fun x => by rw [← hSt.out]; exact Iff.rfl)
 rw [hSt.out] at Hc
 have Hb1 := Lib.hid hb1
 obtain ⟨L, HL⟩ : ∃ q, Hid (d.alts.length = q) := ⟨_, Lib.hid rfl⟩
 obtain ⟨M, HM⟩ : ∃ q, Hid (l.length = q) := ⟨_, Lib.hid rfl⟩
 obtain ⟨daa, hdaa⟩ : ∃ q, Hid (d.aa = q) := ⟨_, Lib.hid rfl⟩
 obtain ⟨dac, hdac⟩ : ∃ q, Hid (d.ac = q) := ⟨_, Lib.hid rfl⟩
 rw [HL.out, hdaa.out, hdac.out] at Hc Hb1 ⊢
 rw [HM.out] at Hc ⊢
 obtain ⟨bx, hbx⟩ : ∃ q, Hid (w.heap.size = q) := ⟨_, Lib.hid rfl⟩
 clear hb1 hA hBg hK hd hn hf hl hok hlb hQ
 go_enter Try.func55, Try.ntmps55
 go_wp2_with (fail)
 rw [hbx.out] at Hc ⊢
 generalize hV : World.alloc w _ = V at Hc Hb1 ⊢
 clear hV
 refine Hc.out.mono ?_
 rintro e w2 ⟨sb, ns, MM, rfl, hs, hns, hM, hlo, hb2⟩
 have Hd := Lib.hid (delNeg_any sb ns MM w2 hs)
 have HM2 := Lib.hid hM
 have hwV := Hb1.out.size
 have Hb2 := Lib.hid (Hb1.out.trans (hb2.mono Hb1.out.size))
 clear hs hM hb2
 go_wp2_with (fail)
 refine Hd.out.mono ?_
 rintro e w3 ⟨rfl, hs3, hg3⟩
 have Ho := Lib.hid (ordered_any sb ns _ w3 hs3 hns)
 have Hb3 := Lib.hid (Hb2.out.trans (belowAt hg3 (B := w.heap.size) (fun i e => by injection e with e; omega) Hb2.out.size))
 clear hs3 hg3
 go_wp2_with (fail)
 refine Ho.out.mono ?_
 rintro e w4 ⟨a4, c4, t4, rfl, hr4, ho4, hb4⟩
 have Hfin : Hid (Q (.returned (.slice a4 t4.length c4)) w4) := Lib.hid (by
  rw [← HQ.out]
  refine ⟨a4, c4, t4, rfl, ⟨hr4.up, fun x => ?_⟩, own_mono ho4 Hb3.out.size, Hb3.out.trans (hb4.mono Hb3.out.size)⟩
  rw [hr4.mem x, HP.out x, Bool.and_eq_true, HM2.out x, decide_eq_true_eq]
  exact And.comm)
 clear hr4 ho4 hb4
 obtain ⟨TL, hTL⟩ : ∃ q, Hid (t4.length = q) := ⟨_, Lib.hid rfl⟩
 rw [hTL.out] at Hfin ⊢
 go_wp2_with (fail)
 first | exact Hfin.out | exact bodyPost_ret (v := .slice a4 TL c4) (by simp [results, Try.results55, go_sem]; try first | rfl | assumption | omega) rfl Hfin.out
end Go.Proofs.Ytldmgifphkpdlaa
namespace Go.Proofs.Ytldmgifphkpdlaa
open Go.RowKit Go.Maps
attribute [local go_sem] Oper.semAt_some
/-- What Lead answers. -/
def LeadQ (w : World) (P : Int → Prop) (E : Bool) (e : Ending) (W' : World) : Prop := ∃ a c l, e = .returned (.tuple #[.slice a l.length c, .bool E]) ∧ Ris l P ∧ OwnKZ W' w.heap.size a c l ∧ Below w.heap.size w W'
set_option maxRecDepth 100000 in
set_option maxHeartbeats 16000000 in
theorem sLead_any (d : CfD) (s : List Int) (sa : Option Addr) (sc : Nat) (w : World) (hd : CfAt w d) (hf : FitC d) (hs : Ints w sa sc s) (hok : OkL d.toks.length d.alts.length s) (hsl : s.length ≤ 1000) :
 Calls Try.prog 27 #[d.v, .slice sa s.length sc] w (LeadQ w (TokP (d.alts.map IrD.p) (nulB (d.alts.map IrD.p)) (ahd (nulB (d.alts.map IrD.p)) s)) (emp (nulB (d.alts.map IrD.p)) s)) := by
 have Hfit := Lib.hid (fun W (hb : Below w.heap.size w W) => fits_any d W (hd.grown hb) hf)
 have hft := hf.t
 have hfr := hf.r
 have Har := Lib.hid (fun W (hb : Below w.heap.size w W) => areNs_any d s sa sc W (hs.grown hb) hok ⟨by omega, by omega, hf.r0⟩)
 have Hnb := Lib.hid (fun W (hb : Below w.heap.size w W) => newB_any d W (hd.grown hb) hf)
 have Hah := Lib.hid (fun W (hb : Below w.heap.size w W) na nc (hn : BlsF W na nc d.alts.length (nulB (d.alts.map IrD.p))) => ahead_any d.aa d.alts.length d.ac na d.alts.length nc (nulB (d.alts.map IrD.p)) s sa sc W hn (hs.grown hb) (fun y hy => (hok y hy).1) (by omega))
 have Htk := Lib.hid (fun W (hb : Below w.heap.size w W) na nc (hn : BlsF W na nc d.alts.length (nulB (d.alts.map IrD.p))) => tokens_any d na nc (nulB (d.alts.map IrD.p)) (ahd (nulB (d.alts.map IrD.p)) s) sa sc W (hd.grown hb) hn hf (ints_ahd (hs.grown hb) _) (fun x hx => by have := hok x (ahd_sub hx); omega) (Nat.le_trans (ahd_len s) hsl) (fun hz g off e => by
  have hl0 : 0 < s.length := by
   cases s with
   | nil => exact absurd rfl hz
   | cons _ _ => simp
  have := (hs.grown hb).cell g off e 0 (by rw [List.length_map]; exact hl0)
  exact World.block_lt_of_cell? _ _ this))
 obtain ⟨xt, xta, xtc, xn, xna, xnc, xa, xaa, xac⟩ := d
 dsimp only [CfD.v] at *
 obtain ⟨NB, hNB2⟩ : ∃ q, Hid (nulB (xa.map IrD.p) = q) := ⟨_, Lib.hid rfl⟩
 rw [hNB2.out] at Hnb Hah Htk ⊢
 obtain ⟨P, hP⟩ : ∃ q, Hid (TokP (xa.map IrD.p) NB (ahd NB s) = q) := ⟨_, Lib.hid rfl⟩
 rw [hP.out] at Htk ⊢
 obtain ⟨E, hE⟩ : ∃ q, Hid (emp NB s = q) := ⟨_, Lib.hid rfl⟩
 rw [hE.out] at Hah ⊢
 obtain ⟨Q, hQ⟩ : ∃ Q, Hid (LeadQ w P E = Q) := ⟨_, Lib.hid rfl⟩
 rw [hQ.out]
 have HQ := Lib.hid hQ.out
 have hb1 : Below w.heap.size w (w.alloc (.cells #[.slice xta xt.length xtc, .slice xna xn.length xnc, .slice xaa xa.length xac] 25)) := (Below.refl _ w).alloc (Nat.le_refl _) _
 have hA := Blk.new w 25 #[.slice xta xt.length xtc, .slice xna xn.length xnc, .slice xaa xa.length xac]
 obtain ⟨T, HT⟩ : ∃ q, Hid (xt.length = q) := ⟨_, Lib.hid rfl⟩
 obtain ⟨N, HN⟩ : ∃ q, Hid (xn.length = q) := ⟨_, Lib.hid rfl⟩
 obtain ⟨L, HL⟩ : ∃ q, Hid (xa.length = q) := ⟨_, Lib.hid rfl⟩
 obtain ⟨SL, HSL⟩ : ∃ q, Hid (s.length = q) := ⟨_, Lib.hid rfl⟩
 obtain ⟨AL, HAL⟩ : ∃ q, Hid ((ahd NB s).length = q) := ⟨_, Lib.hid rfl⟩
 rw [HT.out, HN.out, HL.out] at hA hb1 Hnb Hfit ⊢
 rw [HT.out, HN.out, HL.out, HSL.out] at Har
 rw [HL.out, HSL.out, HAL.out] at Hah
 rw [HL.out, HAL.out] at Htk
 rw [HSL.out]
 have x0 := hA.cell 0
 have x1 := hA.cell 1
 have x2 := hA.cell 2
 have xl := hA.lt
 simp only [List.getElem?_cons_zero, List.getElem?_cons_succ] at x0 x1 x2
 have HA := Lib.hid hA
 have Hb1 := Lib.hid hb1
 clear hd hf hQ hA hb1 hs hok
 go_enter Try.func27, Try.ntmps27
 go_wp2_with (fail)
 have Hc1 := Lib.hid (Hfit.out _ Hb1.out)
 obtain ⟨bx, hbx⟩ : ∃ q, Hid (w.heap.size = q) := ⟨_, Lib.hid rfl⟩
 rw [hbx.out] at HA xl x0 x1 x2 ⊢
 generalize hV : World.alloc w _ = V at HA x0 x1 x2 xl Hb1 Hc1 ⊢
 clear hV
 refine Hc1.out.mono ?_
 rintro e w2 ⟨rfl, hb2⟩
 have HA2 := Lib.hid (HA.out.below hb2 HA.out.lt)
 have Hb2 := Lib.hid (Hb1.out.trans (hb2.mono Hb1.out.size))
 clear x0 x1 x2 xl hb2 Hc1
 have x0 := HA2.out.cell 0
 have x1 := HA2.out.cell 1
 have x2 := HA2.out.cell 2
 have xl := HA2.out.lt
 simp only [List.getElem?_cons_zero, List.getElem?_cons_succ] at x0 x1 x2
 have Hc2 := Lib.hid (Har.out _ Hb2.out)
 go_wp2_with (fail)
 refine Hc2.out.mono ?_
 rintro e w3 ⟨rfl, hb3⟩
 have HA3 := Lib.hid (HA2.out.below hb3 HA2.out.lt)
 have Hb3 := Lib.hid (Hb2.out.trans (hb3.mono Hb2.out.size))
 clear x0 x1 x2 xl hb3 Hc2
 have x0 := HA3.out.cell 0
 have x1 := HA3.out.cell 1
 have x2 := HA3.out.cell 2
 have xl := HA3.out.lt
 simp only [List.getElem?_cons_zero, List.getElem?_cons_succ] at x0 x1 x2
 have Hc3 := Lib.hid (Hnb.out _ Hb3.out)
 go_wp2_with (fail)
 refine Hc3.out.mono ?_
 rintro e w4 ⟨na, nc, rfl, hn4, hb4⟩
 have Hb4 := Lib.hid (Hb3.out.trans (hb4.mono Hb3.out.size))
 have hb5 : Below w4.heap.size w4 (w4.alloc (.cells #[.slice xaa L xac, .slice na L nc] 68)) := (Below.refl _ w4).alloc (Nat.le_refl _) _
 have HB5 := Lib.hid (Blk.new w4 68 #[.slice xaa L xac, .slice na L nc])
 have HN5 := Lib.hid (hn4.grown hb5)
 have Hb5 := Lib.hid (Hb4.out.trans (hb5.mono Hb4.out.size))
 obtain ⟨bb, hbb⟩ : ∃ q, Hid (w4.heap.size = q) := ⟨_, Lib.hid rfl⟩
 rw [hbb.out] at HB5
 clear hn4 hb4 hb5 x0 x1 x2 xl Hc3
 have hy0 := HB5.out.cell 0
 have hy1 := HB5.out.cell 1
 have hyl := HB5.out.lt
 simp only [List.getElem?_cons_zero, List.getElem?_cons_succ] at hy0 hy1
 go_wp2_with (fail)
 rw [hbb.out]
 generalize hV : World.alloc w4 _ = V5 at HB5 HN5 Hb5 hy0 hy1 hyl ⊢
 clear hV
 refine (Hah.out V5 Hb5.out na nc HN5.out).mono ?_
 rintro e w6 ⟨rfl, hb6⟩
 have HB6 := Lib.hid (HB5.out.below hb6 HB5.out.lt)
 have HN6 := Lib.hid (HN5.out.grown hb6)
 have Hb6 := Lib.hid (Hb5.out.trans (hb6.mono Hb5.out.size))
 clear hb6 hy0 hy1 hyl
 have hy0 := HB6.out.cell 0
 have hy1 := HB6.out.cell 1
 have hyl := HB6.out.lt
 simp only [List.getElem?_cons_zero, List.getElem?_cons_succ] at hy0 hy1
 go_wp2_with (fail)
 refine (Htk.out w6 Hb6.out na nc HN6.out).mono ?_
 rintro e w7 ⟨ra, rc, l, rfl, hr7, ho7, hb7⟩
 have Hfin : Hid (Q (.returned (.tuple #[.slice ra l.length rc, .bool E])) w7) := Lib.hid (by
  rw [← HQ.out]
  exact ⟨ra, rc, l, rfl, hr7, own_mono ho7 Hb6.out.size, Hb6.out.trans (hb7.mono Hb6.out.size)⟩)
 clear hr7 ho7 hb7 hy0 hy1 hyl
 obtain ⟨RL, hRL⟩ : ∃ q, Hid (l.length = q) := ⟨_, Lib.hid rfl⟩
 rw [hRL.out] at Hfin ⊢
 go_wp2_with (fail)
 first | exact Hfin.out | exact bodyPost_ret (v := .tuple #[.slice ra RL rc, .bool E]) (by simp [results, Try.results27, go_sem]; try first | rfl | assumption | omega) rfl Hfin.out
end Go.Proofs.Ytldmgifphkpdlaa
namespace Go.Proofs.Ytldmgifphkpdlaa
open Go.RowKit Go.Maps
attribute [local go_sem] Oper.semAt_some
end Go.Proofs.Ytldmgifphkpdlaa
namespace Go.Proofs.Ytldmgifphkpdlaa
open Go.RowKit Go.Maps
attribute [local go_sem] Oper.semAt_some
/-- What tells of each rule some numbers, rising. -/
def LstQ (w : World) (n : Nat) (P : Nat → Int → Prop) (e : Ending) (W' : World) : Prop := ∃ a c, ∃ ds : List IltD, e = .returned (.slice a n c) ∧ ds.length = n ∧ AltsI W' a c ds ∧ (∀ r (h : r < ds.length), Ris ds[r].l (P r)) ∧ Below w.heap.size w W'
theorem one_vs (w : World) (x : Int) : Ints (w.alloc (.cells #[.int .i64 x] 3)) (some ⟨w.heap.size, 0, none⟩) 1 [x] := lit_vs w [.int .i64 x] 3 (by simp)
end Go.Proofs.Ytldmgifphkpdlaa
namespace Go.Proofs.Ytldmgifphkpdlaa
open Go.RowKit Go.Maps
attribute [local go_sem] Oper.semAt_some
end Go.Proofs.Ytldmgifphkpdlaa
namespace Go.Proofs.Ytldmgifphkpdlaa
open Go.RowKit
theorem backR_mem (ts ns : List ByteArray) : ∀ (l : List ByteArray) (al : List (List (List Int))), l.length = al.length → ∀ a ∈ al, ∃ n, (n, a.map (fun x => x.map (nmP ts ns))) ∈ backR ts ns l al
 | [], [], _, a, ha => by cases ha
 | [], _ :: _, h, _, _ => by cases h
 | _ :: _, [], h, _, _ => by cases h
 | n :: l, b :: al, h, a, ha => by
  rcases List.mem_cons.1 ha with rfl | ha
  ·exact ⟨n, List.mem_cons_self ..⟩
  ·obtain ⟨m, hm⟩ := backR_mem ts ns l al (by simpa using h) a ha
   exact ⟨m, List.mem_cons_of_mem _ hm⟩
theorem backR_length (ts ns : List ByteArray) : ∀ (l : List ByteArray) (al : List (List (List Int))), l.length = al.length → (backR ts ns l al).length = al.length
 | [], [], _ => rfl
 | [], _ :: _, h => by cases h
 | _ :: _, [], h => by cases h
 | n :: l, b :: al, h => by
  show (backR ts ns l al).length + 1 = al.length + 1
  rw [backR_length ts ns l al (by simpa using h)]
theorem valid_fit {d : CfD} (h : validE d.p = 0) : FitC d := by
 unfold validE at h
 split at h
 ·next h1 =>
  split at h
  ·next h2 =>
   unfold backE at h1
   split at h1
   ·next h3 =>
    split at h1
    ·next h4 =>
     unfold numE at h2
     split at h2
     ·next h5 =>
      split at h2
      ·next h6 =>
       clear h h1 h2
       have e1 : d.p.alts = d.alts.map IrD.p := rfl
       have e2 : d.p.names = d.names := rfl
       have e3 : d.p.toks = d.toks := rfl
       rw [e1, e2] at h3
       rw [List.length_map] at h3
       have hl := backR_length d.toks d.names d.names (d.alts.map IrD.p) (by rw [List.length_map]; exact h3)
       rw [List.length_map] at hl
       unfold chkG at h5
       split at h5
       ·next h7 =>
        split at h5
        ·cases h5
        ·next h8 =>
         unfold mayG at h7
         rw [Bool.and_eq_true, decide_eq_true_eq] at h7
         have h9 := h7.2
         rw [Bool.not_eq_true] at h8
         unfold longG at h8
         rw [Bool.or_eq_false_iff, decide_eq_false_iff_not] at h8
         obtain ⟨h10, h11⟩ := h8
         unfold can backG at h9 h10 h11
         rw [List.length_map] at h9 h10
         rw [e1, e2, e3] at h9 h10 h11
         rw [hl] at h9 h10
         rw [List.any_eq_false] at h11
         have key : ∀ r ∈ d.alts, r.ds.length ≤ 30 ∧ ∀ x ∈ r.ds, x.l.length ≤ 30 := by
          intro r hr
          obtain ⟨n, hn⟩ := backR_mem d.toks d.names d.names (d.alts.map IrD.p) (by rw [List.length_map]; exact h3) r.p (List.mem_map_of_mem hr)
          have h12 := h11 _ (List.mem_map_of_mem (f := canR) hn)
          rw [Bool.not_eq_true] at h12
          unfold longR at h12
          rw [Bool.or_eq_false_iff, decide_eq_false_iff_not] at h12
          obtain ⟨h13, h14⟩ := h12
          have e4 : (canR (n, r.p.map (fun x => x.map (nmP d.toks d.names)))).ds.length = r.ds.length := by simp [canR, IrD.p]
          rw [e4] at h13
          refine ⟨by omega, fun x hx => ?_⟩
          rw [List.any_eq_false] at h14
          have h15 := h14 ⟨x.l.map (nmP d.toks d.names), none, 0⟩ (by
           unfold canR
           dsimp only
           refine List.mem_map.2 ⟨x.l.map (nmP d.toks d.names), List.mem_map.2 ⟨x.l, ?_, rfl⟩, rfl⟩
           exact List.mem_map.2 ⟨x, hx, rfl⟩)
          rw [Bool.not_eq_true] at h15
          unfold longA at h15
          rw [decide_eq_false_iff_not] at h15
          dsimp only at h15
          rw [List.length_map] at h15
          omega
         unfold ckT at h6
         split at h6
         ·split at h6
          ·cases h6
          ·next h16 =>
           rw [e3] at h16
           refine ⟨by omega, by omega, by omega, fun r hr => (key r hr).1, fun r hr x hx => ⟨(key r hr).2 x hx, ?_⟩⟩
           unfold numsB at h4
           rw [List.all_eq_true] at h4
           have h17 := h4 r.p (by rw [e1]; exact List.mem_map_of_mem hr)
           rw [List.all_eq_true] at h17
           have h18 := h17 x.l (List.mem_map.2 ⟨x, hx, rfl⟩)
           rw [List.all_eq_true] at h18
           intro y hy
           have h19 := okN_iff.1 (h18 y hy)
           rw [e2, e3, h3] at h19
           exact h19
         ·cases h6
       ·cases h5
      ·next h6 => exact absurd h2 h6
     ·next h5 => exact absurd h2 h5
    ·cases h1
   ·cases h1
  ·cases h
 ·cases h
end Go.Proofs.Ytldmgifphkpdlaa
namespace Go.Proofs.Ytldmgifphkpdlaa
open Go.RowKit
attribute [local go_sem] Oper.semAt_some
set_option maxRecDepth 100000 in
set_option maxHeartbeats 4000000 in
theorem refFewM_any (m9 : Nat) (hm9 : m9 ≤ 1000) (d : CfD) (w : World) (hd : CfAt w d) (hs : d.toks.length + d.names.length + szC (d.alts.map IrD.p) ≤ 1000000000000) :
 Calls Try.prog 49 #[d.v, .int .i64 (m9 : Int)] w fun e w' => e = .returned (.bool (decide (d.toks.length + d.names.length + szC (d.alts.map IrD.p) ≤ m9))) ∧ Below w.heap.size w w' := by
 obtain ⟨toks, dta, dtc, names, dna, dnc, al, daa, dac⟩ := d
 dsimp only [CfD.v] at hs ⊢
 have hA0 := Blk.new w 25 #[.slice dta toks.length dtc, .slice dna names.length dnc, .slice daa al.length dac]
 have hb0 : Below w.heap.size w (w.alloc (.cells #[.slice dta toks.length dtc, .slice dna names.length dnc, .slice daa al.length dac] 25)) := (Below.refl _ w).alloc (Nat.le_refl _) _
 have hRow := Lib.hid (hd.alts.grown hb0)
 have hRul := Lib.hid (fun r hr => (hd.rules r hr).grown hb0)
 have ham : al.length ≤ dac ∧ dac ≤ 9223372036854775807 := ⟨by have := hd.alts.le; rwa [List.length_map] at this, hd.alts.max⟩
 obtain ⟨S, hS⟩ : ∃ q, Hid (szC (al.map IrD.p) = q) := ⟨_, Lib.hid rfl⟩
 obtain ⟨R, hR⟩ : ∃ R : Nat → Nat, Hid ((fun k => szC ((al.map IrD.p).take k)) = R) := ⟨_, Lib.hid rfl⟩
 have hR0 : Hid (R 0 = 0) := Lib.hid (by rw [← hR.out]; rfl)
 have hRl : Hid (∀ k, R k ≤ S) := Lib.hid (fun k => by rw [← hR.out, ← hS.out]; exact szC_le _ k)
 have hRe : Hid (R al.length = S) := Lib.hid (by rw [← hR.out, ← hS.out]; show szC (List.take al.length (al.map IrD.p)) = _; rw [List.take_of_length_le (by simp)])
 have hRs : Hid (∀ k (h : k < al.length), R (k + 1) = R k + szJ al[k].p) := Lib.hid (fun k h => by
  rw [← hR.out]
  have := szC_take (al.map IrD.p) k (by simpa using h)
  rw [List.getElem_map] at this
  exact this)
 rw [hS.out] at hs ⊢
 obtain ⟨M, hM⟩ : ∃ q, Hid (toks.length = q) := ⟨_, Lib.hid rfl⟩
 obtain ⟨N, hN⟩ : ∃ q, Hid (names.length = q) := ⟨_, Lib.hid rfl⟩
 obtain ⟨A, hA⟩ : ∃ q, Hid (al.length = q) := ⟨_, Lib.hid rfl⟩
 rw [hM.out, hN.out, hA.out] at hA0 hb0 hRow hRul ⊢
 rw [hM.out, hN.out] at hs
 rw [hA.out] at ham hRe
 obtain ⟨B, hB⟩ : ∃ q, Hid (decide (M + N + S ≤ m9) = q) := ⟨_, Lib.hid rfl⟩
 rw [hB.out]
 have y0 := hA0.cell 0
 have y1 := hA0.cell 1
 have y2 := hA0.cell 2
 have yl := hA0.lt
 simp only [List.getElem?_cons_zero, List.getElem?_cons_succ] at y0 y1 y2
 clear hd hA0
 go_enter Try.func49, Try.ntmps49
 go_wp2_with (fail)
 generalize hV : World.alloc w _ = W at hRow hRul hb0 y0 y1 y2 yl ⊢
 clear hV y0 y1 y2 yl
 go_loopw [5, 20] (fun s iv wr => ∃ (k n : Nat), k ≤ A ∧ iv = .int .i64 (k : Int) ∧ s = .int .i64 (n : Int) ∧ Hid (n = M + N + R k) ∧ wr = W) (fun _ iv _ => A - (RowKit.intOf iv).toNat)
 case atStart => exact ⟨0, M + N, Nat.zero_le _, rfl, by go_num, Lib.hid (by rw [hR0.out]; rfl), rfl⟩
 case round =>
  obtain ⟨k, n, hk, rfl, rfl, Hn, hwr⟩ := hrel
  subst hwr
  have hnl : n ≤ 1000000000000 := by have := Hn.out; have := hRl.out k; omega
  by_cases hlt : k < A
  ·have hkI : (k : Int) < (A : Int) := by omega
   have hkI0 : (0 : Int) ≤ (k : Int) := by omega
   have hka : k < al.length := by rw [hA.out]; exact hlt
   obtain ⟨b2, o2, rfl⟩ := hRow.out.at_ k (by rw [List.length_map]; exact hka)
   have d0 := hRow.out.cell b2 o2 rfl k (by rw [List.length_map]; exact hka)
   rw [List.getElem_map] at d0
   have hIq := hRul.out _ (List.getElem_mem hka)
   have hst := hRs.out k hka
   obtain ⟨q, hq⟩ : ∃ v, Hid (al[k] = v) := ⟨_, Lib.hid rfl⟩
   rw [hq.out] at d0 hIq hst
   unfold IrD.v at d0
   obtain ⟨qds, qa, qc⟩ := q
   dsimp only at d0 hIq hst
   obtain ⟨E, hE⟩ : ∃ q, Hid (qds.length = q) := ⟨_, Lib.hid rfl⟩
   rw [hE.out] at d0
   have hem : E ≤ qc ∧ qc ≤ 9223372036854775807 := ⟨by have := hIq.row.le; rwa [List.length_map, hE.out] at this, hIq.row.max⟩
   obtain ⟨J, hJ⟩ : ∃ J : Nat → Nat, Hid ((fun j => n + szJ ((IrD.p ⟨qds, qa, qc⟩).take j)) = J) := ⟨_, Lib.hid rfl⟩
   have hJ0 : Hid (J 0 = n) := Lib.hid (by rw [← hJ.out]; rfl)
   have hpl : (IrD.p ⟨qds, qa, qc⟩).length = qds.length := by unfold IrD.p; simp
   have hJe : Hid (J E = M + N + R (k + 1)) := Lib.hid (by rw [← hJ.out]; show n + szJ (List.take E (IrD.p ⟨qds, qa, qc⟩)) = _; rw [List.take_of_length_le (by rw [hpl, hE.out]; exact Nat.le_refl _), hst, Hn.out]; omega)
   have hJl : Hid (∀ j, J j ≤ M + N + S) := Lib.hid (fun j => by
    have h1 := szJ_le (IrD.p ⟨qds, qa, qc⟩) j
    have h2 := hRl.out (k + 1)
    have h3 := Hn.out
    rw [← hJ.out]
    show n + szJ ((IrD.p ⟨qds, qa, qc⟩).take j) ≤ _
    omega)
   have hJs : Hid (∀ j (h : j < qds.length), J (j + 1) = J j + (1 + qds[j].l.length)) := Lib.hid (fun j h => by
    rw [← hJ.out]
    have h1 := szJ_take (IrD.p ⟨qds, qa, qc⟩) j (by rw [hpl]; exact h)
    have h2 : (IrD.p ⟨qds, qa, qc⟩)[j]'(by rw [hpl]; exact h) = qds[j].l := by simp [IrD.p]
    rw [h2] at h1
    show n + szJ ((IrD.p ⟨qds, qa, qc⟩).take (j + 1)) = n + szJ ((IrD.p ⟨qds, qa, qc⟩).take j) + (1 + qds[j].l.length)
    omega)
   have HI := Lib.hid hIq
   have hbl := World.block_lt_of_cell? _ _ d0
   clear hIq hst hpl
   go_wp2_with (fail)
   clear d0 hbl
   obtain ⟨W8, rfl⟩ : ∃ W8, W8 = wr := ⟨_, rfl⟩
   go_loopw [5, 26] (fun s iv wr => ∃ (j m : Nat), j ≤ E ∧ iv = .int .i64 (j : Int) ∧ s = .int .i64 (m : Int) ∧ Hid (m = J j) ∧ wr = W8) (fun _ iv _ => E - (RowKit.intOf iv).toNat)
   case atStart => exact ⟨0, n, Nat.zero_le _, rfl, rfl, Lib.hid hJ0.out.symm, rfl⟩
   case round =>
    obtain ⟨j, m, hj, rfl, rfl, Hm, hwr⟩ := hrel
    subst hwr
    have hml : m ≤ 1000000000000 := by have := Hm.out; have := hJl.out j; omega
    by_cases hlt2 : j < E
    ·have hjI : (j : Int) < (E : Int) := by omega
     have hjI0 : (0 : Int) ≤ (j : Int) := by omega
     have hje : j < qds.length := by rw [hE.out]; exact hlt2
     obtain ⟨b4, o4, rfl⟩ := HI.out.row.at_ j (by rw [List.length_map]; exact hje)
     have f0 := HI.out.row.cell b4 o4 rfl j (by rw [List.length_map]; exact hje)
     rw [List.getElem_map] at f0
     have hst := hJs.out j hje
     have hjb := hJl.out (j + 1)
     unfold IltD.v at f0
     obtain ⟨u, hu⟩ : ∃ q, Hid (qds[j].l.length = q) := ⟨_, Lib.hid rfl⟩
     rw [hu.out] at f0 hst
     generalize qds[j].a = ua at f0
     generalize qds[j].c = uc at f0
     have hbl := World.block_lt_of_cell? _ _ f0
     have hmu : m + (1 + u) ≤ M + N + S := by rw [hst, ← Hm.out] at hjb; exact hjb
     have Hst : Hid (m + (1 + u) = J (j + 1)) := Lib.hid (by rw [hst, Hm.out])
     clear hst hjb
     by_cases hbig : m9 < m + (1 + u)
     ·have hbI : (m9 : Int) < (m : Int) + (1 + (u : Int)) := by omega
      have hBf : Hid (B = false) := Lib.hid (by rw [← hB.out, decide_eq_false_iff_not]; omega)
      go_wp2_with (fail)
      exact bodyPost_ret (v := .bool false) (by simp [results, Try.results49, go_sem]; try first | rfl | assumption | omega) rfl ⟨by rw [hBf.out], hb0⟩
     ·have hbI : ¬ (m9 : Int) < (m : Int) + (1 + (u : Int)) := by omega
      go_wp2_with (fail)
      exact ⟨⟨j + 1, m + (1 + u), by omega, by go_num, by go_num, Hst, by first | rfl | trivial⟩, by simp [RowKit.intOf]; omega⟩
    ·obtain rfl : j = E := by omega
     have hjI : ¬ (j : Int) < (j : Int) := by omega
     go_wp2_with (fail)
     exact ⟨⟨k + 1, m, by omega, by go_num, rfl, Lib.hid (by rw [Hm.out, hJe.out]), by first | rfl | trivial⟩, by simp [RowKit.intOf]; omega⟩
  ·obtain rfl : k = A := by omega
   have hkI : ¬ (k : Int) < (k : Int) := by omega
   have hT : Hid (B = decide (n ≤ m9)) := Lib.hid (by rw [← hB.out, Hn.out, hRe.out])
   by_cases hle : n ≤ m9
   ·have hI : (n : Int) ≤ m9 := by omega
    have hBt : Hid (B = true) := Lib.hid (by rw [hT.out, decide_eq_true hle])
    go_wp2_with (fail)
    exact bodyPost_ret (v := .bool true) (by simp [results, Try.results49, go_sem]; try first | rfl | assumption | omega) rfl ⟨by rw [hBt.out], hb0⟩
   ·have hI : ¬ (n : Int) ≤ m9 := by omega
    have hBt : Hid (B = false) := Lib.hid (by rw [hT.out, decide_eq_false hle])
    go_wp2_with (fail)
    exact bodyPost_ret (v := .bool false) (by simp [results, Try.results49, go_sem]; try first | rfl | assumption | omega) rfl ⟨by rw [hBt.out], hb0⟩
end Go.Proofs.Ytldmgifphkpdlaa
namespace Go.Proofs.Ytldmgifphkpdlaa
open Go.RowKit Go.Maps
attribute [local go_sem] Oper.semAt_some
end Go.Proofs.Ytldmgifphkpdlaa
namespace Go.Proofs.Ytldmgifphkpdlaa
open Go.RowKit Go.Maps
attribute [local go_sem] Oper.semAt_some
set_option maxRecDepth 100000 in
set_option maxHeartbeats 16000000 in
theorem sameLists9_any (a b : Option Addr) (ac bc : Nat) (l m : List IltD) (w : World) (Hl : AltsI w a ac l) (Hm : AltsI w b bc m) :
 Calls Try.prog 18 #[.slice a l.length ac, .slice b m.length bc] w fun e w' => e = .returned (.bool (decide (l.map (fun x => x.l) = m.map (fun x => x.l)))) ∧ Below w.heap.size w w' := by
 have hl := Hl.row
 have hm := Hm.row
 have hle : l.length ≤ ac := by have := hl.le; rwa [List.length_map] at this
 have hmx := hl.max
 have hle2 : m.length ≤ bc := by have := hm.le; rwa [List.length_map] at this
 have hmx2 := hm.max
 obtain ⟨R, hR⟩ : ∃ R, Hid (decide (l.map (fun x => x.l) = m.map (fun x => x.l)) = R) := ⟨_, Lib.hid rfl⟩
 rw [hR.out]
 obtain ⟨L, HL⟩ : ∃ L, Hid (l.length = L) := ⟨_, Lib.hid rfl⟩
 obtain ⟨M, HM⟩ : ∃ L, Hid (m.length = L) := ⟨_, Lib.hid rfl⟩
 rw [HL.out] at hle ⊢
 rw [HM.out] at hle2 ⊢
 by_cases hLM : L = M
 ·subst hLM
  go_enter Try.func18, Try.ntmps18
  go_wp2_with (fail)
  go_loopw [5, 13] (fun _ i wr => ∃ (k : Nat), k ≤ L ∧ i = .int .i64 (k : Int) ∧ Hid ((l.map (fun x => x.l)).take k = (m.map (fun x => x.l)).take k) ∧ Below w.heap.size w wr) (fun _ i _ => L - (RowKit.intOf i).toNat)
  case atStart => exact ⟨0, by omega, rfl, Lib.hid rfl, Below.refl _ w⟩
  case round =>
   obtain ⟨k, hk, rfl, HR, hbr⟩ := hrel
   by_cases hlt : k < L
   ·have hkl : k < l.length := by rw [HL.out]; exact hlt
    have hkm : k < m.length := by rw [HM.out]; exact hlt
    have hkI : (k : Int) < (L : Int) := by omega
    have hkI0 : (0 : Int) ≤ (k : Int) := by omega
    obtain ⟨b1, o1, rfl⟩ := hl.at_ k (by rw [List.length_map]; exact hkl)
    obtain ⟨b2, o2, rfl⟩ := hm.at_ k (by rw [List.length_map]; exact hkm)
    have c0 := (hl.grown hbr).cell b1 o1 rfl k (by rw [List.length_map]; exact hkl)
    have d0 := (hm.grown hbr).cell b2 o2 rfl k (by rw [List.length_map]; exact hkm)
    rw [List.getElem_map] at c0 d0
    have Hx := Lib.hid ((Hl.nms _ (List.getElem_mem hkl)).grown hbr)
    have Hy := Lib.hid ((Hm.nms _ (List.getElem_mem hkm)).grown hbr)
    have hmore : Hid ((l.map (fun x => x.l)).take (k + 1) = (l.map (fun x => x.l)).take k ++ [l[k].l] ∧ (m.map (fun x => x.l)).take (k + 1) = (m.map (fun x => x.l)).take k ++ [m[k].l]) := Lib.hid ⟨by rw [List.take_add_one, List.getElem?_map, List.getElem?_eq_getElem hkl]; rfl, by rw [List.take_add_one, List.getElem?_map, List.getElem?_eq_getElem hkm]; rfl⟩
    have hne : Hid (l[k].l ≠ m[k].l → R = false) := Lib.hid (fun h => by
     rw [← hR.out]
     refine decide_eq_false (fun e => h ?_)
     have h1 := congrArg (fun q => q[k]?) e
     simpa [hkl, hkm] using h1)
    obtain ⟨x, hx⟩ : ∃ v, Hid (l[k] = v) := ⟨_, Lib.hid rfl⟩
    obtain ⟨y, hy⟩ : ∃ v, Hid (m[k] = v) := ⟨_, Lib.hid rfl⟩
    rw [hx.out] at c0 Hx hmore hne
    rw [hy.out] at d0 Hy hmore hne
    obtain ⟨s, sa, sc⟩ := x
    obtain ⟨t, ta, tc⟩ := y
    change _ = some (Value.slice sa s.length sc) at c0
    change _ = some (Value.slice ta t.length tc) at d0
    dsimp only at Hx Hy hmore hne
    have Hc := Lib.hid (fun W (hb : Below wr.heap.size wr W) => sameInts8_any sa ta sc tc s t W (Hx.out.grown hb) (Hy.out.grown hb))
    have Hbd := Lib.hid hbr.drew
    have HSc : Hid (wr.drew.cell? ⟨b1, o1 + k, none⟩ = some (.slice sa s.length sc) ∧ wr.drew.cell? ⟨b2, o2 + k, none⟩ = some (.slice ta t.length tc)) := Lib.hid ⟨c0, d0⟩
    have hbl1 := World.block_lt_of_cell? _ _ HSc.out.1
    have hbl2 := World.block_lt_of_cell? _ _ HSc.out.2
    have Hcd := Lib.hid (Hc.out wr.drew (Below.refl _ wr).drew)
    obtain ⟨q, hq⟩ : ∃ v, Hid (decide (s = t) = v) := ⟨_, Lib.hid rfl⟩
    rw [hq.out] at Hcd
    obtain ⟨SL, hSL⟩ : ∃ v, Hid (s.length = v) := ⟨_, Lib.hid rfl⟩
    obtain ⟨TL, hTL⟩ : ∃ v, Hid (t.length = v) := ⟨_, Lib.hid rfl⟩
    rw [hSL.out, hTL.out] at Hcd HSc
    clear c0 d0 hl hm hbr Hc Hx Hy Hl Hm
    cases q
    ·have hF := Lib.hid (hne.out (of_decide_eq_false hq.out))
     go_wp2_with (fail)
     refine wp_region_held_drew (S := fun w' => (w'.cell? ⟨b1, o1 + k, none⟩ = some (.slice sa SL sc) ∧ w'.cell? ⟨b2, o2 + k, none⟩ = some (.slice ta TL tc))) (by kernel_rfl) ?_ (fun hHeld => ?_)
     ·exact HSc.out
     refine wpAnyH_take (i := 0) (v := ?_) (iatLS iatZS) (by kernel_rfl) (by kernel_rfl) (by kernel_rfl) (fun _ _ _ h => h) (Or.inl ⟨by rfl, ?_⟩) (by assumption) ?_
     rotate_left
     ·intro w hSw
      try dsimp only at hSw
      go_simp
      all_goals with_reducible rfl
     try simp only [Act.put, List.setIfInBounds_toArray, List.set_cons_zero, List.set_cons_succ]
     refine wpAnyH_take (i := 1) (v := ?_) (iatLS (iatSS iatZS)) (by kernel_rfl) (by kernel_rfl) (by kernel_rfl) (fun _ _ _ h => h) (Or.inl ⟨by rfl, ?_⟩) (by assumption) ?_
     rotate_left
     ·intro w hSw
      try dsimp only at hSw
      go_simp
      all_goals with_reducible rfl
     try simp only [Act.put, List.setIfInBounds_toArray, List.set_cons_zero, List.set_cons_succ]
     refine wpAnyH_take (i := 2) (v := ?_) (iatLS (iatSS (iatSS iatZS))) (by kernel_rfl) (by kernel_rfl) (by kernel_rfl) (fun _ _ _ h => h) (Or.inl ⟨by rfl, ?_⟩) (by assumption) ?_
     rotate_left
     ·intro w hSw
      try dsimp only at hSw
      go_simp
      all_goals with_reducible rfl
     try simp only [Act.put, List.setIfInBounds_toArray, List.set_cons_zero, List.set_cons_succ]
     refine wpAnyH_take (i := 3) (v := ?_) (iatLS (iatSS (iatSS (iatSS iatZS)))) (by kernel_rfl) (by kernel_rfl) (by kernel_rfl) (fun _ _ _ h => h) (Or.inl ⟨by rfl, ?_⟩) (by assumption) ?_
     rotate_left
     ·intro w hSw
      try dsimp only at hSw
      go_simp
      all_goals with_reducible rfl
     try simp only [Act.put, List.setIfInBounds_toArray, List.set_cons_zero, List.set_cons_succ]
     refine wpAnyH_take (i := 4) (v := ?_) (iatLS (iatSS (iatSS (iatSS (iatSS iatZS))))) (by kernel_rfl) (by kernel_rfl) (by kernel_rfl) (fun _ _ _ h => h) (Or.inl ⟨by rfl, ?_⟩) (by assumption) ?_
     rotate_left
     ·intro w hSw
      try dsimp only at hSw
      go_simp
      all_goals with_reducible rfl
     try simp only [Act.put, List.setIfInBounds_toArray, List.set_cons_zero, List.set_cons_succ]
     refine wpAnyH_take (i := 5) (v := ?_) (iatLS (iatSS (iatSS (iatSS (iatSS (iatSS iatZS)))))) (by kernel_rfl) (by kernel_rfl) (by kernel_rfl) (fun _ _ _ h => h) (Or.inl ⟨by rfl, ?_⟩) (by assumption) ?_
     rotate_left
     ·intro w hSw
      try dsimp only at hSw
      go_simp
      all_goals with_reducible rfl
     try simp only [Act.put, List.setIfInBounds_toArray, List.set_cons_zero, List.set_cons_succ]
     refine wpAnyH_take (i := 6) (v := ?_) (iatLS (iatSS (iatSS (iatSS (iatSS (iatSS (iatSS iatZS))))))) (by kernel_rfl) (by kernel_rfl) (by kernel_rfl) (fun _ _ _ h => h) (Or.inl ⟨by rfl, ?_⟩) (by assumption) ?_
     rotate_left
     ·intro w hSw
      try dsimp only at hSw
      go_simp
      all_goals with_reducible rfl
     try simp only [Act.put, List.setIfInBounds_toArray, List.set_cons_zero, List.set_cons_succ]
     refine wpAnyH_take (i := 7) (v := ?_) (iatLS (iatSS (iatSS (iatSS (iatSS (iatSS (iatSS (iatSS iatZS)))))))) (by kernel_rfl) (by kernel_rfl) (by kernel_rfl) (fun _ _ _ h => h) (Or.inl ⟨by rfl, ?_⟩) (by assumption) ?_
     rotate_left
     ·intro w hSw
      try dsimp only at hSw
      go_simp
      all_goals with_reducible rfl
     try simp only [Act.put, List.setIfInBounds_toArray, List.set_cons_zero, List.set_cons_succ]
     refine wpAnyH_ready (rs := [8]) (by kernel_rfl) (by simp) ?_
     refine AllReadyH.cons (iatLS (iatSS (iatSS (iatSS (iatSS (iatSS (iatSS (iatSS (iatSS iatZS))))))))) (fun K hK => ?_) AllReadyH.nil
     go_simp
     (with_reducible refine Hcd.out.mono ?_)
     rintro e6 W6 ⟨rfl, hb6⟩
     have HS6 : Hid (W6.cell? ⟨b1, o1 + k, none⟩ = some (.slice sa SL sc) ∧ W6.cell? ⟨b2, o2 + k, none⟩ = some (.slice ta TL tc)) := Lib.hid ⟨(hb6.cell (p := ⟨b1, o1 + k, none⟩) hbl1).trans HSc.out.1, (hb6.cell (p := ⟨b2, o2 + k, none⟩) hbl2).trans HSc.out.2⟩
     have Hb6 := Lib.hid (Hbd.out.trans (hb6.mono Hbd.out.size))
     clear hb6
     try dsimp only
     refine hK.out _ _ ?_ (fun hHeld => ?_)
     ·exact HS6.out
     clear hK K
     try simp only [Act.put, List.setIfInBounds_toArray, List.set_cons_zero, List.set_cons_succ]
     refine wpAnyH_take (i := 9) (v := ?_) (iatLS (iatSS (iatSS (iatSS (iatSS (iatSS (iatSS (iatSS (iatSS (iatSS iatZS)))))))))) (by kernel_rfl) (by kernel_rfl) (by kernel_rfl) (fun _ _ _ h => h) (Or.inl ⟨by rfl, ?_⟩) (by assumption) ?_
     rotate_left
     ·intro w hSw
      try dsimp only at hSw
      go_simp
      all_goals with_reducible rfl
     try simp only [Act.put, List.setIfInBounds_toArray, List.set_cons_zero, List.set_cons_succ]
     refine wpAnyH_done (by kernel_rfl) ?_ _
     go_wp2_with (fail)
     exact bodyPost_ret (v := .bool false) (by simp [results, Try.results18, go_sem]; try first | rfl | assumption | omega) rfl ⟨by rw [hF.out], Hb6.out⟩
    ·have e1 := of_decide_eq_true hq.out
     have hmore2 : Hid ((l.map (fun x => x.l)).take (k + 1) = (m.map (fun x => x.l)).take (k + 1)) := Lib.hid (by rw [hmore.out.1, hmore.out.2, HR.out, e1])
     clear e1
     go_wp2_with (fail)
     refine wp_region_held_drew (S := fun w' => (w'.cell? ⟨b1, o1 + k, none⟩ = some (.slice sa SL sc) ∧ w'.cell? ⟨b2, o2 + k, none⟩ = some (.slice ta TL tc))) (by kernel_rfl) ?_ (fun hHeld => ?_)
     ·exact HSc.out
     refine wpAnyH_take (i := 0) (v := ?_) (iatLS iatZS) (by kernel_rfl) (by kernel_rfl) (by kernel_rfl) (fun _ _ _ h => h) (Or.inl ⟨by rfl, ?_⟩) (by assumption) ?_
     rotate_left
     ·intro w hSw
      try dsimp only at hSw
      go_simp
      all_goals with_reducible rfl
     try simp only [Act.put, List.setIfInBounds_toArray, List.set_cons_zero, List.set_cons_succ]
     refine wpAnyH_take (i := 1) (v := ?_) (iatLS (iatSS iatZS)) (by kernel_rfl) (by kernel_rfl) (by kernel_rfl) (fun _ _ _ h => h) (Or.inl ⟨by rfl, ?_⟩) (by assumption) ?_
     rotate_left
     ·intro w hSw
      try dsimp only at hSw
      go_simp
      all_goals with_reducible rfl
     try simp only [Act.put, List.setIfInBounds_toArray, List.set_cons_zero, List.set_cons_succ]
     refine wpAnyH_take (i := 2) (v := ?_) (iatLS (iatSS (iatSS iatZS))) (by kernel_rfl) (by kernel_rfl) (by kernel_rfl) (fun _ _ _ h => h) (Or.inl ⟨by rfl, ?_⟩) (by assumption) ?_
     rotate_left
     ·intro w hSw
      try dsimp only at hSw
      go_simp
      all_goals with_reducible rfl
     try simp only [Act.put, List.setIfInBounds_toArray, List.set_cons_zero, List.set_cons_succ]
     refine wpAnyH_take (i := 3) (v := ?_) (iatLS (iatSS (iatSS (iatSS iatZS)))) (by kernel_rfl) (by kernel_rfl) (by kernel_rfl) (fun _ _ _ h => h) (Or.inl ⟨by rfl, ?_⟩) (by assumption) ?_
     rotate_left
     ·intro w hSw
      try dsimp only at hSw
      go_simp
      all_goals with_reducible rfl
     try simp only [Act.put, List.setIfInBounds_toArray, List.set_cons_zero, List.set_cons_succ]
     refine wpAnyH_take (i := 4) (v := ?_) (iatLS (iatSS (iatSS (iatSS (iatSS iatZS))))) (by kernel_rfl) (by kernel_rfl) (by kernel_rfl) (fun _ _ _ h => h) (Or.inl ⟨by rfl, ?_⟩) (by assumption) ?_
     rotate_left
     ·intro w hSw
      try dsimp only at hSw
      go_simp
      all_goals with_reducible rfl
     try simp only [Act.put, List.setIfInBounds_toArray, List.set_cons_zero, List.set_cons_succ]
     refine wpAnyH_take (i := 5) (v := ?_) (iatLS (iatSS (iatSS (iatSS (iatSS (iatSS iatZS)))))) (by kernel_rfl) (by kernel_rfl) (by kernel_rfl) (fun _ _ _ h => h) (Or.inl ⟨by rfl, ?_⟩) (by assumption) ?_
     rotate_left
     ·intro w hSw
      try dsimp only at hSw
      go_simp
      all_goals with_reducible rfl
     try simp only [Act.put, List.setIfInBounds_toArray, List.set_cons_zero, List.set_cons_succ]
     refine wpAnyH_take (i := 6) (v := ?_) (iatLS (iatSS (iatSS (iatSS (iatSS (iatSS (iatSS iatZS))))))) (by kernel_rfl) (by kernel_rfl) (by kernel_rfl) (fun _ _ _ h => h) (Or.inl ⟨by rfl, ?_⟩) (by assumption) ?_
     rotate_left
     ·intro w hSw
      try dsimp only at hSw
      go_simp
      all_goals with_reducible rfl
     try simp only [Act.put, List.setIfInBounds_toArray, List.set_cons_zero, List.set_cons_succ]
     refine wpAnyH_take (i := 7) (v := ?_) (iatLS (iatSS (iatSS (iatSS (iatSS (iatSS (iatSS (iatSS iatZS)))))))) (by kernel_rfl) (by kernel_rfl) (by kernel_rfl) (fun _ _ _ h => h) (Or.inl ⟨by rfl, ?_⟩) (by assumption) ?_
     rotate_left
     ·intro w hSw
      try dsimp only at hSw
      go_simp
      all_goals with_reducible rfl
     try simp only [Act.put, List.setIfInBounds_toArray, List.set_cons_zero, List.set_cons_succ]
     refine wpAnyH_ready (rs := [8]) (by kernel_rfl) (by simp) ?_
     refine AllReadyH.cons (iatLS (iatSS (iatSS (iatSS (iatSS (iatSS (iatSS (iatSS (iatSS iatZS))))))))) (fun K hK => ?_) AllReadyH.nil
     go_simp
     (with_reducible refine Hcd.out.mono ?_)
     rintro e6 W6 ⟨rfl, hb6⟩
     have HS6 : Hid (W6.cell? ⟨b1, o1 + k, none⟩ = some (.slice sa SL sc) ∧ W6.cell? ⟨b2, o2 + k, none⟩ = some (.slice ta TL tc)) := Lib.hid ⟨(hb6.cell (p := ⟨b1, o1 + k, none⟩) hbl1).trans HSc.out.1, (hb6.cell (p := ⟨b2, o2 + k, none⟩) hbl2).trans HSc.out.2⟩
     have Hb6 := Lib.hid (Hbd.out.trans (hb6.mono Hbd.out.size))
     clear hb6
     try dsimp only
     refine hK.out _ _ ?_ (fun hHeld => ?_)
     ·exact HS6.out
     clear hK K
     try simp only [Act.put, List.setIfInBounds_toArray, List.set_cons_zero, List.set_cons_succ]
     refine wpAnyH_take (i := 9) (v := ?_) (iatLS (iatSS (iatSS (iatSS (iatSS (iatSS (iatSS (iatSS (iatSS (iatSS iatZS)))))))))) (by kernel_rfl) (by kernel_rfl) (by kernel_rfl) (fun _ _ _ h => h) (Or.inl ⟨by rfl, ?_⟩) (by assumption) ?_
     rotate_left
     ·intro w hSw
      try dsimp only at hSw
      go_simp
      all_goals with_reducible rfl
     try simp only [Act.put, List.setIfInBounds_toArray, List.set_cons_zero, List.set_cons_succ]
     refine wpAnyH_done (by kernel_rfl) ?_ _
     go_wp2_with (fail)
     exact ⟨⟨k + 1, by omega, by go_num, hmore2, Hb6.out⟩, by simp [RowKit.intOf]; omega⟩
   ·obtain rfl : k = L := by omega
    have hkI : ¬ (k : Int) < (k : Int) := by omega
    have hT : Hid (R = true) := Lib.hid (by rw [← hR.out]; exact decide_eq_true (by have := HR.out; rwa [List.take_of_length_le (by simp [HL.out]), List.take_of_length_le (by simp [HM.out])] at this))
    go_wp2_with (fail)
    exact bodyPost_ret (v := .bool true) (by simp [results, Try.results18, go_sem]; try first | rfl | assumption | omega) rfl ⟨by rw [hT.out], hbr⟩
 ·have hF : Hid (R = false) := Lib.hid (by rw [← hR.out]; exact decide_eq_false (fun e => hLM (by have := congrArg List.length e; (try simp only [List.length_map] at this); exact HL.out.symm.trans (this.trans HM.out))))
  have hne : ((L : Int) != (M : Int)) = true := by rw [bne_iff_ne]; omega
  clear hLM
  go_enter Try.func18, Try.ntmps18
  go_wp2_with (fail)
  exact bodyPost_ret (v := .bool false) (by simp [results, Try.results18, go_sem]; try first | rfl | assumption | omega) rfl ⟨by rw [hF.out], Below.refl _ _⟩
end Go.Proofs.Ytldmgifphkpdlaa
namespace Go.Proofs.Ytldmgifphkpdlaa
def e9C : List (List (List Int)) := [[[0, -1, 1], []]]
theorem e9C_out (r : Nat) (h : 1 ≤ r) : e9C.getD r [] = [] := by
 obtain ⟨r, rfl⟩ : ∃ q, r = q + 1 := ⟨r - 1, by omega⟩
 rfl
theorem e9C_nul : nulB e9C = fun r => decide (r = 0) := by
 funext r
 by_cases h : r = 0
 ·subst h
  rw [decide_eq_true rfl]
  exact (nul_iff (by decide)).2 ⟨[], by decide, rfl⟩
 ·rw [decide_eq_false h]
  cases e : nulB e9C r
  ·rfl
  ·have := nulB_lt e
   simp [e9C] at this
   omega
theorem ris_2 (x y : Int) (hxy : x < y) (P : Int → Prop) (h : ∀ t, P t ↔ t = x ∨ t = y) : Ris [x, y] P := ⟨by simp [hxy], fun t => by rw [h]; simp⟩
theorem e9C_alt {r : Nat} {a : List Int} (h : a ∈ e9C.getD r []) : r = 0 ∧ (a = [0, -1, 1] ∨ a = []) := by
 by_cases e : r = 0
 ·subst e
  exact ⟨rfl, by simpa [e9C] using h⟩
 ·rw [e9C_out r (by omega)] at h
  cases h
theorem at3 {a b c : Int} {i : Nat} {x : Int} (h : [a, b, c][i]? = some x) : (i = 0 ∧ x = a) ∨ (i = 1 ∧ x = b) ∨ (i = 2 ∧ x = c) := by
 match i, h with
 | 0, h => exact .inl ⟨rfl, by simpa using h.symm⟩
 | 1, h => exact .inr (.inl ⟨rfl, by simpa using h.symm⟩)
 | 2, h => exact .inr (.inr ⟨rfl, by simpa using h.symm⟩)
 | i + 3, h => simp at h
theorem e9C_fol : Ris [1, 2] (FolP e9C (nulB e9C) 2 0) := by
 rw [e9C_nul]
 have key : ∀ {s r : Nat} {a : List Int} {i : Nat}, a ∈ e9C.getD r [] → a[i]? = some (-1 - (s : Int)) → s = 0 ∧ r = 0 ∧ a.drop (i + 1) = [1] := by
  intro s r a i ha hi
  obtain ⟨rfl, rfl | rfl⟩ := e9C_alt ha
  ·rcases at3 hi with ⟨rfl, e⟩ | ⟨rfl, e⟩ | ⟨rfl, e⟩
   ·omega
   ·exact ⟨by omega, rfl, rfl⟩
   ·omega
  ·simp at hi
 refine ris_2 _ _ (by omega) _ fun t => ⟨fun h => ?_, fun h => ?_⟩
 ·refine fol_all (F := fun _ t => t = 1 ∨ t = 2) (.inr rfl) (fun s r a i hr ha hi t ht => ?_) (fun s r hl t ht => ht) h
  obtain ⟨rfl, rfl, e⟩ := key ha hi
  rw [e, show ahd (fun r => decide (r = 0)) [1] = [1] by simp [ahd]] at ht
  exact .inl (tok_tok (by omega) ht)
 ·rcases h with rfl | rfl
  ·exact fol_beh (r := 0) (a := [0, -1, 1]) (i := 1) (by decide) (by simp [e9C]) rfl (by rw [show ahd (fun r => decide (r = 0)) (List.drop (1 + 1) [0, -1, 1]) = [1] by simp [ahd]]; exact tok_self (by omega))
  ·exact fol_end
end Go.Proofs.Ytldmgifphkpdlaa
