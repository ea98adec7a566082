/- Texts joined: Sj Ji Jl Jm Jw Jn. -/
import Derived.Ground.NamesProg
import Derived.Shelf.Sort.Plain
import Derived.Shelf.Slices.In.SortNone
import Derived.Test.YtldmgifphkpdlaaProg
import Derived.Test.YtldmgifphkpdlaaRHAn
import Derived.Lib.SlKeysI
import Derived.Test.YtldmgifphkpdlaaRHAi
import Derived.Laws.CopyRow
import Derived.Test.YtldmgifphkpdlaaRHAg
set_option linter.unusedVariables false
set_option linter.unusedSimpArgs false
namespace Go.Proofs
open Go.Shelf
def Try.laysSort_ren : Go.Shelf.Ren := ⟨fun | 189 => 100 | 125 => 121 | 257 => 120 | 128 => 139 | 129 => 140 | 294 => 130 | 295 => 131 | 296 => 132 | 297 => 133 | 298 => 134 | 299 => 135 | 216 => 136 | 300 => 137 | 301 => 138 | 328 => 144 | 329 => 145 | 330 => 146 | 331 => 147 | 332 => 148 | 215 => 149 | 343 => 154 | n => n, fun | 28 => 35 | 3 => 3 | 46 => 127 | 0 => 0 | 51 => 157 | 53 => 160 | 4 => 4 | 183 => 173 | 182 => 172 | 131 => 178 | 5 => 5 | 9 => 9 | 218 => 184 | 222 => 188 | 228 => 193 | 229 => 194 | n => n, fun | n => n⟩
theorem Try.laysSort : Go.Proofs.Lays.n189 Try.prog Try.laysSort_ren := {
  mixed := by kernel_rfl
  f125 := Try.func121.trans (congrArg some (by kernel_rfl))
  f128 := Try.func139.trans (congrArg some (by kernel_rfl))
  f129 := Try.func140.trans (congrArg some (by kernel_rfl))
  f189 := Try.func100.trans (congrArg some (by kernel_rfl))
  f215 := Try.func149.trans (congrArg some (by kernel_rfl))
  f216 := Try.func136.trans (congrArg some (by kernel_rfl))
  f257 := Try.func120.trans (congrArg some (by kernel_rfl))
  f294 := Try.func130.trans (congrArg some (by kernel_rfl))
  f295 := Try.func131.trans (congrArg some (by kernel_rfl))
  f296 := Try.func132.trans (congrArg some (by kernel_rfl))
  f297 := Try.func133.trans (congrArg some (by kernel_rfl))
  f298 := Try.func134.trans (congrArg some (by kernel_rfl))
  f299 := Try.func135.trans (congrArg some (by kernel_rfl))
  f300 := Try.func137.trans (congrArg some (by kernel_rfl))
  f301 := Try.func138.trans (congrArg some (by kernel_rfl))
  f328 := Try.func144.trans (congrArg some (by kernel_rfl))
  f329 := Try.func145.trans (congrArg some (by kernel_rfl))
  f330 := Try.func146.trans (congrArg some (by kernel_rfl))
  f331 := Try.func147.trans (congrArg some (by kernel_rfl))
  f332 := Try.func148.trans (congrArg some (by kernel_rfl))
  f343 := Try.func154.trans (congrArg some (by kernel_rfl))
  t0 := Try.underlying0
  a0 := Try.isAgg0
  z0 := Try.sizeOf0
  v0 := Try.zeroValue0
  t3 := Try.underlying3
  a3 := Try.isAgg3
  z3 := Try.sizeOf3
  v3 := Try.zeroValue3
  t4 := Try.underlying4
  a4 := Try.isAgg4
  z4 := Try.sizeOf4
  v4 := Try.zeroValue4
  t5 := Try.underlying5
  a5 := Try.isAgg5
  z5 := Try.sizeOf5
  v5 := Try.zeroValue5
  t9 := Try.underlying9
  a9 := Try.isAgg9
  z9 := Try.sizeOf9
  v9 := Try.zeroValue9
  t28 := Try.underlying35
  a28 := Try.isAgg35
  z28 := Try.sizeOf35
  v28 := Try.zeroValue35
  t46 := Try.underlying127
  a46 := Try.isAgg127
  z46 := Try.sizeOf127
  v46 := Try.zeroValue127
  t51 := Try.underlying157
  a51 := Try.isAgg157
  z51 := Try.sizeOf157
  v51 := Try.zeroValue157
  t53 := Try.underlying160
  a53 := Try.isAgg160
  z53 := Try.sizeOf160
  v53 := Try.zeroValue160
  t131 := Try.underlying178
  a131 := Try.isAgg178
  z131 := Try.sizeOf178
  v131 := Try.zeroValue178
  t182 := Try.underlying172
  a182 := Try.isAgg172
  z182 := Try.sizeOf172
  v182 := Try.zeroValue172
  t183 := Try.underlying173
  a183 := Try.isAgg173
  z183 := Try.sizeOf173
  v183 := Try.zeroValue173
  t218 := Try.underlying184
  a218 := Try.isAgg184
  z218 := Try.sizeOf184
  v218 := Try.zeroValue184
  t222 := Try.underlying188
  a222 := Try.isAgg188
  z222 := Try.sizeOf188
  v222 := Try.zeroValue188
  t228 := Try.underlying193
  a228 := Try.isAgg193
  z228 := Try.sizeOf193
  v228 := Try.zeroValue193
  t229 := Try.underlying194
  a229 := Try.isAgg194
  z229 := Try.sizeOf194
  v229 := Try.zeroValue194 }
end Go.Proofs

namespace Go.Proofs.Ytldmgifphkpdlaa
open Go.RowKit Go.Maps Go.WideMaps Go.Sort Go.Shelf

/-- A rising list of just the numbers that are meant. -/
structure Ris (l : List Int) (P : Int → Prop) : Prop where
  up : l.Pairwise (· < ·)
  mem : ∀ x, x ∈ l ↔ P x
theorem ris_same : ∀ {l m : List Int}, l.Pairwise (· < ·) → m.Pairwise (· < ·) → (∀ x, x ∈ l ↔ x ∈ m) → l = m
  | [], [], _, _, _ => rfl
  | [], y :: m, _, _, h => by have := (h y).2 (by simp); cases this
  | x :: l, [], _, _, h => by have := (h x).1 (by simp); cases this
  | x :: l, y :: m, hl, hm, h => by
    rw [List.pairwise_cons] at hl hm
    have e : x = y := by
      have h1 := (h x).1 (by simp)
      have h2 := (h y).2 (by simp)
      rcases List.mem_cons.1 h1 with h1 | h1
      · exact h1
      · rcases List.mem_cons.1 h2 with h2 | h2
        · exact h2.symm
        · have := hm.1 x h1
          have := hl.1 y h2
          omega
    subst e
    congr 1
    refine ris_same hl.2 hm.2 (fun z => ⟨fun hz => ?_, fun hz => ?_⟩)
    · rcases List.mem_cons.1 ((h z).1 (List.mem_cons_of_mem _ hz)) with e | h1
      · have := hl.1 z hz
        omega
      · exact h1
    · rcases List.mem_cons.1 ((h z).2 (List.mem_cons_of_mem _ hz)) with e | h1
      · have := hm.1 z hz
        omega
      · exact h1
theorem Ris.same {l m : List Int} {P Q : Int → Prop} (hl : Ris l P) (hm : Ris m Q) (h : ∀ x, P x ↔ Q x) : l = m :=
  ris_same hl.up hm.up (fun x => (hl.mem x).trans ((h x).trans (hm.mem x).symm))
theorem ris_sort {l : List Int} (hn : l.Nodup) : (l.mergeSort (fun x y => decide (x ≤ y))).Pairwise (· < ·) := by
  have h1 : (l.mergeSort (fun x y => decide (x ≤ y))).Pairwise (fun x y => decide (x ≤ y) = true) := List.pairwise_mergeSort (fun a b c h1 h2 => by simp at *; omega) (fun a b => by simp; omega) l
  have h2 : (l.mergeSort (fun x y => decide (x ≤ y))).Nodup := (List.mergeSort_perm l _).nodup_iff.2 hn
  refine (h1.and h2).imp ?_
  rintro a b ⟨h3, h4⟩
  simp at h3
  omega
theorem set_keys {W : World} {b n : Nat} {D : DataW Unit} (h : W.ownsMap Try.prog 3 unitElem b n D) : (intKeys D).Nodup ∧ ∀ x, x ∈ intKeys D ↔ has D (.int .i64 x) = true := by
  obtain ⟨es, hD, hpw, _⟩ := h.entries int_law
  obtain ⟨es', hD', hko⟩ := h.keysOf
  obtain rfl : es = es' := by rw [hD] at hD'; simpa using hD'
  subst hD
  have hk : ∀ p ∈ es, ∃ x, p.1 = .int .i64 x := fun p hp => by
    obtain ⟨v, hv⟩ := hko p hp
    obtain ⟨x, _, hx, _⟩ := Maps.keyOf_i64 Try.underlying3 hv
    exact ⟨x, hx⟩
  constructor
  · unfold intKeys List.Nodup
    rw [List.pairwise_map]
    refine hpw.imp_of_mem ?_
    intro p q hp hq hne e
    obtain ⟨x, hx⟩ := hk p hp
    obtain ⟨y, hy⟩ := hk q hq
    rw [hx, hy] at e hne
    exact hne (by rw [show x = y from e])
  · intro x
    unfold intKeys
    rw [has_eq, List.any_eq_true, List.mem_map]
    constructor
    · rintro ⟨p, hp, rfl⟩
      obtain ⟨y, hy⟩ := hk p hp
      exact ⟨p, hp, by rw [hy]; simp [Go.Lit.sameKey, Go.intOf]⟩
    · rintro ⟨p, hp, hs⟩
      obtain ⟨y, hy⟩ := hk p hp
      rw [hy] at hs
      exact ⟨p, hp, by rw [hy]; simpa [Go.Lit.sameKey, Go.intOf] using hs⟩
/-- slices.Sort's two contracts, at the fence that asks nothing. -/
theorem sortsZ (m : Nat) : AnyZI.SortsIn Try.prog Try.sortedZ_ren Fence.wide m :=
  ⟨fun blk off cap ss W hH hblk hsz => callsIn_wide.2 (Any.slices_Sort_int Try.laysSort blk off cap ss W hH hblk hsz),
   fun p cap W => callsIn_wide.2 (Any.slices_Sort_int_none Try.laysSort p cap W)⟩
/-- What ordered answers. -/
def OrdQ (w : World) (M : Int → Bool) (e : Ending) (W' : World) : Prop := ∃ a c l, e = .returned (.slice a l.length c) ∧ Ris l (fun x => M x = true) ∧ OwnKZ W' w.heap.size a c l ∧ Below w.heap.size w W'

set_option maxRecDepth 100000 in
set_option maxHeartbeats 4000000 in
theorem ordered_any (b n : Nat) (M : Int → Bool) (w : World) (h : SetZ w b n M) (hn : n ≤ 10000000000000) : Calls Try.prog 63 #[.map (some b)] w (OrdQ w M) := by
  obtain ⟨D0, hown, hmap, hM⟩ := h
  have hmax : Maps.size D0 ≤ maxLen := Nat.le_trans hown.size_le (by unfold maxLen; omega)
  have hbytes : Maps.size D0 * 8 ≤ 140737488355328 := by have := hown.size_le; omega
  refine (callsIn_wide (n := 6)).1 ?_
  have hbl := hown.lt
  have hseq : SeqGives Fence.wide 2 Try.prog 116 #[.pointer (some ⟨w.heap.size, 0, none⟩)] encZ (fun ss => ss.Perm (intKeys D0)) (Maps.size D0) (w.alloc (.cells #[.map (some b)] 79)) :=
    AnyZI.keys_gives (ρ := Try.keysZ_ren) { Try.keysZ with } Fence.wide _ trivial rfl (by omega) w.heap.size b n D0 _ (by simp) (by simp) (by
      obtain ⟨es, clock, hb, Ft, hs, hD⟩ := hown
      exact ⟨es, clock, (Below.heap_alloc _ _ b hbl).trans hb, Ft, hs, hD⟩)
  have cK : ∀ mb W, CallsIn Fence.wide 5 Try.prog 96 #[.map mb] W fun e w' => e = .returned (.func (.func 116) #[] #[.pointer (some ⟨W.heap.size, 0, none⟩)]) ∧ w' = W.alloc (.cells #[.map mb] 79) := fun mb W => AnyZI.keys_in Try.keysZ Fence.wide 5 trivial rfl mb W
  have cS := AnyZI.sorted_in Try.sortedZ Fence.wide 5 trivial trivial trivial trivial rfl (by omega) (sortsZ _) (enters_of Try.func100 (by kernel_rfl) rfl) 116 #[.pointer (some ⟨w.heap.size, 0, none⟩)] trivial (enters_of Try.func116 (by kernel_rfl) rfl) _ _ hmax hbytes _ hseq
  change CallsIn _ _ Try.prog 95 _ _ _ at cS
  have hfK : Fence.wide.fn 96 := trivial
  have hfS : Fence.wide.fn 95 := trivial
  obtain ⟨hk1, hk2⟩ := set_keys hown
  refine callsIn_of_wp Try.func63 rfl trivial ?_ rfl
  simp only [Try.ntmps63, List.size_toArray, List.length_cons, List.length_nil, Nat.reduceAdd, Nat.reduceSub, Array.replicate_succ, Array.replicate_zero, List.push_toArray, List.append_toArray, List.nil_append, List.cons_append]
  gi_wp2_with (first
    | (gi_at_call 96; refine (cK _ _).mono ?_; rintro e w' ⟨rfl, rfl⟩)
    | (gi_at_call 95; refine cS.mono ?_; rintro e w' ⟨v, ss, rfl, hS, hrow, hnil, hb⟩))
  go_ret
  have hs1 : (ss.mergeSort (fun x y => decide (x ≤ y))).length = ss.length := by simp
  have hrow2 := ownsRow_base_a hrow (show w.heap.size ≤ _ by simp)
  obtain ⟨a, c, rfl⟩ := slice_of_own hrow2
  have hris : Ris (ss.mergeSort (fun x y => decide (x ≤ y))) (fun x => M x = true) := ⟨ris_sort (hS.nodup_iff.2 hk1), fun x => by
    rw [(List.mergeSort_perm ss _).mem_iff, hS.mem_iff, hk2, hM]⟩
  exact ⟨a, c, _, by rw [hs1]; rfl, hris, by unfold OwnKZ; rw [hs1]; exact hrow2, ((Below.refl _ w).alloc (Nat.le_refl _) _).trans (hb.mono (by simp))⟩
end Go.Proofs.Ytldmgifphkpdlaa

namespace Go.Proofs.Ytldmgifphkpdlaa
open Go.RowKit Go.Maps

attribute [local go_sem] Oper.semAt_some

/-- Numbers that are not far. -/
def nearU (n : Nat) : List Int := (List.range 300).map (fun i : Nat => (i : Int) - (n : Int))
theorem nearU_mem {n : Nat} {x : Int} : x ∈ nearU n ↔ -(n : Int) ≤ x ∧ x < 300 - (n : Int) := by
  unfold nearU
  rw [List.mem_map]
  constructor
  · rintro ⟨i, hi, rfl⟩
    rw [List.mem_range] at hi
    omega
  · intro h
    exact ⟨(x + n).toNat, List.mem_range.2 (by omega), by omega⟩
theorem al_mem {xa : List IrD} {r : Nat} {a : List Int} (h : a ∈ (xa.map IrD.p).getD r []) : ∃ e ∈ xa, ∃ x ∈ e.ds, a = x.l := by
  rw [List.getD_eq_getElem?_getD, List.getElem?_map] at h
  cases e : xa[r]? with
  | none => rw [e] at h; cases h
  | some q =>
    rw [e] at h
    obtain ⟨x, hx, rfl⟩ := List.mem_map.1 h
    exact ⟨q, List.mem_of_getElem? e, x, hx, rfl⟩
theorem rchd_near {d : CfD} (hf : FitC d) {f : Nat → Bool} {l : List Int} (hl : ∀ x ∈ l, -(d.alts.length : Int) ≤ x ∧ x ≤ 100) {x : Int} (h : Rchd l (StA (d.alts.map IrD.p) f) x) : -(d.alts.length : Int) ≤ x ∧ x ≤ 100 := by
  induction h with
  | base h => exact hl _ h
  | step _ h2 _ =>
    obtain ⟨_, a, ha, hy⟩ := h2
    obtain ⟨e, he, q, hq, rfl⟩ := al_mem ha
    have := (hf.l e he q hq).2 _ (ahd_sub hy)
    have := hf.t
    omega
/-- What tells some numbers: a row of one's own, rising. -/
def RisQ (w : World) (P : Int → Prop) (e : Ending) (W' : World) : Prop := ∃ a c l, e = .returned (.slice a l.length c) ∧ Ris l P ∧ OwnKZ W' w.heap.size a c l ∧ Below w.heap.size w W'

set_option maxRecDepth 100000 in
set_option maxHeartbeats 16000000 in
theorem tokens_any (d : CfD) (na : Option Addr) (nc : Nat) (f : Nat → Bool) (l : List Int) (la : Option Addr) (lc : Nat) (w : World) (hd : CfAt w d) (hn : BlsF w na nc d.alts.length f) (hf : FitC d) (hl : Ints w la lc l)
    (hok : ∀ x ∈ l, -(d.alts.length : Int) ≤ x ∧ x ≤ 100) (hll : l.length ≤ 1000) (hlb : l ≠ [] → ∀ g off, la = some ⟨g, off, none⟩ → g < w.heap.size) :
    Calls Try.prog 55 #[.agg #[.slice d.aa d.alts.length d.ac, .slice na d.alts.length nc], .slice la l.length lc] w (RisQ w (TokP (d.alts.map IrD.p) f l)) := by
  have hb1 : Below w.heap.size w (w.alloc (.cells #[.slice d.aa d.alts.length d.ac, .slice na d.alts.length nc] 68)) := (Below.refl _ w).alloc (Nat.le_refl _) _
  have hA := Blk.new w 68 #[.slice d.aa d.alts.length d.ac, .slice na d.alts.length nc]
  have hBg : BgAt (w.alloc (.cells #[.slice d.aa d.alts.length d.ac, .slice na d.alts.length nc] 68)) w.heap.size d na nc f := ⟨hA, hd.grown hb1, hn.grown hb1⟩
  have hK : ∀ (args : Array Value) (w : World), (callFunc 90 args).run Try.prog w = .ok (.enter 90 args) w := fun args w => by kernel_rfl
  have hr := hf.r
  have ht := hf.t
  have Hc := Lib.hid (reach_anyZ (w.alloc (.cells #[.slice d.aa d.alts.length d.ac, .slice na d.alts.length nc] 68)) 90 (.pointer (some ⟨w.heap.size, 0, none⟩)) l la lc (hl.grown hb1) (fun hz g off e => Nat.lt_of_lt_of_le (hlb hz g off e) hb1.size) (fun x hx => wf9 (by have := hok x hx; omega))
    (StA (d.alts.map IrD.p) f) (nearU d.alts.length) (fun x hx => nearU_mem.2 (by have := rchd_near hf hok hx; omega)) (by unfold nearU; rw [List.length_map, List.length_range]; omega) (by omega) hK (fun W' n2 a2 c2 F O x hb hxU hxf hO hn2 hR =>
      tokNext_any _ W' w.heap.size d na nc f n2 a2 c2 F O x hBg hf hb (nearU_mem.1 hxU).1 hR hO hn2))
  have HE2 := Lib.hid (fun x => isNeg_any x)
  obtain ⟨Q, hQ⟩ : ∃ Q, Hid (RisQ w (TokP (d.alts.map IrD.p) f l) = Q) := ⟨_, Lib.hid rfl⟩
  rw [hQ.out]
  have HQ := Lib.hid hQ.out
  obtain ⟨St, hSt⟩ : ∃ q, Hid (Rchd l (StA (d.alts.map IrD.p) f) = q) := ⟨_, Lib.hid rfl⟩
  have HP : Hid (∀ x, TokP (d.alts.map IrD.p) f l x ↔ 0 ≤ x ∧ St x) := Lib.hid (fun x => by rw [← hSt.out]; exact Iff.rfl)
  rw [hSt.out] at Hc
  have Hb1 := Lib.hid hb1
  obtain ⟨L, HL⟩ : ∃ q, Hid (d.alts.length = q) := ⟨_, Lib.hid rfl⟩
  obtain ⟨M, HM⟩ : ∃ q, Hid (l.length = q) := ⟨_, Lib.hid rfl⟩
  obtain ⟨daa, hdaa⟩ : ∃ q, Hid (d.aa = q) := ⟨_, Lib.hid rfl⟩
  obtain ⟨dac, hdac⟩ : ∃ q, Hid (d.ac = q) := ⟨_, Lib.hid rfl⟩
  rw [HL.out, hdaa.out, hdac.out] at Hc Hb1 ⊢
  rw [HM.out] at Hc ⊢
  obtain ⟨bx, hbx⟩ : ∃ q, Hid (w.heap.size = q) := ⟨_, Lib.hid rfl⟩
  clear hb1 hA hBg hK hd hn hf hl hok hlb hQ
  go_enter Try.func55, Try.ntmps55
  go_wp2_with (fail)
  rw [hbx.out] at Hc ⊢
  generalize hV : World.alloc w _ = V at Hc Hb1 ⊢
  clear hV
  refine Hc.out.mono ?_
  rintro e w2 ⟨sb, ns, MM, rfl, hs, hns, hM, hlo, hb2⟩
  have Hd := Lib.hid (delNeg_any sb ns MM w2 hs)
  have HM2 := Lib.hid hM
  have hwV := Hb1.out.size
  have Hb2 := Lib.hid (Hb1.out.trans (hb2.mono Hb1.out.size))
  clear hs hM hb2
  go_wp2_with (fail)
  refine Hd.out.mono ?_
  rintro e w3 ⟨rfl, hs3, hg3⟩
  have Ho := Lib.hid (ordered_any sb ns _ w3 hs3 hns)
  have Hb3 := Lib.hid (Hb2.out.trans (belowAt hg3 (B := w.heap.size) (fun i e => by injection e with e; omega) Hb2.out.size))
  clear hs3 hg3
  go_wp2_with (fail)
  refine Ho.out.mono ?_
  rintro e w4 ⟨a4, c4, t4, rfl, hr4, ho4, hb4⟩
  have Hfin : Hid (Q (.returned (.slice a4 t4.length c4)) w4) := Lib.hid (by
    rw [← HQ.out]
    refine ⟨a4, c4, t4, rfl, ⟨hr4.up, fun x => ?_⟩, own_mono ho4 Hb3.out.size, Hb3.out.trans (hb4.mono Hb3.out.size)⟩
    rw [hr4.mem x, HP.out x, Bool.and_eq_true, HM2.out x, decide_eq_true_eq]
    exact And.comm)
  clear hr4 ho4 hb4
  obtain ⟨TL, hTL⟩ : ∃ q, Hid (t4.length = q) := ⟨_, Lib.hid rfl⟩
  rw [hTL.out] at Hfin ⊢
  go_wp2_with (fail)
  first | exact Hfin.out | exact bodyPost_ret (v := .slice a4 TL c4) (by simp [results, Try.results55, go_sem]; try first | rfl | assumption | omega) rfl Hfin.out
end Go.Proofs.Ytldmgifphkpdlaa

namespace Go.Proofs.Ytldmgifphkpdlaa
open Go.RowKit Go.Maps

attribute [local go_sem] Oper.semAt_some

set_option maxRecDepth 100000 in
set_option maxHeartbeats 16000000 in
theorem sNullable_any (d : CfD) (w : World) (hd : CfAt w d) (hf : FitC d) :
    Calls Try.prog 16 #[d.v] w (NulQ w d.alts.length (nulB (d.alts.map IrD.p))) := by
  have Hfit := Lib.hid (fun W (hb : Below w.heap.size w W) => fits_any d W (hd.grown hb) hf)
  have Hnul := Lib.hid (fun W (hb : Below w.heap.size w W) => nullable_any d W (hd.grown hb) hf)
  obtain ⟨xt, xta, xtc, xn, xna, xnc, xa, xaa, xac⟩ := d
  dsimp only [CfD.v] at *
  obtain ⟨Q, hQ⟩ : ∃ Q, Hid (NulQ w xa.length (nulB (xa.map IrD.p)) = Q) := ⟨_, Lib.hid rfl⟩
  rw [hQ.out]
  have hb1 : Below w.heap.size w (w.alloc (.cells #[.slice xta xt.length xtc, .slice xna xn.length xnc, .slice xaa xa.length xac] 25)) := (Below.refl _ w).alloc (Nat.le_refl _) _
  have hA := Blk.new w 25 #[.slice xta xt.length xtc, .slice xna xn.length xnc, .slice xaa xa.length xac]
  obtain ⟨NB, hNB2⟩ : ∃ q, Hid (nulB (xa.map IrD.p) = q) := ⟨_, Lib.hid rfl⟩
  rw [hNB2.out] at hQ Hnul
  obtain ⟨T, HT⟩ : ∃ q, Hid (xt.length = q) := ⟨_, Lib.hid rfl⟩
  obtain ⟨N, HN⟩ : ∃ q, Hid (xn.length = q) := ⟨_, Lib.hid rfl⟩
  obtain ⟨L, HL⟩ : ∃ q, Hid (xa.length = q) := ⟨_, Lib.hid rfl⟩
  rw [HT.out, HN.out, HL.out] at hA hb1 Hnul Hfit ⊢
  rw [HL.out] at hQ
  have HQ := Lib.hid hQ.out
  have x0 := hA.cell 0
  have x1 := hA.cell 1
  have x2 := hA.cell 2
  have xl := hA.lt
  simp only [List.getElem?_cons_zero, List.getElem?_cons_succ] at x0 x1 x2
  have HA := Lib.hid hA
  have Hb1 := Lib.hid hb1
  clear hd hf hQ hA hb1
  go_enter Try.func16, Try.ntmps16
  go_wp2_with (fail)
  have Hc1 := Lib.hid (Hfit.out _ Hb1.out)
  obtain ⟨bx, hbx⟩ : ∃ q, Hid (w.heap.size = q) := ⟨_, Lib.hid rfl⟩
  rw [hbx.out] at HA xl x0 x1 x2 ⊢
  generalize hV : World.alloc w _ = V at HA x0 x1 x2 xl Hb1 Hc1 ⊢
  clear hV
  refine Hc1.out.mono ?_
  rintro e w2 ⟨rfl, hb2⟩
  have hA2 := HA.out.below hb2 HA.out.lt
  have Hb2 := Lib.hid (Hb1.out.trans (hb2.mono Hb1.out.size))
  clear x0 x1 x2 xl hb2 Hc1
  have x0 := hA2.cell 0
  have x1 := hA2.cell 1
  have x2 := hA2.cell 2
  have xl := hA2.lt
  simp only [List.getElem?_cons_zero, List.getElem?_cons_succ] at x0 x1 x2
  have Hc2 := Lib.hid (Hnul.out _ Hb2.out)
  clear hA2
  go_wp2_with (fail)
  refine Hc2.out.mono ?_
  rintro e w3 ⟨na, nc, rfl, ho3, hb3⟩
  have Hfin : Hid (Q (.returned (.slice na L nc)) w3) := Lib.hid (by
    rw [← HQ.out]
    exact ⟨na, nc, rfl, own_mono ho3 Hb2.out.size, Hb2.out.trans (hb3.mono Hb2.out.size)⟩)
  clear ho3 hb3 x0 x1 x2 xl
  go_wp2_with (fail)
  first | exact Hfin.out | exact bodyPost_ret (v := .slice na L nc) (by simp [results, Try.results16, go_sem]; try first | rfl | assumption | omega) rfl Hfin.out

/-- What Lead answers. -/
def LeadQ (w : World) (P : Int → Prop) (E : Bool) (e : Ending) (W' : World) : Prop := ∃ a c l, e = .returned (.tuple #[.slice a l.length c, .bool E]) ∧ Ris l P ∧ OwnKZ W' w.heap.size a c l ∧ Below w.heap.size w W'
set_option maxRecDepth 100000 in
set_option maxHeartbeats 16000000 in
theorem sLead_any (d : CfD) (s : List Int) (sa : Option Addr) (sc : Nat) (w : World) (hd : CfAt w d) (hf : FitC d) (hs : Ints w sa sc s) (hok : OkL d.toks.length d.alts.length s) (hsl : s.length ≤ 1000) :
    Calls Try.prog 27 #[d.v, .slice sa s.length sc] w (LeadQ w (TokP (d.alts.map IrD.p) (nulB (d.alts.map IrD.p)) (ahd (nulB (d.alts.map IrD.p)) s)) (emp (nulB (d.alts.map IrD.p)) s)) := by
  have Hfit := Lib.hid (fun W (hb : Below w.heap.size w W) => fits_any d W (hd.grown hb) hf)
  have hft := hf.t
  have hfr := hf.r
  have Har := Lib.hid (fun W (hb : Below w.heap.size w W) => areNs_any d s sa sc W (hs.grown hb) hok ⟨by omega, by omega, hf.r0⟩)
  have Hnb := Lib.hid (fun W (hb : Below w.heap.size w W) => newB_any d W (hd.grown hb) hf)
  have Hah := Lib.hid (fun W (hb : Below w.heap.size w W) na nc (hn : BlsF W na nc d.alts.length (nulB (d.alts.map IrD.p))) => ahead_any d.aa d.alts.length d.ac na d.alts.length nc (nulB (d.alts.map IrD.p)) s sa sc W hn (hs.grown hb) (fun y hy => (hok y hy).1) (by omega))
  have Htk := Lib.hid (fun W (hb : Below w.heap.size w W) na nc (hn : BlsF W na nc d.alts.length (nulB (d.alts.map IrD.p))) => tokens_any d na nc (nulB (d.alts.map IrD.p)) (ahd (nulB (d.alts.map IrD.p)) s) sa sc W (hd.grown hb) hn hf (ints_ahd (hs.grown hb) _) (fun x hx => by have := hok x (ahd_sub hx); omega) (Nat.le_trans (ahd_len s) hsl) (fun hz g off e => by
    have hl0 : 0 < s.length := by
      cases s with
      | nil => exact absurd rfl hz
      | cons _ _ => simp
    have := (hs.grown hb).cell g off e 0 (by rw [List.length_map]; exact hl0)
    exact World.block_lt_of_cell? _ _ this))
  obtain ⟨xt, xta, xtc, xn, xna, xnc, xa, xaa, xac⟩ := d
  dsimp only [CfD.v] at *
  obtain ⟨NB, hNB2⟩ : ∃ q, Hid (nulB (xa.map IrD.p) = q) := ⟨_, Lib.hid rfl⟩
  rw [hNB2.out] at Hnb Hah Htk ⊢
  obtain ⟨P, hP⟩ : ∃ q, Hid (TokP (xa.map IrD.p) NB (ahd NB s) = q) := ⟨_, Lib.hid rfl⟩
  rw [hP.out] at Htk ⊢
  obtain ⟨E, hE⟩ : ∃ q, Hid (emp NB s = q) := ⟨_, Lib.hid rfl⟩
  rw [hE.out] at Hah ⊢
  obtain ⟨Q, hQ⟩ : ∃ Q, Hid (LeadQ w P E = Q) := ⟨_, Lib.hid rfl⟩
  rw [hQ.out]
  have HQ := Lib.hid hQ.out
  have hb1 : Below w.heap.size w (w.alloc (.cells #[.slice xta xt.length xtc, .slice xna xn.length xnc, .slice xaa xa.length xac] 25)) := (Below.refl _ w).alloc (Nat.le_refl _) _
  have hA := Blk.new w 25 #[.slice xta xt.length xtc, .slice xna xn.length xnc, .slice xaa xa.length xac]
  obtain ⟨T, HT⟩ : ∃ q, Hid (xt.length = q) := ⟨_, Lib.hid rfl⟩
  obtain ⟨N, HN⟩ : ∃ q, Hid (xn.length = q) := ⟨_, Lib.hid rfl⟩
  obtain ⟨L, HL⟩ : ∃ q, Hid (xa.length = q) := ⟨_, Lib.hid rfl⟩
  obtain ⟨SL, HSL⟩ : ∃ q, Hid (s.length = q) := ⟨_, Lib.hid rfl⟩
  obtain ⟨AL, HAL⟩ : ∃ q, Hid ((ahd NB s).length = q) := ⟨_, Lib.hid rfl⟩
  rw [HT.out, HN.out, HL.out] at hA hb1 Hnb Hfit ⊢
  rw [HT.out, HN.out, HL.out, HSL.out] at Har
  rw [HL.out, HSL.out, HAL.out] at Hah
  rw [HL.out, HAL.out] at Htk
  rw [HSL.out]
  have x0 := hA.cell 0
  have x1 := hA.cell 1
  have x2 := hA.cell 2
  have xl := hA.lt
  simp only [List.getElem?_cons_zero, List.getElem?_cons_succ] at x0 x1 x2
  have HA := Lib.hid hA
  have Hb1 := Lib.hid hb1
  clear hd hf hQ hA hb1 hs hok
  go_enter Try.func27, Try.ntmps27
  go_wp2_with (fail)
  have Hc1 := Lib.hid (Hfit.out _ Hb1.out)
  obtain ⟨bx, hbx⟩ : ∃ q, Hid (w.heap.size = q) := ⟨_, Lib.hid rfl⟩
  rw [hbx.out] at HA xl x0 x1 x2 ⊢
  generalize hV : World.alloc w _ = V at HA x0 x1 x2 xl Hb1 Hc1 ⊢
  clear hV
  refine Hc1.out.mono ?_
  rintro e w2 ⟨rfl, hb2⟩
  have HA2 := Lib.hid (HA.out.below hb2 HA.out.lt)
  have Hb2 := Lib.hid (Hb1.out.trans (hb2.mono Hb1.out.size))
  clear x0 x1 x2 xl hb2 Hc1
  have x0 := HA2.out.cell 0
  have x1 := HA2.out.cell 1
  have x2 := HA2.out.cell 2
  have xl := HA2.out.lt
  simp only [List.getElem?_cons_zero, List.getElem?_cons_succ] at x0 x1 x2
  have Hc2 := Lib.hid (Har.out _ Hb2.out)
  go_wp2_with (fail)
  refine Hc2.out.mono ?_
  rintro e w3 ⟨rfl, hb3⟩
  have HA3 := Lib.hid (HA2.out.below hb3 HA2.out.lt)
  have Hb3 := Lib.hid (Hb2.out.trans (hb3.mono Hb2.out.size))
  clear x0 x1 x2 xl hb3 Hc2
  have x0 := HA3.out.cell 0
  have x1 := HA3.out.cell 1
  have x2 := HA3.out.cell 2
  have xl := HA3.out.lt
  simp only [List.getElem?_cons_zero, List.getElem?_cons_succ] at x0 x1 x2
  have Hc3 := Lib.hid (Hnb.out _ Hb3.out)
  go_wp2_with (fail)
  refine Hc3.out.mono ?_
  rintro e w4 ⟨na, nc, rfl, hn4, hb4⟩
  have Hb4 := Lib.hid (Hb3.out.trans (hb4.mono Hb3.out.size))
  have hb5 : Below w4.heap.size w4 (w4.alloc (.cells #[.slice xaa L xac, .slice na L nc] 68)) := (Below.refl _ w4).alloc (Nat.le_refl _) _
  have HB5 := Lib.hid (Blk.new w4 68 #[.slice xaa L xac, .slice na L nc])
  have HN5 := Lib.hid (hn4.grown hb5)
  have Hb5 := Lib.hid (Hb4.out.trans (hb5.mono Hb4.out.size))
  obtain ⟨bb, hbb⟩ : ∃ q, Hid (w4.heap.size = q) := ⟨_, Lib.hid rfl⟩
  rw [hbb.out] at HB5
  clear hn4 hb4 hb5 x0 x1 x2 xl Hc3
  have hy0 := HB5.out.cell 0
  have hy1 := HB5.out.cell 1
  have hyl := HB5.out.lt
  simp only [List.getElem?_cons_zero, List.getElem?_cons_succ] at hy0 hy1
  go_wp2_with (fail)
  rw [hbb.out]
  generalize hV : World.alloc w4 _ = V5 at HB5 HN5 Hb5 hy0 hy1 hyl ⊢
  clear hV
  refine (Hah.out V5 Hb5.out na nc HN5.out).mono ?_
  rintro e w6 ⟨rfl, hb6⟩
  have HB6 := Lib.hid (HB5.out.below hb6 HB5.out.lt)
  have HN6 := Lib.hid (HN5.out.grown hb6)
  have Hb6 := Lib.hid (Hb5.out.trans (hb6.mono Hb5.out.size))
  clear hb6 hy0 hy1 hyl
  have hy0 := HB6.out.cell 0
  have hy1 := HB6.out.cell 1
  have hyl := HB6.out.lt
  simp only [List.getElem?_cons_zero, List.getElem?_cons_succ] at hy0 hy1
  go_wp2_with (fail)
  refine (Htk.out w6 Hb6.out na nc HN6.out).mono ?_
  rintro e w7 ⟨ra, rc, l, rfl, hr7, ho7, hb7⟩
  have Hfin : Hid (Q (.returned (.tuple #[.slice ra l.length rc, .bool E])) w7) := Lib.hid (by
    rw [← HQ.out]
    exact ⟨ra, rc, l, rfl, hr7, own_mono ho7 Hb6.out.size, Hb6.out.trans (hb7.mono Hb6.out.size)⟩)
  clear hr7 ho7 hb7 hy0 hy1 hyl
  obtain ⟨RL, hRL⟩ : ∃ q, Hid (l.length = q) := ⟨_, Lib.hid rfl⟩
  rw [hRL.out] at Hfin ⊢
  go_wp2_with (fail)
  first | exact Hfin.out | exact bodyPost_ret (v := .tuple #[.slice ra RL rc, .bool E]) (by simp [results, Try.results27, go_sem]; try first | rfl | assumption | omega) rfl Hfin.out
end Go.Proofs.Ytldmgifphkpdlaa

namespace Go.Proofs.Ytldmgifphkpdlaa
open Go.RowKit Go.Maps

attribute [local go_sem] Oper.semAt_some

theorem own_blk {w : World} {base e g n : Nat} {xs : List Value} (h : w.ownsRow base e 1 (.slice (some ⟨g, 0, none⟩) n n) n xs) : Blk w g e xs := by
  rcases h.2 with ⟨e1, _⟩ | ⟨g', cp, cur, e1, hb, hk, hnc, hcm, hcs, htk⟩
  · cases e1
  · injection e1 with e1 e2 e3
    injection e1 with e1
    injection e1 with e1
    subst e1
    unfold Blk
    rw [hk, ← htk]
    have : cur.toList.length ≤ n * 1 := by rw [Array.length_toList, hcs, ← e3]; omega
    rw [List.take_of_length_le this]
theorem blk_own {w : World} {base e g n : Nat} {xs : List Value} (h : Blk w g e xs) (hb : base ≤ g) (hl : xs.length = n) (hn : n ≤ maxLen) : w.ownsRow base e 1 (.slice (some ⟨g, 0, none⟩) n n) n xs := by
  refine ⟨by rw [hl, Nat.mul_one], .inr ⟨g, n, xs.toArray, rfl, hb, h, Nat.le_refl _, hn, by simp [hl], ?_⟩⟩
  rw [List.take_of_length_le (by simp [hl])]
theorem step_copy_run {P : Program} {ops : Array Oper} {o : Oper} {a : Act} {w : World} {K : Act → World → Prop} {Q : Exit → Act → World → Prop} {E : Prop} (hgd : o.guard = none) (s x : Operand) (t t2 : TypeId)
    (hop : o.op = Op.call { callee := Callee.builtin Builtin.copy, args := #[s, x], argTypes := #[t, t2] }) (vs vx v' : Value) (w' : World) (hs : a.eval s = vs) (hx : a.eval x = vx)
    (hrun : (Builtin.copy_ #[t, t2] o.type #[vs, vx]).run P w = .ok v' w') (h : K (a.put o.dst v') w') :
    if Region.wanted o (yielded ops a.tmps) = true then Oper.wp P o a w K Q else E := by
  have hw : Region.wanted o (yielded ops a.tmps) = true := by simp [Region.wanted, hgd]
  rw [if_pos hw]
  unfold Oper.wp
  simp [execOp, hop, resolve, invoke, builtin, hs, hx, hrun, Result.andThen]
  exact h
/-- A part of a block is written. -/
theorem copy_into {w : World} {g o n dl dc sl sc : Nat} {xs cs : List Value} {a : Addr} (ty : TypeId) (h : Blk w g 3 xs) (hl : xs.length = n) (hn : cs.length = Nat.min sl dl) (hsrc : ∀ j v, cs[j]? = some v → w.cell? (a.add j) = some v) (hfit : o + cs.length ≤ n) (h1 : ∀ v ∈ cs, v.oneCell' = true) :
    ∃ w', (Builtin.copy_ #[35, 35] ty #[.slice (some ⟨g, o, none⟩) dl dc, .slice (some a) sl sc]).run Try.prog w = .ok (.int .i64 cs.length) w' ∧ Blk w' g 3 (xs.take o ++ cs ++ xs.drop (o + cs.length)) ∧ w.grownBy w' (some g) := by
  obtain ⟨iE, hiE, hzE, hsE, hbE⟩ := info_parts info_elI
  have hr := run_copy_row (P := Try.prog) w 35 35 ty 3 g o dl dc a sl sc xs.toArray 3 cs Try.underlying35 (by rw [hiE]; simp [hsE]) h hn hsrc (by simp [hl]; exact hfit) h1
  refine ⟨_, hr, ?_, ?_⟩
  · unfold Blk
    have := setRow_heap w g xs.toArray (xs.take o ++ cs ++ xs.drop (o + cs.length)).toArray 3 (0, 0) h
    simpa using this
  · exact ⟨rfl, rfl, rfl, by simp, fun k _ hk => setRow_other w g k _ (fun e => hk (by simp [e]))⟩
set_option maxRecDepth 100000 in
set_option maxHeartbeats 16000000 in
theorem mul_any (n : Nat) (hn : n ≤ 60) (W : World) : Calls Try.prog 98 #[.int .u64 1, .int .u64 (n : Int)] W fun e w' => e = .returned (.tuple #[.int .u64 0, .int .u64 (n : Int)]) ∧ w' = W := by
  have Hmul := Any.bits_Mul64 Try.laysMul 1 n (by omega) (by omega) W
  rw [show 1 * n / 18446744073709551616 = 0 by omega, show 1 * n % 18446744073709551616 = n by omega] at Hmul
  have Hmul' : Hid (Calls Try.prog 118 #[.int .u64 1, .int .u64 (n : Int)] W fun e w' => e = .returned (.tuple #[.int .u64 0, .int .u64 (n : Int)]) ∧ w' = W) := Lib.hid Hmul
  clear Hmul
  go_enter Try.func98, Try.ntmps98
  go_wp2_with (fail)
  refine Hmul'.out.mono ?_
  rintro e w1 ⟨rfl, rfl⟩
  go_wp2_with (fail)
  exact bodyPost_ret (v := .tuple #[.int .u64 0, .int .u64 (n : Int)]) (by simp [results, Try.results98, go_sem]; try first | rfl | assumption | omega) rfl ⟨rfl, rfl⟩
set_option maxRecDepth 100000 in
set_option maxHeartbeats 16000000 in
theorem rep_any (x : Int) (xa : Option Addr) (xc n : Nat) (w : World) (hx : Ints w xa xc [x]) (hn1 : 1 ≤ n) (hn2 : n ≤ 60) :
    Calls Try.prog 67 #[.slice xa 1 xc, .int .i64 (n : Int)] w fun e w' => ∃ g, e = .returned (.slice (some ⟨g, 0, none⟩) n n) ∧ Blk w' g 3 (List.replicate n (.int .i64 x)) ∧ w.heap.size ≤ g ∧ Below w.heap.size w w' := by
  have Hmul' := Lib.hid (fun W => mul_any n hn2 W)
  have hxm : 1 ≤ xc ∧ xc ≤ 9223372036854775807 := ⟨by have := hx.le; simpa using this, hx.max⟩
  obtain ⟨b, bo, hb⟩ := hx.at_ 0 (by simp)
  have c0 := hx.cell b bo hb 0 (by simp)
  simp only [List.map_cons, List.map_nil, List.getElem_cons_zero, Nat.add_zero] at c0
  have hbl := World.block_lt_of_cell? _ _ c0
  obtain ⟨iE, hiE, hzE, hsE, hbE⟩ := info_parts info_elI
  obtain ⟨w1, hrun1, ho1, hg1⟩ := run_makeSlice_full (P := Try.prog) (w := w) w.heap.size 35 3 iE (.int .i64 0) 1 Try.underlying35 hiE hzE hsE .i64 .i64 n (by omega) (by rw [hbE]; omega) (by unfold maxLen; omega) (Nat.le_refl _)
  rw [made_fill _ rfl] at ho1
  have hb1 := belowAt hg1 (B := w.heap.size) (fun i e => by cases e) (Nat.le_refl _)
  have hB1 := own_blk ho1
  obtain ⟨w2, hrun2, hB2, hg2⟩ := copy_into (cs := [.int .i64 x]) (o := 0) (dl := n) (dc := n) (sl := 1) (sc := xc) (a := ⟨b, bo, none⟩) 3 hB1 (List.length_replicate ..) (by rw [show Nat.min 1 n = 1 from Nat.min_eq_left hn1]; rfl) (fun j v hj => by
    cases j with
    | zero =>
      simp at hj
      subst hj
      rw [show (⟨b, bo, none⟩ : Addr).add 0 = ⟨b, bo, none⟩ from by simp [Addr.add]]
      exact (hb1.cell (p := ⟨b, bo, none⟩) hbl).trans c0
    | succ j => simp at hj) (by simp; omega) (fun v hv => by rw [List.mem_singleton] at hv; subst hv; rfl)
  have hbb2 := hb1.trans (belowAt hg2 (B := w.heap.size) (fun i e => by injection e with e; omega) hb1.size)
  have HB2 : Hid (Blk w2 w.heap.size 3 (List.replicate 1 (.int .i64 x) ++ List.replicate (n - 1) (.int .i64 0))) := Lib.hid (by
    have := hB2
    simpa using this)
  have Hb2 := Lib.hid hbb2
  obtain ⟨g, hg⟩ : ∃ q, Hid (w.heap.size = q) := ⟨_, Lib.hid rfl⟩
  rw [hg.out] at hrun1 hrun2 HB2
  have Hgw : Hid (w.heap.size ≤ g) := Lib.hid (by rw [hg.out]; exact Nat.le_refl _)
  have hrun2' : (Builtin.copy_ #[35, 35] 3 #[.slice (some ⟨g, 0, none⟩) n n, .slice (some ⟨b, bo, none⟩) 1 xc]).run Try.prog w1 = .ok (.int .i64 1) w2 := hrun2
  have hw2 : IntKind.i64.wrap (n : Int) = (n : Int) := IntWalk.i64_in _ (by omega)
  have hn0 : ¬ (n : Int) < 0 := by omega
  have hnb : ¬ (n : Int) > 9223372036854775807 := by omega
  subst hb
  clear hx ho1 hg1 hb1 hB1 hB2 hg2 hbb2 hiE hzE hsE hbE c0 hbl hrun2
  go_enter Try.func67, Try.ntmps67
  go_wp2_with (fail)
  refine (Hmul'.out w).mono ?_
  rintro e w0 ⟨rfl, rfl⟩
  go_wp2_with (fail)
  clear hrun1 hrun2'
  go_loopw [8] (fun mv wr => ∃ m : Nat, 1 ≤ m ∧ m ≤ n ∧ mv = .int .i64 (m : Int) ∧ Hid (Blk wr g 3 (List.replicate m (.int .i64 x) ++ List.replicate (n - m) (.int .i64 0))) ∧ Below w0.heap.size w0 wr) (fun mv _ => n - (RowKit.intOf mv).toNat)
  case atStart => exact ⟨1, Nat.le_refl _, hn1, rfl, HB2, Hb2.out⟩
  case round =>
    clear HB2 Hb2
    obtain ⟨m, hm1, hm, rfl, HB, hbr⟩ := hrel
    obtain ⟨U, rfl⟩ : ∃ U, U = wr := ⟨_, rfl⟩
    by_cases hlt : m < n
    · have hmI : (m : Int) < (n : Int) := by omega
      have hmI0 : (0 : Int) ≤ (m : Int) := by omega
      have hmn : ¬ n = m := by omega
      have hmle : (m : Int) ≤ (n : Int) := by omega
      obtain ⟨k, hk⟩ : ∃ k, Hid (Nat.min m (n - m) = k) := ⟨_, Lib.hid rfl⟩
      have hk1 : 1 ≤ k ∧ k ≤ m ∧ k ≤ n - m := by rw [← hk.out]; exact ⟨Nat.le_min.2 ⟨hm1, by omega⟩, Nat.min_le_left _ _, Nat.min_le_right _ _⟩
      have hBd : Blk U.drew g 3 (List.replicate m (.int .i64 x) ++ List.replicate (n - m) (.int .i64 0)) := HB.out
      obtain ⟨w5, hrun5, hB5, hg5⟩ := copy_into (cs := List.replicate k (.int .i64 x)) (o := m) (dl := n - m) (dc := n - m) (sl := m) (sc := n) (a := ⟨g, 0, none⟩) 3 hBd (n := n) (by simp; omega) (by rw [List.length_replicate, hk.out]) (fun j v hj => by
        rw [List.getElem?_replicate] at hj
        split at hj
        · next hjk =>
          injection hj with hj
          subst hj
          rw [show (⟨g, 0, none⟩ : Addr).add j = ⟨g, j, none⟩ from by simp [Addr.add]; try omega]
          rw [hBd.cell j, List.getElem?_append_left (by rw [List.length_replicate]; omega), List.getElem?_replicate, if_pos (by omega)]
        · cases hj) (by rw [List.length_replicate]; omega) (fun v hv => by rw [List.mem_replicate] at hv; rw [hv.2]; rfl)
      rw [List.length_replicate] at hrun5
      have HB5 : Hid (Blk w5 g 3 (List.replicate (m + k) (.int .i64 x) ++ List.replicate (n - (m + k)) (.int .i64 0))) := Lib.hid (by
        rw [List.length_replicate] at hB5
        rw [List.take_append_of_le_length (by simp), List.take_of_length_le (by simp), List.drop_append, List.drop_eq_nil_of_le (by simp), List.nil_append, List.length_replicate, List.drop_replicate] at hB5
        rw [← List.replicate_append_replicate] at *
        rwa [show n - (m + k) = n - m - (m + k - m) by omega])
      have Hb5 := Lib.hid (hbr.drew.trans (belowAt hg5 (B := w0.heap.size) (fun i e => by injection e with e; have := Hgw.out; omega) hbr.drew.size))
      have Hr5 := Lib.hid hrun5
      have hwk : IntKind.i64.wrap ((m : Int) + (k : Int)) = ((m + k : Nat) : Int) := by rw [show (m : Int) + (k : Int) = ((m + k : Nat) : Int) by omega]; exact IntWalk.i64_in _ (by omega)
      clear hBd hrun5 hB5 hg5 hbr
      go_wp2_with (fail)
      refine wp_region_held_drew (S := fun w' => Blk w' g 3 (List.replicate (m + k) (.int .i64 x) ++ List.replicate (n - (m + k)) (.int .i64 0)) ∧ Below w0.heap.size w0 w' ∨ w' = U.drew) (by kernel_rfl) ?_ (fun hHeld => ?_)
      · exact .inr rfl
      refine wpAnyH_take (i := 0) (v := ?_) (iatLS iatZS) (by kernel_rfl) (by kernel_rfl) (by kernel_rfl) (fun _ _ _ h => h) (Or.inl ⟨by rfl, ?_⟩) (by assumption) ?_
      rotate_left
      · intro w hSw
        try dsimp only at hSw
        go_simp
        all_goals with_reducible rfl
      try simp only [Act.put, List.setIfInBounds_toArray, List.set_cons_zero, List.set_cons_succ]
      refine wpAnyH_take (i := 1) (v := ?_) (iatLS (iatSS iatZS)) (by kernel_rfl) (by kernel_rfl) (by kernel_rfl) (fun _ _ _ h => h) (Or.inl ⟨by rfl, ?_⟩) (by assumption) ?_
      rotate_left
      · intro w hSw
        try dsimp only at hSw
        go_simp
        all_goals with_reducible rfl
      try simp only [Act.put, List.setIfInBounds_toArray, List.set_cons_zero, List.set_cons_succ]
      refine wpAnyH_take (i := 2) (v := ?_) (iatLS (iatSS (iatSS iatZS))) (by kernel_rfl) (by kernel_rfl) (by kernel_rfl) (fun _ _ _ h => h) (Or.inl ⟨by rfl, ?_⟩) (by assumption) ?_
      rotate_left
      · intro w hSw
        try dsimp only at hSw
        go_simp
        all_goals with_reducible rfl
      try simp only [Act.put, List.setIfInBounds_toArray, List.set_cons_zero, List.set_cons_succ]
      refine wpAnyH_take (i := 3) (v := ?_) (iatLS (iatSS (iatSS (iatSS iatZS)))) (by kernel_rfl) (by kernel_rfl) (by kernel_rfl) (fun _ _ _ h => h) (Or.inl ⟨by rfl, ?_⟩) (by assumption) ?_
      rotate_left
      · intro w hSw
        try dsimp only at hSw
        go_simp
        all_goals with_reducible rfl
      try simp only [Act.put, List.setIfInBounds_toArray, List.set_cons_zero, List.set_cons_succ]
      refine wpAnyH_take (i := 4) (v := ?_) (iatLS (iatSS (iatSS (iatSS (iatSS iatZS))))) (by kernel_rfl) (by kernel_rfl) (by kernel_rfl) (fun _ _ _ h => h) (Or.inl ⟨by rfl, ?_⟩) (by assumption) ?_
      rotate_left
      · intro w hSw
        try dsimp only at hSw
        go_simp
        all_goals with_reducible rfl
      try simp only [Act.put, List.setIfInBounds_toArray, List.set_cons_zero, List.set_cons_succ]
      refine wpAnyH_take (i := 5) (v := ?_) (iatLS (iatSS (iatSS (iatSS (iatSS (iatSS iatZS)))))) (by kernel_rfl) (by kernel_rfl) (by kernel_rfl) (fun _ _ _ h => h) (Or.inl ⟨by rfl, ?_⟩) (by assumption) ?_
      rotate_left
      · intro w hSw
        try dsimp only at hSw
        go_simp
        all_goals with_reducible rfl
      try simp only [Act.put, List.setIfInBounds_toArray, List.set_cons_zero, List.set_cons_succ]
      refine wpAnyH_take (i := 6) (v := ?_) (iatLS (iatSS (iatSS (iatSS (iatSS (iatSS (iatSS iatZS))))))) (by kernel_rfl) (by kernel_rfl) (by kernel_rfl) (fun _ _ _ h => h) (Or.inl ⟨by rfl, ?_⟩) (by assumption) ?_
      rotate_left
      · intro w hSw
        try dsimp only at hSw
        go_simp
        all_goals with_reducible rfl
      try simp only [Act.put, List.setIfInBounds_toArray, List.set_cons_zero, List.set_cons_succ]
      refine wpAnyH_ready (rs := [7]) (by kernel_rfl) (by simp) ?_
      refine AllReadyH.cons (iatLS (iatSS (iatSS (iatSS (iatSS (iatSS (iatSS (iatSS iatZS)))))))) (fun K hK => ?_) AllReadyH.nil
      refine step_copy_run rfl _ _ 35 35 rfl _ _ _ _ rfl rfl Hr5.out ?_
      refine hK.out _ _ ?_ (fun hHeld => ?_)
      · exact .inl ⟨HB5.out, Hb5.out⟩
      clear hK K
      try simp only [Act.put, List.setIfInBounds_toArray, List.set_cons_zero, List.set_cons_succ]
      refine wpAnyH_ready (rs := [8]) (by kernel_rfl) (by simp) ?_
      refine AllReadyH.cons (iatLS (iatSS (iatSS (iatSS (iatSS (iatSS (iatSS (iatSS (iatSS iatZS))))))))) (fun K hK => ?_) AllReadyH.nil
      go_simp
      refine hK.out _ _ ?_ (fun hHeld => ?_)
      · exact .inl ⟨HB5.out, Hb5.out⟩
      clear hK K
      try simp only [Act.put, List.setIfInBounds_toArray, List.set_cons_zero, List.set_cons_succ]
      refine wpAnyH_ready (rs := [9]) (by kernel_rfl) (by simp) ?_
      refine AllReadyH.cons (iatLS (iatSS (iatSS (iatSS (iatSS (iatSS (iatSS (iatSS (iatSS (iatSS iatZS)))))))))) (fun K hK => ?_) AllReadyH.nil
      go_simp
      refine hK.out _ _ ?_ (fun hHeld => ?_)
      · exact .inl ⟨HB5.out, Hb5.out⟩
      clear hK K
      try simp only [Act.put, List.setIfInBounds_toArray, List.set_cons_zero, List.set_cons_succ]
      refine wpAnyH_done (by kernel_rfl) ?_ _
      go_wp2_with (fail)
      refine ⟨⟨m + k, by omega, by omega, rfl, HB5, Hb5.out⟩, ?_⟩
      show n - ((m + k : Nat) : Int).toNat < n - ((m : Nat) : Int).toNat
      omega
    · have hme : m = n := by omega
      have hmI : ¬ (m : Int) < (n : Int) := by omega
      have HBe : Hid (Blk U g 3 (List.replicate n (.int .i64 x))) := Lib.hid (by have := HB.out; rw [hme, Nat.sub_self, List.replicate_zero, List.append_nil] at this; exact this)
      clear hme
      go_wp2_with (fail)
      exact bodyPost_ret (v := .slice (some ⟨g, 0, none⟩) n n) (by simp [results, Try.results67, go_sem]; try first | rfl | assumption | omega) rfl ⟨g, rfl, HBe.out, Hgw.out, hbr⟩
end Go.Proofs.Ytldmgifphkpdlaa

namespace Go.Proofs.Ytldmgifphkpdlaa
open Go.RowKit Go.Maps

attribute [local go_sem] Oper.semAt_some

/-- What tells of each rule some numbers, rising. -/
def LstQ (w : World) (n : Nat) (P : Nat → Int → Prop) (e : Ending) (W' : World) : Prop := ∃ a c, ∃ ds : List IltD, e = .returned (.slice a n c) ∧ ds.length = n ∧ AltsI W' a c ds ∧ (∀ r (h : r < ds.length), Ris ds[r].l (P r)) ∧ Below w.heap.size w W'
theorem one_vs (w : World) (x : Int) : Ints (w.alloc (.cells #[.int .i64 x] 3)) (some ⟨w.heap.size, 0, none⟩) 1 [x] := lit_vs w [.int .i64 x] 3 (by simp)

set_option maxRecDepth 100000 in
set_option maxHeartbeats 16000000 in
theorem sFirst_any (d : CfD) (w : World) (hd : CfAt w d) (hf : FitC d) :
    Calls Try.prog 19 #[d.v] w (LstQ w d.alts.length (fun r => TokP (d.alts.map IrD.p) (nulB (d.alts.map IrD.p)) [-1 - (r : Int)])) := by
  have Hfit := Lib.hid (fun W (hb : Below w.heap.size w W) => fits_any d W (hd.grown hb) hf)
  have hft := hf.t
  have hfr := hf.r
  have Hnb := Lib.hid (fun W (hb : Below w.heap.size w W) => newB_any d W (hd.grown hb) hf)
  have Htk := Lib.hid (fun W (hb : Below w.heap.size w W) na nc (hn : BlsF W na nc d.alts.length (nulB (d.alts.map IrD.p))) (r : Nat) (hr : r < d.alts.length) g (hg : g < W.heap.size) (hi : Ints W (some ⟨g, 0, none⟩) 1 [-1 - (r : Int)]) => tokens_any d na nc (nulB (d.alts.map IrD.p)) [-1 - (r : Int)] (some ⟨g, 0, none⟩) 1 W (hd.grown hb) hn hf hi (fun x hx => by rw [List.mem_singleton] at hx; omega) (by simp) (fun hz g2 off e => by cases e; exact hg))
  obtain ⟨xt, xta, xtc, xn, xna, xnc, xa, xaa, xac⟩ := d
  have hxm : xa.length ≤ xac ∧ xac ≤ 9223372036854775807 := ⟨by have := hd.alts.le; rwa [List.length_map] at this, hd.alts.max⟩
  dsimp only [CfD.v, List.length_singleton] at *
  obtain ⟨NB, hNB2⟩ : ∃ q, Hid (nulB (xa.map IrD.p) = q) := ⟨_, Lib.hid rfl⟩
  rw [hNB2.out] at Hnb Htk ⊢
  obtain ⟨P, hP⟩ : ∃ q : Nat → Int → Prop, Hid ((fun r : Nat => TokP (xa.map IrD.p) NB [-1 - (r : Int)]) = q) := ⟨_, Lib.hid rfl⟩
  have HP : Hid (∀ r : Nat, TokP (xa.map IrD.p) NB [-1 - (r : Int)] = P r) := Lib.hid (fun r => congrFun hP.out r)
  rw [hP.out]
  obtain ⟨Q, hQ⟩ : ∃ Q, Hid (LstQ w xa.length P = Q) := ⟨_, Lib.hid rfl⟩
  rw [hQ.out]
  have hb1 : Below w.heap.size w (w.alloc (.cells #[.slice xta xt.length xtc, .slice xna xn.length xnc, .slice xaa xa.length xac] 25)) := (Below.refl _ w).alloc (Nat.le_refl _) _
  have hA := Blk.new w 25 #[.slice xta xt.length xtc, .slice xna xn.length xnc, .slice xaa xa.length xac]
  obtain ⟨T, HT⟩ : ∃ q, Hid (xt.length = q) := ⟨_, Lib.hid rfl⟩
  obtain ⟨N, HN⟩ : ∃ q, Hid (xn.length = q) := ⟨_, Lib.hid rfl⟩
  obtain ⟨L, HL⟩ : ∃ q, Hid (xa.length = q) := ⟨_, Lib.hid rfl⟩
  rw [HT.out, HN.out, HL.out] at hA hb1 Hnb Hfit ⊢
  rw [HL.out] at Htk hQ hfr hxm
  have HQ := Lib.hid hQ.out
  obtain ⟨iO, hiO, hzO, hsO, hbO⟩ := info_parts info_rowI
  have Hmk := Lib.hid (fun (W : World) => run_makeSlice_full (P := Try.prog) (w := W) W.heap.size 32 35 iO (.slice none 0 0) 1 Try.underlying32 hiO hzO hsO .i64 .i64 L (by omega) (by rw [hbO]; omega) (by unfold maxLen; omega) (Nat.le_refl _))
  have x0 := hA.cell 0
  have x1 := hA.cell 1
  have x2 := hA.cell 2
  have xl := hA.lt
  simp only [List.getElem?_cons_zero, List.getElem?_cons_succ] at x0 x1 x2
  have HA := Lib.hid hA
  have Hb1 := Lib.hid hb1
  clear hd hf hQ hA hb1 hiO hzO hsO hbO hP
  go_enter Try.func19, Try.ntmps19
  go_wp2_with (fail)
  have Hc1 := Lib.hid (Hfit.out _ Hb1.out)
  obtain ⟨bx, hbx⟩ : ∃ q, Hid (w.heap.size = q) := ⟨_, Lib.hid rfl⟩
  rw [hbx.out] at HA xl x0 x1 x2 ⊢
  generalize hV : World.alloc w _ = V at HA x0 x1 x2 xl Hb1 Hc1 ⊢
  clear hV
  refine Hc1.out.mono ?_
  rintro e w2 ⟨rfl, hb2⟩
  have HA2 := Lib.hid (HA.out.below hb2 HA.out.lt)
  have Hb2 := Lib.hid (Hb1.out.trans (hb2.mono Hb1.out.size))
  clear x0 x1 x2 xl hb2 Hc1
  have x0 := HA2.out.cell 0
  have x1 := HA2.out.cell 1
  have x2 := HA2.out.cell 2
  have xl := HA2.out.lt
  simp only [List.getElem?_cons_zero, List.getElem?_cons_succ] at x0 x1 x2
  have Hc3 := Lib.hid (Hnb.out _ Hb2.out)
  go_wp2_with (fail)
  refine Hc3.out.mono ?_
  rintro e w4 ⟨na, nc, rfl, hn4, hb4⟩
  have Hb4 := Lib.hid (Hb2.out.trans (hb4.mono Hb2.out.size))
  have hb5 : Below w4.heap.size w4 (w4.alloc (.cells #[.slice xaa L xac, .slice na L nc] 68)) := (Below.refl _ w4).alloc (Nat.le_refl _) _
  have HB5 := Lib.hid (Blk.new w4 68 #[.slice xaa L xac, .slice na L nc])
  have HA5 := Lib.hid ((HA2.out.below hb4 HA2.out.lt).below hb5 (HA2.out.below hb4 HA2.out.lt).lt)
  have HN5 := Lib.hid (hn4.grown hb5)
  have Hb5 := Lib.hid (Hb4.out.trans (hb5.mono Hb4.out.size))
  obtain ⟨bb, hbb⟩ : ∃ q, Hid (w4.heap.size = q) := ⟨_, Lib.hid rfl⟩
  rw [hbb.out] at HB5
  have HA4 := HA2.out.below hb4 HA2.out.lt
  clear hn4 hb4 hb5 x0 x1 x2 xl Hc3
  have x2 := HA4.cell 2
  have xl := HA4.lt
  simp only [List.getElem?_cons_zero, List.getElem?_cons_succ] at x2
  clear HA4
  obtain ⟨w6, hrun6, ho6, hg6⟩ := Hmk.out (w4.alloc (.cells #[.slice xaa L xac, .slice na L nc] 68))
  rw [made_fill _ rfl] at ho6
  have hsz : (World.alloc w4 (.cells #[.slice xaa L xac, .slice na L nc] 68)).heap.size = w4.heap.size + 1 := by simp
  rw [hsz] at hrun6 ho6
  have hb6 := belowAt hg6 (fun i e => by cases e) (Nat.le_refl _)
  have hbl5 := HB5.out.lt
  rw [hsz] at hb6 hbl5
  obtain ⟨base, hbase⟩ : ∃ q, Hid (w4.heap.size + 1 = q) := ⟨_, Lib.hid rfl⟩
  rw [hbase.out] at hrun6 ho6 hb6 hbl5
  have HO6 := Lib.hid ho6
  have Hb6 := Lib.hid hb6
  have hV5s : Hid ((World.alloc w4 (.cells #[.slice xaa L xac, .slice na L nc] 68)).heap.size = base) := Lib.hid (by rw [hsz, hbase.out])
  have hbbl : bb < base := hbl5
  clear ho6 hg6 hsz hb6 hbl5
  go_wp2_with (fail)
  rw [hbb.out]
  clear hrun6 x2 xl
  generalize hV : World.alloc w4 _ = V5 at HB5 HA5 HN5 Hb5 Hb6 hV5s
  clear hV
  have hbase := hV5s
  clear hV5s
  go_loopw [17] (fun iv wr => ∃ (i : Nat) (dn : List IltD), i ≤ L ∧ iv = .int .i64 (i : Int) ∧ Hid (∀ r (h : r < dn.length), Ris dn[r].l (P r)) ∧ Hid (dn.length = i) ∧
    Hid (wr.ownsRow base 35 1 (.slice (some ⟨base, 0, none⟩) L L) L (dn.map IltD.v ++ List.replicate (L - i) (.slice none 0 0))) ∧ Hid (∀ d ∈ dn, OwnKZ wr base d.a d.c d.l) ∧ Below base V5 wr) (fun iv _ => L - (RowKit.intOf iv).toNat)
  case atStart => exact ⟨0, [], Nat.zero_le _, rfl, Lib.hid (fun r h => by cases h), Lib.hid rfl, HO6, Lib.hid (fun d h => by cases h), Hb6.out⟩
  case round =>
    clear HO6 Hb6
    obtain ⟨i, dn, hi, rfl, hdn, hdl, HO, HD, hbr⟩ := hrel
    obtain ⟨U, rfl⟩ : ∃ U, U = wr := ⟨_, rfl⟩
    have hbr5 : Below V5.heap.size V5 U := by rw [hbase.out]; exact hbr
    have HBu := Lib.hid (HB5.out.below hbr hbbl)
    have HNu := Lib.hid (HN5.out.grown hbr5)
    have Hbu := Lib.hid (Hb5.out.trans (hbr5.mono Hb5.out.size))
    have hbU : base ≤ U.heap.size := by rw [← hbase.out]; exact hbr.size
    by_cases hlt : i < L
    · have hiI : (i : Int) < (L : Int) := by omega
      have hiI0 : (0 : Int) ≤ (i : Int) := by omega
      have Hnum := Lib.hid (fun W => numberOf_any i W (by omega))
      have hwk : -1 - (i : Int) = -1 - (i : Int) := rfl
      have HS0 : Hid (U.drew.cell? ⟨bb, 0, none⟩ = some (.slice xaa L xac) ∧ U.drew.cell? ⟨bb, 1, none⟩ = some (.slice na L nc)) := Lib.hid ⟨HBu.out.cell 0, HBu.out.cell 1⟩
      have HBa := Lib.hid (HBu.out.alloc (.cells #[.int .i64 (-1 - (i : Int))] 3))
      have hba : Below U.heap.size U (U.alloc (.cells #[.int .i64 (-1 - (i : Int))] 3)) := (Below.refl _ U).alloc (Nat.le_refl _) _
      have HNa := Lib.hid (HNu.out.grown hba)
      have Hba := Lib.hid (Hbu.out.trans (hba.mono Hbu.out.size))
      have Hba5 := Lib.hid (hbr.trans (hba.mono hbU))
      have Hia := Lib.hid (one_vs U (-1 - (i : Int)))
      have hgl : U.heap.size < (U.alloc (.cells #[.int .i64 (-1 - (i : Int))] 3)).heap.size := by simp
      have HOa := Lib.hid (World.ownsRow.alloc HO.out (.cells #[.int .i64 (-1 - (i : Int))] 3))
      have HDa : Hid (∀ d ∈ dn, OwnKZ (U.alloc (.cells #[.int .i64 (-1 - (i : Int))] 3)) base d.a d.c d.l) := Lib.hid (fun d hd => World.ownsRow.alloc (HD.out d hd) (.cells #[.int .i64 (-1 - (i : Int))] 3))
      obtain ⟨kn, hkn⟩ : ∃ q, Hid ((-1 - (i : Int)) = q) := ⟨_, Lib.hid rfl⟩
      clear hwk
      rw [hkn.out] at Hnum
      clear hba hbr5 hbr
      go_wp2_with (fail)
      refine wp_region_held_drew (S := fun w' => w'.cell? ⟨bb, 0, none⟩ = some (.slice xaa L xac) ∧ w'.cell? ⟨bb, 1, none⟩ = some (.slice na L nc)) (by kernel_rfl) ?_ (fun hHeld => ?_)
      · exact HS0.out
      refine wpAnyH_take (i := 0) (v := ?_) (iatLS iatZS) (by kernel_rfl) (by kernel_rfl) (by kernel_rfl) (fun _ _ _ h => h) (Or.inl ⟨by rfl, ?_⟩) (by assumption) ?_
      rotate_left
      · intro w hSw
        try dsimp only at hSw
        go_simp
        all_goals with_reducible rfl
      try simp only [Act.put, List.setIfInBounds_toArray, List.set_cons_zero, List.set_cons_succ]
      refine wpAnyH_take (i := 1) (v := ?_) (iatLS (iatSS iatZS)) (by kernel_rfl) (by kernel_rfl) (by kernel_rfl) (fun _ _ _ h => h) (Or.inl ⟨by rfl, ?_⟩) (by assumption) ?_
      rotate_left
      · intro w hSw
        try dsimp only at hSw
        go_simp
        all_goals with_reducible rfl
      try simp only [Act.put, List.setIfInBounds_toArray, List.set_cons_zero, List.set_cons_succ]
      refine wpAnyH_take (i := 2) (v := ?_) (iatLS (iatSS (iatSS iatZS))) (by kernel_rfl) (by kernel_rfl) (by kernel_rfl) (fun _ _ _ h => h) (Or.inl ⟨by rfl, ?_⟩) (by assumption) ?_
      rotate_left
      · intro w hSw
        try dsimp only at hSw
        go_simp
        all_goals with_reducible rfl
      try simp only [Act.put, List.setIfInBounds_toArray, List.set_cons_zero, List.set_cons_succ]
      refine wpAnyH_take (i := 3) (v := ?_) (iatLS (iatSS (iatSS (iatSS iatZS)))) (by kernel_rfl) (by kernel_rfl) (by kernel_rfl) (fun _ _ _ h => h) (Or.inl ⟨by rfl, ?_⟩) (by assumption) ?_
      rotate_left
      · intro w hSw
        try dsimp only at hSw
        go_simp
        all_goals with_reducible rfl
      try simp only [Act.put, List.setIfInBounds_toArray, List.set_cons_zero, List.set_cons_succ]
      refine wpAnyH_ready (rs := [4]) (by kernel_rfl) (by simp) ?_
      refine AllReadyH.cons (iatLS (iatSS (iatSS (iatSS (iatSS iatZS))))) (fun K hK => ?_) AllReadyH.nil
      go_simp
      (with_reducible refine (Hnum.out _).mono ?_)
      rintro e7 W7 ⟨rfl, rfl⟩
      try dsimp only
      refine hK.out _ _ ?_ (fun hHeld => ?_)
      · exact HS0.out
      clear hK K
      try simp only [Act.put, List.setIfInBounds_toArray, List.set_cons_zero, List.set_cons_succ]
      refine wpAnyH_ready (rs := [5]) (by kernel_rfl) (by simp) ?_
      refine AllReadyH.cons (iatLS (iatSS (iatSS (iatSS (iatSS (iatSS iatZS)))))) (fun K hK => ?_) AllReadyH.nil
      go_simp
      rw [hkn.out] at HBa HNa Hba Hba5 Hia hgl HOa HDa
      obtain ⟨gb, hgb⟩ : ∃ q, Hid (U.heap.size = q) := ⟨_, Lib.hid rfl⟩
      rw [hgb.out] at Hia hgl ⊢
      generalize hW : World.alloc U _ = Va at HBa HNa Hba Hba5 Hia hgl HOa HDa ⊢
      clear hW
      have HSa : Hid (Va.drew.cell? ⟨bb, 0, none⟩ = some (.slice xaa L xac) ∧ Va.drew.cell? ⟨bb, 1, none⟩ = some (.slice na L nc)) := Lib.hid ⟨HBa.out.cell 0, HBa.out.cell 1⟩
      refine hK.out _ _ ?_ (fun hHeld => ?_)
      · exact HSa.out
      clear hK K
      try simp only [Act.put, List.setIfInBounds_toArray, List.set_cons_zero, List.set_cons_succ]
      refine wpAnyH_ready (rs := [6]) (by kernel_rfl) (by simp) ?_
      refine AllReadyH.cons (iatLS (iatSS (iatSS (iatSS (iatSS (iatSS (iatSS iatZS))))))) (fun K hK => ?_) AllReadyH.nil
      go_simp
      (with_reducible refine (Htk.out Va.drew Hba.out.drew na nc (HNa.out.grown (Below.refl _ Va).drew) i hlt gb (Nat.lt_of_lt_of_le hgl (Below.refl 0 Va).drew.size) (by rw [hkn.out]; exact Hia.out.grown (Below.refl _ Va).drew)).mono ?_)
      rintro e8 W8 ⟨ra, rc, l, rfl, hr8, ho8, hb8⟩
      have HR8 : Hid (Ris l (P i)) := Lib.hid (by rw [← HP.out]; exact hr8)
      have HB8 := Lib.hid ((show Blk Va.drew bb 68 [.slice xaa L xac, .slice na L nc] from HBa.out).below hb8 HBa.out.lt)
      have HS8 : Hid (W8.cell? ⟨bb, 0, none⟩ = some (.slice xaa L xac) ∧ W8.cell? ⟨bb, 1, none⟩ = some (.slice na L nc)) := Lib.hid ⟨HB8.out.cell 0, HB8.out.cell 1⟩
      have hbV : base ≤ Va.drew.heap.size := by rw [← hbase.out]; exact Hba5.out.size
      have HO8 := Lib.hid (World.ownsRow.kept (show Va.drew.ownsRow base 35 1 (.slice (some ⟨base, 0, none⟩) L L) L _ from HOa.out) (below_grownBy hb8 none) (by cases e : (Value.slice (some ⟨base, 0, none⟩) L L).ownBlock <;> simp))
      have HD8 : Hid (∀ d ∈ dn, OwnKZ W8 base d.a d.c d.l) := Lib.hid (fun d hd => World.ownsRow.kept (show OwnKZ Va.drew base d.a d.c d.l from HDa.out d hd) (below_grownBy hb8 none) (by cases e : (Value.slice d.a d.l.length d.c).ownBlock <;> simp))
      have Ho8 : Hid (OwnKZ W8 base ra rc l) := Lib.hid (own_mono ho8 hbV)
      have Hb8 := Lib.hid ((Hba5.out.drew).trans (hb8.mono hbV))
      have z0 := HO8.out.cellAt i (by omega)
      rw [List.getElem?_append_right (by rw [List.length_map, hdl.out]; exact Nat.le_refl _), List.length_map, hdl.out, Nat.sub_self, List.getElem?_replicate, if_pos (by omega)] at z0
      have zf := own_frz (j := i) HO8.out
      have zl : base < W8.heap.size := (World.ownsRow.lt HO8.out base rfl).2
      obtain ⟨hO9, hg9⟩ := HO8.out.stored i (.slice ra l.length rc)
      rw [set_fill _ _ _ L i (by rw [List.length_map, hdl.out]) hlt] at hO9
      have hne : ∀ (a : Option Addr) (c : Nat) (m : List Int), OwnKZ W8 base a c m → (Value.slice a m.length c).ownBlock ≠ some base := fun a c m h => own_ne_ty h (own_typ HO8.out base rfl).2.choose_spec (by decide)
      have HO9 : Hid ((W8.setCell ⟨base, i, none⟩ (.slice ra l.length rc)).ownsRow base 35 1 (.slice (some ⟨base, 0, none⟩) L L) L ((dn ++ [(⟨l, ra, rc⟩ : IltD)]).map IltD.v ++ List.replicate (L - (i + 1)) (.slice none 0 0))) := Lib.hid (by rw [List.map_append]; exact hO9)
      have HD9 : Hid (∀ d ∈ dn ++ [(⟨l, ra, rc⟩ : IltD)], OwnKZ (W8.setCell ⟨base, i, none⟩ (.slice ra l.length rc)) base d.a d.c d.l) := Lib.hid (fun d hd => (List.mem_append.1 hd).elim (fun h => World.ownsRow.kept (HD8.out d h) hg9 (.inr (hne _ _ _ (HD8.out d h)))) (fun h => by rw [List.mem_singleton] at h; subst h; exact World.ownsRow.kept Ho8.out hg9 (.inr (hne _ _ _ Ho8.out))))
      have HP9 : Hid (∀ r (h : r < (dn ++ [(⟨l, ra, rc⟩ : IltD)]).length), Ris (dn ++ [(⟨l, ra, rc⟩ : IltD)])[r].l (P r)) := Lib.hid (fun r h => by
        by_cases hr : r < dn.length
        · rw [List.getElem_append_left hr]; exact hdn.out r hr
        · have e9 : r = dn.length := by rw [List.length_append] at h; simp at h; omega
          subst e9
          rw [List.getElem_append_right (Nat.le_refl _)]
          simp only [Nat.sub_self, List.getElem_cons_zero]
          rw [hdl.out]; exact HR8.out)
      have HL9 : Hid ((dn ++ [(⟨l, ra, rc⟩ : IltD)]).length = i + 1) := Lib.hid (by rw [List.length_append, hdl.out]; rfl)
      have Hb9 := Lib.hid (Hb8.out.setCell (p := ⟨base, i, none⟩) (Nat.le_refl _) (.slice ra l.length rc))
      have HB9 := Lib.hid (HB8.out.setOther (b' := base) (j := i) (by omega) (.slice ra l.length rc))
      clear hr8 ho8 hb8 hO9 hg9 hne
      obtain ⟨RL, hRL⟩ : ∃ q, Hid (l.length = q) := ⟨_, Lib.hid rfl⟩
      rw [hRL.out] at HO9 HD9 Hb9 HB9 ⊢
      try dsimp only
      refine hK.out _ _ ?_ (fun hHeld => ?_)
      · exact HS8.out
      clear hK K
      try simp only [Act.put, List.setIfInBounds_toArray, List.set_cons_zero, List.set_cons_succ]
      refine wpAnyH_take (i := 7) (v := ?_) (iatLS (iatSS (iatSS (iatSS (iatSS (iatSS (iatSS (iatSS iatZS)))))))) (by kernel_rfl) (by kernel_rfl) (by kernel_rfl) (fun _ _ _ h => h) (Or.inl ⟨by rfl, ?_⟩) (by assumption) ?_
      rotate_left
      · intro w hSw
        try dsimp only at hSw
        go_simp
        all_goals with_reducible rfl
      try simp only [Act.put, List.setIfInBounds_toArray, List.set_cons_zero, List.set_cons_succ]
      refine wpAnyH_ready (rs := [8]) (by kernel_rfl) (by simp) ?_
      refine AllReadyH.cons (iatLS (iatSS (iatSS (iatSS (iatSS (iatSS (iatSS (iatSS (iatSS iatZS))))))))) (fun K hK => ?_) AllReadyH.nil
      go_simp
      generalize hW : World.setCell W8 _ _ = W9 at HO9 HD9 Hb9 HB9 ⊢
      clear hW z0 zf zl
      refine hK.out _ _ ?_ (fun hHeld => ?_)
      · exact ⟨HB9.out.cell 0, HB9.out.cell 1⟩
      clear hK K
      try simp only [Act.put, List.setIfInBounds_toArray, List.set_cons_zero, List.set_cons_succ]
      refine wpAnyH_done (by kernel_rfl) ?_ _
      go_wp2_with (fail)
      exact ⟨⟨i + 1, _, by omega, by go_num, HP9, HL9, HO9, HD9, Hb9.out⟩, by simp [RowKit.intOf]; omega⟩
    · have hie : i = L := by omega
      have hiI : ¬ (i : Int) < (L : Int) := by omega
      have Hfin : Hid (Q (.returned (.slice (some ⟨base, 0, none⟩) L L)) U) := Lib.hid (by
        rw [← HQ.out]
        have ho := HO.out
        rw [hie, Nat.sub_self, List.replicate_zero, List.append_nil] at ho
        have hw : w.heap.size ≤ base := by rw [← hbase.out]; exact Hb5.out.size
        refine ⟨some ⟨base, 0, none⟩, L, dn, rfl, by rw [hdl.out, hie], ⟨own_vals ho (by rw [List.length_map, hdl.out, hie]), fun d hd => (HD.out d hd).vs⟩, hdn.out, Hbu.out⟩)
      clear hie hbr5 hbr
      go_wp2_with (fail)
      first | exact Hfin.out | exact bodyPost_ret (v := .slice (some ⟨base, 0, none⟩) L L) (by simp [results, Try.results19, go_sem]; try first | rfl | assumption | omega) rfl Hfin.out
end Go.Proofs.Ytldmgifphkpdlaa

