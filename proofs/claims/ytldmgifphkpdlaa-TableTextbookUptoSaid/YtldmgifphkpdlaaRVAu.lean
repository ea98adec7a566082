/- Texts joined: Qc Ql Qd. -/
import Derived.Test.YtldmgifphkpdlaaRVAt
import Derived.Shelf.Slices.CompactI
import Derived.Test.YtldmgifphkpdlaaProg
import Derived.Lib.AppendZeros
import Derived.Sort.OwnSortedInts
set_option linter.unusedVariables false
set_option linter.unusedSimpArgs false
namespace Go.Proofs.Ytldmgifphkpdlaa
open Go.RowKit
/-- What an alternative of a rule is taken at. -/
def TakP (al : List (List (List Int))) (f : Nat → Bool) (T r : Nat) (a : List Int) (t : Int) : Prop := TokP al f (ahd f a) t ∨ (emp f a = true ∧ FolP al f T r t)
/-- Whether the alternative of that place is taken at it. -/
noncomputable def takB (al : List (List (List Int))) (f : Nat → Bool) (T r : Nat) (t : Int) (j : Nat) : Bool := by
 classical exact decide (∃ a, (al.getD r [])[j]? = some a ∧ TakP al f T r a t)
theorem takB_iff {al : List (List (List Int))} {f : Nat → Bool} {T r j : Nat} {t : Int} : takB al f T r t j = true ↔ ∃ a, (al.getD r [])[j]? = some a ∧ TakP al f T r a t := by unfold takB; simp
theorem takB_at {al : List (List (List Int))} {f : Nat → Bool} {T r j : Nat} {t : Int} {a : List Int} (h : (al.getD r [])[j]? = some a) : takB al f T r t j = true ↔ TakP al f T r a t := by
 rw [takB_iff]
 constructor
 ·rintro ⟨b, hb, h2⟩
  rw [h] at hb
  obtain rfl : a = b := by simpa using hb
  exact h2
 ·intro h2
  exact ⟨a, h, h2⟩
theorem tak_near {d : CfD} (hf : FitC d) {f : Nat → Bool} {r : Nat} {a : List Int} {t : Int} (ha : OkL d.toks.length d.alts.length a) (h : TakP (d.alts.map IrD.p) f d.toks.length r a t) : 0 ≤ t ∧ t ≤ 100 := by
 rcases h with h | ⟨_, h⟩
 ·exact tok_near hf (l := ahd f a) (fun y hy => ha y (ahd_sub hy)) h
 ·exact fol_near hf h
theorem tok_lt {d : CfD} (hf : FitC d) {f : Nat → Bool} {l : List Int} (hl : OkL d.toks.length d.alts.length l) {t : Int} (h : TokP (d.alts.map IrD.p) f l t) : t < d.toks.length := by
 have key : ∀ x, Rchd l (StA (d.alts.map IrD.p) f) x → x < d.toks.length := by
  intro x hx
  induction hx with
  | base h => exact (hl _ h).2
  | step _ h2 _ =>
   obtain ⟨_, a, ha, hy⟩ := h2
   obtain ⟨e, he, q, hq, rfl⟩ := al_mem ha
   exact ((hf.l e he q hq).2 _ (ahd_sub hy)).2
 exact key t h.2
theorem fol_le {d : CfD} (hf : FitC d) {f : Nat → Bool} {r : Nat} {t : Int} (h : FolP (d.alts.map IrD.p) f d.toks.length r t) : t ≤ d.toks.length := by
 refine fol_all (F := fun _ t => t ≤ d.toks.length) (Int.le_refl _) (fun s r a i hr ha hi t ht => ?_) (fun s r hl t ht => ht) h
 rw [List.length_map] at hr
 have e : (d.alts.map IrD.p).getD r [] = (d.alts[r]).ds.map (fun x => x.l) := by
  rw [List.getD_eq_getElem?_getD, List.getElem?_map, List.getElem?_eq_getElem hr]
  rfl
 rw [e, List.mem_map] at ha
 obtain ⟨x, hx, rfl⟩ := ha
 have := tok_lt hf (l := ahd f (x.l.drop (i + 1))) (fun y hy => (hf.l _ (List.getElem_mem hr) x hx).2 y (List.mem_of_mem_drop (ahd_sub hy))) ht
 omega
theorem tak_le {d : CfD} (hf : FitC d) {f : Nat → Bool} {r : Nat} {a : List Int} {t : Int} (ha : OkL d.toks.length d.alts.length a) (h : TakP (d.alts.map IrD.p) f d.toks.length r a t) : 0 ≤ t ∧ t ≤ d.toks.length := by
 rcases h with h | ⟨_, h⟩
 ·exact ⟨h.1, by have := tok_lt hf (l := ahd f a) (fun y hy => ha y (ahd_sub hy)) h; omega⟩
 ·exact ⟨h.1, fol_le hf h⟩
/-- The pairs that the one at a place is the first of, by what both must have. -/
def prAt (p : Nat → Bool) (l : List Nat) (i : Nat) : List (Nat × Nat) := if p (l.getD i 0) = true then ((l.drop (i + 1)).filter p).map (fun b => (l.getD i 0, b)) else []
def prTo (p : Nat → Bool) (l : List Nat) (n : Nat) : List (Nat × Nat) := (List.range n).flatMap (prAt p l)
theorem prTo_snoc (p : Nat → Bool) (l : List Nat) (n : Nat) : prTo p l (n + 1) = prTo p l n ++ prAt p l n := by
 unfold prTo
 rw [List.range_succ, List.flatMap_append, List.flatMap_singleton]
def prF (p : Nat → Bool) : List Nat → List (Nat × Nat)
 | [] => []
 | a :: l => (if p a = true then (l.filter p).map (fun b => (a, b)) else []) ++ prF p l
theorem prTo_is (p : Nat → Bool) : ∀ (l : List Nat), prTo p l l.length = prF p l
 | [] => rfl
 | a :: l => by
  unfold prTo prF
  rw [List.length_cons, List.range_succ_eq_map, List.flatMap_cons, List.flatMap_map]
  congr 1
  exact prTo_is p l
theorem prF_filter (p : Nat → Bool) : ∀ (l : List Nat), prF (fun _ => true) (l.filter p) = prF p l
 | [] => rfl
 | a :: l => by
  rw [List.filter_cons]
  cases e : p a
  ·simp only [prF, e]
   exact prF_filter p l
  ·simp only [prF, e, if_true]
   rw [prF_filter p l, List.filter_eq_self.2 (fun _ _ => rfl)]
/-- Those that clash at a token. -/
def clT (p : Nat → Bool) (n r t : Nat) : List (Nat × Nat × Nat × Nat) := (prF p (List.range n)).map (fun x => (r, t, x.1, x.2))
def clR (p : Nat → Nat → Bool) (n r T : Nat) : List (Nat × Nat × Nat × Nat) := (List.range T).flatMap (fun t => clT (p t) n r t)
def clS (p : Nat → Nat → Nat → Bool) (ns : Nat → Nat) (T R : Nat) : List (Nat × Nat × Nat × Nat) := (List.range R).flatMap (fun r => clR (p r) (ns r) r T)
theorem clR_snoc (p : Nat → Nat → Bool) (n r T : Nat) : clR p n r (T + 1) = clR p n r T ++ clT (p T) n r T := by
 unfold clR
 rw [List.range_succ, List.flatMap_append, List.flatMap_singleton]
theorem clS_snoc (p : Nat → Nat → Nat → Bool) (ns : Nat → Nat) (T R : Nat) : clS p ns T (R + 1) = clS p ns T R ++ clR (p R) (ns R) R T := by
 unfold clS
 rw [List.range_succ, List.flatMap_append, List.flatMap_singleton]
theorem prF_len (p : Nat → Bool) : ∀ (l : List Nat), (prF p l).length ≤ l.length * l.length
 | [] => Nat.le_refl _
 | a :: l => by
  have h1 := prF_len p l
  have h2 : (if p a = true then (l.filter p).map (fun b => (a, b)) else []).length ≤ l.length := by
   split
   ·rw [List.length_map]; exact List.length_filter_le _ _
   ·simp
  rw [prF, List.length_append, List.length_cons]
  have h3 : (l.length + 1) * (l.length + 1) = l.length * l.length + 2 * l.length + 1 := by rw [Nat.add_mul, Nat.mul_add]; omega
  omega
theorem clR_len (p : Nat → Nat → Bool) (n r : Nat) : ∀ T, (clR p n r T).length ≤ T * (n * n)
 | 0 => by simp [clR]
 | T + 1 => by
  rw [clR_snoc, List.length_append, Nat.add_mul]
  have h1 := clR_len p n r T
  have h2 := prF_len (p T) (List.range n)
  rw [List.length_range] at h2
  unfold clT
  rw [List.length_map]
  omega
theorem clS_len (p : Nat → Nat → Nat → Bool) (ns : Nat → Nat) (T B : Nat) (hB : ∀ r, ns r * ns r ≤ B) : ∀ R, (clS p ns T R).length ≤ R * (T * B)
 | 0 => by simp [clS]
 | R + 1 => by
  rw [clS_snoc, List.length_append, Nat.add_mul]
  have h1 := clS_len p ns T B hB R
  have h2 := clR_len (p R) (ns R) R T
  have h3 := Nat.mul_le_mul_left T (hB R)
  omega
/-- No clash: of each rule at each token one is taken at the most. -/
theorem prF_nil {p : Nat → Bool} : ∀ {l : List Nat}, prF p l = [] ↔ (l.filter p).length ≤ 1
 | [] => by simp [prF]
 | a :: l => by
  rw [prF, List.filter_cons]
  cases e : p a
  ·simp only [Bool.false_eq_true, if_false, List.nil_append]
   exact prF_nil
  ·simp only [if_true, List.append_eq_nil_iff, List.map_eq_nil_iff, List.length_cons]
   constructor
   ·rintro ⟨h, _⟩
    rw [h]; simp
   ·intro h
    have h2 : (l.filter p).length = 0 := by omega
    have h3 := List.length_eq_zero_iff.1 h2
    refine ⟨h3, (prF_nil (l := l)).2 (by rw [h3]; simp)⟩
theorem clS_nil {p : Nat → Nat → Nat → Bool} {ns : Nat → Nat} {T R : Nat} : clS p ns T R = [] ↔ ∀ r, r < R → ∀ t, t < T → ((List.range (ns r)).filter (p r t)).length ≤ 1 := by
 unfold clS
 rw [List.flatMap_eq_nil_iff]
 constructor
 ·intro h r hr t ht
  have h1 := h r (List.mem_range.2 hr)
  unfold clR at h1
  rw [List.flatMap_eq_nil_iff] at h1
  have h2 := h1 t (List.mem_range.2 ht)
  unfold clT at h2
  exact prF_nil.1 (List.map_eq_nil_iff.1 h2)
 ·intro h r hr
  unfold clR
  rw [List.flatMap_eq_nil_iff]
  intro t ht
  unfold clT
  rw [List.map_eq_nil_iff]
  exact prF_nil.2 (h r (List.mem_range.1 hr) t (List.mem_range.1 ht))
/-- The only one of a list that has one at most; -1: none. -/
def onlyL (l : List Nat) : Int := match l with | [] => -1 | a :: _ => (a : Int)
/-- A rule's row. -/
def rowT (p : Nat → Nat → Bool) (n T : Nat) : List Int := (List.range T).map (fun t => onlyL ((List.range n).filter (p t)))
theorem rowT_snoc (p : Nat → Nat → Bool) (n T : Nat) : rowT p n (T + 1) = rowT p n T ++ [onlyL ((List.range n).filter (p T))] := by
 unfold rowT
 rw [List.range_succ, List.map_append]
 rfl
end Go.Proofs.Ytldmgifphkpdlaa
namespace Go.Proofs
open Go.Shelf
def Try.laysCompact_ren : Go.Shelf.Ren := ⟨fun | 20 => 101 | n => n, fun | 0 => 0 | 3 => 3 | 4 => 4 | 22 => 35 | n => n, fun | n => n⟩
theorem Try.laysCompact : Go.Proofs.Lays2.n20 Try.prog Try.laysCompact_ren := {
 mixed := by kernel_rfl
 f20 := Try.func101.trans (congrArg some (by kernel_rfl))
 t0 := Try.underlying0
 a0 := Try.isAgg0
 z0 := Try.sizeOf0
 v0 := Try.zeroValue0
 t3 := Try.underlying3
 a3 := Try.isAgg3
 z3 := Try.sizeOf3
 v3 := Try.zeroValue3
 t4 := Try.underlying4
 a4 := Try.isAgg4
 z4 := Try.sizeOf4
 v4 := Try.zeroValue4
 t22 := Try.underlying35
 a22 := Try.isAgg35
 z22 := Try.sizeOf35
 v22 := Try.zeroValue35
 i3 := by kernel_rfl }
end Go.Proofs
namespace Go.Proofs.Ytldmgifphkpdlaa
open Go.RowKit Go.Shelf
attribute [local go_sem] Oper.semAt_some
/-- A shorter row of the same cells. -/
theorem OwnKZ.short {W : World} {base cap g n : Nat} {l : List Int} {ys : List Value} (h : W.ownsRow base 3 1 (.slice (some ⟨g, 0, none⟩) n cap) n (l.map (Value.int .i64) ++ ys)) (hn : l.length ≤ n) : OwnKZ W base (some ⟨g, 0, none⟩) cap l := by
 rcases h.2 with ⟨e1, e2⟩ | ⟨g2, cap', cur, e1, hb, hg, hle, hm, hs, ht⟩
 ·cases e1
 ·simp only [Value.slice.injEq] at e1
  obtain ⟨e1, -, rfl⟩ := e1
  injection e1 with e1
  injection e1 with e1
  subst e1
  refine ⟨by simp, .inr ⟨g, cap, cur, rfl, hb, hg, by omega, hm, hs, ?_⟩⟩
  have h2 := congrArg (List.take (l.length * 1)) ht
  rw [List.take_take, Nat.min_eq_left (by omega), List.take_append_of_le_length (by simp), List.take_of_length_le (l := l.map (Value.int .i64)) (by simp)] at h2
  exact h2
theorem sort10_any (l : List Int) (a : Option Addr) (cap base : Nat) (w : World) (h : OwnKZ w base a cap l) (hl : l.length ≤ 1000000) :
 Calls Try.prog 100 #[.slice a l.length cap] w fun e w' => e = .returned (.tuple #[]) ∧ OwnKZ w' base a cap (l.mergeSort (fun x y => decide (x ≤ y))) ∧ (base ≤ w.heap.size → Below base w w') := by
 rcases h.2 with ⟨e, e0⟩ | ⟨g, cap', cur, e, hb, hk, hnc, hcm, hcs, htk⟩
 ·injection e with e1 e2 e3
  subst e1 e3
  rw [e0]
  refine (Any.slices_Sort_int_none Try.laysSort none 0 w).mono ?_
  rintro e w' ⟨rfl, rfl⟩
  have hn : l = [] := List.length_eq_zero_iff.1 e0
  subst hn
  exact ⟨rfl, by simpa using OwnKZ.nil w' base, fun hb => (Below.refl _ _).mono (Nat.le_refl _)⟩
 ·injection e with e1 e2 e3
  subst e1 e3
  have ht : cur.toList.take l.length = l.map (Value.int .i64) := by
   rw [Nat.mul_one] at htk
   exact htk
  have hH := holds_of_blockI hk ht
  have hg := (Array.getElem?_eq_some_iff.1 hk).1
  have hs := Any.slices_Sort_int Try.laysSort g 0 cap l w hH hg (by omega)
  refine hs.mono ?_
  rintro e w' ⟨rfl, n, os, rfl⟩
  have ho := ownsRow_sortedI (n := n) (os := os) (base := base) (ss := l) (ts := l.mergeSort (fun x y => decide (x ≤ y))) (by simp) hb hk hnc hcm hcs
  refine ⟨rfl, by unfold OwnKZ; rw [List.length_mergeSort]; exact ho, fun hbs => belowAt (grownBy_sortedI _) (fun i e => by injection e with e; omega) hbs⟩
theorem compact10_any (l : List Int) (a : Option Addr) (cap base : Nat) (w : World) (h : OwnKZ w base a cap l) (hl : l.length ≤ 1000000) :
 Calls Try.prog 101 #[.slice a l.length cap] w fun e w' => e = .returned (.slice a (Lib.compact l).length cap) ∧ OwnKZ w' base a cap (Lib.compact l) ∧ (base ≤ w.heap.size → Below base w w') := by
 rcases h.2 with ⟨e, e0⟩ | ⟨g, cap', cur, e, hb, hk, hnc, hcm, hcs, htk⟩
 ·injection e with e1 e2 e3
  subst e1 e3
  have hn : l = [] := List.length_eq_zero_iff.1 e0
  subst hn
  refine (Any.slices_Compact_int_empty Try.laysCompact none 0 w).mono ?_
  rintro e w' ⟨rfl, rfl⟩
  exact ⟨rfl, OwnKZ.nil w' base, fun hb => (Below.refl _ _).mono (Nat.le_refl _)⟩
 ·injection e with e1 e2 e3
  subst e1 e3
  have ht : cur.toList.take l.length = l.map (Value.int .i64) := by
   rw [Nat.mul_one] at htk
   exact htk
  have hH := holds_of_blockI hk ht
  have hs := Any.slices_Compact_int Try.laysCompact g 0 cap l w hH (by omega) hnc
  refine hs.mono ?_
  rintro e w' ⟨rfl, n, rfl⟩
  have hcl : (Lib.compact l).length ≤ l.length := by
   unfold Lib.compact Lib.compactUpTo
   rw [List.length_map]
   have := List.length_filter_le (Lib.keeps l.toArray) (List.range l.length)
   rwa [List.length_range] at this
  have ho := ownsRow_sortedI (n := n) (os := #[]) (base := base) (ss := l) (ts := Lib.compact l ++ List.replicate (l.length - (Lib.compact l).length) 0) (by rw [List.length_append, List.length_replicate]; omega) hb hk hnc hcm hcs
  rw [Sort.grow_empty, List.map_append] at ho
  refine ⟨rfl, OwnKZ.short ho hcl, fun hbs => ?_⟩
  have hg := grownBy_sortedI (w := w) (g := g) (n := n) (os := #[]) (Lib.compact l ++ List.replicate (l.length - (Lib.compact l).length) 0).toArray
  rw [Sort.grow_empty] at hg
  exact belowAt hg (fun i e => by injection e with e; omega) hbs
/-- What is sorted, each once, is rising. -/
theorem compact_ris {l : List Int} (hs : l.Pairwise (· ≤ ·)) : Ris (Lib.compact l) (fun x => x ∈ l) := by
 have key : ∀ m, m ≤ l.length → (Lib.compactUpTo l.toArray m).Pairwise (· < ·) ∧ (∀ x, x ∈ Lib.compactUpTo l.toArray m ↔ x ∈ l.take m) := by
  intro m
  induction m with
  | zero => intro _; simp [Lib.compactUpTo]
  | succ m ih =>
   intro hm
   obtain ⟨h1, h2⟩ := ih (by omega)
   have hml : m < l.length := by omega
   have hd : l.toArray[m]! = l[m] := by simp [hml]
   rw [Lib.compactUpTo_succ, List.take_add_one, List.getElem?_eq_getElem hml, hd]
   have hle : ∀ x ∈ l.take m, x ≤ l[m] := fun x hx => by
    obtain ⟨i, hi, rfl⟩ := List.mem_iff_getElem.1 hx
    rw [List.length_take] at hi
    rw [List.getElem_take]
    exact List.pairwise_iff_getElem.1 hs i m (by omega) hml (by omega)
   cases e : Lib.keeps l.toArray m
   ·simp only [Bool.false_eq_true, if_false, List.append_nil]
    refine ⟨h1, fun x => ?_⟩
    rw [h2, List.mem_append]
    constructor
    ·exact .inl
    ·rintro (h | h)
     ·exact h
     ·have hm0 : m ≠ 0 := fun e2 => by subst e2; simp [Lib.keeps] at e
      have he : l.toArray[m]! = l.toArray[m - 1]! := by
       unfold Lib.keeps at e
       have e := of_decide_eq_false e
       refine Classical.byContradiction fun hn => e (.inr hn)
      have hd1 : l.toArray[m - 1]! = l[m - 1] := by simp [show m - 1 < l.length by omega]
      rw [hd, hd1] at he
      have hx : x = l[m] := by simpa using h
      rw [hx, he, List.mem_iff_getElem]
      exact ⟨m - 1, by rw [List.length_take]; omega, by rw [List.getElem_take]⟩
   ·simp only [if_true]
    refine ⟨?_, fun x => by rw [List.mem_append, h2, List.mem_append]; simp⟩
    rw [List.pairwise_append]
    refine ⟨h1, by simp, fun x hx y hy => ?_⟩
    have hy : y = l[m] := by simpa using hy
    subst hy
    have h3 := (h2 x).1 hx
    have h4 := hle x h3
    by_cases hm0 : m = 0
    ·subst hm0; simp at h3
    ·have hne : l[m] ≠ l[m - 1] := by
      unfold Lib.keeps at e
      have e := of_decide_eq_true e
      rcases e with e | e
      ·exact absurd e hm0
      ·have hd1 : l.toArray[m - 1]! = l[m - 1] := by simp [show m - 1 < l.length by omega]
       rwa [hd, hd1] at e
     have h5 : x ≤ l[m - 1] := by
      obtain ⟨i, hi, rfl⟩ := List.mem_iff_getElem.1 h3
      rw [List.length_take] at hi
      rw [List.getElem_take]
      by_cases e2 : i = m - 1
      ·subst e2; exact Int.le_refl _
      ·exact List.pairwise_iff_getElem.1 hs i (m - 1) (by omega) (by omega) (by omega)
     have h6 := List.pairwise_iff_getElem.1 hs (m - 1) m (by omega) hml (by omega)
     omega
 obtain ⟨h1, h2⟩ := key l.length (Nat.le_refl _)
 exact ⟨h1, fun x => by unfold Lib.compact; rw [h2, List.take_length]⟩
theorem sort_le (l : List Int) : (l.mergeSort (fun x y => decide (x ≤ y))).Pairwise (· ≤ ·) := by
 have := List.pairwise_mergeSort (le := fun (x y : Int) => decide (x ≤ y)) (fun a b c h1 h2 => by simp at *; omega) (fun a b => by simp; omega) l
 exact this.imp (fun h => by simpa using h)
set_option maxRecDepth 100000 in
set_option maxHeartbeats 2000000 in
theorem grow10_any (k : Nat) (w : World) (hk : k ≤ 1000000) :
 Calls Try.prog 119 #[.slice none 0 0, .int .i64 (k : Int)] w fun e w' => ∃ a' c', e = .returned (.slice a' 0 c') ∧ OwnKZ w' w.heap.size a' c' [] ∧ Below w.heap.size w w' := by
 by_cases h0 : k = 0
 ·subst h0
  go_enter Try.func119, Try.ntmps119
  go_wp2_with (fail)
  exact bodyPost_ret (v := .slice none 0 0) (by simp [results, Try.results119, go_sem]; try first | rfl | assumption | omega) rfl ⟨none, 0, rfl, World.ownsRow_nil _ _ _ 1, Below.refl _ w⟩
 ·obtain ⟨i0, hi, hz0, hz1, hz2⟩ := info_parts info_elI
  have hk1 : (0 : Int) < (k : Int) := by omega
  have hk2 : ¬ (k : Int) < 0 := by omega
  have hrun := Lib.run_append_nil_zeros (P := Try.prog) w 35 3 35 3 i0 _ .i64 .i64 Try.underlying35 Try.underlying3 hi hz0 k (by omega) (by rw [hz1]; decide) (by omega) (by rw [hz2]; omega)
  have hge := grownCap_ge w k 0 3
  have hle := grownCap_le_maxLen w k 0 3 (by unfold maxLen; omega)
  obtain ⟨cc, hcc⟩ : ∃ c, Hid (grownCap w k 0 3 = c) := ⟨_, Lib.hid rfl⟩
  rw [hcc.out] at hrun hge hle
  have hsz : (Builtin.zeroCells (Value.int .i64 0).cells k ++ Builtin.zeroCells (Value.int .i64 0).cells (cc - k)).size = cc := by
   simp [Builtin.zeroCells, Value.cells]
   omega
  obtain ⟨cs, hcs⟩ : ∃ c, Hid ((Builtin.zeroCells (Value.int .i64 0).cells k ++ Builtin.zeroCells (Value.int .i64 0).cells (cc - k)) = c) := ⟨_, Lib.hid rfl⟩
  rw [hcs.out] at hrun hsz
  have hO : OwnKZ (w.drew.alloc (.cells cs 3)) w.heap.size (some ⟨w.heap.size, 0, none⟩) cc [] := by
   refine ⟨rfl, .inr ⟨w.heap.size, cc, cs, rfl, Nat.le_refl _, World.alloc_heap_new w.drew _, Nat.zero_le _, hle, by rw [hsz]; omega, by simp⟩⟩
  have hB : Below w.heap.size w (w.drew.alloc (.cells cs 3)) := (Below.refl _ w).drew.alloc (Nat.le_refl _) _
  have Hrun := Lib.hid hrun
  have HO := Lib.hid hO
  have hcc2 : cc ≤ 9223372036854775807 := by unfold maxLen at hle; omega
  clear hrun hO
  go_enter Try.func119, Try.ntmps119
  go_wp2_with (at_builtin; refine wpList_append_run rfl _ _ 35 3 rfl _ _ _ _ rfl rfl Hrun.out ?_)
  exact bodyPost_ret (v := .slice (some ⟨w.heap.size, 0, none⟩) 0 cc) (by simp [results, Try.results119, go_sem]; try first | rfl | assumption | omega) rfl ⟨_, cc, rfl, HO.out, hB⟩
/-- Numbers of lists, one behind another. -/
def flatI (ds : List IltD) : List Int := (ds.map (fun d => d.l)).flatten
theorem flatI_snoc (ds : List IltD) (d : IltD) : flatI (ds ++ [d]) = flatI ds ++ d.l := by simp [flatI]
theorem flatI_take (ds : List IltD) (i : Nat) (h : i < ds.length) : flatI (ds.take (i + 1)) = flatI (ds.take i) ++ ds[i].l := by
 rw [List.take_add_one, List.getElem?_eq_getElem h]
 exact flatI_snoc _ _
theorem flatI_le (ds : List IltD) (i : Nat) : (flatI (ds.take i)).length ≤ (flatI ds).length := by
 have : flatI ds = flatI (ds.take i) ++ flatI (ds.drop i) := by
  unfold flatI
  rw [← List.flatten_append, ← List.map_append, List.take_append_drop]
 rw [this, List.length_append]
 omega
set_option maxRecDepth 100000 in
set_option maxHeartbeats 4000000 in
theorem concat10_any (ds : List IltD) (a : Option Addr) (cap : Nat) (w : World) (hl : AltsI w a cap ds) (hfew : (flatI ds).length ≤ 1000000) :
 Calls Try.prog 99 #[.slice a ds.length cap] w fun e w' => ∃ a' c', e = .returned (.slice a' (flatI ds).length c') ∧ OwnKZ w' w.heap.size a' c' (flatI ds) ∧ Below w.heap.size w w' := by
 have hlm : ds.length ≤ cap ∧ cap ≤ 9223372036854775807 := ⟨by have := hl.row.le; rwa [List.length_map] at this, hl.row.max⟩
 obtain ⟨L, HL⟩ : ∃ L, Hid (ds.length = L) := ⟨_, Lib.hid rfl⟩
 rw [HL.out] at hlm ⊢
 have HT : Hid (flatI (ds.take L) = flatI ds) := Lib.hid (by rw [List.take_of_length_le (by rw [HL.out]; exact Nat.le_refl _)])
 have Hfew := Lib.hid hfew
 have Hst : Hid (∀ i (h : i < ds.length), flatI (ds.take (i + 1)) = flatI (ds.take i) ++ ds[i].l) := Lib.hid (flatI_take ds)
 have Hle : Hid (∀ i, (flatI (ds.take i)).length ≤ 1000000) := Lib.hid (fun i => Nat.le_trans (flatI_le ds i) hfew)
 obtain ⟨Q, hQ⟩ : ∃ Q : Ending → World → Prop, Hid ((fun e w' => ∃ a' c', e = .returned (.slice a' (flatI ds).length c') ∧ OwnKZ w' w.heap.size a' c' (flatI ds) ∧ Below w.heap.size w w') = Q) := ⟨_, Lib.hid rfl⟩
 rw [hQ.out]
 have HQ := hQ
 clear hfew hQ
 go_enter Try.func99, Try.ntmps99
 go_wp2_with (fail)
 go_loopw [3, 11] (fun s iv wr => ∃ (i A : Nat), i ≤ L ∧ iv = .int .i64 (i : Int) ∧ s = .int .i64 (A : Int) ∧ Hid ((flatI (ds.take i)).length = A) ∧ wr = w) (fun _ iv _ => L - (RowKit.intOf iv).toNat)
 case atStart => exact ⟨0, 0, Nat.zero_le _, rfl, rfl, Lib.hid rfl, rfl⟩
 case round =>
  obtain ⟨i, A, hi, rfl, rfl, HA, hwr⟩ := hrel
  subst hwr
  by_cases hlt : i < L
  ·have hiI : (i : Int) < (L : Int) := by omega
   have hiI0 : (0 : Int) ≤ (i : Int) := by omega
   have hil : i < ds.length := by rw [HL.out]; exact hlt
   obtain ⟨b, off, rfl⟩ := hl.row.at_ i (by rw [List.length_map]; exact hil)
   have c0 := hl.row.cell b off rfl i (by rw [List.length_map]; exact hil)
   rw [List.getElem_map] at c0
   have hst := Hst.out i hil
   obtain ⟨d, hd⟩ : ∃ v, Hid (ds[i] = v) := ⟨_, Lib.hid rfl⟩
   rw [hd.out] at c0 hst
   have hbl := World.block_lt_of_cell? wr _ c0
   obtain ⟨D, hD⟩ : ∃ q, Hid (d.l.length = q) := ⟨_, Lib.hid rfl⟩
   change _ = some (Value.slice d.a d.l.length d.c) at c0
   rw [hD.out] at c0
   have hA2 : Hid ((flatI (ds.take (i + 1))).length = A + D) := Lib.hid (by rw [hst, List.length_append, HA.out, hD.out])
   have hB2 : A + D ≤ 1000000 := by have := Hle.out (i + 1); rw [hA2.out] at this; exact this
   clear hst
   have h1 : ¬ ((A : Int) + (D : Int) < 0) := by omega
   have h2 : (A : Int) + (D : Int) ≤ 1000000 := by omega
   have h3 : (0 : Int) ≤ (A : Int) + (D : Int) := by omega
   go_wp2_with (fail)
   exact ⟨⟨i + 1, A + D, by omega, by go_num, by go_num, hA2, by first | rfl | trivial⟩, by simp [RowKit.intOf]; omega⟩
  ·obtain rfl : i = L := by omega
   have hiI : ¬ (i : Int) < (i : Int) := by omega
   have hA1 : A ≤ 1000000 := by have := Hle.out i; rw [HA.out] at this; exact this
   have Hg := Lib.hid (grow10_any A wr hA1)
   go_wp2_with (fail)
   refine Hg.out.mono ?_
   clear Hg
   rintro r w1 ⟨a1, c1, rfl, ho1, hb1⟩
   have HO1 := Lib.hid ho1
   clear ho1
   go_wp2_with (fail)
   obtain ⟨B, hB⟩ : ∃ B, Hid (wr.heap.size = B) := ⟨_, Lib.hid rfl⟩
   obtain ⟨V1, rfl⟩ : ∃ V1, V1 = wr := ⟨_, rfl⟩
   go_loopw [6, 27] (fun s iv wv => ∃ (j n : Nat) (a' : Option Addr) (c' : Nat), j ≤ i ∧ iv = .int .i64 (j : Int) ∧ s = .slice a' n c' ∧ Hid ((flatI (ds.take j)).length = n) ∧ Hid (OwnKZ wv B a' c' (flatI (ds.take j))) ∧ Below B V1 wv) (fun _ iv _ => i - (RowKit.intOf iv).toNat)
   case atStart => exact ⟨0, 0, a1, c1, Nat.zero_le _, rfl, rfl, Lib.hid rfl, Lib.hid (by rw [← hB.out]; exact HO1.out), by rw [← hB.out]; exact hb1⟩
   case round =>
    obtain ⟨j, n, a', c', hj, rfl, rfl, Hn, HO, hbr⟩ := hrel
    by_cases hltj : j < i
    ·have hjI : (j : Int) < (i : Int) := by omega
     have hjI0 : (0 : Int) ≤ (j : Int) := by omega
     have hjl : j < ds.length := by rw [HL.out]; exact hltj
     have hbr2 := hbr
     rw [← hB.out] at hbr2
     obtain ⟨b, off, rfl⟩ := hl.row.at_ j (by rw [List.length_map]; exact hjl)
     have c0 := (hl.row.grown hbr2).cell b off rfl j (by rw [List.length_map]; exact hjl)
     rw [List.getElem_map] at c0
     have Hst2 := Lib.hid (Hst.out j hjl)
     have hmd : ds[j] ∈ ds := List.getElem_mem hjl
     obtain ⟨d, hd⟩ : ∃ v, Hid (ds[j] = v) := ⟨_, Lib.hid rfl⟩
     rw [hd.out] at c0 Hst2 hmd
     have hbl := World.block_lt_of_cell? _ _ c0
     have hNd := (hl.nms d hmd).grown hbr2
     have hle2 := Hle.out (j + 1)
     rw [Hst2.out, List.length_append] at hle2
     obtain ⟨a2, c2, w2, hrun, ho, hb2⟩ := OwnKZ.app HO.out d.a d.c d.l hNd 35 (by omega) (by rw [← hB.out]; exact hbr2.size)
     have Hn2 : Hid ((flatI (ds.take (j + 1))).length = n + d.l.length) := Lib.hid (by rw [Hst2.out, List.length_append, Hn.out])
     obtain ⟨D, hD⟩ : ∃ q, Hid (d.l.length = q) := ⟨_, Lib.hid rfl⟩
     change _ = some (Value.slice d.a d.l.length d.c) at c0
     rw [hD.out] at c0 hrun Hn2
     rw [Hn.out] at hrun
     have Hrun := Lib.hid hrun
     have HO2 : Hid (OwnKZ w2 B a2 c2 (flatI (ds.take (j + 1)))) := Lib.hid (by rw [Hst2.out]; exact ho)
     have hb3 := hbr.trans hb2
     clear hrun ho hb2 hle2 hNd
     go_wp2_with (at_builtin; refine wpList_append_run rfl _ _ 35 35 rfl _ _ _ _ rfl rfl Hrun.out ?_)
     exact ⟨⟨j + 1, n + D, a2, c2, by omega, by go_num, rfl, Hn2, HO2, hb3⟩, by simp [RowKit.intOf]; omega⟩
    ·obtain rfl : j = i := by omega
     have hjI : ¬ (j : Int) < (j : Int) := by omega
     have Hfin : Hid (Q (.returned (.slice a' n c')) wr) := Lib.hid (by
      rw [← HQ.out]
      rw [HT.out] at Hn HO
      have h2 := HO.out
      rw [← hB.out] at h2
      exact ⟨a', c', by rw [Hn.out], h2, by rw [hB.out]; exact hbr⟩)
     go_wp2_with (fail)
     first | exact Hfin.out | exact bodyPost_ret (v := .slice a' n c') (by simp [results, Try.results99, go_sem]; try first | rfl | assumption | omega) rfl Hfin.out
end Go.Proofs.Ytldmgifphkpdlaa
