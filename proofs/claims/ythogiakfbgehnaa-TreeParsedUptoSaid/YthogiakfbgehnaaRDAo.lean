/- Texts joined: Qc Ql Qd Fj Qe Qf Qg Qh Qi Qj Qk. -/
import Derived.Test.YthogiakfbgehnaaRDAn
import Derived.Shelf.Slices.CompactI
import Derived.Test.YthogiakfbgehnaaProg
import Derived.Lib.AppendZeros
import Derived.Sort.OwnSortedInts
import Derived.Test.YthogiakfbgehnaaRDAk
import Derived.Test.YthogiakfbgehnaaRDAm
set_option linter.unusedVariables false
set_option linter.unusedSimpArgs false
namespace Go.Proofs.Ythogiakfbgehnaa
open Go.RowKit
/-- What an alternative of a rule is taken at. -/
def TakP (al : List (List (List Int))) (f : Nat → Bool) (T r : Nat) (a : List Int) (t : Int) : Prop := TokP al f (ahd f a) t ∨ (emp f a = true ∧ FolP al f T r t)
/-- Whether the alternative of that place is taken at it. -/
noncomputable def takB (al : List (List (List Int))) (f : Nat → Bool) (T r : Nat) (t : Int) (j : Nat) : Bool := by
 classical exact decide (∃ a, (al.getD r [])[j]? = some a ∧ TakP al f T r a t)
theorem takB_iff {al : List (List (List Int))} {f : Nat → Bool} {T r j : Nat} {t : Int} : takB al f T r t j = true ↔ ∃ a, (al.getD r [])[j]? = some a ∧ TakP al f T r a t := by unfold takB; simp
theorem takB_at {al : List (List (List Int))} {f : Nat → Bool} {T r j : Nat} {t : Int} {a : List Int} (h : (al.getD r [])[j]? = some a) : takB al f T r t j = true ↔ TakP al f T r a t := by
 rw [takB_iff]
 constructor
 ·rintro ⟨b, hb, h2⟩
  rw [h] at hb
  obtain rfl : a = b := by simpa using hb
  exact h2
 ·intro h2
  exact ⟨a, h, h2⟩
theorem tak_near {d : CfD} (hf : FitC d) {f : Nat → Bool} {r : Nat} {a : List Int} {t : Int} (ha : OkL d.toks.length d.alts.length a) (h : TakP (d.alts.map IrD.p) f d.toks.length r a t) : 0 ≤ t ∧ t ≤ 100 := by
 rcases h with h | ⟨_, h⟩
 ·exact tok_near hf (l := ahd f a) (fun y hy => ha y (ahd_sub hy)) h
 ·exact fol_near hf h
/-- The pairs that the one at a place is the first of, by what both must have. -/
def prAt (p : Nat → Bool) (l : List Nat) (i : Nat) : List (Nat × Nat) := if p (l.getD i 0) = true then ((l.drop (i + 1)).filter p).map (fun b => (l.getD i 0, b)) else []
def prTo (p : Nat → Bool) (l : List Nat) (n : Nat) : List (Nat × Nat) := (List.range n).flatMap (prAt p l)
theorem prTo_snoc (p : Nat → Bool) (l : List Nat) (n : Nat) : prTo p l (n + 1) = prTo p l n ++ prAt p l n := by
 unfold prTo
 rw [List.range_succ, List.flatMap_append, List.flatMap_singleton]
def prF (p : Nat → Bool) : List Nat → List (Nat × Nat)
 | [] => []
 | a :: l => (if p a = true then (l.filter p).map (fun b => (a, b)) else []) ++ prF p l
theorem prTo_is (p : Nat → Bool) : ∀ (l : List Nat), prTo p l l.length = prF p l
 | [] => rfl
 | a :: l => by
  unfold prTo prF
  rw [List.length_cons, List.range_succ_eq_map, List.flatMap_cons, List.flatMap_map]
  congr 1
  exact prTo_is p l
/-- Those that clash at a token. -/
def clT (p : Nat → Bool) (n r t : Nat) : List (Nat × Nat × Nat × Nat) := (prF p (List.range n)).map (fun x => (r, t, x.1, x.2))
def clR (p : Nat → Nat → Bool) (n r T : Nat) : List (Nat × Nat × Nat × Nat) := (List.range T).flatMap (fun t => clT (p t) n r t)
def clS (p : Nat → Nat → Nat → Bool) (ns : Nat → Nat) (T R : Nat) : List (Nat × Nat × Nat × Nat) := (List.range R).flatMap (fun r => clR (p r) (ns r) r T)
theorem clR_snoc (p : Nat → Nat → Bool) (n r T : Nat) : clR p n r (T + 1) = clR p n r T ++ clT (p T) n r T := by
 unfold clR
 rw [List.range_succ, List.flatMap_append, List.flatMap_singleton]
theorem clS_snoc (p : Nat → Nat → Nat → Bool) (ns : Nat → Nat) (T R : Nat) : clS p ns T (R + 1) = clS p ns T R ++ clR (p R) (ns R) R T := by
 unfold clS
 rw [List.range_succ, List.flatMap_append, List.flatMap_singleton]
theorem prF_len (p : Nat → Bool) : ∀ (l : List Nat), (prF p l).length ≤ l.length * l.length
 | [] => Nat.le_refl _
 | a :: l => by
  have h1 := prF_len p l
  have h2 : (if p a = true then (l.filter p).map (fun b => (a, b)) else []).length ≤ l.length := by
   split
   ·rw [List.length_map]; exact List.length_filter_le _ _
   ·simp
  rw [prF, List.length_append, List.length_cons]
  have h3 : (l.length + 1) * (l.length + 1) = l.length * l.length + 2 * l.length + 1 := by rw [Nat.add_mul, Nat.mul_add]; omega
  omega
theorem clR_len (p : Nat → Nat → Bool) (n r : Nat) : ∀ T, (clR p n r T).length ≤ T * (n * n)
 | 0 => by simp [clR]
 | T + 1 => by
  rw [clR_snoc, List.length_append, Nat.add_mul]
  have h1 := clR_len p n r T
  have h2 := prF_len (p T) (List.range n)
  rw [List.length_range] at h2
  unfold clT
  rw [List.length_map]
  omega
theorem clS_len (p : Nat → Nat → Nat → Bool) (ns : Nat → Nat) (T B : Nat) (hB : ∀ r, ns r * ns r ≤ B) : ∀ R, (clS p ns T R).length ≤ R * (T * B)
 | 0 => by simp [clS]
 | R + 1 => by
  rw [clS_snoc, List.length_append, Nat.add_mul]
  have h1 := clS_len p ns T B hB R
  have h2 := clR_len (p R) (ns R) R T
  have h3 := Nat.mul_le_mul_left T (hB R)
  omega
/-- No clash: of each rule at each token one is taken at the most. -/
theorem prF_nil {p : Nat → Bool} : ∀ {l : List Nat}, prF p l = [] ↔ (l.filter p).length ≤ 1
 | [] => by simp [prF]
 | a :: l => by
  rw [prF, List.filter_cons]
  cases e : p a
  ·simp only [Bool.false_eq_true, if_false, List.nil_append]
   exact prF_nil
  ·simp only [if_true, List.append_eq_nil_iff, List.map_eq_nil_iff, List.length_cons]
   constructor
   ·rintro ⟨h, _⟩
    rw [h]; simp
   ·intro h
    have h2 : (l.filter p).length = 0 := by omega
    have h3 := List.length_eq_zero_iff.1 h2
    refine ⟨h3, (prF_nil (l := l)).2 (by rw [h3]; simp)⟩
theorem clS_nil {p : Nat → Nat → Nat → Bool} {ns : Nat → Nat} {T R : Nat} : clS p ns T R = [] ↔ ∀ r, r < R → ∀ t, t < T → ((List.range (ns r)).filter (p r t)).length ≤ 1 := by
 unfold clS
 rw [List.flatMap_eq_nil_iff]
 constructor
 ·intro h r hr t ht
  have h1 := h r (List.mem_range.2 hr)
  unfold clR at h1
  rw [List.flatMap_eq_nil_iff] at h1
  have h2 := h1 t (List.mem_range.2 ht)
  unfold clT at h2
  exact prF_nil.1 (List.map_eq_nil_iff.1 h2)
 ·intro h r hr
  unfold clR
  rw [List.flatMap_eq_nil_iff]
  intro t ht
  unfold clT
  rw [List.map_eq_nil_iff]
  exact prF_nil.2 (h r (List.mem_range.1 hr) t (List.mem_range.1 ht))
/-- The only one of a list that has one at most; -1: none. -/
def onlyL (l : List Nat) : Int := match l with | [] => -1 | a :: _ => (a : Int)
/-- The last one of those that have it. -/
def lastF (p : Nat → Bool) : Nat → Int
 | 0 => -1
 | n + 1 => if p n = true then (n : Int) else lastF p n
theorem only_last {p : Nat → Bool} : ∀ {n : Nat}, ((List.range n).filter p).length ≤ 1 → onlyL ((List.range n).filter p) = lastF p n
 | 0, _ => rfl
 | n + 1, h => by
  rw [List.range_succ, List.filter_append] at h ⊢
  rw [List.length_append] at h
  rw [lastF]
  cases e : p n
  ·simp only [List.filter_cons, e, List.filter_nil, Bool.false_eq_true, if_false, List.append_nil]
   exact only_last (by omega)
  ·have h1 : ([n].filter p) = [n] := by simp [e]
   rw [h1] at h ⊢
   simp only [List.length_singleton] at h
   have h2 : ((List.range n).filter p) = [] := List.length_eq_zero_iff.1 (by omega)
   rw [h2]
   simp [onlyL]
/-- A rule's row. -/
def rowT (p : Nat → Nat → Bool) (n T : Nat) : List Int := (List.range T).map (fun t => onlyL ((List.range n).filter (p t)))
theorem rowT_snoc (p : Nat → Nat → Bool) (n T : Nat) : rowT p n (T + 1) = rowT p n T ++ [onlyL ((List.range n).filter (p T))] := by
 unfold rowT
 rw [List.range_succ, List.map_append]
 rfl
end Go.Proofs.Ythogiakfbgehnaa
namespace Go.Proofs
open Go.Shelf
end Go.Proofs
namespace Go.Proofs.Ythogiakfbgehnaa
open Go.RowKit Go.Shelf
attribute [local go_sem] Oper.semAt_some
end Go.Proofs.Ythogiakfbgehnaa
namespace Go.Proofs.Ythogiakfbgehnaa
open Go.RowKit Go.Maps
attribute [local go_sem] Oper.semAt_some
end Go.Proofs.Ythogiakfbgehnaa
namespace Go.Proofs.Ythogiakfbgehnaa
open Go.RowKit Go.Maps
attribute [local go_sem] Oper.semAt_some
/-- All that a row of lists holds lies from a block on. -/
def FrA (X : Nat) (a : Option Addr) (ds : List IltD) : Prop := (∀ b off, a = some ⟨b, off, none⟩ → X ≤ b) ∧ ∀ d ∈ ds, ∀ b off, d.a = some ⟨b, off, none⟩ → X ≤ b
theorem fr_own {W : World} {base e n c : Nat} {a : Option Addr} {xs : List Value} (h : W.ownsRow base e 1 (.slice a n c) n xs) : ∀ b off, a = some ⟨b, off, none⟩ → base ≤ b := by
 intro b off e
 subst e
 rcases h.2 with ⟨e1, _⟩ | ⟨g, cp, cur, e1, hb, _⟩
 ·cases e1
 ·injection e1 with e1
  injection e1 with e1
  injection e1 with e1
  omega
theorem OwnXI.fr {W : World} {base c : Nat} {a : Option Addr} {ds : List IltD} (h : OwnXI W base a c ds) : FrA base a ds := ⟨fr_own h.out, fun d hd => fr_own (h.ins d hd)⟩
end Go.Proofs.Ythogiakfbgehnaa
namespace Go.Proofs.Ythogiakfbgehnaa
open Go.RowKit Go.Maps
attribute [local go_sem] Oper.semAt_some
end Go.Proofs.Ythogiakfbgehnaa
namespace Go.Proofs.Ythogiakfbgehnaa
open Go.RowKit Go.Maps
attribute [local go_sem] Oper.semAt_some
/-- The block of a list's own row. -/
abbrev ownB (e : IltD) : Option Nat := (Value.slice e.a e.l.length e.c).ownBlock
theorem own_heap {W : World} {base e n : Nat} {v : Value} {xs : List Value} (h : W.ownsRow base e 1 v n xs) {k : Nat} (hk : v.ownBlock = some k) : ∃ cur, W.heap[k]? = some (.cells cur e (0, 0)) := by
 rcases h.2 with ⟨e1, _⟩ | ⟨g, cp, cur, e1, hb, hk2, _⟩
 ·rw [e1] at hk; cases hk
 ·rw [e1] at hk
  have : g = k := Option.some.inj hk
  subst this
  exact ⟨cur, hk2⟩
/-- A row of lists of its own, each of them in a row of its own, all apart. -/
structure TkA (W : World) (base g L : Nat) (es : List IltD) : Prop where
 own : W.ownsRow base 35 1 (.slice (some ⟨g, 0, none⟩) L L) L (es.map IltD.v)
 len : es.length = L
 ins : ∀ e ∈ es, OwnKZ W base e.a e.c e.l
 apart : ∀ i j (hi : i < es.length) (hj : j < es.length), i ≠ j → ∀ b, ownB es[i] = some b → ownB es[j] ≠ some b
theorem TkA.heap {W : World} {base g L : Nat} {es : List IltD} (h : TkA W base g L es) : ∃ cur, W.heap[g]? = some (.cells cur 35 (0, 0)) := own_heap h.own rfl
theorem TkA.kept {W W' : World} {base g L : Nat} {es : List IltD} {row : Option Nat} (h : TkA W base g L es) (hg : W.grownBy W' row) (hr : ∀ q, row = some q → q ≠ g ∧ ∀ e ∈ es, ownB e ≠ some q) : TkA W' base g L es :=
 ⟨World.ownsRow.kept h.own hg (by
  cases row with
  | none => right; simp [Value.ownBlock]
  | some q => exact .inr (fun e => (hr q rfl).1 (Option.some.inj e).symm)), h.len, fun e he => OwnKZ.kept (h.ins e he) hg (fun q e2 => (hr q e2).2 e he), h.apart⟩
theorem TkA.below {W W' : World} {base g L : Nat} {es : List IltD} (h : TkA W base g L es) (hb : Below W.heap.size W W') : TkA W' base g L es := h.kept (below_grownBy hb none) (fun q e => by cases e)
theorem TkA.mono {W : World} {base base' g L : Nat} {es : List IltD} (h : TkA W base g L es) (hb : base' ≤ base) : TkA W base' g L es := ⟨own_mono h.own hb, h.len, fun e he => own_mono (h.ins e he) hb, h.apart⟩
theorem TkA.alts {W : World} {base g L : Nat} {es : List IltD} (h : TkA W base g L es) : AltsI W (some ⟨g, 0, none⟩) L es := ⟨own_vals h.own (by rw [List.length_map, h.len]), fun e he => OwnKZ.vs (h.ins e he)⟩
theorem TkA.lt {W : World} {base g L : Nat} {es : List IltD} (h : TkA W base g L es) : base ≤ g ∧ g < W.heap.size := World.ownsRow.lt h.own g rfl
theorem TkA.fr {W : World} {base g L : Nat} {es : List IltD} (h : TkA W base g L es) : FrA base (some ⟨g, 0, none⟩) es := ⟨fr_own h.own, fun e he => fr_own (h.ins e he)⟩
/-- A list is put longer by one, and stored again. -/
theorem TkA.push {W : World} {base g L : Nat} {es : List IltD} (h : TkA W base g L es) {t : Nat} (ht : t < es.length) (x : Int) (ty : TypeId) (hn : es[t].l.length + 1 ≤ 1000000000) (hb : base ≤ W.heap.size) :
 ∃ a' c' w2, (Builtin.append_ #[35, 35] ty #[.slice es[t].a es[t].l.length es[t].c, .slice (some ⟨W.heap.size, 0, none⟩) 1 1]).run Try.prog (W.alloc (.cells #[.int .i64 x] 3)) = .ok (.slice a' (es[t].l.length + 1) c') w2 ∧
  w2.cell? ⟨g, t, none⟩ = some (.slice es[t].a es[t].l.length es[t].c) ∧ w2.frozen? ⟨g, t, none⟩ = false ∧ g < w2.heap.size ∧ TkA (w2.setCell ⟨g, t, none⟩ (.slice a' (es[t].l.length + 1) c')) base g L (es.set t ⟨es[t].l ++ [x], a', c'⟩) ∧
  W.grownBy w2 (ownB es[t]) ∧ (∀ q, ownB ⟨es[t].l ++ [x], a', c'⟩ = some q → ownB es[t] = some q ∨ W.heap.size ≤ q) ∧ (∃ cur, w2.heap[g]? = some (.cells cur 35 (0, 0))) := by
 obtain ⟨a', c', w2, hrun, ho, hg, hw⟩ := OwnKZ.push (h.ins _ (List.getElem_mem ht)) x ty hn hb
 have hty : ∀ q, ownB es[t] = some q → ∃ cur t' fr, W.heap[q]? = some (.cells cur t' fr) ∧ 35 ≠ t' := fun q hq => by
  obtain ⟨cur, hc⟩ := own_heap (h.ins _ (List.getElem_mem ht)) hq
  exact ⟨cur, _, _, hc, by decide⟩
 have hown := own_kept_ty h.own hg hty
 have hlt := World.ownsRow.lt hown g rfl
 obtain ⟨cur2, hcur2⟩ := own_heap hown (k := g) rfl
 have hgs : w2.grownBy (w2.setCell ⟨g, t, none⟩ (.slice a' (es[t].l.length + 1) c')) (some g) := grownBy_set w2 _ _ _
 have hty2 : ∀ q, (some g : Option Nat) = some q → ∃ cur t' fr, w2.heap[q]? = some (.cells cur t' fr) ∧ 3 ≠ t' := fun q hq => by
  obtain rfl := Option.some.inj hq
  exact ⟨cur2, _, _, hcur2, by decide⟩
 refine ⟨a', c', w2, hrun, ?_, own_frz hown, hlt.2, ⟨?_, by rw [List.length_set]; exact h.len, fun e he => ?_, fun i j hi hj hij b hbi => ?_⟩, hg, fun q hq => hw q hq, ⟨cur2, hcur2⟩⟩
 ·have := hown.cellAt t (by rw [Nat.mul_one, ← h.len]; exact ht)
  rw [this, List.getElem?_map, List.getElem?_eq_getElem ht]
  rfl
 ·have := (hown.stored t (.slice a' (es[t].l.length + 1) c')).1
  rw [List.map_set]
  have e2 : IltD.v ⟨es[t].l ++ [x], a', c'⟩ = .slice a' (es[t].l.length + 1) c' := by simp [IltD.v]
  rw [e2]
  exact this
 ·obtain ⟨i, hi, rfl⟩ := List.getElem_of_mem he
  rw [List.length_set] at hi
  by_cases hit : i = t
  ·subst hit
   rw [List.getElem_set_self]
   exact own_kept_ty ho hgs hty2
  ·rw [List.getElem_set_ne (fun e => hit e.symm)]
   refine own_kept_ty (OwnKZ.kept (h.ins _ (List.getElem_mem hi)) hg (fun q hq e => ?_)) hgs hty2
   exact h.apart t i ht hi (fun e => hit e.symm) q hq e
 ·have hi2 : i < es.length := by simpa using hi
  have hj2 : j < es.length := by simpa using hj
  have hold : ∀ k (hk : k < es.length) b, ownB es[k] = some b → b < W.heap.size := fun k hk b e => (World.ownsRow.lt (h.ins _ (List.getElem_mem hk)) b e).2
  by_cases hit : i = t
  ·subst hit
   rw [List.getElem_set_self] at hbi
   rw [List.getElem_set_ne hij]
   rcases hw b hbi with h1 | h1
   ·exact h.apart i j hi2 hj2 hij b h1
   ·intro e
    have := hold j hj2 b e
    omega
  ·rw [List.getElem_set_ne (fun e => hit e.symm)] at hbi
   by_cases hjt : j = t
   ·subst hjt
    rw [List.getElem_set_self]
    intro e
    rcases hw b e with h1 | h1
    ·exact h.apart i j hi2 hj2 hij b hbi h1
    ·have := hold i hi2 b hbi
     omega
   ·rw [List.getElem_set_ne (fun e => hjt e.symm)]
    exact h.apart i j hi2 hj2 hij b hbi
end Go.Proofs.Ythogiakfbgehnaa
namespace Go.Proofs.Ythogiakfbgehnaa
open Go.RowKit Go.Maps
attribute [local go_sem] Oper.semAt_some
/-- What the alternative of those numbers is taken at. -/
def PrdP (al : List (List (List Int))) (f : Nat → Bool) (T : Nat) (x y t : Int) : Prop := 0 ≤ x ∧ 0 ≤ y ∧ takB al f T x.toNat t y.toNat = true
theorem prd_none {al : List (List (List Int))} {f : Nat → Bool} {T : Nat} {x y : Int} (h : x < 0 ∨ (al.length : Int) ≤ x ∨ y < 0 ∨ ((al.getD x.toNat []).length : Int) ≤ y) : Ris [] (PrdP al f T x y) := by
 refine ⟨List.Pairwise.nil, fun t => ⟨fun h => (by cases h), ?_⟩⟩
 rintro ⟨h1, h2, h3⟩
 obtain ⟨a, ha, _⟩ := takB_iff.1 h3
 have := (List.getElem?_eq_some_iff.1 ha).1
 rcases h with h | h | h | h
 ·omega
 ·rw [List.getD_eq_getElem?_getD, List.getElem?_eq_none (by omega)] at this
  simp at this
 ·omega
 ·omega
end Go.Proofs.Ythogiakfbgehnaa
namespace Go.Proofs.Ythogiakfbgehnaa
open Go.RowKit Go.Maps
attribute [local go_sem] Oper.semAt_some
theorem TkA.kept_ty {W W' : World} {base g L : Nat} {es : List IltD} {row : Option Nat} (h : TkA W base g L es) (hg : W.grownBy W' row) (hr : ∀ q, row = some q → ∃ cur t fr, W.heap[q]? = some (.cells cur t fr) ∧ 35 ≠ t ∧ 3 ≠ t) : TkA W' base g L es :=
 ⟨own_kept_ty h.own hg (fun q e => by obtain ⟨cur, t, fr, h1, h2, _⟩ := hr q e; exact ⟨cur, t, fr, h1, h2⟩), h.len, fun e he => own_kept_ty (h.ins e he) hg (fun q e => by obtain ⟨cur, t, fr, h1, _, h2⟩ := hr q e; exact ⟨cur, t, fr, h1, h2⟩), h.apart⟩
/-- Clashes in memory. -/
abbrev Cl4 := Nat × Nat × Nat × Nat
def clC (x : Cl4) : List Value := [.int .i64 (x.1 : Int), .int .i64 (x.2.1 : Int), .int .i64 (x.2.2.1 : Int), .int .i64 (x.2.2.2 : Int)]
abbrev OwnCl (W : World) (base : Nat) (a : Option Addr) (c : Nat) (l : List Cl4) : Prop := W.ownsRow base 96 4 (.slice a l.length c) l.length (l.flatMap clC)
theorem info_cl : (Try.prog.info? 96).map (fun i => (i.zero, i.size, i.bytes)) = some (some (.agg #[.int .i64 0, .int .i64 0, .int .i64 0, .int .i64 0]), 4, 32) := by kernel_rfl
theorem own_heapN {W : World} {base e n sz : Nat} {v : Value} {xs : List Value} (h : W.ownsRow base e sz v n xs) {k : Nat} (hk : v.ownBlock = some k) : ∃ cur, W.heap[k]? = some (.cells cur e (0, 0)) := by
 rcases h.2 with ⟨e1, _⟩ | ⟨g, cp, cur, e1, hb, hk2, _⟩
 ·rw [e1] at hk; cases hk
 ·rw [e1] at hk
  have : g = k := Option.some.inj hk
  subst this
  exact ⟨cur, hk2⟩
theorem OwnCl.push {W : World} {base c : Nat} {a : Option Addr} {l : List Cl4} (h : OwnCl W base a c l) (x : Cl4) (ty : TypeId) (hn : l.length + 1 ≤ 1099511627780) (hb : base ≤ W.heap.size) :
 ∃ a' c' w', (Builtin.append_ #[45, 45] ty #[.slice a l.length c, .slice (some ⟨W.heap.size, 0, none⟩) 1 1]).run Try.prog (W.alloc (.cells #[.int .i64 (x.1 : Int), .int .i64 (x.2.1 : Int), .int .i64 (x.2.2.1 : Int), .int .i64 (x.2.2.2 : Int)] 96)) = .ok (.slice a' (l.length + 1) c') w' ∧
  OwnCl w' base a' c' (l ++ [x]) ∧ Below base W w' ∧ (∀ B g L es, TkA W B g L es → TkA w' B g L es) := by
 obtain ⟨a', c', w', hrun, ho, hg⟩ := run_pushV W 45 ty 96 (.agg #[.int .i64 0, .int .i64 0, .int .i64 0, .int .i64 0]) 4 32 Try.underlying45 info_cl rfl (by decide) (by decide) (clC x) rfl (fun u hu => by
  simp only [clC, List.mem_cons, List.not_mem_nil, or_false] at hu
  rcases hu with rfl | rfl | rfl | rfl <;> rfl) h hn hb
 refine ⟨a', c', w', hrun, ?_, belowAt hg (fun q hq => (World.ownsRow.lt h q hq).1) hb, fun B g L es hE => hE.kept_ty hg (fun q hq => ?_)⟩
 ·unfold OwnCl
  rw [List.length_append, List.length_singleton, List.flatMap_append, List.flatMap_singleton]
  exact ho
 ·obtain ⟨cur, hc⟩ := own_heapN h hq
  exact ⟨cur, _, _, hc, by decide, by decide⟩
theorem OwnCl.nil (W : World) (base : Nat) : OwnCl W base none 0 [] := World.ownsRow_nil W base _ 4
theorem OwnCl.le {W : World} {base c : Nat} {a : Option Addr} {l : List Cl4} (h : OwnCl W base a c l) : l.length ≤ c ∧ c ≤ 9223372036854775807 := by
 rcases h.2 with ⟨e1, e2⟩ | ⟨g, cap', cur, e1, hb, hg, hle, hm, hs, ht⟩
 ·simp only [Value.slice.injEq] at e1
  omega
 ·simp only [Value.slice.injEq] at e1
  unfold maxLen at hm
  omega
theorem OwnCl.below {W W' : World} {base c : Nat} {a : Option Addr} {l : List Cl4} (h : OwnCl W base a c l) (hb : Below W.heap.size W W') : OwnCl W' base a c l :=
 World.ownsRow.kept h (below_grownBy hb none) (by cases e : (Value.slice a l.length c).ownBlock <;> simp)
theorem prTo_len (p : Nat → Bool) (l : List Nat) : ∀ n, (prTo p l n).length ≤ n * l.length
 | 0 => by simp [prTo]
 | n + 1 => by
  rw [prTo_snoc, List.length_append, Nat.add_mul]
  have h1 := prTo_len p l n
  have h2 : (prAt p l n).length ≤ l.length := by
   unfold prAt
   split
   ·rw [List.length_map]
    have h3 := List.length_filter_le p (l.drop (n + 1))
    rw [List.length_drop] at h3
    omega
   ·simp
  omega
def ClsQ (w : World) (q : List Cl4) (e : Ending) (W' : World) : Prop := ∃ a c, e = .returned (.slice a q.length c) ∧ OwnCl W' w.heap.size a c q ∧ Below w.heap.size w W'
/-- All clashes of a grammar. -/
noncomputable def allCl (al : List (List (List Int))) (f : Nat → Bool) (T : Nat) : List Cl4 := clS (fun r t j => takB al f T r (t : Int) j) (fun r => (al.getD r []).length) (T + 1) al.length
end Go.Proofs.Ythogiakfbgehnaa
namespace Go.Proofs.Ythogiakfbgehnaa
open Go.RowKit Go.Maps
attribute [local go_sem] Oper.semAt_some
theorem rowT_len (p : Nat → Nat → Bool) (n T : Nat) : (rowT p n T).length = T := by unfold rowT; rw [List.length_map, List.length_range]
end Go.Proofs.Ythogiakfbgehnaa
namespace Go.Proofs.Ythogiakfbgehnaa
open Go.RowKit Go.Maps
attribute [local go_sem] Oper.semAt_some
set_option maxRecDepth 100000 in
set_option maxHeartbeats 16000000 in
theorem lead9f_any (d : CfD) (s : List Int) (sa : Option Addr) (sc : Nat) (na : Option Addr) (nc : Nat) (f : Nat → Bool) (ka : Option Addr) (kc : Nat) (ds : List IltD) (K : Nat → Int → Prop) (w : World) (hd : CfAt w d) (hs : Ints w sa sc s) (hn : BlsF w na nc d.alts.length f) (hx : ∀ x ∈ s, -(d.alts.length : Int) ≤ x ∧ x ≤ 100) (hl : d.alts.length ≤ 1000000) (hk : AltsI w ka kc ds) (hkl : ds.length = d.alts.length) (hK : ∀ r (h : r < ds.length), Ris ds[r].l (K r)) (hKb : ∀ r t, K r t → 0 ≤ t ∧ t ≤ 100) :
 Calls Try.prog 67 #[d.v, .slice sa s.length sc, .slice na d.alts.length nc, .slice ka ds.length kc] w fun e w' => ∃ oa oc, ∃ r : List Int, e = .returned (.slice oa r.length oc) ∧ Ints w' oa oc r ∧ FrB w.heap.size oa ∧ Ris r (ldP K f s) ∧ Below w.heap.size w w' := by
 have HR := Lib.hid (fun x (hx : -(d.alts.length : Int) ≤ x ∧ x ≤ 1000000000) W (hb : Below w.heap.size w W) => rule9_any d x W (hd.grown hb) hx hl)
 have hsm : s.length ≤ sc ∧ sc ≤ 9223372036854775807 := ⟨by have := hs.le; rwa [List.length_map] at this, hs.max⟩
 have hnm : d.alts.length ≤ nc ∧ nc ≤ 9223372036854775807 := ⟨by have := hn.le; simpa using this, hn.max⟩
 have hkm : ds.length ≤ kc ∧ kc ≤ 9223372036854775807 := ⟨by have := hk.row.le; rwa [List.length_map] at this, hk.row.max⟩
 have Hs := Lib.hid hs
 have Hn := Lib.hid hn
 have Hx := Lib.hid hx
 have Hk := Lib.hid hk
 have HK := Lib.hid hK
 have HKb := Lib.hid hKb
 have Hkl := Lib.hid hkl
 obtain ⟨xt, xta, xtc, xn, xna, xnc, xa, xaa, xac⟩ := d
 dsimp only [CfD.v] at *
 rw [hkl] at hkm ⊢
 have hb1 : Below w.heap.size w (w.alloc (.cells #[.slice xta xt.length xtc, .slice xna xn.length xnc, .slice xaa xa.length xac] 25)) := (Below.refl _ w).alloc (Nat.le_refl _) _
 have hA := Blk.new w 25 #[.slice xta xt.length xtc, .slice xna xn.length xnc, .slice xaa xa.length xac]
 obtain ⟨T, HT⟩ : ∃ q, Hid (xt.length = q) := ⟨_, Lib.hid rfl⟩
 obtain ⟨N, HN⟩ : ∃ q, Hid (xn.length = q) := ⟨_, Lib.hid rfl⟩
 obtain ⟨L, HL⟩ : ∃ q, Hid (xa.length = q) := ⟨_, Lib.hid rfl⟩
 rw [HT.out, HN.out, HL.out] at hA hb1
 rw [HT.out, HN.out, HL.out]
 have x0 := hA.cell 0
 have x1 := hA.cell 1
 have x2 := hA.cell 2
 have xl := hA.lt
 simp only [List.getElem?_cons_zero, List.getElem?_cons_succ] at x0 x1 x2
 have HA := Lib.hid hA
 have Hb1 := Lib.hid hb1
 obtain ⟨S, HS⟩ : ∃ q, Hid (s.length = q) := ⟨_, Lib.hid rfl⟩
 rw [HS.out] at hsm ⊢
 rw [HL.out] at hnm hl Hn Hx hkm Hkl
 rw [HT.out, HN.out, HL.out] at HR
 clear hd hA hb1 hs hn hx hk hK hKb hkl
 go_enter Try.func67, Try.ntmps67
 go_wp2_with (fail)
 obtain ⟨bx, hbx⟩ : ∃ q, Hid (w.heap.size = q) := ⟨_, Lib.hid rfl⟩
 rw [hbx.out] at HA x0 x1 x2 xl ⊢
 generalize hV : World.alloc w _ = V at HA x0 x1 x2 xl Hb1 ⊢
 clear hV x0 x1 x2 xl
 go_loopw [9, 15] (fun sv iv wr => ∃ (k n : Nat) (oa : Option Addr) (oc : Nat) (r : List Int), k ≤ S ∧ iv = .int .i64 (k : Int) ∧ sv = .slice oa n oc ∧ Hid (n = r.length) ∧ Hid (Ints wr oa oc r) ∧ Hid (FrB w.heap.size oa) ∧ Hid (Ris r (ldQ K (s.take k))) ∧ Hid (emp f (s.take k) = true) ∧ Hid (Blk wr bx 25 [.slice xta T xtc, .slice xna N xnc, .slice xaa L xac]) ∧ Below w.heap.size w wr) (fun _ iv _ => S - (RowKit.intOf iv).toNat)
 case atStart => exact ⟨0, 0, none, 0, [], Nat.zero_le _, rfl, rfl, Lib.hid rfl, Lib.hid (Vs.nil _), Lib.hid (fun _ _ e => by cases e), Lib.hid ⟨List.Pairwise.nil, fun t => by simp [ldQ]⟩, Lib.hid rfl, HA, Hb1.out⟩
 case round =>
  clear HA Hb1
  obtain ⟨k, n, oa, oc, r, hk, rfl, rfl, hn, HI, HFr, Hr, HE, HA, hbr⟩ := hrel
  obtain ⟨U, rfl⟩ : ∃ U, U = wr := ⟨_, rfl⟩
  by_cases hlt : k < S
  ·have hkI : (k : Int) < (S : Int) := by omega
   have hkI0 : (0 : Int) ≤ (k : Int) := by omega
   have hkl : k < s.length := by rw [HS.out]; exact hlt
   have hrow := Hs.out.grown hbr
   have hst : s.take (k + 1) = s.take k ++ [s[k]] := by rw [List.take_add_one, List.getElem?_eq_getElem hkl]; rfl
   have hah : (decide (s[k] < 0) && f (ruL s[k])) = false → ahd f s = s.take k ++ [s[k]] := fun h => ahd_at hkl HE.out h
   have hem : (decide (s[k] < 0) && f (ruL s[k])) = true → emp f (s.take (k + 1)) = true := fun h => emp_at hkl HE.out h
   have hbd : ∀ t, ldQ K (s.take k) t → 0 ≤ t ∧ t ≤ 100 := fun t ht => by
    obtain ⟨y, hy, ⟨h1, rfl⟩ | ⟨_, h1⟩⟩ := ht
    ·exact ⟨h1, (Hx.out _ (List.mem_of_mem_take hy)).2⟩
    ·exact HKb.out _ t h1
   have Hbd := Lib.hid hbd
   obtain ⟨b, bo, hb⟩ := hrow.at_ k (by rw [List.length_map]; exact hkl)
   have cb := hrow.cell b bo hb k (by rw [List.length_map]; exact hkl)
   rw [List.getElem_map] at cb
   have hm := Hx.out _ (List.getElem_mem hkl)
   obtain ⟨x, hx⟩ : ∃ v, Hid (s[k] = v) := ⟨_, Lib.hid rfl⟩
   rw [hx.out] at cb hm hst hah hem
   have hblb := World.block_lt_of_cell? _ _ cb
   subst hb
   have x0 := HA.out.cell 0
   have x1 := HA.out.cell 1
   have x2 := HA.out.cell 2
   have xl := HA.out.lt
   simp only [List.getElem?_cons_zero, List.getElem?_cons_succ] at x0 x1 x2
   have Hah := Lib.hid hah
   have Hem := Lib.hid hem
   have Hst := Lib.hid hst
   have Hru := Lib.hid (HR.out x ⟨hm.1, by omega⟩ U hbr)
   clear hrow hst hah hem hbd
   by_cases h0 : x < 0
   ·rw [if_pos h0] at Hru
    rw [decide_eq_true h0, Bool.true_and] at Hah Hem
    have hge : ¬ (0 : Int) ≤ x := by omega
    have hrL : ruL x < L := by unfold ruL; omega
    have Hor : Hid (∀ t, (ldQ K (s.take k) t ∨ K (ruL x) t) ↔ ldQ K (s.take k ++ [x]) t) := Lib.hid (fun t => by
     rw [ldQ_app, ldQ_one]
     exact or_congr Iff.rfl ⟨fun h => .inr ⟨h0, h⟩, fun h => h.elim (fun h => absurd h.1 hge) (fun h => h.2)⟩)
    obtain ⟨ru, hru⟩ : ∃ r, Hid (ruL x = r) := ⟨_, Lib.hid rfl⟩
    rw [hru.out] at Hru Hah Hem hrL Hor
    have hrI : (ru : Int) < (L : Int) := by omega
    have hrI0 : (0 : Int) ≤ (ru : Int) := by omega
    go_wp2_with (fail)
    refine Hru.out.mono ?_
    rintro e w3 ⟨rfl, hb3⟩
    have Hb3 := Lib.hid (hbr.trans (hb3.mono hbr.size))
    have HA3 := Lib.hid (HA.out.below hb3 HA.out.lt)
    have HI3 := Lib.hid (HI.out.grown hb3)
    have hk3 := Hk.out.grown Hb3.out
    have hrd : ru < ds.length := by rw [Hkl.out]; exact hrL
    obtain ⟨k0, ko, hk0⟩ := hk3.row.at_ ru (by rw [List.length_map]; exact hrd)
    have ck := hk3.row.cell k0 ko hk0 ru (by rw [List.length_map]; exact hrd)
    rw [List.getElem_map] at ck
    have hki := hk3.nms _ (List.getElem_mem hrd)
    have hkr := HK.out ru hrd
    obtain ⟨u, hu⟩ : ∃ v, Hid (ds[ru] = v) := ⟨_, Lib.hid rfl⟩
    rw [hu.out] at ck hki hkr
    obtain ⟨ul, ua, uc⟩ := u
    change _ = some (Value.slice ua ul.length uc) at ck
    dsimp only at hki hkr
    have hblk := World.block_lt_of_cell? _ _ ck
    have Hall := Lib.hid (all9_any r ul oa ua oc uc (ldQ K (s.take k)) w3 HI3.out hki Hr.out Hbd.out (fun t ht => HKb.out _ t ((hkr.mem t).1 ht)))
    have Hkr := Lib.hid hkr
    rw [← hn.out] at Hall
    obtain ⟨UL, hUL⟩ : ∃ v, Hid (ul.length = v) := ⟨_, Lib.hid rfl⟩
    rw [hUL.out] at Hall ck
    subst hk0
    clear x0 x1 x2 xl hb3 hk3 hki hkr hbr
    go_wp2_with (fail)
    clear ck hblk
    refine Hall.out.mono ?_
    rintro e w4 ⟨oa2, oc2, r2, rfl, hi4, hr4, hf4, hb4⟩
    have HF4 : Hid (FrB w.heap.size oa2) := Lib.hid (by
     rcases hf4 with h | h
     ·rw [h]; exact HFr.out
     ·exact fun b off e => Nat.le_trans Hb3.out.size (h b off e))
    clear hf4
    have HI4 := Lib.hid hi4
    have Hr4 : Hid (Ris r2 (ldQ K (s.take k ++ [x]))) := Lib.hid (ris_or hr4 (fun t => (or_congr Iff.rfl (Hkr.out.mem t)).trans (Hor.out t)))
    have Hb4 := Lib.hid (Hb3.out.trans (hb4.mono Hb3.out.size))
    have HA4 := Lib.hid (HA3.out.below hb4 HA3.out.lt)
    have hn4 := Vs.grown Hn.out Hb4.out
    obtain ⟨n0, no, hn0⟩ := hn4.at_ ru (by simpa using hrL)
    have cn := hn4.cell n0 no hn0 ru (by simpa using hrL)
    rw [range_at] at cn
    have hbln := World.block_lt_of_cell? _ _ cn
    subst hn0
    obtain ⟨q, hq⟩ : ∃ v, Hid (f ru = v) := ⟨_, Lib.hid rfl⟩
    rw [hq.out] at cn Hah Hem
    obtain ⟨n2, hn2⟩ : ∃ v, Hid (v = r2.length) := ⟨_, Lib.hid rfl⟩
    rw [← hn2.out]
    clear hi4 hr4 hb4 hn4
    cases q
    ·have hFin : Hid (∃ oa oc, ∃ r : List Int, Ending.returned (.slice oa2 n2 oc2) = .returned (.slice oa r.length oc) ∧ Ints w4 oa oc r ∧ FrB w.heap.size oa ∧ Ris r (ldP K f s) ∧ Below w.heap.size w w4) := Lib.hid ⟨oa2, oc2, r2, by rw [hn2.out], HI4.out, HF4.out, by unfold ldP; rw [Hah.out rfl]; exact Hr4.out, Hb4.out⟩
     go_wp2_with (fail)
     exact bodyPost_ret (v := .slice oa2 n2 oc2) (by simp [results, Try.results67, go_sem]; try first | rfl | assumption | omega) rfl hFin.out
    ·have HEn : Hid (emp f (s.take (k + 1)) = true) := Lib.hid (Hem.out rfl)
     have HrN : Hid (Ris r2 (ldQ K (s.take (k + 1)))) := Lib.hid (by rw [Hst.out]; exact Hr4.out)
     go_wp2_with (fail)
     exact ⟨⟨k + 1, n2, oa2, oc2, r2, by omega, by go_num, rfl, hn2, HI4, HF4, HrN, HEn, HA4, Hb4.out⟩, by simp [RowKit.intOf]; omega⟩
   ·rw [if_neg h0] at Hru
    rw [decide_eq_false h0, Bool.false_and] at Hah
    have Hah2 := Lib.hid (Hah.out rfl)
    clear Hah Hem
    have hge : (0 : Int) ≤ x := by omega
    have Hor : Hid (∀ t, (ldQ K (s.take k) t ∨ t = x) ↔ ldQ K (s.take k ++ [x]) t) := Lib.hid (fun t => by
     rw [ldQ_app, ldQ_one]
     exact or_congr Iff.rfl ⟨fun h => .inl ⟨hge, h⟩, fun h => h.elim (fun h => h.2) (fun h => absurd h.1 h0)⟩)
    have hrl : r.length ≤ 300 := ris_len101 Hr.out Hbd.out
    go_wp2_with (fail)
    refine Hru.out.mono ?_
    rintro e w3 ⟨rfl, hb3⟩
    have Hb3 := Lib.hid (hbr.trans (hb3.mono hbr.size))
    have HI3 := Lib.hid (HI.out.grown hb3)
    have Hw := Lib.hid (with9_any r x oa oc w3 HI3.out (by omega))
    rw [← hn.out] at Hw
    clear x0 x1 x2 xl hb3 hrl hbr
    go_wp2_with (fail)
    refine Hw.out.mono ?_
    rintro e w4 ⟨⟨oa2, oc2, rfl, hi4, hf4⟩, hb4⟩
    have HF4 : Hid (FrB w.heap.size oa2) := Lib.hid (by
     rcases hf4 with h | h
     ·rw [h]; exact HFr.out
     ·exact fun b off e => Nat.le_trans Hb3.out.size (h b off e))
    clear hf4
    have hFin : Hid (∃ oa oc, ∃ r' : List Int, Ending.returned (.slice oa2 (withZ r x).length oc2) = .returned (.slice oa r'.length oc) ∧ Ints w4 oa oc r' ∧ FrB w.heap.size oa ∧ Ris r' (ldP K f s) ∧ Below w.heap.size w w4) := Lib.hid ⟨oa2, oc2, withZ r x, rfl, hi4, HF4.out, by unfold ldP; rw [Hah2.out]; exact ris_or (Hr.out.with_ x) Hor.out, Hb3.out.trans (hb4.mono Hb3.out.size)⟩
    clear hi4 hb4 Hw
    go_wp2_with (fail)
    exact bodyPost_ret (v := .slice oa2 (withZ r x).length oc2) (by simp [results, Try.results67, go_sem]; try first | rfl | assumption | omega) rfl hFin.out
  ·have hke : k = S := by omega
   have hkI : ¬ (k : Int) < (S : Int) := by omega
   have hFin : Hid (∃ oa' oc', ∃ r' : List Int, Ending.returned (.slice oa n oc) = .returned (.slice oa' r'.length oc') ∧ Ints U oa' oc' r' ∧ FrB w.heap.size oa' ∧ Ris r' (ldP K f s) ∧ Below w.heap.size w U) := Lib.hid (by
    have h1 := Hr.out
    have h2 := HE.out
    rw [hke, List.take_of_length_le (by rw [HS.out]; exact Nat.le_refl _)] at h1 h2
    exact ⟨oa, oc, r, by rw [hn.out], HI.out, HFr.out, by unfold ldP; rw [ahd_emp h2]; exact h1, hbr⟩)
   clear hke hbr
   go_wp2_with (fail)
   exact bodyPost_ret (v := .slice oa n oc) (by simp [results, Try.results67, go_sem]; try first | rfl | assumption | omega) rfl hFin.out
set_option maxRecDepth 100000 in
set_option maxHeartbeats 16000000 in
theorem refLead9f_any (d : CfD) (s : List Int) (sa : Option Addr) (sc : Nat) (w : World) (hd : CfAt w d) (hf : FitC d) (hs : Ints w sa sc s) (hok : OkL d.toks.length d.alts.length s) :
 Calls Try.prog 30 #[d.v, .slice sa s.length sc] w fun e w' => ∃ a c, ∃ l : List Int, e = .returned (.tuple #[.slice a l.length c, .bool (emp (nulB (d.alts.map IrD.p)) s)]) ∧ Ints w' a c l ∧ FrB w.heap.size a ∧ Ris l (TokP (d.alts.map IrD.p) (nulB (d.alts.map IrD.p)) (ahd (nulB (d.alts.map IrD.p)) s)) ∧ Below w.heap.size w w' := by
 have hft := hf.t
 have hfr := hf.r
 have hsm : s.length ≤ sc ∧ sc ≤ 9223372036854775807 := ⟨by have := hs.le; rwa [List.length_map] at this, hs.max⟩
 have Hnul := Lib.hid (fun W (hb : Below w.heap.size w W) => nul9_any d W (hd.grown hb) hf)
 have Hfir := Lib.hid (fun W (hb : Below w.heap.size w W) => first9_any d W (hd.grown hb) hf)
 have Hle := Lib.hid (fun na nc (f : Nat → Bool) ka kc ds K W (hb : Below w.heap.size w W) (hn : BlsF W na nc d.alts.length f) (hk : AltsI W ka kc ds) (hkl : ds.length = d.alts.length) (hK : ∀ r (h : r < ds.length), Ris ds[r].l (K r)) (hKb : ∀ r t, K r t → 0 ≤ t ∧ t ≤ 100) => lead9f_any d s sa sc na nc f ka kc ds K W (hd.grown hb) (hs.grown hb) hn (fun x hx => ⟨(hok x hx).1, by have := (hok x hx).2; omega⟩) (by omega) hk hkl hK hKb)
 have Hem := Lib.hid (fun na nc (f : Nat → Bool) W (hb : Below w.heap.size w W) (hn : BlsF W na nc d.alts.length f) => emp9_any d s sa sc na nc f W (hd.grown hb) (hs.grown hb) hn (fun x hx => ⟨(hok x hx).1, by have := (hok x hx).2; omega⟩) (by omega))
 have Htn := Lib.hid (fun (r : Nat) (hr : r < d.alts.length) (t : Int) (ht : TokP (d.alts.map IrD.p) (nulB (d.alts.map IrD.p)) [-1 - (r : Int)] t) => tok_near hf (l := [-1 - (r : Int)]) (fun x hx => by rw [List.mem_singleton] at hx; subst hx; omega) ht)
 have Hok := Lib.hid hok
 obtain ⟨xt, xta, xtc, xn, xna, xnc, xa, xaa, xac⟩ := d
 dsimp only [CfD.v] at *
 obtain ⟨al, hal9⟩ : ∃ q, Hid (xa.map IrD.p = q) := ⟨_, Lib.hid rfl⟩
 rw [hal9.out] at Hnul Hfir Htn ⊢
 obtain ⟨f, hf9⟩ : ∃ q, Hid (nulB al = q) := ⟨_, Lib.hid rfl⟩
 rw [hf9.out] at Hnul Hfir Htn ⊢
 have hb1 : Below w.heap.size w (w.alloc (.cells #[.slice xta xt.length xtc, .slice xna xn.length xnc, .slice xaa xa.length xac] 25)) := (Below.refl _ w).alloc (Nat.le_refl _) _
 have hA := Blk.new w 25 #[.slice xta xt.length xtc, .slice xna xn.length xnc, .slice xaa xa.length xac]
 obtain ⟨T, HT⟩ : ∃ q, Hid (xt.length = q) := ⟨_, Lib.hid rfl⟩
 obtain ⟨N, HN⟩ : ∃ q, Hid (xn.length = q) := ⟨_, Lib.hid rfl⟩
 obtain ⟨L, HL⟩ : ∃ q, Hid (xa.length = q) := ⟨_, Lib.hid rfl⟩
 rw [HT.out, HN.out, HL.out] at hA hb1
 rw [HT.out, HN.out, HL.out]
 have x0 := hA.cell 0
 have x1 := hA.cell 1
 have x2 := hA.cell 2
 have xl := hA.lt
 simp only [List.getElem?_cons_zero, List.getElem?_cons_succ] at x0 x1 x2
 have HA := Lib.hid hA
 have Hb1 := Lib.hid hb1
 obtain ⟨S, HS⟩ : ∃ q, Hid (s.length = q) := ⟨_, Lib.hid rfl⟩
 rw [HS.out] at hsm ⊢
 rw [HS.out] at Hle Hem
 rw [HL.out] at Htn hfr
 rw [HL.out] at Hok
 rw [HT.out, HN.out, HL.out] at Hnul Hfir Hle Hem
 have Hc1 := Lib.hid (Hnul.out _ Hb1.out)
 clear hd hf hs hok hA hb1 Hnul
 go_enter Try.func30, Try.ntmps30
 go_wp2_with (fail)
 obtain ⟨bx, hbx⟩ : ∃ q, Hid (w.heap.size = q) := ⟨_, Lib.hid rfl⟩
 rw [hbx.out] at HA x0 x1 x2 xl ⊢
 generalize hV : World.alloc w _ = V at HA x0 x1 x2 xl Hb1 Hc1 ⊢
 clear hV
 refine Hc1.out.mono ?_
 rintro e w2 ⟨na, nc, rfl, ho, hb⟩
 have Hn2 := Lib.hid ho.bls
 have HA2 := Lib.hid (HA.out.below hb HA.out.lt)
 have Hb2 := Lib.hid (Hb1.out.trans (hb.mono Hb1.out.size))
 clear x0 x1 x2 xl hb ho Hc1
 have HAd := Lib.hid (HA2.out.below (Below.refl _ w2).drew HA2.out.lt)
 have Hnd := Lib.hid (Vs.grown Hn2.out (Below.refl _ w2).drew)
 have Hbd := Lib.hid Hb2.out.drew
 have Hfi := Lib.hid (Hfir.out w2.drew Hbd.out)
 have HS0 : Hid (w2.drew.cell? ⟨bx, 0, none⟩ = some (.slice xta T xtc) ∧ w2.drew.cell? ⟨bx, 1, none⟩ = some (.slice xna N xnc) ∧ w2.drew.cell? ⟨bx, 2, none⟩ = some (.slice xaa L xac)) := Lib.hid ⟨HAd.out.cell 0, HAd.out.cell 1, HAd.out.cell 2⟩
 clear Hfir
 go_wp2_with (fail)
 refine wp_region_held_drew (S := fun w' => w'.cell? ⟨bx, 0, none⟩ = some (.slice xta T xtc) ∧ w'.cell? ⟨bx, 1, none⟩ = some (.slice xna N xnc) ∧ w'.cell? ⟨bx, 2, none⟩ = some (.slice xaa L xac)) (by kernel_rfl) ?_ (fun hHeld => ?_)
 ·exact HS0.out
 refine wpAnyH_take (i := 0) (v := ?_) (iatLS iatZS) (by kernel_rfl) (by kernel_rfl) (by kernel_rfl) (fun _ _ _ h => h) (Or.inl ⟨by rfl, ?_⟩) (by assumption) ?_
 rotate_left
 ·intro w hSw
  try dsimp only at hSw
  go_simp
  all_goals with_reducible rfl
 try simp only [Act.put, List.setIfInBounds_toArray, List.set_cons_zero, List.set_cons_succ]
 refine wpAnyH_take (i := 1) (v := ?_) (iatLS (iatSS iatZS)) (by kernel_rfl) (by kernel_rfl) (by kernel_rfl) (fun _ _ _ h => h) (Or.inl ⟨by rfl, ?_⟩) (by assumption) ?_
 rotate_left
 ·intro w hSw
  try dsimp only at hSw
  go_simp
  all_goals with_reducible rfl
 try simp only [Act.put, List.setIfInBounds_toArray, List.set_cons_zero, List.set_cons_succ]
 refine wpAnyH_take (i := 2) (v := ?_) (iatLS (iatSS (iatSS iatZS))) (by kernel_rfl) (by kernel_rfl) (by kernel_rfl) (fun _ _ _ h => h) (Or.inl ⟨by rfl, ?_⟩) (by assumption) ?_
 rotate_left
 ·intro w hSw
  try dsimp only at hSw
  go_simp
  all_goals with_reducible rfl
 try simp only [Act.put, List.setIfInBounds_toArray, List.set_cons_zero, List.set_cons_succ]
 refine wpAnyH_take (i := 3) (v := ?_) (iatLS (iatSS (iatSS (iatSS iatZS)))) (by kernel_rfl) (by kernel_rfl) (by kernel_rfl) (fun _ _ _ h => h) (Or.inl ⟨by rfl, ?_⟩) (by assumption) ?_
 rotate_left
 ·intro w hSw
  try dsimp only at hSw
  go_simp
  all_goals with_reducible rfl
 try simp only [Act.put, List.setIfInBounds_toArray, List.set_cons_zero, List.set_cons_succ]
 refine wpAnyH_take (i := 6) (v := ?_) (iatLS (iatSS (iatSS (iatSS (iatSS (iatSS (iatSS iatZS))))))) (by kernel_rfl) (by kernel_rfl) (by kernel_rfl) (fun _ _ _ h => h) (Or.inl ⟨by rfl, ?_⟩) (by assumption) ?_
 rotate_left
 ·intro w hSw
  try dsimp only at hSw
  go_simp
  all_goals with_reducible rfl
 try simp only [Act.put, List.setIfInBounds_toArray, List.set_cons_zero, List.set_cons_succ]
 refine wpAnyH_take (i := 7) (v := ?_) (iatLS (iatSS (iatSS (iatSS (iatSS (iatSS (iatSS (iatSS iatZS)))))))) (by kernel_rfl) (by kernel_rfl) (by kernel_rfl) (fun _ _ _ h => h) (Or.inl ⟨by rfl, ?_⟩) (by assumption) ?_
 rotate_left
 ·intro w hSw
  try dsimp only at hSw
  go_simp
  all_goals with_reducible rfl
 try simp only [Act.put, List.setIfInBounds_toArray, List.set_cons_zero, List.set_cons_succ]
 refine wpAnyH_take (i := 8) (v := ?_) (iatLS (iatSS (iatSS (iatSS (iatSS (iatSS (iatSS (iatSS (iatSS iatZS))))))))) (by kernel_rfl) (by kernel_rfl) (by kernel_rfl) (fun _ _ _ h => h) (Or.inl ⟨by rfl, ?_⟩) (by assumption) ?_
 rotate_left
 ·intro w hSw
  try dsimp only at hSw
  go_simp
  all_goals with_reducible rfl
 try simp only [Act.put, List.setIfInBounds_toArray, List.set_cons_zero, List.set_cons_succ]
 refine wpAnyH_ready (rs := [4]) (by kernel_rfl) (by simp) ?_
 refine AllReadyH.cons (iatLS (iatSS (iatSS (iatSS (iatSS iatZS))))) (fun K hK => ?_) AllReadyH.nil
 go_simp
 (with_reducible refine Hfi.out.mono ?_)
 rintro e8 W4 ⟨fa, fc, ds, rfl, hdl, hfal, hri, hb4⟩
 have HA4 := Lib.hid (HAd.out.below hb4 HAd.out.lt)
 have Hn4 := Lib.hid (Vs.grown Hnd.out hb4)
 have Hb4 := Lib.hid (Hbd.out.trans (hb4.mono Hbd.out.size))
 have HS4 : Hid (W4.cell? ⟨bx, 0, none⟩ = some (.slice xta T xtc) ∧ W4.cell? ⟨bx, 1, none⟩ = some (.slice xna N xnc) ∧ W4.cell? ⟨bx, 2, none⟩ = some (.slice xaa L xac)) := Lib.hid ⟨HA4.out.cell 0, HA4.out.cell 1, HA4.out.cell 2⟩
 have Hl := Lib.hid (Hle.out na nc f fa fc ds (fun r t => r < L ∧ TokP al f [-1 - (r : Int)] t) W4 Hb4.out Hn4.out hfal hdl (fun r h => ris_or (hri r h) (fun t => ⟨fun h2 => ⟨by omega, h2⟩, fun h2 => h2.2⟩)) (fun r t h => Htn.out r h.1 t h.2))
 rw [hdl] at Hl
 clear hdl hfal hri hb4
 try dsimp only
 refine hK.out _ _ ?_ (fun hHeld => ?_)
 ·exact HS4.out
 clear hK K
 try simp only [Act.put, List.setIfInBounds_toArray, List.set_cons_zero, List.set_cons_succ]
 refine wpAnyH_ready (rs := [5]) (by kernel_rfl) (by simp) ?_
 refine AllReadyH.cons (iatLS (iatSS (iatSS (iatSS (iatSS (iatSS iatZS)))))) (fun K hK => ?_) AllReadyH.nil
 go_simp
 (with_reducible refine Hl.out.mono ?_)
 rintro e8 W5 ⟨la, lc, l, rfl, hli, hlf, hlr, hb5⟩
 have Hlf : Hid (FrB w.heap.size la) := Lib.hid (fun b off e => Nat.le_trans Hb4.out.size (hlf b off e))
 clear hlf
 have Hli := Lib.hid hli
 have Hlr := Lib.hid hlr
 have HA5 := Lib.hid (HA4.out.below hb5 HA4.out.lt)
 have Hn5 := Lib.hid (Vs.grown Hn4.out hb5)
 have Hb5 := Lib.hid (Hb4.out.trans (hb5.mono Hb4.out.size))
 have HS5 : Hid (W5.cell? ⟨bx, 0, none⟩ = some (.slice xta T xtc) ∧ W5.cell? ⟨bx, 1, none⟩ = some (.slice xna N xnc) ∧ W5.cell? ⟨bx, 2, none⟩ = some (.slice xaa L xac)) := Lib.hid ⟨HA5.out.cell 0, HA5.out.cell 1, HA5.out.cell 2⟩
 have He := Lib.hid (Hem.out na nc f W5 Hb5.out Hn5.out)
 obtain ⟨LL, hLL⟩ : ∃ q, Hid (l.length = q) := ⟨_, Lib.hid rfl⟩
 rw [hLL.out]
 clear hli hlr hb5
 try dsimp only
 refine hK.out _ _ ?_ (fun hHeld => ?_)
 ·exact HS5.out
 clear hK K
 try simp only [Act.put, List.setIfInBounds_toArray, List.set_cons_zero, List.set_cons_succ]
 refine wpAnyH_ready (rs := [9]) (by kernel_rfl) (by simp) ?_
 refine AllReadyH.cons (iatLS (iatSS (iatSS (iatSS (iatSS (iatSS (iatSS (iatSS (iatSS (iatSS iatZS)))))))))) (fun K hK => ?_) AllReadyH.nil
 go_simp
 (with_reducible refine He.out.mono ?_)
 rintro e8 W6 ⟨rfl, hb6⟩
 have Hli6 := Lib.hid (Hli.out.grown hb6)
 have HA6 := Lib.hid (HA5.out.below hb6 HA5.out.lt)
 have Hb6 := Lib.hid (Hb5.out.trans (hb6.mono Hb5.out.size))
 have HS6 : Hid (W6.cell? ⟨bx, 0, none⟩ = some (.slice xta T xtc) ∧ W6.cell? ⟨bx, 1, none⟩ = some (.slice xna N xnc) ∧ W6.cell? ⟨bx, 2, none⟩ = some (.slice xaa L xac)) := Lib.hid ⟨HA6.out.cell 0, HA6.out.cell 1, HA6.out.cell 2⟩
 clear hb6
 try dsimp only
 refine hK.out _ _ ?_ (fun hHeld => ?_)
 ·exact HS6.out
 clear hK K
 try simp only [Act.put, List.setIfInBounds_toArray, List.set_cons_zero, List.set_cons_succ]
 refine wpAnyH_take (i := 10) (v := ?_) (iatLS (iatSS (iatSS (iatSS (iatSS (iatSS (iatSS (iatSS (iatSS (iatSS (iatSS iatZS))))))))))) (by kernel_rfl) (by kernel_rfl) (by kernel_rfl) (fun _ _ _ h => h) (Or.inl ⟨by rfl, ?_⟩) (by assumption) ?_
 rotate_left
 ·intro w hSw
  try dsimp only at hSw
  go_simp
  all_goals with_reducible rfl
 try simp only [Act.put, List.setIfInBounds_toArray, List.set_cons_zero, List.set_cons_succ]
 refine wpAnyH_take (i := 11) (v := ?_) (iatLS (iatSS (iatSS (iatSS (iatSS (iatSS (iatSS (iatSS (iatSS (iatSS (iatSS (iatSS iatZS)))))))))))) (by kernel_rfl) (by kernel_rfl) (by kernel_rfl) (fun _ _ _ h => h) (Or.inl ⟨by rfl, ?_⟩) (by assumption) ?_
 rotate_left
 ·intro w hSw
  try dsimp only at hSw
  go_simp
  all_goals with_reducible rfl
 try simp only [Act.put, List.setIfInBounds_toArray, List.set_cons_zero, List.set_cons_succ]
 refine wpAnyH_done (by kernel_rfl) ?_ _
 have Hfin : Hid (∃ a c, ∃ l' : List Int, Ending.returned (.tuple #[.slice la LL lc, .bool (emp f s)]) = .returned (.tuple #[.slice a l'.length c, .bool (emp f s)]) ∧ Ints W6 a c l' ∧ FrB w.heap.size a ∧ Ris l' (TokP al f (ahd f s)) ∧ Below w.heap.size w W6) := Lib.hid ⟨la, lc, l, by rw [hLL.out], Hli6.out, Hlf.out, ris_or Hlr.out (fun t => (show ldP _ f s t ↔ ldP (fun r t => TokP al f [-1 - (r : Int)] t) f s t from ⟨ldP_mono (fun r t h => h.2), fun h => (by obtain ⟨y, hy, h1 | ⟨h0, h1⟩⟩ := h; exact ⟨y, hy, .inl h1⟩; exact ⟨y, hy, .inr ⟨h0, by have := (Hok.out y (ahd_sub hy)).1; unfold ruL; omega, h1⟩⟩)⟩).trans ld_tok), Hb6.out⟩
 go_wp2_with (fail)
 exact bodyPost_ret (v := .tuple #[.slice la LL lc, .bool (emp f s)]) (by simp [results, Try.results30, go_sem]; try first | rfl | assumption | omega) rfl Hfin.out
end Go.Proofs.Ythogiakfbgehnaa
