/- Texts joined: Ha Hb. -/
import Derived.Test.YtngbfjimmdkfeaaPBN4
import Derived.Maps.Own
import Derived.Maps.OwnOps
import Derived.Maps.Views
import Derived.Deep.OwnRows
import Derived.OwnWalk
import Derived.Deep.Cut
import Derived.Deep.CutRange
import Derived.BigRegion
import Derived.Deep.RegionHeld3
set_option linter.unusedVariables false
set_option linter.unusedSimpArgs false
namespace Go.Proofs.Ytngbfjimmdkfeaa
open Go.RowKit Go.Shelf Go.Maps

def eg0 : Eg := ⟨-1, -1, []⟩
def egAt (es : List Eg) (i : Nat) : Eg := es.getD i eg0
theorem egAt_eq {es : List Eg} {i : Nat} (h : i < es.length) : egAt es i = es[i] := by
  unfold egAt; rw [List.getD_eq_getElem?_getD, List.getElem?_eq_getElem h]; rfl
/-- The last edge from a state, of the first k. -/
def lastE (es : List Eg) (s : Int) : Nat → Int
  | 0 => -1
  | k + 1 => if (egAt es k).f = s then (k : Int) else lastE es s k
theorem lastE_lo (es : List Eg) (s : Int) : ∀ k, -1 ≤ lastE es s k ∧ lastE es s k < k
  | 0 => by simp [lastE]
  | k + 1 => by
    have := lastE_lo es s k
    unfold lastE
    split <;> omega
/-- Another edge from the same state. -/
def nextE (es : List Eg) (i : Nat) : Int := lastE es (egAt es i).f i
/-- Where the edges that count lead from a state, of the first k, the last one first. -/
def behE (es : List Eg) (P : Eg → Bool) (s : Int) : Nat → List Int
  | 0 => []
  | k + 1 => if (egAt es k).f = s then (if P (egAt es k) then (egAt es k).t :: behE es P s k else behE es P s k) else behE es P s k
theorem lastE_succ (es : List Eg) (s : Int) (k : Nat) : lastE es s (k + 1) = if (egAt es k).f = s then (k : Int) else lastE es s k := rfl
theorem behE_succ (es : List Eg) (P : Eg → Bool) (s : Int) (k : Nat) : behE es P s (k + 1) = if (egAt es k).f = s then (if P (egAt es k) then (egAt es k).t :: behE es P s k else behE es P s k) else behE es P s k := rfl
theorem behE_none (es : List Eg) (P : Eg → Bool) (s : Int) : ∀ k, lastE es s k = -1 → behE es P s k = []
  | 0, _ => rfl
  | k + 1, h => by
    rw [lastE_succ] at h
    rw [behE_succ]
    by_cases h2 : (egAt es k).f = s
    · rw [if_pos h2] at h; omega
    · rw [if_neg h2] at h ⊢; exact behE_none es P s k h
theorem lastE_f (es : List Eg) (s : Int) : ∀ k (i : Nat), lastE es s k = (i : Int) → (egAt es i).f = s
  | 0, i, h => by
    have : (-1 : Int) = (i : Int) := h
    omega
  | k + 1, i, h => by
    rw [lastE_succ] at h
    by_cases h2 : (egAt es k).f = s
    · rw [if_pos h2] at h
      obtain rfl : k = i := by omega
      exact h2
    · rw [if_neg h2] at h; exact lastE_f es s k i h
theorem behE_some (es : List Eg) (P : Eg → Bool) (s : Int) : ∀ k (i : Nat), lastE es s k = (i : Int) → behE es P s k = (if P (egAt es i) then [(egAt es i).t] else []) ++ behE es P s i
  | 0, i, h => by
    have : (-1 : Int) = (i : Int) := h
    omega
  | k + 1, i, h => by
    rw [lastE_succ] at h
    rw [behE_succ]
    by_cases h2 : (egAt es k).f = s
    · rw [if_pos h2] at h
      obtain rfl : k = i := by omega
      rw [if_pos h2]
      by_cases h3 : P (egAt es k) = true
      · rw [if_pos h3, if_pos h3]; exact Eq.refl _
      · rw [if_neg h3, if_neg h3]; exact Eq.refl _
    · rw [if_neg h2] at h ⊢; exact behE_some es P s k i h
theorem mem_behE (es : List Eg) (P : Eg → Bool) (s : Int) : ∀ k (t : Int), t ∈ behE es P s k ↔ ∃ i, i < k ∧ (egAt es i).f = s ∧ P (egAt es i) = true ∧ (egAt es i).t = t
  | 0, t => by
    have : behE es P s 0 = [] := rfl
    rw [this]; simp
  | k + 1, t => by
    have ih := mem_behE es P s k t
    have hs : (∃ i, i < k + 1 ∧ (egAt es i).f = s ∧ P (egAt es i) = true ∧ (egAt es i).t = t) ↔ ((egAt es k).f = s ∧ P (egAt es k) = true ∧ (egAt es k).t = t) ∨ ∃ i, i < k ∧ (egAt es i).f = s ∧ P (egAt es i) = true ∧ (egAt es i).t = t := by
      constructor
      · rintro ⟨i, hi, h⟩
        by_cases e : i = k
        · subst e; exact .inl h
        · exact .inr ⟨i, by omega, h⟩
      · rintro (h | ⟨i, hi, h⟩)
        · exact ⟨k, by omega, h⟩
        · exact ⟨i, by omega, h⟩
    rw [hs, ← ih, behE_succ]
    by_cases h1 : (egAt es k).f = s
    · rw [if_pos h1]
      by_cases h2 : P (egAt es k) = true
      · rw [if_pos h2, List.mem_cons]
        constructor
        · rintro (h | h)
          · exact .inl ⟨h1, h2, h.symm⟩
          · exact .inr h
        · rintro (h | h)
          · exact .inl h.2.2.symm
          · exact .inr h
      · rw [if_neg h2]
        exact ⟨.inr, fun h => h.elim (fun h => absurd h.2.1 h2) id⟩
    · rw [if_neg h1]
      exact ⟨.inr, fun h => h.elim (fun h => absurd h.1 h1) id⟩

/-- A row of numbers by places. -/
def tabL (N : Nat) (g : Nat → Int) : List Value := (List.range N).map (fun s => .int .i64 (g s))
theorem tabL_length (N : Nat) (g : Nat → Int) : (tabL N g).length = N := by simp [tabL]
theorem tabL_at {N s : Nat} (g : Nat → Int) (h : s < N) : (tabL N g)[s]? = some (.int .i64 (g s)) := by simp [tabL, h]
theorem tabL_set (N : Nat) (g : Nat → Int) (i : Nat) (v : Int) : (tabL N g).set i (.int .i64 v) = tabL N (fun s => if s = i then v else g s) := by
  apply List.ext_getElem?
  intro j
  rw [List.getElem?_set]
  by_cases hj : j < N
  · by_cases e : i = j
    · subst e; rw [if_pos rfl, tabL_at _ hj, if_pos (by rw [tabL_length]; exact hj), if_pos rfl]
    · rw [if_neg e, tabL_at _ hj, tabL_at _ hj, if_neg (fun h => e h.symm)]
  · have h1 : ∀ g : Nat → Int, (tabL N g)[j]? = none := fun g => List.getElem?_eq_none (by rw [tabL_length]; omega)
    rw [h1, h1]
    split
    · simp [tabL_length]; omega
    · rfl
theorem tabL_congr {N : Nat} {g h : Nat → Int} (e : ∀ s, s < N → g s = h s) : tabL N g = tabL N h := by
  unfold tabL
  exact List.map_congr_left (fun s hs => by rw [e s (List.mem_range.1 hs)])

/-- A map from numbers to numbers; what is not there is 0. -/
def MapI (W : World) (b n : Nat) (m : Nat → Int) : Prop :=
  ∃ D : DataW Unit, W.ownsMap Try.prog 3 (plainElem Try.prog 3) b n D ∧ IsMap D ∧ ∀ k : Nat, (Lit.int .i64 (k : Int)).wf = true → D.atKey (.int .i64 (k : Int)) (.lit (.int .i64 0)) = .lit (.int .i64 (m k))
theorem int_law : Keyed Try.prog 3 := int_keyed Try.underlying3
theorem zero_int (w : World) : (zeroValue 3).run Try.prog w = .ok (.int .i64 0) w := by kernel_rfl
theorem MapI.kept {W W' : World} {row : Option Nat} {b n : Nat} {m : Nat → Int} (h : MapI W b n m) (hg : W.grownBy W' row) (hne : some b ≠ row) : MapI W' b n m := by
  obtain ⟨D, h1, h2, h3⟩ := h
  exact ⟨D, h1.kept hg hne, h2, h3⟩
theorem MapI.new (W : World) : MapI (W.alloc (.map #[] 0)) W.heap.size 0 (fun _ => 0) :=
  ⟨.map [], World.ownsMap_made _ _ _ _, isMap_empty, fun _ _ => rfl⟩
theorem MapI.look {W : World} {b n : Nat} {m : Nat → Int} (h : MapI W b n m) (k : Nat) (hk : (Lit.int .i64 (k : Int)).wf = true) :
    (Instr.lookup 127 (.map (some b)) (.int .i64 (k : Int)) false).run Try.prog W = .ok (.int .i64 (m k)) W ∧ (Lit.int .i64 (m k)).wf = true := by
  obtain ⟨D, h1, h2, h3⟩ := h
  obtain ⟨c, hrun, hat, hw⟩ := h1.lookup_int int_law Try.underlying127 Try.underlying3 (zero_int W) (keyOf_int_mk Try.underlying3 hk)
  rw [h3 k hk] at hat
  injection hat with hat
  injection hat with _ hat
  subst hat
  exact ⟨hrun, hw⟩
theorem MapI.store {W : World} {b n : Nat} {m : Nat → Int} (h : MapI W b n m) (k : Nat) (v : Int) (hk : (Lit.int .i64 (k : Int)).wf = true) (hv : (Lit.int .i64 v).wf = true) (hn : n < maxLen) :
    ∃ W', (Instr.mapUpdate 127 (.map (some b)) (.int .i64 (k : Int)) (.int .i64 v)).run Try.prog W = .ok () W' ∧ MapI W' b (n + 1) (fun j => if j = k then v else m j) ∧ W.grownBy W' (some b) := by
  obtain ⟨D, h1, h2, h3⟩ := h
  obtain ⟨W', hrun, ho, hg⟩ := h1.update int_law Try.underlying127 hn (keyOf_int_mk Try.underlying3 hk) (plainElem_int Try.underlying3 hv)
  refine ⟨W', hrun, ⟨_, ho, h2.put _ _, fun j hj => ?_⟩, hg⟩
  by_cases e : j = k
  · subst e
    rw [atKey_put_same h2 (by simp [WideAt.IsKeyLit])]
    simp
  · rw [atKey_put_other (by intro h; injection h with _ h; omega), h3 j hj]
    simp [e]
end Go.Proofs.Ytngbfjimmdkfeaa

namespace Go.Proofs.Ytngbfjimmdkfeaa
open Go.RowKit Go.Shelf Go.Maps

attribute [local go_sem] Oper.semAt_some

/-- Where a walker's lists lie. -/
structure WkL where
  fb : Nat
  nb : Nat
  mb : Nat
/-- A walker stands in block wb, over an automaton as it lay in w0; all that it has of its own lies behind w0. -/
structure WkAt (w0 W : World) (wb : Nat) (x : Nf) (p : NfL) (L : WkL) (R : Int) (mn : Nat) (m : Nat → Int) : Prop where
  box : Blk W wb 129 [.slice p.ga x.es.length p.gc, .slice (some ⟨L.fb, 0, none⟩) x.n.toNat x.n.toNat, .slice (some ⟨L.nb, 0, none⟩) x.es.length x.es.length, .int .i64 R, .map (some L.mb)]
  first : Blk W L.fb 3 (tabL x.n.toNat (fun s => lastE x.es (s : Int) x.es.length))
  next : Blk W L.nb 3 (tabL x.es.length (fun i => nextE x.es i))
  mp : MapI W L.mb mn m
  es : Egs w0 p.ga p.gc x.es
  bel : Below w0.heap.size w0 W
  own : w0.heap.size ≤ wb ∧ w0.heap.size ≤ L.fb ∧ w0.heap.size ≤ L.nb ∧ w0.heap.size ≤ L.mb
theorem rep_tab (n : Nat) : List.replicate n (.int .i64 0) = tabL n (fun _ => 0) := by
  apply List.ext_getElem?
  intro i
  by_cases h : i < n
  · rw [tabL_at _ h, List.getElem?_replicate, if_pos h]
  · rw [List.getElem?_eq_none (by simp; omega), List.getElem?_eq_none (by rw [tabL_length]; omega)]
theorem made_tab (W : World) (n : Nat) : Blk (W.alloc (.cells (madeCells #[.int .i64 0] n) 3)) W.heap.size 3 (tabL n (fun _ => 0)) := by
  have := Blk.new W 3 (madeCells #[.int .i64 0] n)
  rw [toList_madeCells_one, rep_tab] at this
  exact this
theorem gbA {a b : World} (h : a.grownBy b none) (o : Obj) : a.grownBy (b.alloc o) none := grownBy_trans h (World.grownBy_alloc b o none) (fun i e => .inl e)
theorem gbD {a b : World} (h : a.grownBy b none) : a.grownBy b.drew none := grownBy_trans h (grownBy_drew b none) (fun i e => .inl e)
theorem Blk.keptG {w w' : World} {b : Nat} {t : TypeId} {l : List Value} (h : Blk w b t l) (hg : w.grownBy w' none) : Blk w' b t l := h.kept hg (by simp)
theorem blkD {W : World} {b : Nat} {t : TypeId} {l : List Value} (h : Blk W b t l) : Blk W.drew b t l := h
theorem blkN (V : World) (b : Nat) (c : Array Value) (t : TypeId) (hb : b = V.heap.size) : Blk (V.alloc (.cells c t)) b t c.toList := by subst hb; exact Blk.new _ _ _
theorem made_tabE (V : World) (n b : Nat) (hb : b = V.heap.size) : Blk (V.alloc (.cells (madeCells #[.int .i64 0] n) 3)) b 3 (tabL n (fun _ => 0)) := by subst hb; exact made_tab _ _
theorem mapN (V : World) (b : Nat) (hb : b = V.heap.size) : MapI (V.alloc (.map #[] 0)) b 0 (fun _ => 0) := by subst hb; exact MapI.new _
theorem MapI.drew {W : World} {b n : Nat} {m : Nat → Int} (h : MapI W b n m) : MapI W.drew b n m := by
  obtain ⟨D, h1, h2⟩ := h
  exact ⟨D, h1.drew, h2⟩
theorem MapI.keptG {W W' : World} {b n : Nat} {m : Nat → Int} (h : MapI W b n m) (hg : W.grownBy W' none) : MapI W' b n m := h.kept hg (by simp)
theorem tab_next {es : List Eg} {M j : Nat} {X : Int} (h : nextE es j = X) : tabL M (fun s => if s = j then X else if s < j then nextE es s else 0) = tabL M (fun i => if i < j + 1 then nextE es i else 0) := by
  refine tabL_congr (fun s _ => ?_)
  by_cases e : s = j
  · subst e; rw [if_pos rfl, if_pos (by omega), h]
  · rw [if_neg e]
    by_cases e2 : s < j
    · rw [if_pos e2, if_pos (by omega)]
    · rw [if_neg e2, if_neg (by omega)]
theorem tab_first {es : List Eg} {k j F : Nat} (h : (egAt es j).f = (F : Int)) : tabL k (fun s => if s = F then (j : Int) else lastE es (s : Int) j) = tabL k (fun s => lastE es (s : Int) (j + 1)) := by
  refine tabL_congr (fun s _ => ?_)
  rw [lastE_succ, h]
  by_cases e : s = F
  · rw [if_pos e, if_pos (by omega)]
  · rw [if_neg e, if_neg (by omega)]
/-- What newWalker lays down at first. -/
def NwQ (w1 wx : World) (x : Nf) (p : NfL) (v : Value) : Prop :=
  ∃ wb fb nb mb, v = .pointer (some ⟨wb, 0, none⟩) ∧ Blk wx wb 129 [.slice p.ga x.es.length p.gc, .slice (some ⟨fb, 0, none⟩) x.n.toNat x.n.toNat, .slice (some ⟨nb, 0, none⟩) x.es.length x.es.length, .int .i64 0, .map (some mb)] ∧
    Blk wx fb 3 (tabL x.n.toNat (fun _ => 0)) ∧ Blk wx nb 3 (tabL x.es.length (fun _ => 0)) ∧ MapI wx mb 0 (fun _ => 0) ∧ w1.grownBy wx none ∧ (w1.heap.size ≤ wb ∧ w1.heap.size ≤ fb ∧ w1.heap.size ≤ nb ∧ w1.heap.size ≤ mb) ∧ (fb ≠ nb ∧ wb ≠ fb ∧ wb ≠ nb ∧ mb ≠ fb ∧ mb ≠ nb ∧ mb ≠ wb)

set_option maxRecDepth 100000 in
set_option maxHeartbeats 2000000 in
theorem newWalker_any (x : Nf) (p : NfL) (w : World) (hx : NfAt w x p) (hl : linkB x = true) (hm : x.es.length ≤ 1000000) :
    Calls Try.prog 76 #[.agg #[.int .i64 x.n, .int .i64 x.s, .slice p.ea x.ends.length p.ec, .slice p.ga x.es.length p.gc]] w fun e w' => ∃ wb, e = .returned (.pointer (some ⟨wb, 0, none⟩)) ∧ ∃ L, WkAt w w' wb x p L 0 0 (fun _ => 0) := by
  obtain ⟨N, hN, hN2, hN1⟩ : ∃ N : Nat, x.n = (N : Int) ∧ N ≤ 2000 ∧ 1 ≤ N := by
    unfold linkB stB at hl
    simp only [Bool.and_eq_true, decide_eq_true_eq] at hl
    exact ⟨x.n.toNat, by omega, by omega, by omega⟩
  have hNn : x.n.toNat = N := by rw [hN]; rfl
  obtain ⟨ea, ec, ga, gc⟩ := p
  have hlm : x.es.length ≤ gc ∧ gc ≤ 9223372036854775807 := ⟨hx.es.le, hx.es.max⟩
  have hlf : ∀ i, i < x.es.length → 0 ≤ (egAt x.es i).f ∧ (egAt x.es i).f < (N : Int) := by
    intro i hi
    unfold linkB at hl
    simp only [Bool.and_eq_true, List.all_eq_true] at hl
    have := (hl.2 _ (List.getElem_mem hi)).1
    rw [egAt_eq hi]
    unfold stB at this
    simp only [Bool.and_eq_true, decide_eq_true_eq] at this
    rw [← hN]; exact this
  obtain ⟨M, hM⟩ : ∃ M, Hid (x.es.length = M) := ⟨_, Lib.hid rfl⟩
  have HES := Lib.hid hx.es
  have HLF := Lib.hid hlf
  have HN := Lib.hid hN
  have HNn := Lib.hid hNn
  rw [hM.out] at hlm hm ⊢
  dsimp only at *
  rw [hN]
  have hmkN := fun w => run_make_row' (P := Try.prog) 23 3 (.int .i64 0) 8 Try.underlying23 info_int rfl .i64 .i64 N (by omega) (by omega) w
  have hmkM := fun w => run_make_row' (P := Try.prog) 23 3 (.int .i64 0) 8 Try.underlying23 info_int rfl .i64 .i64 M (by omega) (by omega) w
  have hmm := @run_makeMap Try.prog
  have hA0 := Blk.new w 32 #[.int .i64 (N : Int), .int .i64 x.s, .slice ea x.ends.length ec, .slice ga M gc]
  have hb0 : Below w.heap.size w (w.alloc (.cells #[.int .i64 (N : Int), .int .i64 x.s, .slice ea x.ends.length ec, .slice ga M gc] 32)) := (Below.refl _ w).alloc (Nat.le_refl _) _
  obtain ⟨W0, hW0⟩ : ∃ W, Hid (w.alloc (.cells #[.int .i64 (N : Int), .int .i64 x.s, .slice ea x.ends.length ec, .slice ga M gc] 32) = W) := ⟨_, Lib.hid rfl⟩
  rw [hW0.out] at hA0 hb0
  have x0 := hA0.cell 0
  have x3 := hA0.cell 3
  have xl := hA0.lt
  simp only [List.getElem?_cons_zero, List.getElem?_cons_succ] at x0 x3
  have HSt : Hid (∀ W, W0.grownBy W none → (W.cell? ⟨w.heap.size, 0, none⟩ = some (.int .i64 (N : Int)) ∧ W.cell? ⟨w.heap.size, 3, none⟩ = some (.slice ga M gc))) := Lib.hid (fun W h => by
    have hk := hA0.kept h (by simp)
    exact ⟨by simpa using hk.cell 0, by simpa using hk.cell 3⟩)
  clear hx hl hN hNn hlf
  go_enter Try.func76, Try.ntmps76
  go_upto_region 1 with (fail)
  rw [hW0.out]
  go_cut [3] from 7 to 18 (fun v wx => NwQ W0 wx x ⟨ea, ec, ga, gc⟩ v)
  case first =>
    refine wp_region_held_drew (S := fun w' => (w'.cell? ⟨w.heap.size, 0, none⟩ = some (.int .i64 (N : Int)) ∧ w'.cell? ⟨w.heap.size, 3, none⟩ = some (.slice ga M gc))) (by kernel_rfl) ?_ (fun hHeld => ?_)
    · exact HSt.out _ (gbD (World.grownBy.refl _ _))
    refine wpAnyH_take (i := 0) (v := ?_) (gatL gatZ) (by kernel_rfl) (by kernel_rfl) (by kernel_rfl) (fun _ _ _ h => h) (Or.inl ⟨by rfl, ?_⟩) (by assumption) ?_
    rotate_left
    · intro w hSw
      try dsimp only at hSw
      go_simp
      all_goals with_reducible rfl
    try simp only [Act.put, List.setIfInBounds_toArray, List.set_cons_zero, List.set_cons_succ]
    refine wpAnyH_take (i := 1) (v := ?_) (gatL (gatS gatZ)) (by kernel_rfl) (by kernel_rfl) (by kernel_rfl) (fun _ _ _ h => h) (Or.inl ⟨by rfl, ?_⟩) (by assumption) ?_
    rotate_left
    · intro w hSw
      try dsimp only at hSw
      go_simp
      all_goals with_reducible rfl
    try simp only [Act.put, List.setIfInBounds_toArray, List.set_cons_zero, List.set_cons_succ]
    refine wpAnyH_take (i := 2) (v := ?_) (gatL (gatS (gatS gatZ))) (by kernel_rfl) (by kernel_rfl) (by kernel_rfl) (fun _ _ _ h => h) (Or.inl ⟨by rfl, ?_⟩) (by assumption) ?_
    rotate_left
    · intro w hSw
      try dsimp only at hSw
      go_simp
      all_goals with_reducible rfl
    try simp only [Act.put, List.setIfInBounds_toArray, List.set_cons_zero, List.set_cons_succ]
    refine wpAnyH_take (i := 3) (v := ?_) (gatL (gatS (gatS (gatS gatZ)))) (by kernel_rfl) (by kernel_rfl) (by kernel_rfl) (fun _ _ _ h => h) (Or.inl ⟨by rfl, ?_⟩) (by assumption) ?_
    rotate_left
    · intro w hSw
      try dsimp only at hSw
      go_simp
      all_goals with_reducible rfl
    try simp only [Act.put, List.setIfInBounds_toArray, List.set_cons_zero, List.set_cons_succ]
    refine wpAnyH_take (i := 5) (v := ?_) (gatL (gatS (gatS (gatS (gatS (gatS gatZ)))))) (by kernel_rfl) (by kernel_rfl) (by kernel_rfl) (fun _ _ _ h => h) (Or.inl ⟨by rfl, ?_⟩) (by assumption) ?_
    rotate_left
    · intro w hSw
      try dsimp only at hSw
      go_simp
      all_goals with_reducible rfl
    try simp only [Act.put, List.setIfInBounds_toArray, List.set_cons_zero, List.set_cons_succ]
    refine wpAnyH_take (i := 6) (v := ?_) (gatL (gatS (gatS (gatS (gatS (gatS (gatS gatZ))))))) (by kernel_rfl) (by kernel_rfl) (by kernel_rfl) (fun _ _ _ h => h) (Or.inl ⟨by rfl, ?_⟩) (by assumption) ?_
    rotate_left
    · intro w hSw
      try dsimp only at hSw
      go_simp
      all_goals with_reducible rfl
    try simp only [Act.put, List.setIfInBounds_toArray, List.set_cons_zero, List.set_cons_succ]
    refine wpAnyH_take (i := 7) (v := ?_) (gatL (gatS (gatS (gatS (gatS (gatS (gatS (gatS gatZ)))))))) (by kernel_rfl) (by kernel_rfl) (by kernel_rfl) (fun _ _ _ h => h) (Or.inl ⟨by rfl, ?_⟩) (by assumption) ?_
    rotate_left
    · intro w hSw
      try dsimp only at hSw
      go_simp
      all_goals with_reducible rfl
    try simp only [Act.put, List.setIfInBounds_toArray, List.set_cons_zero, List.set_cons_succ]
    refine wpAnyH_ready (rs := [4, 8, 9]) (by kernel_rfl) (by simp) ?_
    refine AllReadyH.cons (gatL (gatS (gatS (gatS (gatS gatZ))))) (fun K hK => ?_) (AllReadyH.cons (gatL (gatS (gatS (gatS (gatS (gatS (gatS (gatS (gatS gatZ))))))))) (fun K hK => ?_) (AllReadyH.cons (gatL (gatS (gatS (gatS (gatS (gatS (gatS (gatS (gatS (gatS gatZ)))))))))) (fun K hK => ?_) (AllReadyH.nil)))
    ·
      go_simp
      refine hK.out _ _ ?_ (fun hHeld => ?_)
      · exact HSt.out _ (by repeat (first | with_reducible exact World.grownBy.refl _ _ | refine gbA ?_ _ | refine gbD ?_))
      clear hK K
      try simp only [Act.put, List.setIfInBounds_toArray, List.set_cons_zero, List.set_cons_succ]
      refine wpAnyH_ready (rs := [8, 9]) (by kernel_rfl) (by simp) ?_
      refine AllReadyH.cons (gatL (gatS (gatS (gatS (gatS (gatS (gatS (gatS (gatS gatZ))))))))) (fun K hK => ?_) (AllReadyH.cons (gatL (gatS (gatS (gatS (gatS (gatS (gatS (gatS (gatS (gatS gatZ)))))))))) (fun K hK => ?_) (AllReadyH.nil))
      ·
        go_simp
        refine hK.out _ _ ?_ (fun hHeld => ?_)
        · exact HSt.out _ (by repeat (first | with_reducible exact World.grownBy.refl _ _ | refine gbA ?_ _ | refine gbD ?_))
        clear hK K
        try simp only [Act.put, List.setIfInBounds_toArray, List.set_cons_zero, List.set_cons_succ]
        refine wpAnyH_ready (rs := [9]) (by kernel_rfl) (by simp) ?_
        refine AllReadyH.cons (gatL (gatS (gatS (gatS (gatS (gatS (gatS (gatS (gatS (gatS gatZ)))))))))) (fun K hK => ?_) AllReadyH.nil
        go_simp
        refine hK.out _ _ ?_ (fun hHeld => ?_)
        · exact HSt.out _ (by repeat (first | with_reducible exact World.grownBy.refl _ _ | refine gbA ?_ _ | refine gbD ?_))
        clear hK K
        try simp only [Act.put, List.setIfInBounds_toArray, List.set_cons_zero, List.set_cons_succ]
        refine wpAnyH_take (i := 10) (v := ?_) (gatL (gatS (gatS (gatS (gatS (gatS (gatS (gatS (gatS (gatS (gatS gatZ))))))))))) (by kernel_rfl) (by kernel_rfl) (by kernel_rfl) (fun _ _ _ h => h) (Or.inl ⟨by rfl, ?_⟩) (by assumption) ?_
        rotate_left
        · intro w hSw
          try dsimp only at hSw
          go_simp
          all_goals with_reducible rfl
        try simp only [Act.put, List.setIfInBounds_toArray, List.set_cons_zero, List.set_cons_succ]
        refine wpAnyH_ready (rs := [11]) (by kernel_rfl) (by simp) ?_
        refine AllReadyH.cons (gatL (gatS (gatS (gatS (gatS (gatS (gatS (gatS (gatS (gatS (gatS (gatS gatZ)))))))))))) (fun K hK => ?_) AllReadyH.nil
        go_simp
        refine hK.out _ _ ?_ (fun hHeld => ?_)
        · exact HSt.out _ (by repeat (first | with_reducible exact World.grownBy.refl _ _ | refine gbA ?_ _ | refine gbD ?_))
        clear hK K
        try simp only [Act.put, List.setIfInBounds_toArray, List.set_cons_zero, List.set_cons_succ]
        refine wpAnyH_take (i := 12) (v := ?_) (gatL (gatS (gatS (gatS (gatS (gatS (gatS (gatS (gatS (gatS (gatS (gatS (gatS gatZ))))))))))))) (by kernel_rfl) (by kernel_rfl) (by kernel_rfl) (fun _ _ _ h => h) (Or.inl ⟨by rfl, ?_⟩) (by assumption) ?_
        rotate_left
        · intro w hSw
          try dsimp only at hSw
          go_simp
          all_goals with_reducible rfl
        try simp only [Act.put, List.setIfInBounds_toArray, List.set_cons_zero, List.set_cons_succ]
        refine wpAnyH_done (by kernel_rfl) ?_ _
        go_wp2_with (fail)
        go_meet
        unfold NwQ
        rw [hM.out, HNn.out]
        refine ⟨_, _, _, _, rfl, blkD (blkN _ _ _ _ (by simp)), ?_, ?_, ?_, ?_, ?_, ?_⟩
        · exact (made_tabE W0 N _ (by simp)).keptG (by repeat (first | with_reducible exact World.grownBy.refl _ _ | refine gbA ?_ _ | refine gbD ?_))
        · exact (made_tabE (W0.alloc _) M _ (by simp)).keptG (by repeat (first | with_reducible exact World.grownBy.refl _ _ | refine gbA ?_ _ | refine gbD ?_))
        · exact (mapN ((W0.alloc _).alloc _) _ (by simp)).keptG (by repeat (first | with_reducible exact World.grownBy.refl _ _ | refine gbA ?_ _ | refine gbD ?_))
        · exact (by repeat (first | with_reducible exact World.grownBy.refl _ _ | refine gbA ?_ _ | refine gbD ?_))
        · refine ⟨?_, ?_, ?_, ?_⟩ <;> omega
        · refine ⟨?_, ?_, ?_, ?_, ?_, ?_⟩ <;> omega
      ·
        go_simp
        refine hK.out _ _ ?_ (fun hHeld => ?_)
        · exact HSt.out _ (by repeat (first | with_reducible exact World.grownBy.refl _ _ | refine gbA ?_ _ | refine gbD ?_))
        clear hK K
        try simp only [Act.put, List.setIfInBounds_toArray, List.set_cons_zero, List.set_cons_succ]
        refine wpAnyH_ready (rs := [8]) (by kernel_rfl) (by simp) ?_
        refine AllReadyH.cons (gatL (gatS (gatS (gatS (gatS (gatS (gatS (gatS (gatS gatZ))))))))) (fun K hK => ?_) AllReadyH.nil
        go_simp
        refine hK.out _ _ ?_ (fun hHeld => ?_)
        · exact HSt.out _ (by repeat (first | with_reducible exact World.grownBy.refl _ _ | refine gbA ?_ _ | refine gbD ?_))
        clear hK K
        try simp only [Act.put, List.setIfInBounds_toArray, List.set_cons_zero, List.set_cons_succ]
        refine wpAnyH_take (i := 10) (v := ?_) (gatL (gatS (gatS (gatS (gatS (gatS (gatS (gatS (gatS (gatS (gatS gatZ))))))))))) (by kernel_rfl) (by kernel_rfl) (by kernel_rfl) (fun _ _ _ h => h) (Or.inl ⟨by rfl, ?_⟩) (by assumption) ?_
        rotate_left
        · intro w hSw
          try dsimp only at hSw
          go_simp
          all_goals with_reducible rfl
        try simp only [Act.put, List.setIfInBounds_toArray, List.set_cons_zero, List.set_cons_succ]
        refine wpAnyH_ready (rs := [11]) (by kernel_rfl) (by simp) ?_
        refine AllReadyH.cons (gatL (gatS (gatS (gatS (gatS (gatS (gatS (gatS (gatS (gatS (gatS (gatS gatZ)))))))))))) (fun K hK => ?_) AllReadyH.nil
        go_simp
        refine hK.out _ _ ?_ (fun hHeld => ?_)
        · exact HSt.out _ (by repeat (first | with_reducible exact World.grownBy.refl _ _ | refine gbA ?_ _ | refine gbD ?_))
        clear hK K
        try simp only [Act.put, List.setIfInBounds_toArray, List.set_cons_zero, List.set_cons_succ]
        refine wpAnyH_take (i := 12) (v := ?_) (gatL (gatS (gatS (gatS (gatS (gatS (gatS (gatS (gatS (gatS (gatS (gatS (gatS gatZ))))))))))))) (by kernel_rfl) (by kernel_rfl) (by kernel_rfl) (fun _ _ _ h => h) (Or.inl ⟨by rfl, ?_⟩) (by assumption) ?_
        rotate_left
        · intro w hSw
          try dsimp only at hSw
          go_simp
          all_goals with_reducible rfl
        try simp only [Act.put, List.setIfInBounds_toArray, List.set_cons_zero, List.set_cons_succ]
        refine wpAnyH_done (by kernel_rfl) ?_ _
        go_wp2_with (fail)
        go_meet
        unfold NwQ
        rw [hM.out, HNn.out]
        refine ⟨_, _, _, _, rfl, blkD (blkN _ _ _ _ (by simp)), ?_, ?_, ?_, ?_, ?_, ?_⟩
        · exact (made_tabE W0 N _ (by simp)).keptG (by repeat (first | with_reducible exact World.grownBy.refl _ _ | refine gbA ?_ _ | refine gbD ?_))
        · exact (made_tabE ((W0.alloc _).alloc _) M _ (by simp)).keptG (by repeat (first | with_reducible exact World.grownBy.refl _ _ | refine gbA ?_ _ | refine gbD ?_))
        · exact (mapN (W0.alloc _) _ (by simp)).keptG (by repeat (first | with_reducible exact World.grownBy.refl _ _ | refine gbA ?_ _ | refine gbD ?_))
        · exact (by repeat (first | with_reducible exact World.grownBy.refl _ _ | refine gbA ?_ _ | refine gbD ?_))
        · refine ⟨?_, ?_, ?_, ?_⟩ <;> omega
        · refine ⟨?_, ?_, ?_, ?_, ?_, ?_⟩ <;> omega
    ·
      go_simp
      refine hK.out _ _ ?_ (fun hHeld => ?_)
      · exact HSt.out _ (by repeat (first | with_reducible exact World.grownBy.refl _ _ | refine gbA ?_ _ | refine gbD ?_))
      clear hK K
      try simp only [Act.put, List.setIfInBounds_toArray, List.set_cons_zero, List.set_cons_succ]
      refine wpAnyH_ready (rs := [4, 9]) (by kernel_rfl) (by simp) ?_
      refine AllReadyH.cons (gatL (gatS (gatS (gatS (gatS gatZ))))) (fun K hK => ?_) (AllReadyH.cons (gatL (gatS (gatS (gatS (gatS (gatS (gatS (gatS (gatS (gatS gatZ)))))))))) (fun K hK => ?_) (AllReadyH.nil))
      ·
        go_simp
        refine hK.out _ _ ?_ (fun hHeld => ?_)
        · exact HSt.out _ (by repeat (first | with_reducible exact World.grownBy.refl _ _ | refine gbA ?_ _ | refine gbD ?_))
        clear hK K
        try simp only [Act.put, List.setIfInBounds_toArray, List.set_cons_zero, List.set_cons_succ]
        refine wpAnyH_ready (rs := [9]) (by kernel_rfl) (by simp) ?_
        refine AllReadyH.cons (gatL (gatS (gatS (gatS (gatS (gatS (gatS (gatS (gatS (gatS gatZ)))))))))) (fun K hK => ?_) AllReadyH.nil
        go_simp
        refine hK.out _ _ ?_ (fun hHeld => ?_)
        · exact HSt.out _ (by repeat (first | with_reducible exact World.grownBy.refl _ _ | refine gbA ?_ _ | refine gbD ?_))
        clear hK K
        try simp only [Act.put, List.setIfInBounds_toArray, List.set_cons_zero, List.set_cons_succ]
        refine wpAnyH_take (i := 10) (v := ?_) (gatL (gatS (gatS (gatS (gatS (gatS (gatS (gatS (gatS (gatS (gatS gatZ))))))))))) (by kernel_rfl) (by kernel_rfl) (by kernel_rfl) (fun _ _ _ h => h) (Or.inl ⟨by rfl, ?_⟩) (by assumption) ?_
        rotate_left
        · intro w hSw
          try dsimp only at hSw
          go_simp
          all_goals with_reducible rfl
        try simp only [Act.put, List.setIfInBounds_toArray, List.set_cons_zero, List.set_cons_succ]
        refine wpAnyH_ready (rs := [11]) (by kernel_rfl) (by simp) ?_
        refine AllReadyH.cons (gatL (gatS (gatS (gatS (gatS (gatS (gatS (gatS (gatS (gatS (gatS (gatS gatZ)))))))))))) (fun K hK => ?_) AllReadyH.nil
        go_simp
        refine hK.out _ _ ?_ (fun hHeld => ?_)
        · exact HSt.out _ (by repeat (first | with_reducible exact World.grownBy.refl _ _ | refine gbA ?_ _ | refine gbD ?_))
        clear hK K
        try simp only [Act.put, List.setIfInBounds_toArray, List.set_cons_zero, List.set_cons_succ]
        refine wpAnyH_take (i := 12) (v := ?_) (gatL (gatS (gatS (gatS (gatS (gatS (gatS (gatS (gatS (gatS (gatS (gatS (gatS gatZ))))))))))))) (by kernel_rfl) (by kernel_rfl) (by kernel_rfl) (fun _ _ _ h => h) (Or.inl ⟨by rfl, ?_⟩) (by assumption) ?_
        rotate_left
        · intro w hSw
          try dsimp only at hSw
          go_simp
          all_goals with_reducible rfl
        try simp only [Act.put, List.setIfInBounds_toArray, List.set_cons_zero, List.set_cons_succ]
        refine wpAnyH_done (by kernel_rfl) ?_ _
        go_wp2_with (fail)
        go_meet
        unfold NwQ
        rw [hM.out, HNn.out]
        refine ⟨_, _, _, _, rfl, blkD (blkN _ _ _ _ (by simp)), ?_, ?_, ?_, ?_, ?_, ?_⟩
        · exact (made_tabE (W0.alloc _) N _ (by simp)).keptG (by repeat (first | with_reducible exact World.grownBy.refl _ _ | refine gbA ?_ _ | refine gbD ?_))
        · exact (made_tabE W0 M _ (by simp)).keptG (by repeat (first | with_reducible exact World.grownBy.refl _ _ | refine gbA ?_ _ | refine gbD ?_))
        · exact (mapN ((W0.alloc _).alloc _) _ (by simp)).keptG (by repeat (first | with_reducible exact World.grownBy.refl _ _ | refine gbA ?_ _ | refine gbD ?_))
        · exact (by repeat (first | with_reducible exact World.grownBy.refl _ _ | refine gbA ?_ _ | refine gbD ?_))
        · refine ⟨?_, ?_, ?_, ?_⟩ <;> omega
        · refine ⟨?_, ?_, ?_, ?_, ?_, ?_⟩ <;> omega
      ·
        go_simp
        refine hK.out _ _ ?_ (fun hHeld => ?_)
        · exact HSt.out _ (by repeat (first | with_reducible exact World.grownBy.refl _ _ | refine gbA ?_ _ | refine gbD ?_))
        clear hK K
        try simp only [Act.put, List.setIfInBounds_toArray, List.set_cons_zero, List.set_cons_succ]
        refine wpAnyH_ready (rs := [4]) (by kernel_rfl) (by simp) ?_
        refine AllReadyH.cons (gatL (gatS (gatS (gatS (gatS gatZ))))) (fun K hK => ?_) AllReadyH.nil
        go_simp
        refine hK.out _ _ ?_ (fun hHeld => ?_)
        · exact HSt.out _ (by repeat (first | with_reducible exact World.grownBy.refl _ _ | refine gbA ?_ _ | refine gbD ?_))
        clear hK K
        try simp only [Act.put, List.setIfInBounds_toArray, List.set_cons_zero, List.set_cons_succ]
        refine wpAnyH_take (i := 10) (v := ?_) (gatL (gatS (gatS (gatS (gatS (gatS (gatS (gatS (gatS (gatS (gatS gatZ))))))))))) (by kernel_rfl) (by kernel_rfl) (by kernel_rfl) (fun _ _ _ h => h) (Or.inl ⟨by rfl, ?_⟩) (by assumption) ?_
        rotate_left
        · intro w hSw
          try dsimp only at hSw
          go_simp
          all_goals with_reducible rfl
        try simp only [Act.put, List.setIfInBounds_toArray, List.set_cons_zero, List.set_cons_succ]
        refine wpAnyH_ready (rs := [11]) (by kernel_rfl) (by simp) ?_
        refine AllReadyH.cons (gatL (gatS (gatS (gatS (gatS (gatS (gatS (gatS (gatS (gatS (gatS (gatS gatZ)))))))))))) (fun K hK => ?_) AllReadyH.nil
        go_simp
        refine hK.out _ _ ?_ (fun hHeld => ?_)
        · exact HSt.out _ (by repeat (first | with_reducible exact World.grownBy.refl _ _ | refine gbA ?_ _ | refine gbD ?_))
        clear hK K
        try simp only [Act.put, List.setIfInBounds_toArray, List.set_cons_zero, List.set_cons_succ]
        refine wpAnyH_take (i := 12) (v := ?_) (gatL (gatS (gatS (gatS (gatS (gatS (gatS (gatS (gatS (gatS (gatS (gatS (gatS gatZ))))))))))))) (by kernel_rfl) (by kernel_rfl) (by kernel_rfl) (fun _ _ _ h => h) (Or.inl ⟨by rfl, ?_⟩) (by assumption) ?_
        rotate_left
        · intro w hSw
          try dsimp only at hSw
          go_simp
          all_goals with_reducible rfl
        try simp only [Act.put, List.setIfInBounds_toArray, List.set_cons_zero, List.set_cons_succ]
        refine wpAnyH_done (by kernel_rfl) ?_ _
        go_wp2_with (fail)
        go_meet
        unfold NwQ
        rw [hM.out, HNn.out]
        refine ⟨_, _, _, _, rfl, blkD (blkN _ _ _ _ (by simp)), ?_, ?_, ?_, ?_, ?_, ?_⟩
        · exact (made_tabE ((W0.alloc _).alloc _) N _ (by simp)).keptG (by repeat (first | with_reducible exact World.grownBy.refl _ _ | refine gbA ?_ _ | refine gbD ?_))
        · exact (made_tabE W0 M _ (by simp)).keptG (by repeat (first | with_reducible exact World.grownBy.refl _ _ | refine gbA ?_ _ | refine gbD ?_))
        · exact (mapN (W0.alloc _) _ (by simp)).keptG (by repeat (first | with_reducible exact World.grownBy.refl _ _ | refine gbA ?_ _ | refine gbD ?_))
        · exact (by repeat (first | with_reducible exact World.grownBy.refl _ _ | refine gbA ?_ _ | refine gbD ?_))
        · refine ⟨?_, ?_, ?_, ?_⟩ <;> omega
        · refine ⟨?_, ?_, ?_, ?_, ?_, ?_⟩ <;> omega
    ·
      go_simp
      refine hK.out _ _ ?_ (fun hHeld => ?_)
      · exact HSt.out _ (by repeat (first | with_reducible exact World.grownBy.refl _ _ | refine gbA ?_ _ | refine gbD ?_))
      clear hK K
      try simp only [Act.put, List.setIfInBounds_toArray, List.set_cons_zero, List.set_cons_succ]
      refine wpAnyH_ready (rs := [4, 8]) (by kernel_rfl) (by simp) ?_
      refine AllReadyH.cons (gatL (gatS (gatS (gatS (gatS gatZ))))) (fun K hK => ?_) (AllReadyH.cons (gatL (gatS (gatS (gatS (gatS (gatS (gatS (gatS (gatS gatZ))))))))) (fun K hK => ?_) (AllReadyH.nil))
      ·
        go_simp
        refine hK.out _ _ ?_ (fun hHeld => ?_)
        · exact HSt.out _ (by repeat (first | with_reducible exact World.grownBy.refl _ _ | refine gbA ?_ _ | refine gbD ?_))
        clear hK K
        try simp only [Act.put, List.setIfInBounds_toArray, List.set_cons_zero, List.set_cons_succ]
        refine wpAnyH_ready (rs := [8]) (by kernel_rfl) (by simp) ?_
        refine AllReadyH.cons (gatL (gatS (gatS (gatS (gatS (gatS (gatS (gatS (gatS gatZ))))))))) (fun K hK => ?_) AllReadyH.nil
        go_simp
        refine hK.out _ _ ?_ (fun hHeld => ?_)
        · exact HSt.out _ (by repeat (first | with_reducible exact World.grownBy.refl _ _ | refine gbA ?_ _ | refine gbD ?_))
        clear hK K
        try simp only [Act.put, List.setIfInBounds_toArray, List.set_cons_zero, List.set_cons_succ]
        refine wpAnyH_take (i := 10) (v := ?_) (gatL (gatS (gatS (gatS (gatS (gatS (gatS (gatS (gatS (gatS (gatS gatZ))))))))))) (by kernel_rfl) (by kernel_rfl) (by kernel_rfl) (fun _ _ _ h => h) (Or.inl ⟨by rfl, ?_⟩) (by assumption) ?_
        rotate_left
        · intro w hSw
          try dsimp only at hSw
          go_simp
          all_goals with_reducible rfl
        try simp only [Act.put, List.setIfInBounds_toArray, List.set_cons_zero, List.set_cons_succ]
        refine wpAnyH_ready (rs := [11]) (by kernel_rfl) (by simp) ?_
        refine AllReadyH.cons (gatL (gatS (gatS (gatS (gatS (gatS (gatS (gatS (gatS (gatS (gatS (gatS gatZ)))))))))))) (fun K hK => ?_) AllReadyH.nil
        go_simp
        refine hK.out _ _ ?_ (fun hHeld => ?_)
        · exact HSt.out _ (by repeat (first | with_reducible exact World.grownBy.refl _ _ | refine gbA ?_ _ | refine gbD ?_))
        clear hK K
        try simp only [Act.put, List.setIfInBounds_toArray, List.set_cons_zero, List.set_cons_succ]
        refine wpAnyH_take (i := 12) (v := ?_) (gatL (gatS (gatS (gatS (gatS (gatS (gatS (gatS (gatS (gatS (gatS (gatS (gatS gatZ))))))))))))) (by kernel_rfl) (by kernel_rfl) (by kernel_rfl) (fun _ _ _ h => h) (Or.inl ⟨by rfl, ?_⟩) (by assumption) ?_
        rotate_left
        · intro w hSw
          try dsimp only at hSw
          go_simp
          all_goals with_reducible rfl
        try simp only [Act.put, List.setIfInBounds_toArray, List.set_cons_zero, List.set_cons_succ]
        refine wpAnyH_done (by kernel_rfl) ?_ _
        go_wp2_with (fail)
        go_meet
        unfold NwQ
        rw [hM.out, HNn.out]
        refine ⟨_, _, _, _, rfl, blkD (blkN _ _ _ _ (by simp)), ?_, ?_, ?_, ?_, ?_, ?_⟩
        · exact (made_tabE (W0.alloc _) N _ (by simp)).keptG (by repeat (first | with_reducible exact World.grownBy.refl _ _ | refine gbA ?_ _ | refine gbD ?_))
        · exact (made_tabE ((W0.alloc _).alloc _) M _ (by simp)).keptG (by repeat (first | with_reducible exact World.grownBy.refl _ _ | refine gbA ?_ _ | refine gbD ?_))
        · exact (mapN W0 _ (by simp)).keptG (by repeat (first | with_reducible exact World.grownBy.refl _ _ | refine gbA ?_ _ | refine gbD ?_))
        · exact (by repeat (first | with_reducible exact World.grownBy.refl _ _ | refine gbA ?_ _ | refine gbD ?_))
        · refine ⟨?_, ?_, ?_, ?_⟩ <;> omega
        · refine ⟨?_, ?_, ?_, ?_, ?_, ?_⟩ <;> omega
      ·
        go_simp
        refine hK.out _ _ ?_ (fun hHeld => ?_)
        · exact HSt.out _ (by repeat (first | with_reducible exact World.grownBy.refl _ _ | refine gbA ?_ _ | refine gbD ?_))
        clear hK K
        try simp only [Act.put, List.setIfInBounds_toArray, List.set_cons_zero, List.set_cons_succ]
        refine wpAnyH_ready (rs := [4]) (by kernel_rfl) (by simp) ?_
        refine AllReadyH.cons (gatL (gatS (gatS (gatS (gatS gatZ))))) (fun K hK => ?_) AllReadyH.nil
        go_simp
        refine hK.out _ _ ?_ (fun hHeld => ?_)
        · exact HSt.out _ (by repeat (first | with_reducible exact World.grownBy.refl _ _ | refine gbA ?_ _ | refine gbD ?_))
        clear hK K
        try simp only [Act.put, List.setIfInBounds_toArray, List.set_cons_zero, List.set_cons_succ]
        refine wpAnyH_take (i := 10) (v := ?_) (gatL (gatS (gatS (gatS (gatS (gatS (gatS (gatS (gatS (gatS (gatS gatZ))))))))))) (by kernel_rfl) (by kernel_rfl) (by kernel_rfl) (fun _ _ _ h => h) (Or.inl ⟨by rfl, ?_⟩) (by assumption) ?_
        rotate_left
        · intro w hSw
          try dsimp only at hSw
          go_simp
          all_goals with_reducible rfl
        try simp only [Act.put, List.setIfInBounds_toArray, List.set_cons_zero, List.set_cons_succ]
        refine wpAnyH_ready (rs := [11]) (by kernel_rfl) (by simp) ?_
        refine AllReadyH.cons (gatL (gatS (gatS (gatS (gatS (gatS (gatS (gatS (gatS (gatS (gatS (gatS gatZ)))))))))))) (fun K hK => ?_) AllReadyH.nil
        go_simp
        refine hK.out _ _ ?_ (fun hHeld => ?_)
        · exact HSt.out _ (by repeat (first | with_reducible exact World.grownBy.refl _ _ | refine gbA ?_ _ | refine gbD ?_))
        clear hK K
        try simp only [Act.put, List.setIfInBounds_toArray, List.set_cons_zero, List.set_cons_succ]
        refine wpAnyH_take (i := 12) (v := ?_) (gatL (gatS (gatS (gatS (gatS (gatS (gatS (gatS (gatS (gatS (gatS (gatS (gatS gatZ))))))))))))) (by kernel_rfl) (by kernel_rfl) (by kernel_rfl) (fun _ _ _ h => h) (Or.inl ⟨by rfl, ?_⟩) (by assumption) ?_
        rotate_left
        · intro w hSw
          try dsimp only at hSw
          go_simp
          all_goals with_reducible rfl
        try simp only [Act.put, List.setIfInBounds_toArray, List.set_cons_zero, List.set_cons_succ]
        refine wpAnyH_done (by kernel_rfl) ?_ _
        go_wp2_with (fail)
        go_meet
        unfold NwQ
        rw [hM.out, HNn.out]
        refine ⟨_, _, _, _, rfl, blkD (blkN _ _ _ _ (by simp)), ?_, ?_, ?_, ?_, ?_, ?_⟩
        · exact (made_tabE ((W0.alloc _).alloc _) N _ (by simp)).keptG (by repeat (first | with_reducible exact World.grownBy.refl _ _ | refine gbA ?_ _ | refine gbD ?_))
        · exact (made_tabE (W0.alloc _) M _ (by simp)).keptG (by repeat (first | with_reducible exact World.grownBy.refl _ _ | refine gbA ?_ _ | refine gbD ?_))
        · exact (mapN W0 _ (by simp)).keptG (by repeat (first | with_reducible exact World.grownBy.refl _ _ | refine gbA ?_ _ | refine gbD ?_))
        · exact (by repeat (first | with_reducible exact World.grownBy.refl _ _ | refine gbA ?_ _ | refine gbD ?_))
        · refine ⟨?_, ?_, ?_, ?_⟩ <;> omega
        · refine ⟨?_, ?_, ?_, ?_, ?_, ?_⟩ <;> omega
  case rest =>
    obtain ⟨wb, fb, nb, mb, rfl, hbx, hfb, hnb, hmp, hg, hge, ⟨n1, n2, n3, n4, n5, n6⟩⟩ := hcut
    rename World => w1
    rw [hM.out, HNn.out] at hbx
    rw [HNn.out] at hfb
    rw [hM.out] at hnb
    have hA1 := hA0.keptG hg
    have hb1 : Below w.heap.size w w1 := hb0.grown hg hb0.size (fun k e => by cases e)
    have hz0 : W0.heap.size = w.heap.size + 1 := by rw [← hW0.out]; simp
    have m1 : ¬ w.heap.size = fb := by omega
    have m2 : ¬ w.heap.size = nb := by omega
    have m3 : ¬ w.heap.size = wb := by omega
    have hfz : w.heap.size ≤ fb ∧ w.heap.size ≤ nb ∧ w.heap.size ≤ wb ∧ w.heap.size ≤ mb := by omega
    clear hmkN hmkM hmm HSt hA0 hb0 hg hge hz0
    have HMP := Lib.hid hmp
    have HNB := Lib.hid hnb
    clear hmp hnb
    have y1 := hbx.cell 1
    have yl := hbx.lt
    simp only [List.getElem?_cons_zero, List.getElem?_cons_succ] at y1
    go_wp2_with (fail)
    go_loopw [4, 24] (fun _ iv wr => ∃ k : Nat, k ≤ N ∧ iv = .int .i64 (k : Int) ∧ Blk wr fb 3 (tabL N (fun s => if s < k then -1 else 0)) ∧ Blk wr wb 129 [.slice ga M gc, .slice (some ⟨fb, 0, none⟩) N N, .slice (some ⟨nb, 0, none⟩) M M, .int .i64 0, .map (some mb)] ∧ Blk wr nb 3 (tabL M (fun _ => 0)) ∧ MapI wr mb 0 (fun _ => 0) ∧ Blk wr w.heap.size 32 [.int .i64 (N : Int), .int .i64 x.s, .slice ea x.ends.length ec, .slice ga M gc] ∧ Below w.heap.size w wr) (fun _ iv _ => N - (intOf iv).toNat)
    case atStart => exact ⟨0, Nat.zero_le _, rfl, by simpa using hfb, hbx, HNB.out, HMP.out, hA1, hb1⟩
    case round =>
      obtain ⟨k, hk, rfl, hf1, hw1, hn1, hm1, ha1, hb2⟩ := hrel
      have Hf1 := Lib.hid hf1
      have Hn1 := Lib.hid hn1
      have Hm1 := Lib.hid hm1
      have Ha1 := Lib.hid ha1
      clear y1 yl hbx hfb hA1 hb1 hn1 hm1 ha1 x0 x3 xl
      have y1 := hw1.cell 1
      have yl := hw1.lt
      have z0 := hf1.cell k
      have zf := hf1.frozen k
      have zl := hf1.lt
      simp only [List.getElem?_cons_zero, List.getElem?_cons_succ] at y1
      by_cases hlt : k < N
      · have hkI : (k : Int) < (N : Int) := by omega
        have hkI0 : (0 : Int) ≤ (k : Int) := by omega
        rw [tabL_at _ hlt] at z0
        clear hf1
        go_wp2_with (fail)
        refine ⟨⟨k + 1, by omega, by simp, ?_, Blk.setOther hw1 n2 _, Blk.setOther Hn1.out (fun e => n1 e.symm) _, Hm1.out.kept (row := some fb) (grownBy_set _ fb k _) (by intro e; cases e; exact n4 rfl), Blk.setOther Ha1.out m1 _, hb2.setCell (p := ⟨fb, k, none⟩) hfz.1 _⟩, by simp [intOf]; omega⟩
        have := Hf1.out.set k (.int .i64 (-1))
        rw [tabL_set] at this
        refine (congrArg (Blk _ fb 3) (tabL_congr (fun s _ => ?_))).mp this
        by_cases e : s = k
        · rw [if_pos e, if_pos (by omega)]
        · rw [if_neg e]
          by_cases e2 : s < k
          · rw [if_pos e2, if_pos (by omega)]
          · rw [if_neg e2, if_neg (by omega)]
      · obtain rfl : k = N := by omega
        have hkI : ¬ (k : Int) < (k : Int) := by omega
        have x3 := Ha1.out.cell 3
        have xl := Ha1.out.lt
        simp only [List.getElem?_cons_zero, List.getElem?_cons_succ] at x3
        have hf2 : Blk wr fb 3 (tabL k (fun s => lastE x.es (s : Int) 0)) := (congrArg (Blk _ fb 3) (tabL_congr (fun s hs => by rw [if_pos hs]; rfl))).mp Hf1.out
        have Hf2 := Lib.hid hf2
        have Hw1 := Lib.hid hw1
        clear hf1 hf2 Hf1 z0 zf zl y1 yl hw1
        go_wp2_with (fail)
        go_loopw [5, 6, 37] (fun _ _ iv wr => ∃ j : Nat, j ≤ M ∧ iv = .int .i64 (j : Int) ∧ Blk wr fb 3 (tabL k (fun s => lastE x.es (s : Int) j)) ∧ Blk wr wb 129 [.slice ga M gc, .slice (some ⟨fb, 0, none⟩) k k, .slice (some ⟨nb, 0, none⟩) M M, .int .i64 0, .map (some mb)] ∧ Blk wr nb 3 (tabL M (fun i => if i < j then nextE x.es i else 0)) ∧ MapI wr mb 0 (fun _ => 0) ∧ Blk wr w.heap.size 32 [.int .i64 (k : Int), .int .i64 x.s, .slice ea x.ends.length ec, .slice ga M gc] ∧ Below w.heap.size w wr) (fun _ _ iv _ => M - (intOf iv).toNat)
        case atStart => exact ⟨0, Nat.zero_le _, rfl, Hf2.out, Hw1.out, by simpa using Hn1.out, Hm1.out, Ha1.out, hb2⟩
        case round =>
          obtain ⟨j, hj, rfl, hf3, hw3, hn3, hm3, ha3, hb3⟩ := hrel
          clear x3 xl Hf2 Hw1 Hn1 Hm1 Ha1 hb2
          have x3 := ha3.cell 3
          have xl := ha3.lt
          simp only [List.getElem?_cons_zero, List.getElem?_cons_succ] at x3
          by_cases hlt : j < M
          · have hjI : (j : Int) < (M : Int) := by omega
            have hjI0 : (0 : Int) ≤ (j : Int) := by omega
            have hjl : j < x.es.length := by rw [hM.out]; exact hlt
            obtain ⟨b, off, rfl⟩ := HES.out.at_ j hjl
            obtain ⟨c0, c1, sa, sc, c2, _⟩ := (HES.out.grown hb3).cell b off rfl j hjl
            rw [← egAt_eq hjl] at c0 c1 c2
            have hbl := World.block_lt_of_cell? wr _ c0
            obtain ⟨hF0, hF1⟩ := HLF.out j hjl
            obtain ⟨e, he⟩ : ∃ e, Hid (egAt x.es j = e) := ⟨_, Lib.hid rfl⟩
            rw [he.out] at c0 c1 c2 hF0 hF1
            obtain ⟨ef, et, eq⟩ := e
            dsimp only at c0 c1 c2 hF0 hF1
            obtain ⟨F, rfl⟩ : ∃ F : Nat, ef = (F : Int) := ⟨ef.toNat, by omega⟩
            have hFk : F < k := by omega
            have Hf3 := Lib.hid (hf3.alloc (.cells #[.int .i64 (F : Int), .int .i64 et, .slice sa eq.length sc] 61))
            have Hw3 := Lib.hid (hw3.alloc (.cells #[.int .i64 (F : Int), .int .i64 et, .slice sa eq.length sc] 61))
            have Hn3 := Lib.hid (hn3.alloc (.cells #[.int .i64 (F : Int), .int .i64 et, .slice sa eq.length sc] 61))
            have Ha3 := Lib.hid (ha3.alloc (.cells #[.int .i64 (F : Int), .int .i64 et, .slice sa eq.length sc] 61))
            have Hm3 := Lib.hid (hm3.kept (World.grownBy_alloc wr (.cells #[.int .i64 (F : Int), .int .i64 et, .slice sa eq.length sc] 61) none) (by simp))
            have Hb3 := Lib.hid (hb3.alloc hb3.size (.cells #[.int .i64 (F : Int), .int .i64 et, .slice sa eq.length sc] 61))
            have HE3 := Lib.hid (Blk.new wr 61 #[.int .i64 (F : Int), .int .i64 et, .slice sa eq.length sc])
            have hEn : ¬ wr.heap.size = fb ∧ ¬ wr.heap.size = nb := ⟨by have := hf3.lt; omega, by have := hn3.lt; omega⟩
            clear hf3 hw3 hn3 hm3 ha3 hb3
            have HX : Hid (nextE x.es j = lastE x.es (F : Int) j) := Lib.hid (by unfold nextE; rw [he.out])
            obtain ⟨X, hX⟩ : ∃ X, Hid (lastE x.es (F : Int) j = X) := ⟨_, Lib.hid rfl⟩
            have HSt : Hid (∀ W, Blk W fb 3 (tabL k (fun s => lastE x.es (s : Int) j)) → Blk W wb 129 [.slice (some ⟨b, off, none⟩) M gc, .slice (some ⟨fb, 0, none⟩) k k, .slice (some ⟨nb, 0, none⟩) M M, .int .i64 0, .map (some mb)] → Blk W wr.heap.size 61 [.int .i64 (F : Int), .int .i64 et, .slice sa eq.length sc] → (W.cell? ⟨wb, 1, none⟩ = some (.slice (some ⟨fb, 0, none⟩) k k) ∧ W.cell? ⟨wb, 2, none⟩ = some (.slice (some ⟨nb, 0, none⟩) M M) ∧ W.cell? ⟨wr.heap.size, 0, none⟩ = some (.int .i64 (F : Int)) ∧ W.cell? ⟨fb, F, none⟩ = some (.int .i64 X))) := Lib.hid (fun W h1 h2 h3 => ⟨by simpa using h2.cell 1, by simpa using h2.cell 2, by simpa using h3.cell 0, by have := h1.cell F; rw [tabL_at _ hFk, hX.out] at this; exact this⟩)
            go_wp2_with (fail)
            refine wp_region_held_drew (S := fun w' => (w'.cell? ⟨wb, 1, none⟩ = some (.slice (some ⟨fb, 0, none⟩) k k) ∧ w'.cell? ⟨wb, 2, none⟩ = some (.slice (some ⟨nb, 0, none⟩) M M) ∧ w'.cell? ⟨wr.heap.size, 0, none⟩ = some (.int .i64 (F : Int)) ∧ w'.cell? ⟨fb, F, none⟩ = some (.int .i64 X))) (by kernel_rfl) ?_ (fun hHeld => ?_)
            · exact HSt.out _ Hf3.out Hw3.out HE3.out
            refine wpAnyH_take (i := 0) (v := ?_) (gatL gatZ) (by kernel_rfl) (by kernel_rfl) (by kernel_rfl) (fun _ _ _ h => h) (Or.inl ⟨by rfl, ?_⟩) (by assumption) ?_
            rotate_left
            · intro w hSw
              try dsimp only at hSw
              go_simp
              all_goals with_reducible rfl
            try simp only [Act.put, List.setIfInBounds_toArray, List.set_cons_zero, List.set_cons_succ]
            refine wpAnyH_take (i := 1) (v := ?_) (gatL (gatS gatZ)) (by kernel_rfl) (by kernel_rfl) (by kernel_rfl) (fun _ _ _ h => h) (Or.inl ⟨by rfl, ?_⟩) (by assumption) ?_
            rotate_left
            · intro w hSw
              try dsimp only at hSw
              go_simp
              all_goals with_reducible rfl
            try simp only [Act.put, List.setIfInBounds_toArray, List.set_cons_zero, List.set_cons_succ]
            refine wpAnyH_take (i := 2) (v := ?_) (gatL (gatS (gatS gatZ))) (by kernel_rfl) (by kernel_rfl) (by kernel_rfl) (fun _ _ _ h => h) (Or.inl ⟨by rfl, ?_⟩) (by assumption) ?_
            rotate_left
            · intro w hSw
              try dsimp only at hSw
              go_simp
              all_goals with_reducible rfl
            try simp only [Act.put, List.setIfInBounds_toArray, List.set_cons_zero, List.set_cons_succ]
            refine wpAnyH_take (i := 3) (v := ?_) (gatL (gatS (gatS (gatS gatZ)))) (by kernel_rfl) (by kernel_rfl) (by kernel_rfl) (fun _ _ _ h => h) (Or.inl ⟨by rfl, ?_⟩) (by assumption) ?_
            rotate_left
            · intro w hSw
              try dsimp only at hSw
              go_simp
              all_goals with_reducible rfl
            try simp only [Act.put, List.setIfInBounds_toArray, List.set_cons_zero, List.set_cons_succ]
            refine wpAnyH_take (i := 4) (v := ?_) (gatL (gatS (gatS (gatS (gatS gatZ))))) (by kernel_rfl) (by kernel_rfl) (by kernel_rfl) (fun _ _ _ h => h) (Or.inl ⟨by rfl, ?_⟩) (by assumption) ?_
            rotate_left
            · intro w hSw
              try dsimp only at hSw
              go_simp
              all_goals with_reducible rfl
            try simp only [Act.put, List.setIfInBounds_toArray, List.set_cons_zero, List.set_cons_succ]
            refine wpAnyH_take (i := 5) (v := ?_) (gatL (gatS (gatS (gatS (gatS (gatS gatZ)))))) (by kernel_rfl) (by kernel_rfl) (by kernel_rfl) (fun _ _ _ h => h) (Or.inl ⟨by rfl, ?_⟩) (by assumption) ?_
            rotate_left
            · intro w hSw
              try dsimp only at hSw
              go_simp
              all_goals with_reducible rfl
            try simp only [Act.put, List.setIfInBounds_toArray, List.set_cons_zero, List.set_cons_succ]
            refine wpAnyH_take (i := 6) (v := ?_) (gatL (gatS (gatS (gatS (gatS (gatS (gatS gatZ))))))) (by kernel_rfl) (by kernel_rfl) (by kernel_rfl) (fun _ _ _ h => h) (Or.inl ⟨by rfl, ?_⟩) (by assumption) ?_
            rotate_left
            · intro w hSw
              try dsimp only at hSw
              go_simp
              all_goals with_reducible rfl
            try simp only [Act.put, List.setIfInBounds_toArray, List.set_cons_zero, List.set_cons_succ]
            refine wpAnyH_take (i := 7) (v := ?_) (gatL (gatS (gatS (gatS (gatS (gatS (gatS (gatS gatZ)))))))) (by kernel_rfl) (by kernel_rfl) (by kernel_rfl) (fun _ _ _ h => h) (Or.inl ⟨by rfl, ?_⟩) (by assumption) ?_
            rotate_left
            · intro w hSw
              try dsimp only at hSw
              go_simp
              all_goals with_reducible rfl
            try simp only [Act.put, List.setIfInBounds_toArray, List.set_cons_zero, List.set_cons_succ]
            refine wpAnyH_take (i := 8) (v := ?_) (gatL (gatS (gatS (gatS (gatS (gatS (gatS (gatS (gatS gatZ))))))))) (by kernel_rfl) (by kernel_rfl) (by kernel_rfl) (fun _ _ _ h => h) (Or.inl ⟨by rfl, ?_⟩) (by assumption) ?_
            rotate_left
            · intro w hSw
              try dsimp only at hSw
              go_simp
              all_goals with_reducible rfl
            try simp only [Act.put, List.setIfInBounds_toArray, List.set_cons_zero, List.set_cons_succ]
            refine wpAnyH_take (i := 9) (v := ?_) (gatL (gatS (gatS (gatS (gatS (gatS (gatS (gatS (gatS (gatS gatZ)))))))))) (by kernel_rfl) (by kernel_rfl) (by kernel_rfl) (fun _ _ _ h => h) (Or.inl ⟨by rfl, ?_⟩) (by assumption) ?_
            rotate_left
            · intro w hSw
              try dsimp only at hSw
              go_simp
              all_goals with_reducible rfl
            try simp only [Act.put, List.setIfInBounds_toArray, List.set_cons_zero, List.set_cons_succ]
            refine wpAnyH_take (i := 10) (v := ?_) (gatL (gatS (gatS (gatS (gatS (gatS (gatS (gatS (gatS (gatS (gatS gatZ))))))))))) (by kernel_rfl) (by kernel_rfl) (by kernel_rfl) (fun _ _ _ h => h) (Or.inl ⟨by rfl, ?_⟩) (by assumption) ?_
            rotate_left
            · intro w hSw
              try dsimp only at hSw
              go_simp
              all_goals with_reducible rfl
            try simp only [Act.put, List.setIfInBounds_toArray, List.set_cons_zero, List.set_cons_succ]
            refine wpAnyH_take (i := 11) (v := ?_) (gatL (gatS (gatS (gatS (gatS (gatS (gatS (gatS (gatS (gatS (gatS (gatS gatZ)))))))))))) (by kernel_rfl) (by kernel_rfl) (by kernel_rfl) (fun _ _ _ h => h) (Or.inl ⟨by rfl, ?_⟩) (by assumption) ?_
            rotate_left
            · intro w hSw
              try dsimp only at hSw
              go_simp
              all_goals with_reducible rfl
            try simp only [Act.put, List.setIfInBounds_toArray, List.set_cons_zero, List.set_cons_succ]
            refine wpAnyH_take (i := 12) (v := ?_) (gatL (gatS (gatS (gatS (gatS (gatS (gatS (gatS (gatS (gatS (gatS (gatS (gatS gatZ))))))))))))) (by kernel_rfl) (by kernel_rfl) (by kernel_rfl) (fun _ _ _ h => h) (Or.inl ⟨by rfl, ?_⟩) (by assumption) ?_
            rotate_left
            · intro w hSw
              try dsimp only at hSw
              go_simp
              all_goals with_reducible rfl
            try simp only [Act.put, List.setIfInBounds_toArray, List.set_cons_zero, List.set_cons_succ]
            refine wpAnyH_take (i := 13) (v := ?_) (gatL (gatS (gatS (gatS (gatS (gatS (gatS (gatS (gatS (gatS (gatS (gatS (gatS (gatS gatZ)))))))))))))) (by kernel_rfl) (by kernel_rfl) (by kernel_rfl) (fun _ _ _ h => h) (Or.inl ⟨by rfl, ?_⟩) (by assumption) ?_
            rotate_left
            · intro w hSw
              try dsimp only at hSw
              go_simp
              all_goals with_reducible rfl
            try simp only [Act.put, List.setIfInBounds_toArray, List.set_cons_zero, List.set_cons_succ]
            refine wpAnyH_ready (rs := [14]) (by kernel_rfl) (by simp) ?_
            refine AllReadyH.cons (gatL (gatS (gatS (gatS (gatS (gatS (gatS (gatS (gatS (gatS (gatS (gatS (gatS (gatS (gatS gatZ))))))))))))))) (fun K hK => ?_) AllReadyH.nil
            have zn := Hn3.out.cell j
            rw [tabL_at _ hlt] at zn
            have znf := Hn3.out.frozen j
            have znl := Hn3.out.lt
            go_simp
            have Hf4 : Hid (Blk (((wr.alloc (.cells #[.int .i64 (F : Int), .int .i64 et, .slice sa eq.length sc] 61)).setCell ⟨nb, j, none⟩ (.int .i64 X)).drew) fb 3 (tabL k (fun s => lastE x.es (s : Int) j))) := Lib.hid (Blk.setOther Hf3.out n1 _)
            have Hw4 : Hid (Blk (((wr.alloc (.cells #[.int .i64 (F : Int), .int .i64 et, .slice sa eq.length sc] 61)).setCell ⟨nb, j, none⟩ (.int .i64 X)).drew) wb 129 [.slice (some ⟨b, off, none⟩) M gc, .slice (some ⟨fb, 0, none⟩) k k, .slice (some ⟨nb, 0, none⟩) M M, .int .i64 0, .map (some mb)]) := Lib.hid (Blk.setOther Hw3.out n3 _)
            have HE4 : Hid (Blk (((wr.alloc (.cells #[.int .i64 (F : Int), .int .i64 et, .slice sa eq.length sc] 61)).setCell ⟨nb, j, none⟩ (.int .i64 X)).drew) wr.heap.size 61 [.int .i64 (F : Int), .int .i64 et, .slice sa eq.length sc]) := Lib.hid (Blk.setOther HE3.out hEn.2 _)
            have Ha4 : Hid (Blk (((wr.alloc (.cells #[.int .i64 (F : Int), .int .i64 et, .slice sa eq.length sc] 61)).setCell ⟨nb, j, none⟩ (.int .i64 X)).drew) w.heap.size 32 [.int .i64 (k : Int), .int .i64 x.s, .slice ea x.ends.length ec, .slice (some ⟨b, off, none⟩) M gc]) := Lib.hid (Blk.setOther Ha3.out m2 _)
            have Hm4 : Hid (MapI (((wr.alloc (.cells #[.int .i64 (F : Int), .int .i64 et, .slice sa eq.length sc] 61)).setCell ⟨nb, j, none⟩ (.int .i64 X)).drew) mb 0 (fun _ => 0)) := Lib.hid (Hm3.out.kept (row := some nb) (grownBy_set _ nb j _) (by intro e; cases e; exact n5 rfl)).drew
            have Hb4 : Hid (Below w.heap.size w (((wr.alloc (.cells #[.int .i64 (F : Int), .int .i64 et, .slice sa eq.length sc] 61)).setCell ⟨nb, j, none⟩ (.int .i64 X)).drew)) := Lib.hid ((Hb3.out.setCell (p := ⟨nb, j, none⟩) hfz.2.1 _).drew)
            have hn4 := Hn3.out.set j (.int .i64 X)
            rw [tabL_set] at hn4
            have Hn4 : Hid (Blk (((wr.alloc (.cells #[.int .i64 (F : Int), .int .i64 et, .slice sa eq.length sc] 61)).setCell ⟨nb, j, none⟩ (.int .i64 X)).drew) nb 3 (tabL M (fun i => if i < j + 1 then nextE x.es i else 0))) := Lib.hid ((congrArg (Blk _ nb 3) (tab_next (HX.out.trans hX.out))).mp hn4)
            clear hn4 zn znf znl
            refine hK.out _ _ ?_ (fun hHeld => ?_)
            · exact HSt.out _ Hf4.out Hw4.out HE4.out
            clear hK K
            try simp only [Act.put, List.setIfInBounds_toArray, List.set_cons_zero, List.set_cons_succ]
            refine wpAnyH_done (by kernel_rfl) ?_ _
            clear HSt Hf3 Hw3 Hn3 HE3 Ha3 Hm3 Hb3
            go_wp2_with (fail)
            generalize ((wr.alloc (.cells #[.int .i64 (F : Int), .int .i64 et, .slice sa eq.length sc] 61)).setCell ⟨nb, j, none⟩ (.int .i64 X)).drew = W4 at Hf4 Hw4 Hn4 HE4 Ha4 Hm4 Hb4 ⊢
            have HSt : Hid (∀ W, Blk W wb 129 [.slice (some ⟨b, off, none⟩) M gc, .slice (some ⟨fb, 0, none⟩) k k, .slice (some ⟨nb, 0, none⟩) M M, .int .i64 0, .map (some mb)] → Blk W wr.heap.size 61 [.int .i64 (F : Int), .int .i64 et, .slice sa eq.length sc] → (W.cell? ⟨wb, 1, none⟩ = some (.slice (some ⟨fb, 0, none⟩) k k) ∧ W.cell? ⟨wr.heap.size, 0, none⟩ = some (.int .i64 (F : Int)))) := Lib.hid (fun W h2 h3 => ⟨by simpa using h2.cell 1, by simpa using h3.cell 0⟩)
            refine wp_region_held_drew (S := fun w' => (w'.cell? ⟨wb, 1, none⟩ = some (.slice (some ⟨fb, 0, none⟩) k k) ∧ w'.cell? ⟨wr.heap.size, 0, none⟩ = some (.int .i64 (F : Int)))) (by kernel_rfl) ?_ (fun hHeld => ?_)
            · exact HSt.out _ Hw4.out HE4.out
            refine wpAnyH_take (i := 0) (v := ?_) (gatL gatZ) (by kernel_rfl) (by kernel_rfl) (by kernel_rfl) (fun _ _ _ h => h) (Or.inl ⟨by rfl, ?_⟩) (by assumption) ?_
            rotate_left
            · intro w hSw
              try dsimp only at hSw
              go_simp
              all_goals with_reducible rfl
            try simp only [Act.put, List.setIfInBounds_toArray, List.set_cons_zero, List.set_cons_succ]
            refine wpAnyH_take (i := 1) (v := ?_) (gatL (gatS gatZ)) (by kernel_rfl) (by kernel_rfl) (by kernel_rfl) (fun _ _ _ h => h) (Or.inl ⟨by rfl, ?_⟩) (by assumption) ?_
            rotate_left
            · intro w hSw
              try dsimp only at hSw
              go_simp
              all_goals with_reducible rfl
            try simp only [Act.put, List.setIfInBounds_toArray, List.set_cons_zero, List.set_cons_succ]
            refine wpAnyH_take (i := 2) (v := ?_) (gatL (gatS (gatS gatZ))) (by kernel_rfl) (by kernel_rfl) (by kernel_rfl) (fun _ _ _ h => h) (Or.inl ⟨by rfl, ?_⟩) (by assumption) ?_
            rotate_left
            · intro w hSw
              try dsimp only at hSw
              go_simp
              all_goals with_reducible rfl
            try simp only [Act.put, List.setIfInBounds_toArray, List.set_cons_zero, List.set_cons_succ]
            refine wpAnyH_take (i := 3) (v := ?_) (gatL (gatS (gatS (gatS gatZ)))) (by kernel_rfl) (by kernel_rfl) (by kernel_rfl) (fun _ _ _ h => h) (Or.inl ⟨by rfl, ?_⟩) (by assumption) ?_
            rotate_left
            · intro w hSw
              try dsimp only at hSw
              go_simp
              all_goals with_reducible rfl
            try simp only [Act.put, List.setIfInBounds_toArray, List.set_cons_zero, List.set_cons_succ]
            refine wpAnyH_take (i := 4) (v := ?_) (gatL (gatS (gatS (gatS (gatS gatZ))))) (by kernel_rfl) (by kernel_rfl) (by kernel_rfl) (fun _ _ _ h => h) (Or.inl ⟨by rfl, ?_⟩) (by assumption) ?_
            rotate_left
            · intro w hSw
              try dsimp only at hSw
              go_simp
              all_goals with_reducible rfl
            try simp only [Act.put, List.setIfInBounds_toArray, List.set_cons_zero, List.set_cons_succ]
            refine wpAnyH_take (i := 5) (v := ?_) (gatL (gatS (gatS (gatS (gatS (gatS gatZ)))))) (by kernel_rfl) (by kernel_rfl) (by kernel_rfl) (fun _ _ _ h => h) (Or.inl ⟨by rfl, ?_⟩) (by assumption) ?_
            rotate_left
            · intro w hSw
              try dsimp only at hSw
              go_simp
              all_goals with_reducible rfl
            try simp only [Act.put, List.setIfInBounds_toArray, List.set_cons_zero, List.set_cons_succ]
            refine wpAnyH_take (i := 6) (v := ?_) (gatL (gatS (gatS (gatS (gatS (gatS (gatS gatZ))))))) (by kernel_rfl) (by kernel_rfl) (by kernel_rfl) (fun _ _ _ h => h) (Or.inl ⟨by rfl, ?_⟩) (by assumption) ?_
            rotate_left
            · intro w hSw
              try dsimp only at hSw
              go_simp
              all_goals with_reducible rfl
            try simp only [Act.put, List.setIfInBounds_toArray, List.set_cons_zero, List.set_cons_succ]
            refine wpAnyH_take (i := 7) (v := ?_) (gatL (gatS (gatS (gatS (gatS (gatS (gatS (gatS gatZ)))))))) (by kernel_rfl) (by kernel_rfl) (by kernel_rfl) (fun _ _ _ h => h) (Or.inl ⟨by rfl, ?_⟩) (by assumption) ?_
            rotate_left
            · intro w hSw
              try dsimp only at hSw
              go_simp
              all_goals with_reducible rfl
            try simp only [Act.put, List.setIfInBounds_toArray, List.set_cons_zero, List.set_cons_succ]
            refine wpAnyH_ready (rs := [8]) (by kernel_rfl) (by simp) ?_
            refine AllReadyH.cons (gatL (gatS (gatS (gatS (gatS (gatS (gatS (gatS (gatS gatZ))))))))) (fun K hK => ?_) AllReadyH.nil
            have zn := Hf4.out.cell F
            rw [tabL_at _ hFk] at zn
            have znf := Hf4.out.frozen F
            have znl := Hf4.out.lt
            go_simp
            have Hw5 : Hid (Blk ((W4.setCell ⟨fb, F, none⟩ (.int .i64 (j : Int))).drew) wb 129 [.slice (some ⟨b, off, none⟩) M gc, .slice (some ⟨fb, 0, none⟩) k k, .slice (some ⟨nb, 0, none⟩) M M, .int .i64 0, .map (some mb)]) := Lib.hid (Blk.setOther Hw4.out n2 _)
            have Hn5 : Hid (Blk ((W4.setCell ⟨fb, F, none⟩ (.int .i64 (j : Int))).drew) nb 3 (tabL M (fun i => if i < j + 1 then nextE x.es i else 0))) := Lib.hid (Blk.setOther Hn4.out (fun e => n1 e.symm) _)
            have HE5 : Hid (Blk ((W4.setCell ⟨fb, F, none⟩ (.int .i64 (j : Int))).drew) wr.heap.size 61 [.int .i64 (F : Int), .int .i64 et, .slice sa eq.length sc]) := Lib.hid (Blk.setOther HE4.out hEn.1 _)
            have Ha5 : Hid (Blk ((W4.setCell ⟨fb, F, none⟩ (.int .i64 (j : Int))).drew) w.heap.size 32 [.int .i64 (k : Int), .int .i64 x.s, .slice ea x.ends.length ec, .slice (some ⟨b, off, none⟩) M gc]) := Lib.hid (Blk.setOther Ha4.out m1 _)
            have Hm5 : Hid (MapI ((W4.setCell ⟨fb, F, none⟩ (.int .i64 (j : Int))).drew) mb 0 (fun _ => 0)) := Lib.hid (Hm4.out.kept (row := some fb) (grownBy_set _ fb F _) (by intro e; cases e; exact n4 rfl)).drew
            have Hb5 : Hid (Below w.heap.size w ((W4.setCell ⟨fb, F, none⟩ (.int .i64 (j : Int))).drew)) := Lib.hid ((Hb4.out.setCell (p := ⟨fb, F, none⟩) hfz.1 _).drew)
            have hf5 := Hf4.out.set F (.int .i64 (j : Int))
            rw [tabL_set] at hf5
            have Hf5 : Hid (Blk ((W4.setCell ⟨fb, F, none⟩ (.int .i64 (j : Int))).drew) fb 3 (tabL k (fun s => lastE x.es (s : Int) (j + 1)))) := Lib.hid ((congrArg (Blk _ fb 3) (tab_first (by rw [he.out]))).mp hf5)
            clear hf5 zn znf znl
            refine hK.out _ _ ?_ (fun hHeld => ?_)
            · exact HSt.out _ Hw5.out HE5.out
            clear hK K
            try simp only [Act.put, List.setIfInBounds_toArray, List.set_cons_zero, List.set_cons_succ]
            refine wpAnyH_done (by kernel_rfl) ?_ _
            go_wp2_with (fail)
            exact ⟨⟨j + 1, by omega, by simp, Hf5.out, Hw5.out, Hn5.out, Hm5.out, Ha5.out, Hb5.out⟩, by simp [intOf]; omega⟩
          · obtain rfl : j = M := by omega
            have hjI : ¬ (j : Int) < (j : Int) := by omega
            have Hf4 := Lib.hid hf3
            have Hw4 := Lib.hid hw3
            have Hn4 := Lib.hid hn3
            have Hm4 := Lib.hid hm3
            have Hb4 := Lib.hid hb3
            clear hf3 hw3 hn3 hm3 hb3
            go_wp2_with (fail)
            exact bodyPost_ret (v := .pointer (some ⟨wb, 0, none⟩)) (by simp [results, Try.results76, go_sem]) rfl ⟨wb, rfl, ⟨fb, nb, mb⟩, by rw [HNn.out, hM.out]; exact Hw4.out, by rw [HNn.out, hM.out]; exact Hf4.out, by rw [hM.out]; exact (congrArg (Blk _ nb 3) (tabL_congr (fun s hs => by rw [if_pos hs]))).mp Hn4.out, Hm4.out, HES.out, Hb4.out, hfz.2.2.1, hfz.1, hfz.2.1, hfz.2.2.2⟩
end Go.Proofs.Ytngbfjimmdkfeaa

