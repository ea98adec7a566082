/- Texts joined: Dt Du Dv Dw Dx Dy Dz Ea Eb Ec. -/
import Derived.Test.YtngbfjimmdkfeaaPBD9
import Derived.Test.YtngbfjimmdkfeaaPBZ3
set_option linter.unusedVariables false
set_option linter.unusedSimpArgs false
namespace Go.Proofs.Ytngbfjimmdkfeaa
open Go.RowKit Go.Shelf Go.Maps

/-- All edges' spans. -/
def spN (es : List Eg) : Nat := (es.map (fun e => e.q.length)).sum
theorem ldP_cons (e : Eg) (es : List Eg) (s : Nat) : (ldP (e :: es) s).length = (if e.f = (s : Int) then e.q.length else 0) + (ldP es s).length := by
  unfold ldP
  rw [List.flatMap_cons, List.length_append]
  split <;> simp
theorem ldP_bound (s : Nat) : ∀ es : List Eg, (ldP es s).length ≤ spN es
  | [] => Nat.le_refl _
  | e :: es => by
    have := ldP_bound s es
    rw [ldP_cons]
    unfold spN at this ⊢
    rw [List.map_cons, List.sum_cons]
    split <;> omega
theorem sum_if (f : Int) (q : Nat) : ∀ i : Nat, ((List.range i).map (fun s : Nat => if f = (s : Int) then q else 0)).sum ≤ if 0 ≤ f ∧ f < (i : Int) then q else 0
  | 0 => Nat.zero_le _
  | i + 1 => by
    have := sum_if f q i
    rw [List.range_succ, List.map_append, List.sum_append]
    simp only [List.map_cons, List.map_nil, List.sum_cons, List.sum_nil, Nat.add_zero]
    by_cases h : f = (i : Int)
    · rw [if_neg (by omega)] at this
      rw [if_pos h, if_pos (by omega)]
      omega
    · rw [if_neg h]
      by_cases h2 : 0 ≤ f ∧ f < (i : Int)
      · rw [if_pos h2] at this
        rw [if_pos (by omega)]
        omega
      · rw [if_neg h2] at this
        omega
theorem sum_add (f g : Nat → Nat) : ∀ l : List Nat, (l.map (fun s => f s + g s)).sum = (l.map f).sum + (l.map g).sum
  | [] => rfl
  | x :: l => by
    simp only [List.map_cons, List.sum_cons]
    rw [sum_add f g l]
    omega
theorem sum_ldP (i : Nat) : ∀ es : List Eg, ((List.range i).map (fun s => (ldP es s).length)).sum ≤ spN es
  | [] => by
    have : (fun s => (ldP [] s).length) = fun _ => 0 := funext (fun s => rfl)
    rw [this]
    have h : ∀ l : List Nat, (l.map (fun _ => 0)).sum = 0 := fun l => by
      induction l with
      | nil => rfl
      | cons x l ih => rw [List.map_cons, List.sum_cons, ih]
    rw [h]
    exact Nat.zero_le _
  | e :: es => by
    have h1 := sum_ldP i es
    have h2 := sum_if e.f e.q.length i
    have h3 : (fun s => (ldP (e :: es) s).length) = fun s : Nat => (if e.f = (s : Int) then e.q.length else 0) + (ldP es s).length := funext (fun s => ldP_cons e es s)
    rw [h3, sum_add]
    unfold spN at h1 ⊢
    rw [List.map_cons, List.sum_cons]
    have h4 : (if 0 ≤ e.f ∧ e.f < (i : Int) then e.q.length else 0) ≤ e.q.length := by split <;> omega
    omega
theorem flat_le (f g : Nat → List Mv) (h : ∀ s, (f s).length ≤ (g s).length) : ∀ l : List Nat, (l.flatMap f).length ≤ (l.map (fun s => (g s).length)).sum
  | [] => Nat.le_refl _
  | x :: l => by
    have h1 := flat_le f g h l
    have h2 := h x
    rw [List.flatMap_cons, List.length_append, List.map_cons, List.sum_cons]
    omega
theorem allM_bound {es : List Eg} {n : Nat} (lds : List MvD) (f : WSet) (i : Nat) (hl : lds.length = n) (hd : ∀ s, s < n → (lds.getD s ⟨[], none, 0⟩).l = ldP es s) : (allM lds f i).length ≤ spN es := by
  refine Nat.le_trans (flat_le _ (ldP es) (fun s => ?_) (List.range i)) (sum_ldP i es)
  split
  · by_cases h : s < n
    · rw [hd s h]
      exact Nat.le_refl _
    · rw [List.getD_eq_getElem?_getD, List.getElem?_eq_none (by omega)]
      exact Nat.zero_le _
  · exact Nat.zero_le _
/-- Build, with one bound. -/
theorem dBuild_is (w : World) (x : Nf) (p : NfL) (n : Nat) (hn : x.n = (n : Int)) (hx : NfAt w x p) (hM : x.es.length ≤ 500000) (hq : spN x.es ≤ 1000000) :
    Calls Try.prog 15 #[.agg #[.int .i64 x.n, .int .i64 x.s, .slice p.ea x.ends.length p.ec, .slice p.ga x.es.length p.gc]] w fun e w' => PostD w w' x n e :=
  dBuild_any w x p n hn hx hM (fun s => Nat.le_trans (ldP_bound s _) hq) (fun lds f i h1 h2 => Nat.le_trans (allM_bound lds f i h1 h2) hq)
end Go.Proofs.Ytngbfjimmdkfeaa

namespace Go.Proofs.Ytngbfjimmdkfeaa
open Go.RowKit Go.Shelf Go.Maps

theorem goM_none {c : Nat} : ∀ {l : List Mv}, (∀ m ∈ l, m.hi < c) → goM l c = -1
  | [], _ => rfl
  | m :: l, h => by
    have := h m List.mem_cons_self
    rw [goM, if_neg (by omega)]
    exact goM_none (fun m hm => h m (List.mem_cons_of_mem _ hm))
theorem goM_app (r : List Mv) (d : Nat) : ∀ l : List Mv, (∃ m ∈ l, m.lo ≤ d ∧ d ≤ m.hi) → goM (l ++ r) d = goM l d
  | [], h => by
    obtain ⟨m, hm, _⟩ := h
    cases hm
  | m :: l, h => by
    rw [List.cons_append, goM, goM]
    by_cases h1 : m.lo ≤ d ∧ d ≤ m.hi
    · rw [if_pos h1, if_pos h1]
    · rw [if_neg h1, if_neg h1]
      refine goM_app r d l ?_
      obtain ⟨y, hy, h2⟩ := h
      rcases List.mem_cons.1 hy with rfl | hy
      · exact absurd h2 h1
      · exact ⟨y, hy, h2⟩
theorem goM_app2 (r : List Mv) (d : Nat) : ∀ l : List Mv, (¬ ∃ m ∈ l, m.lo ≤ d ∧ d ≤ m.hi) → goM (l ++ r) d = goM r d
  | [], _ => rfl
  | m :: l, h => by
    rw [List.cons_append, goM, if_neg (fun h1 => h ⟨m, List.mem_cons_self, h1⟩)]
    exact goM_app2 r d l (fun ⟨y, hy, h2⟩ => h ⟨y, List.mem_cons_of_mem _ hy, h2⟩)
/-- A byte's move behind others leads where it should, and the others as they did. -/
theorem goM_push {l : List Mv} {c : Nat} {t : Int} (h : ∀ m ∈ l, m.lo ≤ m.hi ∧ m.hi < c) : goM (pushM l c t) c = t ∧ (∀ d, d < c → goM (pushM l c t) d = goM l d) ∧ ∀ m ∈ pushM l c t, m.lo ≤ m.hi ∧ m.hi < c + 1 := by
  by_cases ht : t = -1
  · subst ht
    rw [push_none]
    exact ⟨goM_none (fun m hm => (h m hm).2), fun _ _ => rfl, fun m hm => by have := h m hm; omega⟩
  · rcases List.eq_nil_or_concat l with rfl | ⟨l0, y, rfl⟩
    · rw [push_nil c ht]
      refine ⟨by rw [goM, if_pos ⟨Nat.le_refl _, Nat.le_refl _⟩], fun d hd => ?_, fun m hm => ?_⟩
      · simp only [goM]
        rw [if_neg (by omega)]
      · rw [List.mem_singleton] at hm
        subst hm
        exact ⟨Nat.le_refl _, Nat.lt_succ_self _⟩
    · rw [List.concat_eq_append] at h ⊢
      have hy := h y (by simp)
      have h0 : ∀ m ∈ l0, m.lo ≤ m.hi ∧ m.hi < c := fun m hm => h m (List.mem_append_left _ hm)
      by_cases h2 : y.to = t ∧ y.hi + 1 = c
      · rw [push_more l0 y ht h2]
        refine ⟨?_, fun d hd => ?_, fun m hm => ?_⟩
        · rw [goM_app2 _ _ _ (fun ⟨m, hm, h3⟩ => by have := h0 m hm; omega), goM]
          dsimp only
          rw [if_pos (by omega)]
        · by_cases h3 : ∃ m ∈ l0, m.lo ≤ d ∧ d ≤ m.hi
          · rw [goM_app _ _ _ h3, goM_app _ _ _ h3]
          · rw [goM_app2 _ _ _ h3, goM_app2 _ _ _ h3]
            have hb := h2.2
            have ht2 := h2.1
            by_cases h4 : y.lo ≤ d
            · simp only [goM]
              rw [if_pos (by omega), if_pos (by omega), ht2]
            · simp only [goM]
              rw [if_neg (by omega), if_neg (by omega)]
        · rcases List.mem_append.1 hm with h3 | h3
          · have := h0 m h3; omega
          · rw [List.mem_singleton] at h3
            subst h3
            dsimp only
            omega
      · rw [push_new l0 y ht h2]
        refine ⟨?_, fun d hd => ?_, fun m hm => ?_⟩
        · rw [goM_app2 _ _ _ (fun ⟨m, hm, h3⟩ => by have := h m hm; omega), goM]
          dsimp only
          rw [if_pos (by omega)]
        · by_cases h3 : ∃ m ∈ l0 ++ [y], m.lo ≤ d ∧ d ≤ m.hi
          · rw [goM_app _ _ _ h3]
          · have h5 : goM (l0 ++ [y]) d = goM [] d := by
              have := goM_app2 [] d (l0 ++ [y]) h3
              rw [List.append_nil] at this
              exact this
            rw [goM_app2 _ _ _ h3, h5]
            simp only [goM]
            rw [if_neg (by omega)]
        · rcases List.mem_append.1 hm with h3 | h3
          · have := h m h3; omega
          · rw [List.mem_singleton] at h3
            subst h3
            exact ⟨Nat.le_refl _, Nat.lt_succ_self _⟩
end Go.Proofs.Ytngbfjimmdkfeaa

namespace Go.Proofs.Ytngbfjimmdkfeaa
open Go.RowKit Go.Shelf Go.Maps

theorem eqW_has {f g : WSet} : eqW f g ↔ ∀ c, c < 2048 → hasW f c = hasW g c := by
  constructor
  · intro h c hc
    unfold hasW
    rw [h (c / 64) (by omega)]
  · intro h i hi
    refine BitVec.eq_of_getLsbD_eq (fun j hj => ?_)
    have := h (i * 64 + j) (by omega)
    unfold hasW at this
    rw [show (i * 64 + j) / 64 = i by omega, show (i * 64 + j) % 64 = j by omega] at this
    exact this
theorem msk_zero {f : WSet} {S : Nat → Prop} (h : Msk f S) : eqW f zeroW ↔ ∀ c, c < 2048 → ¬ S c := by
  rw [eqW_has]
  constructor
  · intro h1 c hc hs
    have := (h c hc).2 hs
    rw [h1 c hc] at this
    simp [hasW, zeroW] at this
  · intro h1 c hc
    have : hasW f c = false := by
      rcases hb : hasW f c with _ | _
      · rfl
      · exact absurd ((h c hc).1 hb) (h1 c hc)
    rw [this]
    simp [hasW, zeroW]
/-- What is behind a set by a byte, through these moves. -/
def bhS (y : Nf) (P : List Mv) (c : Nat) : Nat → Prop := fun s => ∃ m ∈ P, m.lo ≤ c ∧ c ≤ m.hi ∧ Rn y (fun a => (a : Int) = m.to) s
/-- Between cuts nothing turns. -/
theorem bhS_same {y : Nf} {cu : Nat → Bool} {P : List Mv} {c : Nat} (hc : CutI cu P) (h : cu (c + 1) = false) (hlt : c + 1 < 257) : ∀ s, bhS y P c s ↔ bhS y P (c + 1) s := fun s => by
  have hn : ¬ ∃ m ∈ P, c + 1 = m.lo ∨ c + 1 = m.hi + 1 := fun hx => by
    rw [(hc (c + 1) hlt).2 hx] at h
    cases h
  constructor
  · rintro ⟨m, hm, h1, h2, h3⟩
    refine ⟨m, hm, by omega, ?_, h3⟩
    rcases Nat.lt_or_ge c m.hi with h4 | h4
    · exact h4
    · exact absurd ⟨m, hm, .inr (by omega)⟩ hn
  · rintro ⟨m, hm, h1, h2, h3⟩
    refine ⟨m, hm, ?_, by omega, h3⟩
    rcases Nat.lt_or_ge c m.lo with h4 | h4
    · exact absurd ⟨m, hm, .inl (by omega)⟩ hn
    · exact h4
end Go.Proofs.Ytngbfjimmdkfeaa

namespace Go.Proofs.Ytngbfjimmdkfeaa
open Go.RowKit Go.Shelf Go.Maps

end Go.Proofs.Ytngbfjimmdkfeaa

namespace Go.Proofs.Ytngbfjimmdkfeaa
open Go.RowKit Go.Shelf Go.Maps

theorem rn_none {x y : Nf} (he : y.es = x.es.filter (fun e => e.q.isEmpty)) {S : Nat → Prop} {a : Nat} : Rn y S a ↔ Rn x S a := by
  have hst : ∀ a b, nstep y a b ↔ nstep x a b := fun a b => by
    unfold nstep
    rw [he]
    constructor
    · rintro ⟨e, h1, h2⟩
      exact ⟨e, (List.mem_filter.1 h1).1, h2⟩
    · rintro ⟨e, h1, h2, h3⟩
      exact ⟨e, List.mem_filter.2 ⟨h1, by simp [h2]⟩, h2, h3⟩
  constructor
  · intro h
    exact Rn.closed (C := fun a => Rn x S a) (fun a h => .base h) (fun a b h k => .step h ((hst a b).1 k)) h
  · intro h
    exact Rn.closed (C := fun a => Rn y S a) (fun a h => .base h) (fun a b h k => .step h ((hst a b).2 k)) h
theorem bhS_is {x y : Nf} {n : Nat} {lds : List MvD} {f : WSet} {c : Nat} (he : y.es = x.es.filter (fun e => e.q.isEmpty)) (hd : ∀ s, s < n → (lds.getD s ⟨[], none, 0⟩).l = ldP x.es s) (t : Nat) :
    bhS y (allM lds f n) c t ↔ ∃ s, s < n ∧ hasW f s = true ∧ ∃ e ∈ x.es, e.f = (s : Int) ∧ (∃ p ∈ e.q, p.lo.toNat ≤ c ∧ c ≤ p.hi.toNat) ∧ Rn x (fun a => (a : Int) = e.t) t := by
  unfold bhS
  constructor
  · rintro ⟨m, hm, h1, h2, h3⟩
    obtain ⟨s, hs, hm⟩ := List.mem_flatMap.1 hm
    have hs := List.mem_range.1 hs
    split at hm
    · rename_i hh
      rw [hd s hs] at hm
      obtain ⟨e, hee, hm⟩ := List.mem_flatMap.1 hm
      split at hm
      · rename_i hf
        obtain ⟨p, hp, rfl⟩ := List.mem_map.1 hm
        exact ⟨s, hs, hh, e, hee, hf, ⟨p, hp, h1, h2⟩, (rn_none he).1 h3⟩
      · cases hm
    · cases hm
  · rintro ⟨s, hs, hh, e, hee, hf, ⟨p, hp, h1, h2⟩, h3⟩
    refine ⟨⟨p.lo.toNat, p.hi.toNat, e.t⟩, List.mem_flatMap.2 ⟨s, List.mem_range.2 hs, ?_⟩, h1, h2, (rn_none he).2 h3⟩
    rw [if_pos hh, hd s hs]
    refine List.mem_flatMap.2 ⟨e, hee, ?_⟩
    rw [if_pos hf]
    exact List.mem_map.2 ⟨p, hp, rfl⟩
end Go.Proofs.Ytngbfjimmdkfeaa

namespace Go.Proofs.Ytngbfjimmdkfeaa
open Go.RowKit Go.Shelf Go.Maps

theorem inSp_iff {q : List Sp} {c : Nat} : inSp q c = true ↔ ∃ p ∈ q, p.lo.toNat ≤ c ∧ c ≤ p.hi.toNat := by
  unfold inSp
  simp
theorem step_same {x y : Nf} {n : Nat} {lds : List MvD} {f : WSet} {S : Nat → Prop} {c : Nat} (he : y.es = x.es.filter (fun e => e.q.isEmpty)) (hd : ∀ s, s < n → (lds.getD s ⟨[], none, 0⟩).l = ldP x.es s) (hn : n ≤ 2000) (hf : Msk f S) (hS : ∀ a, S a → a < n) (ht : ∀ e ∈ x.es, ∃ b : Nat, e.t = (b : Int)) (t : Nat) :
    bhS y (allM lds f n) c t ↔ Rn x (fun b => ∃ a, S a ∧ bstep x c a b) t := by
  rw [bhS_is he hd]
  constructor
  · rintro ⟨s, hs, hh, e, hee, hef, hp, hr⟩
    refine rn_mono (fun b hb => ⟨s, (hf s (by omega)).1 hh, e, hee, inSp_iff.2 hp, hef, hb.symm⟩) hr
  · intro h
    refine Rn.closed (C := fun t => ∃ s, s < n ∧ hasW f s = true ∧ ∃ e ∈ x.es, e.f = (s : Int) ∧ (∃ p ∈ e.q, p.lo.toNat ≤ c ∧ c ≤ p.hi.toNat) ∧ Rn x (fun a => (a : Int) = e.t) t) ?_ ?_ h
    · rintro b ⟨a, ha, e, hee, h1, h2, h3⟩
      have han := hS a ha
      exact ⟨a, han, (hf a (by omega)).2 ha, e, hee, h2, inSp_iff.1 h1, .base h3.symm⟩
    · rintro a b ⟨s, hs, hh, e, hee, h1, h2, h3⟩ hk
      exact ⟨s, hs, hh, e, hee, h1, h2, .step h3 hk⟩
end Go.Proofs.Ytngbfjimmdkfeaa

namespace Go.Proofs.Ytngbfjimmdkfeaa
open Go.RowKit Go.Shelf Go.Maps

end Go.Proofs.Ytngbfjimmdkfeaa

namespace Go.Proofs.Ytngbfjimmdkfeaa
open Go.RowKit Go.Shelf Go.Maps

/-- A set's members, rising. -/
def cnW (f : WSet) : List Nat := (List.range 2048).filter (hasW f)
theorem cn_mem {f : WSet} {c : Nat} : c ∈ cnW f ↔ c < 2048 ∧ hasW f c = true := by
  unfold cnW
  rw [List.mem_filter, List.mem_range]
theorem cn_rising (f : WSet) : Rising (cnW f) := List.Pairwise.filter _ (range_rising _)
theorem cn_eq {f g : WSet} : cnW f = cnW g ↔ eqW f g := by
  rw [eqW_has]
  constructor
  · intro h c hc
    rw [Bool.eq_iff_iff]
    have h1 := cn_mem (f := f) (c := c)
    have h2 := cn_mem (f := g) (c := c)
    rw [h, h2] at h1
    constructor
    · exact fun h3 => (h1.2 ⟨hc, h3⟩).2
    · exact fun h3 => (h1.1 ⟨hc, h3⟩).2
  · intro h
    refine rising_eq (cn_rising f) (cn_rising g) (fun v => ?_)
    rw [cn_mem, cn_mem]
    constructor
    · rintro ⟨h1, h2⟩
      exact ⟨h1, by rw [← h v h1]; exact h2⟩
    · rintro ⟨h1, h2⟩
      exact ⟨h1, by rw [h v h1]; exact h2⟩
theorem cn_zero : cnW zeroW = [] := List.filter_eq_nil_iff.2 (fun c _ => by simp [hasW, zeroW])
theorem cn_nil {f : WSet} : cnW f = [] ↔ eqW f zeroW := by
  rw [← cn_zero, cn_eq]
/-- A mask of so many is this rising list. -/
theorem cn_is {f : WSet} {S : Nat → Prop} {l : List Nat} (hm : Msk f S) (hl : Rising l) (h : ∀ v, v ∈ l ↔ v < 2048 ∧ S v) : cnW f = l :=
  rising_eq (cn_rising f) hl (fun v => by
    rw [cn_mem, h v]
    exact ⟨fun ⟨h1, h2⟩ => ⟨h1, (hm v h1).1 h2⟩, fun ⟨h1, h2⟩ => ⟨h1, (hm v h1).2 h2⟩⟩)
/-- Where a list stands among some. -/
def idxA (all : List (List Nat)) (s : List Nat) : Option Nat := all.findIdx? (fun g => decide (g = s))
def toA (all : List (List Nat)) (s : List Nat) : Int := if s = [] then -1 else match idxA all s with | some i => (i : Int) | none => (all.length : Int)
def addA (all : List (List Nat)) (s : List Nat) : List (List Nat) := if s = [] then all else match idxA all s with | some _ => all | none => all ++ [s]
theorem idx_cn (f : WSet) (all : List WSet) : idxA (all.map cnW) (cnW f) = idxW all f := by
  unfold idxA idxW
  rw [List.findIdx?_map]
  have h : ((fun g => decide (g = cnW f)) ∘ cnW) = fun g => decide (eqW g f) := by
    funext g
    rw [Function.comp_apply, Bool.eq_iff_iff, decide_eq_true_iff, decide_eq_true_iff]
    exact cn_eq
  rw [h]
theorem fidx_cn (f : WSet) (all : List WSet) : fidx all f = toA (all.map cnW) (cnW f) := by
  unfold fidx toA
  rw [idx_cn, List.length_map]
  by_cases h : eqW f zeroW
  · rw [if_pos h, if_pos (cn_nil.2 h)]
  · rw [if_neg h, if_neg (fun h2 => h (cn_nil.1 h2))]
    rcases idxW all f with _ | i <;> rfl
theorem fall_cn (f : WSet) (all : List WSet) : (fall all f).map cnW = addA (all.map cnW) (cnW f) := by
  unfold fall addA
  rw [idx_cn]
  by_cases h : eqW f zeroW
  · rw [if_pos h, if_pos (cn_nil.2 h)]
  · rw [if_neg h, if_neg (fun h2 => h (cn_nil.1 h2))]
    rcases idxW all f with _ | i
    · simp
    · rfl
/-- A number stands for a list among some. -/
def Fnd (all : List (List Nat)) (s : List Nat) (t : Int) : Prop := (s = [] ∧ t = -1) ∨ (s ≠ [] ∧ ∃ i : Nat, idxA all s = some i ∧ t = (i : Int))
theorem fnd_same {all : List (List Nat)} {s : List Nat} {t : Int} (h : Fnd all s t) : addA all s = all ∧ toA all s = t := by
  rcases h with ⟨rfl, rfl⟩ | ⟨h, i, h1, rfl⟩
  · exact ⟨by simp [addA], by simp [toA]⟩
  · exact ⟨by simp [addA, h, h1], by simp [toA, h, h1]⟩
theorem fnd_add (all : List (List Nat)) (s : List Nat) : Fnd (addA all s) s (toA all s) := by
  by_cases h : s = []
  · exact .inl ⟨h, by simp [toA, h]⟩
  · refine .inr ⟨h, ?_⟩
    rcases hi : idxA all s with _ | i
    · refine ⟨all.length, ?_, by simp [toA, h, hi]⟩
      simp only [addA, h, if_false, hi]
      unfold idxA at hi ⊢
      rw [List.findIdx?_append, hi]
      simp
    · exact ⟨i, by simp [addA, h, hi], by simp [toA, h, hi]⟩
/-- The sets, the moves, and where the bytes lead, up to a byte. -/
def movA (go : Nat → List Nat) (all : List (List Nat)) : Nat → List (List Nat) × List Mv × Int
  | 0 => (all, [], -1)
  | c + 1 => (addA (movA go all c).1 (go c), pushM (movA go all c).2.1 c (toA (movA go all c).1 (go c)), toA (movA go all c).1 (go c))
theorem movP_A {y : Nf} {cu : Nat → Bool} {bh : Nat → WSet} {P : List Mv} {go : Nat → List Nat} (all : List WSet) (hc : CutI cu P) (hb : BhA y cu bh P) (hg : ∀ c, c < 256 → Rising (go c) ∧ ∀ v, v ∈ go c ↔ v < 2048 ∧ bhS y P c v) :
    ∀ k, k ≤ 256 → (movP cu bh all k).1.map cnW = (movA go (all.map cnW) k).1 ∧ (movP cu bh all k).2.1 = (movA go (all.map cnW) k).2.1 ∧ (movP cu bh all k).2.2 = (movA go (all.map cnW) k).2.2 ∧ ∀ c, k = c + 1 → Fnd (movA go (all.map cnW) k).1 (go c) (movA go (all.map cnW) k).2.2
  | 0, _ => ⟨rfl, rfl, rfl, fun c h => by omega⟩
  | k + 1, hk => by
    obtain ⟨h1, h2, h3, h4⟩ := movP_A all hc hb hg k (by omega)
    have hF : Fnd (movA go (all.map cnW) (k + 1)).1 (go k) (movA go (all.map cnW) (k + 1)).2.2 := by
      rw [movA]
      exact fnd_add _ _
    by_cases hu : cu k = true
    · have hgo : cnW (bh k) = go k := cn_is (hb k (by omega) hu) (hg k (by omega)).1 (hg k (by omega)).2
      rw [movP, movA]
      simp only [hu, if_true]
      rw [fidx_cn, fall_cn, h1, h2, hgo]
      exact ⟨rfl, rfl, rfl, fun c e => by
        have e : k = c := by omega
        subst e
        exact fnd_add _ _⟩
    · have hu : cu k = false := by simpa using hu
      have hS : Fnd (movA go (all.map cnW) k).1 (go k) (movA go (all.map cnW) k).2.2 := by
        cases k with
        | zero =>
          refine .inl ⟨?_, rfl⟩
          refine List.eq_nil_iff_forall_not_mem.2 (fun v hv => ?_)
          obtain ⟨_, m, hm, h5, _⟩ := ((hg 0 (by omega)).2 v).1 hv
          rw [(hc 0 (by omega)).2 ⟨m, hm, .inl (by omega)⟩] at hu
          cases hu
        | succ k =>
          have e : go (k + 1) = go k := rising_eq (hg (k + 1) (by omega)).1 (hg k (by omega)).1 (fun v => by
            rw [(hg (k + 1) (by omega)).2 v, (hg k (by omega)).2 v, bhS_same hc hu (by omega) v])
          rw [e]
          exact h4 k rfl
      obtain ⟨g1, g2⟩ := fnd_same hS
      rw [movP, movA]
      simp only [hu, Bool.false_eq_true, if_false]
      rw [g1, g2, h1, h2, h3]
      exact ⟨rfl, rfl, rfl, fun c e => by
        have e : k = c := by omega
        subst e
        exact hS⟩
/-- The least place of an end that a list has. -/
def accA (s : List Nat) : List Int → Nat → Int
  | [], _ => -1
  | e :: r, i => if e.toNat ∈ s then (i : Int) else accA s r (i + 1)
theorem acc_cn (f : WSet) : ∀ (l : List Int) (i : Nat), (∀ e ∈ l, 0 ≤ e ∧ e < 2048) → accW f l i = accA (cnW f) l i
  | [], _, _ => rfl
  | e :: l, i, h => by
    have h1 := h e List.mem_cons_self
    rw [accW, accA, acc_cn f l (i + 1) (fun e he => h e (List.mem_cons_of_mem _ he))]
    have : hasW f e.toNat = true ↔ e.toNat ∈ cnW f := by
      rw [cn_mem]
      exact ⟨fun h2 => ⟨by omega, h2⟩, fun h2 => h2.2⟩
    by_cases h2 : hasW f e.toNat = true
    · rw [if_pos h2, if_pos (this.1 h2)]
    · rw [if_neg h2, if_neg (fun h3 => h2 (this.2 h3))]
/-- Where a list of states goes by a byte. -/
noncomputable def goA (x : Nf) (s : List Nat) (c : Nat) : List Nat := cloP x (fun b => ∃ a, a ∈ s ∧ bstep x c a b)
abbrev PBs := List (List Nat) × List (List Mv) × List Int
/-- A set more. -/
noncomputable def stpA (x : Nf) (i : Nat) (p : PBs) : PBs := match p.1[i]? with
  | none => p
  | some s => ((movA (goA x s) p.1 256).1, p.2.1 ++ [(movA (goA x s) p.1 256).2.1], p.2.2 ++ [accA s x.ends 0])
/-- What Build comes to behind so many sets. -/
noncomputable def PB (x : Nf) : Nat → PBs
  | 0 => ([cloP x (fun a => (a : Int) = x.s)], [], [])
  | i + 1 => stpA x i (PB x i)
theorem add_len (all : List (List Nat)) (s : List Nat) : all.length ≤ (addA all s).length := by
  unfold addA
  split
  · exact Nat.le_refl _
  · split
    · exact Nat.le_refl _
    · rw [List.length_append]; omega
theorem movA_len (go : Nat → List Nat) (all : List (List Nat)) : ∀ k, all.length ≤ (movA go all k).1.length
  | 0 => Nat.le_refl _
  | k + 1 => Nat.le_trans (movA_len go all k) (add_len _ _)
theorem stpA_len (x : Nf) (i : Nat) (p : PBs) : p.1.length ≤ (stpA x i p).1.length := by
  unfold stpA
  split
  · exact Nat.le_refl _
  · exact movA_len _ _ _
theorem pb_len (x : Nf) (i : Nat) : ∀ d, (PB x i).1.length ≤ (PB x (i + d)).1.length
  | 0 => Nat.le_refl _
  | d + 1 => Nat.le_trans (pb_len x i d) (stpA_len x _ _)
theorem pb_stay (x : Nf) (i : Nat) (h : (PB x i).1.length ≤ i) : ∀ d, PB x (i + d) = PB x i
  | 0 => rfl
  | d + 1 => by
    have hd := pb_stay x i h d
    show stpA x (i + d) (PB x (i + d)) = _
    unfold stpA
    rw [hd, List.getElem?_eq_none (by omega)]
/-- Two who are through agree. -/
theorem pb_done {x : Nf} {i j : Nat} (hi : (PB x i).1.length ≤ i) (hj : (PB x j).1.length ≤ j) : PB x i = PB x j := by
  rcases Nat.le_total i j with h | h
  · have := pb_stay x i hi (j - i)
    rw [show i + (j - i) = j by omega] at this
    exact this.symm
  · have := pb_stay x j hj (i - j)
    rw [show j + (i - j) = i by omega] at this
    exact this
/-- One who is through with few, no other has many. -/
theorem pb_few {x : Nf} {i j : Nat} (hi : (PB x i).1.length ≤ i) (h2 : (PB x i).1.length ≤ 2000) : (PB x j).1.length ≤ 2000 := by
  rcases Nat.le_total i j with h | h
  · have := pb_stay x i hi (j - i)
    rw [show i + (j - i) = j by omega] at this
    rw [this]
    exact h2
  · have := pb_len x j (i - j)
    rw [show j + (i - j) = i by omega] at this
    omega
end Go.Proofs.Ytngbfjimmdkfeaa

namespace Go.Proofs.Ytngbfjimmdkfeaa
open Go.RowKit Go.Shelf Go.Maps

theorem bh_mem {cu : Nat → Bool} {bh : Nat → WSet} (all : List WSet) : ∀ k, ∀ g ∈ (movP cu bh all k).1, g ∈ all ∨ ∃ c, c < k ∧ cu c = true ∧ g = bh c
  | 0, _, h => .inl h
  | k + 1, g, h => by
    have ih := bh_mem (cu := cu) (bh := bh) all k g
    rw [movP] at h
    by_cases hu : cu k = true
    · simp only [hu, if_true] at h
      have : g ∈ (movP cu bh all k).1 ∨ g = bh k := by
        unfold fall at h
        split at h
        · exact .inl h
        · split at h
          · exact .inl h
          · rcases List.mem_append.1 h with h | h
            · exact .inl h
            · exact .inr (by simpa using h)
      rcases this with h | h
      · exact (ih h).imp id (fun ⟨c, h1, h2⟩ => ⟨c, by omega, h2⟩)
      · exact .inr ⟨k, by omega, hu, h⟩
    · have hu : cu k = false := by simpa using hu
      simp only [hu, Bool.false_eq_true, if_false] at h
      exact (ih h).imp id (fun ⟨c, h1, h2⟩ => ⟨c, by omega, h2⟩)
theorem goA_ok {x y : Nf} {n : Nat} {lds : List MvD} {f : WSet} {c : Nat} (hl : linkB x = true) (hxn : x.n = (n : Int)) (he : y.es = x.es.filter (fun e => e.q.isEmpty)) (hd : ∀ s, s < n → (lds.getD s ⟨[], none, 0⟩).l = ldP x.es s) (hn : n ≤ 2000) (hf : ∀ a, a ∈ cnW f → a < n) :
    Rising (goA x (cnW f) c) ∧ ∀ v, v ∈ goA x (cnW f) c ↔ v < 2048 ∧ bhS y (allM lds f n) c v := by
  have hxn2 : x.n.toNat = n := by omega
  have hT : ∀ b, (∃ a, a ∈ cnW f ∧ bstep x c a b) → b < x.n.toNat := fun b ⟨a, _, h⟩ => bstep_lt hl h
  refine ⟨cloP_rising _ _, fun v => ?_⟩
  unfold goA
  rw [cloP_mem hl hT v, step_same he hd hn (S := fun a => a ∈ cnW f) (fun c hc => ⟨fun h => cn_mem.2 ⟨hc, h⟩, fun h => (cn_mem.1 h).2⟩) hf (fun e hee => by
    obtain ⟨_, b, hb, _⟩ := link_ends hl hee
    exact ⟨b, hb⟩)]
  exact ⟨fun h => ⟨by have := rn_lt hl hT h; omega, h⟩, fun h => h.2⟩
theorem db_pb {x y : Nf} {n : Nat} {lds : List MvD} {i : Nat} {all : List WSet} {ms : List (List Mv)} {ac : List Int} (h : DB y lds n x.ends i all ms ac) (hl : linkB x = true) (hxn : x.n = (n : Int)) (hys : y.s = x.s) (he : y.es = x.es.filter (fun e => e.q.isEmpty)) (hd : ∀ s, s < n → (lds.getD s ⟨[], none, 0⟩).l = ldP x.es s) (hn : n ≤ 2000) :
    PB x i = (all.map cnW, ms, ac) ∧ ∀ f ∈ all, ∀ a, a ∈ cnW f → a < n := by
  have hxn2 : x.n.toNat = n := by omega
  induction h with
  | @start f h =>
    obtain ⟨st, hst, hstl⟩ := link_start hl
    have hS : ∀ a : Nat, (a : Int) = x.s → a < x.n.toNat := fun a ha => by omega
    have hm : Msk f (Rn x (fun a => (a : Int) = x.s)) := fun c hc => by
      rw [h c hc, hys]
      exact rn_none he
    have hz : ¬ eqW f zeroW := fun hz => (msk_zero hm).1 hz st (by omega) (.base (by omega))
    have hf : fall [] f = [f] := by simp [fall, hz, idxW]
    have hc : cnW f = cloP x (fun a => (a : Int) = x.s) := cn_is hm (cloP_rising _ _) (fun v => by
      rw [cloP_mem hl hS v]
      exact ⟨fun h => ⟨by have := rn_lt hl hS h; omega, h⟩, fun h => h.2⟩)
    rw [hf]
    refine ⟨by rw [PB, List.map_cons, List.map_nil, hc], fun g hg a ha => ?_⟩
    rw [List.mem_singleton] at hg
    subst hg
    rw [hc] at ha
    have := rn_lt hl hS ((cloP_mem hl hS a).1 ha)
    omega
  | @step i all all' ms ac cu bh ml t h hi hlen hc hb hm ih =>
    obtain ⟨ih1, ih2⟩ := ih
    have hg : ∀ c, c < 256 → Rising (goA x (cnW all[i]) c) ∧ ∀ v, v ∈ goA x (cnW all[i]) c ↔ v < 2048 ∧ bhS y (allM lds all[i] n) c v := fun c _ => goA_ok hl hxn he hd hn (ih2 _ (List.getElem_mem hi))
    obtain ⟨h1, h2, _, _⟩ := movP_A all hc hb hg 256 (Nat.le_refl _)
    rw [hm] at h1 h2
    dsimp only at h1 h2
    refine ⟨?_, fun g hgm a ha => ?_⟩
    · rw [PB, ih1]
      unfold stpA
      dsimp only
      rw [List.getElem?_map, List.getElem?_eq_getElem hi]
      dsimp only [Option.map_some]
      rw [← h1, ← h2, acc_cn _ _ _ (link_ends3 hl)]
    · have hmm := bh_mem (cu := cu) (bh := bh) all 256 g
      rw [hm] at hmm
      rcases hmm hgm with h3 | ⟨c, hc1, hc2, rfl⟩
      · exact ih2 g h3 a ha
      · obtain ⟨ha1, ha2⟩ := cn_mem.1 ha
        have h4 := (hb c hc1 hc2 a ha1).1 ha2
        have h5 := ((hg c hc1).2 a).2 ⟨ha1, h4⟩
        have hT : ∀ b, (∃ a, a ∈ cnW all[i] ∧ bstep x c a b) → b < x.n.toNat := fun b ⟨a, _, h⟩ => bstep_lt hl h
        have := rn_lt hl hT ((cloP_mem hl hT a).1 h5)
        omega
/-- What a Build answers, told plainly. -/
def PostB (w w' : World) (x : Nf) (e : Ending) : Prop := Below w.heap.size w w' ∧
  ((nfB x = false ∧ e = .returned (.tuple #[.agg #[.slice none 0 0, .slice none 0 0], .int .i64 30])) ∨
   (nfB x = true ∧ (∃ i, 2000 < (PB x i).1.length) ∧ e = .returned (.tuple #[.agg #[.slice none 0 0, .slice none 0 0], .int .i64 40])) ∨
   (nfB x = true ∧ ∃ i, i = (PB x i).1.length ∧ i ≤ 2000 ∧ (PB x i).2.1.length = i ∧ (PB x i).2.2.length = i ∧ ∃ p2 : DfL, DfAt w' ⟨(PB x i).2.1, (PB x i).2.2⟩ p2 ∧ e = .returned (.tuple #[.agg #[.slice p2.ma (PB x i).2.1.length p2.mc, .slice p2.aa (PB x i).2.2.length p2.ac], .int .i64 0])))
theorem link_of {x : Nf} (h : nfB x = true) : linkB x = true ∧ 1 ≤ x.n ∧ x.n ≤ 2000 := by
  unfold nfB at h
  rw [Bool.and_eq_true] at h
  obtain ⟨st, hst, hstl⟩ := link_start h.1
  refine ⟨h.1, by omega, ?_⟩
  have := h.1
  unfold linkB at this
  simp only [Bool.and_eq_true, decide_eq_true_eq] at this
  exact this.1.1.1
theorem built_pb {w w' : World} {x : Nf} {n : Nat} {e : Ending} (hb : nfB x = true) (hxn : x.n = (n : Int)) (h : BuiltD w w' x n e) : PostB w w' x e := by
  obtain ⟨hl, _, h20⟩ := link_of hb
  obtain ⟨L, l1, l2, l3, l4, l5, i, all, ms, ac, hdb, hbl, hr⟩ := h
  have hp := (db_pb (y := L.y) hdb hl hxn l2 l3 l5 (by omega)).1
  refine ⟨hbl, .inr ?_⟩
  have hlen : (PB x i).1.length = all.length := by rw [hp, List.length_map]
  rcases hr with ⟨h1, h2⟩ | ⟨h1, h2, h3, h4, p2, h5, h6⟩
  · exact .inl ⟨hb, ⟨i, by omega⟩, h2⟩
  · refine .inr ⟨hb, i, by omega, by omega, ?_⟩
    rw [hp]
    exact ⟨h3, h4, p2, h5, h6⟩
end Go.Proofs.Ytngbfjimmdkfeaa

namespace Go.Proofs.Ytngbfjimmdkfeaa
open Go.RowKit Go.Shelf Go.Maps

attribute [local go_sem] Oper.semAt_some

set_option maxRecDepth 100000 in
set_option maxHeartbeats 4000000 in
theorem dBuild_bad (w : World) (x : Nf) (p : NfL) (hx : NfAt w x p) (hb : nfB x = false) :
    Calls Try.prog 15 #[.agg #[.int .i64 x.n, .int .i64 x.s, .slice p.ea x.ends.length p.ec, .slice p.ga x.es.length p.gc]] w fun e w' => e = .returned (.tuple #[.agg #[.slice none 0 0, .slice none 0 0], .int .i64 30]) ∧ Below w.heap.size w w' := by
  have hb1 : Below w.heap.size w ((w.alloc (.cells #[.int .i64 x.n, .int .i64 x.s, .slice p.ea x.ends.length p.ec, .slice p.ga x.es.length p.gc] 32)).alloc (.cells #[.slice none 0 0, .slice none 0 0] 25)) := ((Below.refl _ w).alloc (Nat.le_refl _) _).alloc (by simp) _
  have hbx := (Blk.new w 32 #[.int .i64 x.n, .int .i64 x.s, .slice p.ea x.ends.length p.ec, .slice p.ga x.es.length p.gc]).alloc (.cells #[.slice none 0 0, .slice none 0 0] 25)
  have hbr := Blk.new (w.alloc (.cells #[.int .i64 x.n, .int .i64 x.s, .slice p.ea x.ends.length p.ec, .slice p.ga x.es.length p.gc] 32)) 25 #[.slice none 0 0, .slice none 0 0]
  rw [World.size_alloc] at hbr
  have HX := Lib.hid (hx.grown hb1)
  obtain ⟨V, hV⟩ : ∃ V, Hid ((w.alloc (.cells #[.int .i64 x.n, .int .i64 x.s, .slice p.ea x.ends.length p.ec, .slice p.ga x.es.length p.gc] 32)).alloc (.cells #[.slice none 0 0, .slice none 0 0] 25) = V) := ⟨_, Lib.hid rfl⟩
  obtain ⟨X, hX⟩ : ∃ X, Hid (w.heap.size = X) := ⟨_, Lib.hid rfl⟩
  rw [hV.out] at hbx hbr hb1 HX
  rw [hX.out] at hbx hbr
  have y0 := hbx.cell 0
  have y1 := hbx.cell 1
  have y2 := hbx.cell 2
  have y3 := hbx.cell 3
  have yl := hbx.lt
  have Hck := Lib.hid (ncheck_any x p V HX.out)
  clear hx
  go_enter Try.func15, Try.ntmps15
  go_upto_region 1 with fail
  rw [hV.out, hX.out]
  go_wp2_with (fail)
  refine Hck.out.mono ?_
  rintro e w1 ⟨rfl, hb2⟩
  have Hb2 := Lib.hid hb2
  have hq := Lib.hid hb
  rw [hq.out]
  clear hb2
  rw [if_neg (by simp)]
  have r0 := (hbr.below Hb2.out hbr.lt).cell 0
  have r1 := (hbr.below Hb2.out hbr.lt).cell 1
  have rf := (hbr.below Hb2.out hbr.lt).frozen
  have rs0 := ((hbr.below Hb2.out hbr.lt).set 0 (.slice none 0 0)).set 1 (.slice none 0 0)
  have rg := grownBy_trans (grownBy_set w1 (X + 1) 0 (.slice none 0 0)) (grownBy_set _ (X + 1) 1 (.slice none 0 0)) (fun i e => .inl e)
  have HBl : Hid (Below w.heap.size w ((w1.setCell ⟨X + 1, 0, none⟩ (.slice none 0 0)).setCell ⟨X + 1, 1, none⟩ (.slice none 0 0))) := Lib.hid ((hb1.trans (Hb2.out.mono hb1.size)).grown rg (Nat.le_trans hb1.size Hb2.out.size) (fun g e => by injection e with e; rw [hX.out]; omega))
  have q0 := rs0.cell 0
  have q1 := rs0.cell 1
  clear rg rs0
  go_wp2_with (fail)
  exact bodyPost_ret (v := .tuple #[.agg #[.slice none 0 0, .slice none 0 0], .int .i64 30]) (by simp [results, Try.results15, go_sem, q0, q1]; try first | rfl | assumption | omega) rfl ⟨rfl, HBl.out⟩

theorem dBuild_pb (w : World) (x : Nf) (p : NfL) (hx : NfAt w x p) (hM : x.es.length ≤ 500000) (hq : spN x.es ≤ 1000000) :
    Calls Try.prog 15 #[.agg #[.int .i64 x.n, .int .i64 x.s, .slice p.ea x.ends.length p.ec, .slice p.ga x.es.length p.gc]] w fun e w' => PostB w w' x e := by
  rcases hb : nfB x with _ | _
  · exact (dBuild_bad w x p hx hb).mono (fun e w' h => ⟨h.2, .inl ⟨hb, h.1⟩⟩)
  · obtain ⟨hl, h1, h2⟩ := link_of hb
    exact (dBuild_is w x p x.n.toNat (by omega) hx hM hq).mono (fun e w' h => built_pb hb (by omega) (h.2 hb))
end Go.Proofs.Ytngbfjimmdkfeaa

