/- Texts joined: Wi Wj Wk Wl. -/
import Derived.Test.YtngbfjimmdkfeaaPBK3
import Derived.Test.YtngbfjimmdkfeaaPBHo
import Derived.Test.YtngbfjimmdkfeaaPBM
set_option linter.unusedVariables false
set_option linter.unusedSimpArgs false
namespace Go.Proofs.Ytngbfjimmdkfeaa
open Go.RowKit Go.Shelf

attribute [local go_sem] Oper.semAt_some

/-- A rising list with a number. -/
def withP (l : List Nat) (n : Nat) : List Nat := if n ∈ l then l else l.filter (fun a => decide (a < n)) ++ [n] ++ l.filter (fun a => decide (n < a))
theorem take_step {l : List Nat} {k : Nat} (h : k < l.length) (p : Nat → Bool) : (l.take (k + 1)).filter p = (l.take k).filter p ++ (if p l[k] then [l[k]] else []) := by
  rw [List.take_add_one, List.getElem?_eq_getElem h, List.filter_append]
  congr 1
  by_cases hp : p l[k] <;> simp [hp]

set_option maxRecDepth 100000 in
set_option maxHeartbeats 2000000 in
theorem refWith_any (l : List Nat) (n : Nat) (a : Option Addr) (cap : Nat) (w : World) (hl : IntsN w a cap l) (hll : l.length ≤ 1000000) (hn : n ≤ 1000000000) (hm : ∀ v ∈ l, v ≤ 1000000000) :
    Calls Try.prog 28 #[.slice a l.length cap, .int .i64 (n : Int)] w fun e w' => (∃ oa oc, e = .returned (.slice oa (withP l n).length oc) ∧ IntsN w' oa oc (withP l n)) ∧ Below w.heap.size w w' := by
  have hle := hl.le
  have hmx := hl.max
  rw [List.length_map] at hle
  have HI := Lib.hid (inI_any l a cap n w hl)
  obtain ⟨L, HL⟩ : ∃ L, Hid (l.length = L) := ⟨_, Lib.hid rfl⟩
  obtain ⟨B, hB⟩ : ∃ B, Hid (decide (n ∈ l) = B) := ⟨_, Lib.hid rfl⟩
  rw [hB.out, HL.out] at HI
  rw [HL.out] at hle hll ⊢
  have hnI : (n : Int) ≤ 1000000000 := by omega
  have hnI0 : (0 : Int) ≤ (n : Int) := by omega
  have Hl := Lib.hid hl
  have Hm := Lib.hid hm
  clear hl hm
  go_enter Try.func28, Try.ntmps28
  go_wp2_with (fail)
  refine HI.out.mono ?_
  rintro e w1 ⟨rfl, rfl⟩
  cases B
  case true =>
    have HW : Hid (withP l n = l) := Lib.hid (by rw [withP, if_pos (of_decide_eq_true hB.out)])
    go_wp2_with (fail)
    exact bodyPost_ret (v := .slice a L cap) (by simp [results, Try.results28, go_sem]; try rfl) rfl ⟨⟨a, cap, by rw [HW.out, HL.out], by rw [HW.out]; exact Hl.out⟩, Below.refl _ _⟩
  have HW : Hid (withP l n = l.filter (fun a => decide (a < n)) ++ [n] ++ l.filter (fun a => decide (n < a))) := Lib.hid (by rw [withP, if_neg (of_decide_eq_false hB.out)])
  obtain ⟨BW, hBW⟩ : ∃ n, Hid (w1.heap.size = n) := ⟨_, Lib.hid rfl⟩
  go_wp2_with (fail)
  go_loopw [5, 7, 16] (fun ov _ iv wr => ∃ (k : Nat) (ra : Option Addr) (rc : Nat) (r : List Nat), k ≤ L ∧ iv = .int .i64 (k : Int) ∧ ov = .slice ra r.length rc ∧ OwnI wr w1.heap.size ra r.length rc r ∧ r = (l.take k).filter (fun a => decide (a < n)) ∧ r.length ≤ k ∧ Below w1.heap.size w1 wr) (fun _ _ iv _ => L - (intOf iv).toNat)
  case atStart => exact ⟨0, none, 0, [], Nat.zero_le _, rfl, rfl, World.ownsRow_nil _ _ _ _, rfl, Nat.le_refl _, Below.refl _ _⟩
  case round =>
    obtain ⟨k, ra, rc, r, hk, rfl, rfl, hor, hr, hrl, hbr⟩ := hrel
    have Hr := Lib.hid hr
    clear hr
    by_cases hlt : k < L
    · have hkI : (k : Int) < (L : Int) := by omega
      have hkI0 : (0 : Int) ≤ (k : Int) := by omega
      have hkl : k < l.length := by rw [HL.out]; exact hlt
      obtain ⟨b, off, rfl⟩ := Hl.out.at_ k (by rw [List.length_map]; exact hkl)
      have c0 := (Hl.out.grown hbr).cell b off rfl k (by rw [List.length_map]; exact hkl)
      rw [List.getElem_map] at c0
      have hvm := Hm.out _ (List.getElem_mem hkl)
      have Hts := Lib.hid (take_step hkl (fun a => decide (a < n)))
      obtain ⟨v, hv⟩ : ∃ v, Hid (l[k] = v) := ⟨_, Lib.hid rfl⟩
      rw [hv.out] at c0 hvm Hts
      have hbl := World.block_lt_of_cell? _ _ c0
      have hwfs : (Lit.int .i64 (v : Int)).wf = true := WalkArith.wf_i64 (by omega)
      by_cases hlv : v < n
      · have hlI : (v : Int) < (n : Int) := by omega
        obtain ⟨ra', rc', w', hr6, ho6, hg6, hn6⟩ := run_pushI wr 23 v (.int .i64 (v : Int)) rfl hor (by omega) hbr.size
        have Hr6 := Lib.hid hr6
        have HQ : Hid (OwnI w' w1.heap.size ra' (r ++ [v]).length rc' (r ++ [v]) ∧ (r ++ [v]) = (l.take (k + 1)).filter (fun a => decide (a < n)) ∧ (r ++ [v]).length ≤ k + 1 ∧ Below w1.heap.size w1 w') := Lib.hid ⟨by rw [List.length_append]; exact ho6, by rw [Hts.out, ← Hr.out, if_pos (decide_eq_true hlv)], by rw [List.length_append]; exact Nat.add_le_add_right hrl 1, hbr.grown hg6 hbr.size (fun i e => (hor.typ i e).1)⟩
        clear hr6 ho6 hg6 hn6 hor hbr
        go_wp2_with (at_builtin; refine wpList_append_run rfl _ _ 23 23 rfl _ _ _ _ rfl rfl Hr6.out ?_)
        exact ⟨⟨k + 1, ra', rc', r ++ [v], by omega, by simp, by simp, HQ.out⟩, by simp [intOf]; omega⟩
      · have hlI : ¬ (v : Int) < (n : Int) := by omega
        have HQ : Hid (OwnI wr w1.heap.size ra r.length rc r ∧ r = (l.take (k + 1)).filter (fun a => decide (a < n)) ∧ r.length ≤ k + 1 ∧ Below w1.heap.size w1 wr) := Lib.hid ⟨hor, by rw [Hts.out, ← Hr.out, if_neg (by simpa using hlv), List.append_nil], by omega, hbr⟩
        clear hor hbr
        go_wp2_with (fail)
        exact ⟨⟨k + 1, ra, rc, r, by omega, by simp, rfl, HQ.out⟩, by simp [intOf]; omega⟩
    · obtain rfl : L = k := by omega
      have hkI : ¬ (L : Int) < (L : Int) := by omega
      have Hr0 : Hid (r = l.filter (fun a => decide (a < n))) := Lib.hid (by rw [Hr.out, List.take_of_length_le (by rw [HL.out]; exact Nat.le_refl _)])
      obtain ⟨ra', rc', w', hr6, ho6, hg6, hn6⟩ := run_pushI wr 23 n (.int .i64 (n : Int)) rfl hor (by omega) hbr.size
      have Hr6 := Lib.hid hr6
      have HO6 : Hid (OwnI w' w1.heap.size ra' (r ++ [n]).length rc' (r ++ [n])) := Lib.hid (by rw [List.length_append]; exact ho6)
      have Hb6 := Lib.hid (hbr.grown hg6 hbr.size (fun i e => (hor.typ i e).1))
      clear hr6 ho6 hg6 hn6 hor hbr Hr
      obtain ⟨A, hA⟩ : ∃ A, Hid (r ++ [n] = A) := ⟨_, Lib.hid rfl⟩
      have hAl : A.length ≤ L + 1 := by rw [← hA.out, List.length_append]; exact Nat.add_le_add_right hrl 1
      have hAr : r.length + 1 = A.length := by rw [← hA.out, List.length_append]; rfl
      rw [hA.out] at HO6
      rw [hAr] at Hr6
      clear hAr
      go_wp2_with (at_builtin; refine wpList_append_run rfl _ _ 23 23 rfl _ _ _ _ rfl rfl Hr6.out ?_)
      go_loopw [5, 9, 34] (fun ov _ iv wr => ∃ (k : Nat) (ra : Option Addr) (rc : Nat) (r : List Nat), k ≤ L ∧ iv = .int .i64 (k : Int) ∧ ov = .slice ra r.length rc ∧ OwnI wr w1.heap.size ra r.length rc r ∧ r = A ++ (l.take k).filter (fun a => decide (n < a)) ∧ r.length ≤ L + 1 + k ∧ Below w1.heap.size w1 wr) (fun _ _ iv _ => L - (intOf iv).toNat)
      case atStart => exact ⟨0, ra', rc', A, Nat.zero_le _, rfl, rfl, HO6.out, by simp, hAl, Hb6.out⟩
      case round =>
        obtain ⟨k, ra, rc, r, hk, rfl, rfl, hor, hr, hrl, hbr⟩ := hrel
        have Hr := Lib.hid hr
        clear hr
        by_cases hlt : k < L
        · have hkI : (k : Int) < (L : Int) := by omega
          have hkI0 : (0 : Int) ≤ (k : Int) := by omega
          have hkl : k < l.length := by rw [HL.out]; exact hlt
          obtain ⟨b, off, rfl⟩ := Hl.out.at_ k (by rw [List.length_map]; exact hkl)
          have c0 := (Hl.out.grown hbr).cell b off rfl k (by rw [List.length_map]; exact hkl)
          rw [List.getElem_map] at c0
          have hvm := Hm.out _ (List.getElem_mem hkl)
          have Hts := Lib.hid (take_step hkl (fun a => decide (n < a)))
          obtain ⟨v, hv⟩ : ∃ v, Hid (l[k] = v) := ⟨_, Lib.hid rfl⟩
          rw [hv.out] at c0 hvm Hts
          have hbl := World.block_lt_of_cell? _ _ c0
          have hwfs : (Lit.int .i64 (v : Int)).wf = true := WalkArith.wf_i64 (by omega)
          by_cases hlv : n < v
          · have hlI : (n : Int) < (v : Int) := by omega
            obtain ⟨ra', rc', w', hr6, ho6, hg6, hn6⟩ := run_pushI wr 23 v (.int .i64 (v : Int)) rfl hor (by omega) hbr.size
            have Hr6 := Lib.hid hr6
            have HQ : Hid (OwnI w' w1.heap.size ra' (r ++ [v]).length rc' (r ++ [v]) ∧ (r ++ [v]) = A ++ (l.take (k + 1)).filter (fun a => decide (n < a)) ∧ (r ++ [v]).length ≤ L + 1 + (k + 1) ∧ Below w1.heap.size w1 w') := Lib.hid ⟨by rw [List.length_append]; exact ho6, by rw [Hts.out, ← List.append_assoc, ← Hr.out, if_pos (decide_eq_true hlv)], by rw [List.length_append]; exact Nat.add_le_add_right hrl 1, hbr.grown hg6 hbr.size (fun i e => (hor.typ i e).1)⟩
            clear hr6 ho6 hg6 hn6 hor hbr
            go_wp2_with (at_builtin; refine wpList_append_run rfl _ _ 23 23 rfl _ _ _ _ rfl rfl Hr6.out ?_)
            exact ⟨⟨k + 1, ra', rc', r ++ [v], by omega, by simp, by simp, HQ.out⟩, by simp [intOf]; omega⟩
          · have hlI : ¬ (n : Int) < (v : Int) := by omega
            have HQ : Hid (OwnI wr w1.heap.size ra r.length rc r ∧ r = A ++ (l.take (k + 1)).filter (fun a => decide (n < a)) ∧ r.length ≤ L + 1 + (k + 1) ∧ Below w1.heap.size w1 wr) := Lib.hid ⟨hor, by rw [Hts.out, if_neg (by simpa using hlv), List.append_nil]; exact Hr.out, by omega, hbr⟩
            clear hor hbr
            go_wp2_with (fail)
            exact ⟨⟨k + 1, ra, rc, r, by omega, by simp, rfl, HQ.out⟩, by simp [intOf]; omega⟩
        · obtain rfl : L = k := by omega
          have hkI : ¬ (L : Int) < (L : Int) := by omega
          have HR : Hid (withP l n = r) := Lib.hid (by rw [HW.out, Hr.out, ← hA.out, Hr0.out, List.take_of_length_le (by rw [HL.out]; exact Nat.le_refl _)])
          have HQ := Lib.hid (And.intro hor.ints hbr)
          clear hor hbr
          go_wp2_with (fail)
          exact bodyPost_ret (v := .slice ra r.length rc) (by simp [results, Try.results28, go_sem]; try rfl) rfl ⟨⟨ra, rc, by rw [HR.out], by rw [HR.out]; exact HQ.out.1⟩, HQ.out.2⟩
end Go.Proofs.Ytngbfjimmdkfeaa

namespace Go.Proofs.Ytngbfjimmdkfeaa
open Go.RowKit Go.Shelf

attribute [local go_sem] Oper.semAt_some

def Rising (l : List Nat) : Prop := l.Pairwise (· < ·)
theorem withP_mem (l : List Nat) (n a : Nat) : a ∈ withP l n ↔ a ∈ l ∨ a = n := by
  unfold withP
  split
  · rename_i h
    exact ⟨.inl, fun h' => h'.elim id (fun e => e ▸ h)⟩
  · rename_i h
    simp only [List.mem_append, List.mem_filter, List.mem_singleton, decide_eq_true_eq]
    constructor
    · rintro ((⟨h1, _⟩ | h1) | ⟨h1, _⟩)
      · exact .inl h1
      · exact .inr h1
      · exact .inl h1
    · rintro (h1 | rfl)
      · rcases Nat.lt_trichotomy a n with h2 | rfl | h2
        · exact .inl (.inl ⟨h1, h2⟩)
        · exact absurd h1 h
        · exact .inr ⟨h1, h2⟩
      · exact .inl (.inr rfl)
theorem withP_rising {l : List Nat} (h : Rising l) (n : Nat) : Rising (withP l n) := by
  unfold withP
  split
  · exact h
  · unfold Rising at *
    refine List.pairwise_append.2 ⟨List.pairwise_append.2 ⟨h.filter _, List.pairwise_singleton _ _, fun a ha b hb => ?_⟩, h.filter _, fun a ha b hb => ?_⟩
    · rw [List.mem_singleton.1 hb]
      exact of_decide_eq_true (List.mem_filter.1 ha).2
    · have hb2 : n < b := of_decide_eq_true (List.mem_filter.1 hb).2
      rcases List.mem_append.1 ha with h1 | h1
      · have : a < n := of_decide_eq_true (List.mem_filter.1 h1).2
        omega
      · rw [List.mem_singleton.1 h1]; exact hb2
theorem two_filters : ∀ (l : List Nat) (n : Nat), n ∉ l → (l.filter (fun a => decide (a < n))).length + (l.filter (fun a => decide (n < a))).length = l.length
  | [], n, _ => rfl
  | x :: l, n, h => by
    have h1 := two_filters l n (fun h' => h (List.mem_cons_of_mem _ h'))
    have h2 : x ≠ n := fun e => h (e ▸ List.mem_cons_self ..)
    rcases Nat.lt_or_gt_of_ne h2 with h3 | h3
    · rw [List.filter_cons_of_pos (by simpa using h3), List.filter_cons_of_neg (by simp; omega)]
      simp only [List.length_cons]; omega
    · rw [List.filter_cons_of_neg (by simp; omega), List.filter_cons_of_pos (by simpa using h3)]
      simp only [List.length_cons]; omega
theorem withP_len (l : List Nat) (n : Nat) : (n ∈ l ∧ withP l n = l) ∨ (withP l n).length = l.length + 1 := by
  by_cases h : n ∈ l
  · exact .inl ⟨h, by rw [withP, if_pos h]⟩
  · right
    have := two_filters l n h
    rw [withP, if_neg h]
    simp only [List.length_append, List.length_singleton]
    omega
theorem rising_len : ∀ (l : List Nat) (b N : Nat), Rising l → (∀ a ∈ l, b ≤ a ∧ a < N) → l.length ≤ N - b
  | [], b, N, _, _ => Nat.zero_le _
  | x :: l, b, N, h, hm => by
    unfold Rising at h
    rw [List.pairwise_cons] at h
    have h1 := hm x (List.mem_cons_self ..)
    have h2 := rising_len l (x + 1) N h.2 (fun a ha => ⟨h.1 a ha, (hm a (List.mem_cons_of_mem _ ha)).2⟩)
    simp only [List.length_cons]
    omega
structure CloI (x : Nf) (set out : List Nat) : Prop where
  ris : Rising out
  has : ∀ v ∈ set, v ∈ out
  only : ∀ v ∈ out, Rn x (· ∈ set) v
  lt : ∀ v ∈ out, v < x.n.toNat
theorem CloI.add {x : Nf} {set out : List Nat} (h : CloI x set out) {a b : Nat} (ha : a ∈ out) (hs : nstep x a b) (hb : b < x.n.toNat) : CloI x set (withP out b) :=
  ⟨withP_rising h.ris b, fun v hv => (withP_mem _ _ _).2 (.inl (h.has v hv)), fun v hv => ((withP_mem _ _ _).1 hv).elim (h.only v) (fun e => e ▸ .step (h.only a ha) hs), fun v hv => ((withP_mem _ _ _).1 hv).elim (h.lt v) (fun e => e ▸ hb)⟩
theorem CloI.len {x : Nf} {set out : List Nat} (h : CloI x set out) : out.length ≤ x.n.toNat := rising_len out 0 _ h.ris (fun a ha => ⟨Nat.zero_le _, h.lt a ha⟩)
/-- No edge so far leads out of it. -/
def Shut (x : Nf) (k : Nat) (out : List Nat) : Prop := ∀ j, j < k → ∀ e, x.es[j]? = some e → e.q = [] → ∀ a b : Nat, e.f = (a : Int) → e.t = (b : Int) → a ∈ out → b ∈ out
theorem Shut.all {x : Nf} {set out : List Nat} (h : Shut x x.es.length out) (hc : CloI x set out) (a : Nat) : a ∈ out ↔ Rn x (· ∈ set) a :=
  ⟨hc.only a, Rn.closed hc.has (fun a b ha ⟨e, he, hq, h1, h2⟩ => by
    obtain ⟨j, hj, rfl⟩ := List.getElem_of_mem he
    exact h j hj _ (List.getElem?_eq_getElem hj) hq a b h1 h2 ha)⟩
theorem Shut.next {x : Nf} {k : Nat} {out : List Nat} (h : Shut x k out) {e : Eg} (hk : x.es[k]? = some e) (h1 : e.q = [] → ∀ a b : Nat, e.f = (a : Int) → e.t = (b : Int) → a ∈ out → b ∈ out) : Shut x (k + 1) out := by
  intro j hj e' he'
  by_cases hjk : j < k
  · exact h j hjk e' he'
  · obtain rfl : j = k := by omega
    rw [hk] at he'
    cases he'
    exact h1
def slLen : Value → Nat
  | .slice _ n _ => n
  | _ => 0
/-- What a pass has come to. -/
structure PasI (x : Nf) (set o0 : List Nat) (k : Nat) (out : List Nat) : Prop where
  cl : CloI x set out
  le : o0.length ≤ out.length
  eq : out.length = o0.length → out = o0 ∧ Shut x k o0

end Go.Proofs.Ytngbfjimmdkfeaa

namespace Go.Proofs.Ytngbfjimmdkfeaa
open Go.RowKit Go.Shelf

attribute [local go_sem] Oper.semAt_some

/-- What the edges so far lead to. -/
structure LedTo (x : Nf) (c : Nat) (s1 : List Nat) (k : Nat) (out : List Nat) : Prop where
  ris : Rising out
  lt : ∀ v ∈ out, v < x.n.toNat
  only : ∀ v ∈ out, ∃ a ∈ s1, bstep x c a v
  has : ∀ j, j < k → ∀ e, x.es[j]? = some e → inSp e.q c = true → ∀ a b : Nat, e.f = (a : Int) → e.t = (b : Int) → a ∈ s1 → b ∈ out
theorem LedTo.all {x : Nf} {c : Nat} {s1 out : List Nat} (h : LedTo x c s1 x.es.length out) (v : Nat) : v ∈ out ↔ ∃ a ∈ s1, bstep x c a v :=
  ⟨h.only v, fun ⟨a, ha, e, he, hq, h1, h2⟩ => by
    obtain ⟨j, hj, rfl⟩ := List.getElem_of_mem he
    exact h.has j hj _ (List.getElem?_eq_getElem hj) hq a v h1 h2 ha⟩
theorem LedTo.skip {x : Nf} {c : Nat} {s1 out : List Nat} {k : Nat} (h : LedTo x c s1 k out) {e : Eg} (hk : x.es[k]? = some e) (h1 : inSp e.q c = true → ∀ a b : Nat, e.f = (a : Int) → e.t = (b : Int) → a ∈ s1 → b ∈ out) : LedTo x c s1 (k + 1) out :=
  ⟨h.ris, h.lt, h.only, fun j hj e' he' => by
    by_cases hjk : j < k
    · exact h.has j hjk e' he'
    · obtain rfl : j = k := by omega
      rw [hk] at he'
      cases he'
      exact h1⟩
theorem LedTo.add {x : Nf} {c : Nat} {s1 out : List Nat} {k : Nat} (h : LedTo x c s1 k out) {e : Eg} (hk : x.es[k]? = some e) {a b : Nat} (hq : inSp e.q c = true) (hf : e.f = (a : Int)) (ht : e.t = (b : Int)) (ha : a ∈ s1) (hb : b < x.n.toNat) : LedTo x c s1 (k + 1) (withP out b) :=
  LedTo.skip ⟨withP_rising h.ris b, fun v hv => ((withP_mem _ _ _).1 hv).elim (h.lt v) (fun e => e ▸ hb), fun v hv => ((withP_mem _ _ _).1 hv).elim (h.only v) (fun e' => e' ▸ ⟨a, ha, e, List.mem_of_getElem? hk, hq, hf, ht⟩), fun j hj e he hq a b h1 h2 h3 => (withP_mem _ _ _).2 (.inl (h.has j hj e he hq a b h1 h2 h3))⟩ hk (fun _ a' b' _ h2 _ => (withP_mem _ _ _).2 (.inr (by omega)))

end Go.Proofs.Ytngbfjimmdkfeaa

namespace Go.Proofs.Ytngbfjimmdkfeaa
open Go.RowKit Go.Shelf

attribute [local go_sem] Oper.semAt_some

end Go.Proofs.Ytngbfjimmdkfeaa

