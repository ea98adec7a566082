/- Texts joined: Wi Wj Wk Wl. -/
import Derived.Test.YtngbfjimmdkfeaaJK3
import Derived.Test.YtngbfjimmdkfeaaJHo
import Derived.Test.YtngbfjimmdkfeaaJM
set_option linter.unusedVariables false
set_option linter.unusedSimpArgs false
namespace Go.Proofs.Ytngbfjimmdkfeaa
open Go.RowKit Go.Shelf

attribute [local go_sem] Oper.semAt_some

/-- A rising list with a number. -/
def withP (l : List Nat) (n : Nat) : List Nat := if n ∈ l then l else l.filter (fun a => decide (a < n)) ++ [n] ++ l.filter (fun a => decide (n < a))
theorem take_step {l : List Nat} {k : Nat} (h : k < l.length) (p : Nat → Bool) : (l.take (k + 1)).filter p = (l.take k).filter p ++ (if p l[k] then [l[k]] else []) := by
  rw [List.take_add_one, List.getElem?_eq_getElem h, List.filter_append]
  congr 1
  by_cases hp : p l[k] <;> simp [hp]

set_option maxRecDepth 100000 in
set_option maxHeartbeats 2000000 in
theorem refWith_any (l : List Nat) (n : Nat) (a : Option Addr) (cap : Nat) (w : World) (hl : IntsN w a cap l) (hll : l.length ≤ 1000000) (hn : n ≤ 1000000000) (hm : ∀ v ∈ l, v ≤ 1000000000) :
    Calls Try.prog 28 #[.slice a l.length cap, .int .i64 (n : Int)] w fun e w' => (∃ oa oc, e = .returned (.slice oa (withP l n).length oc) ∧ IntsN w' oa oc (withP l n)) ∧ Below w.heap.size w w' := by
  have hle := hl.le
  have hmx := hl.max
  rw [List.length_map] at hle
  have HI := Lib.hid (inI_any l a cap n w hl)
  obtain ⟨L, HL⟩ : ∃ L, Hid (l.length = L) := ⟨_, Lib.hid rfl⟩
  obtain ⟨B, hB⟩ : ∃ B, Hid (decide (n ∈ l) = B) := ⟨_, Lib.hid rfl⟩
  rw [hB.out, HL.out] at HI
  rw [HL.out] at hle hll ⊢
  have hnI : (n : Int) ≤ 1000000000 := by omega
  have hnI0 : (0 : Int) ≤ (n : Int) := by omega
  have Hl := Lib.hid hl
  have Hm := Lib.hid hm
  clear hl hm
  go_enter Try.func28, Try.ntmps28
  go_wp2_with (fail)
  refine HI.out.mono ?_
  rintro e w1 ⟨rfl, rfl⟩
  cases B
  case true =>
    have HW : Hid (withP l n = l) := Lib.hid (by rw [withP, if_pos (of_decide_eq_true hB.out)])
    go_wp2_with (fail)
    exact bodyPost_ret (v := .slice a L cap) (by simp [results, Try.results28, go_sem]; try rfl) rfl ⟨⟨a, cap, by rw [HW.out, HL.out], by rw [HW.out]; exact Hl.out⟩, Below.refl _ _⟩
  have HW : Hid (withP l n = l.filter (fun a => decide (a < n)) ++ [n] ++ l.filter (fun a => decide (n < a))) := Lib.hid (by rw [withP, if_neg (of_decide_eq_false hB.out)])
  obtain ⟨BW, hBW⟩ : ∃ n, Hid (w1.heap.size = n) := ⟨_, Lib.hid rfl⟩
  go_wp2_with (fail)
  go_loopw [5, 7, 16] (fun ov _ iv wr => ∃ (k : Nat) (ra : Option Addr) (rc : Nat) (r : List Nat), k ≤ L ∧ iv = .int .i64 (k : Int) ∧ ov = .slice ra r.length rc ∧ OwnI wr w1.heap.size ra r.length rc r ∧ r = (l.take k).filter (fun a => decide (a < n)) ∧ r.length ≤ k ∧ Below w1.heap.size w1 wr) (fun _ _ iv _ => L - (intOf iv).toNat)
  case atStart => exact ⟨0, none, 0, [], Nat.zero_le _, rfl, rfl, World.ownsRow_nil _ _ _ _, rfl, Nat.le_refl _, Below.refl _ _⟩
  case round =>
    obtain ⟨k, ra, rc, r, hk, rfl, rfl, hor, hr, hrl, hbr⟩ := hrel
    have Hr := Lib.hid hr
    clear hr
    by_cases hlt : k < L
    · have hkI : (k : Int) < (L : Int) := by omega
      have hkI0 : (0 : Int) ≤ (k : Int) := by omega
      have hkl : k < l.length := by rw [HL.out]; exact hlt
      obtain ⟨b, off, rfl⟩ := Hl.out.at_ k (by rw [List.length_map]; exact hkl)
      have c0 := (Hl.out.grown hbr).cell b off rfl k (by rw [List.length_map]; exact hkl)
      rw [List.getElem_map] at c0
      have hvm := Hm.out _ (List.getElem_mem hkl)
      have Hts := Lib.hid (take_step hkl (fun a => decide (a < n)))
      obtain ⟨v, hv⟩ : ∃ v, Hid (l[k] = v) := ⟨_, Lib.hid rfl⟩
      rw [hv.out] at c0 hvm Hts
      have hbl := World.block_lt_of_cell? _ _ c0
      have hwfs : (Lit.int .i64 (v : Int)).wf = true := WalkArith.wf_i64 (by omega)
      by_cases hlv : v < n
      · have hlI : (v : Int) < (n : Int) := by omega
        obtain ⟨ra', rc', w', hr6, ho6, hg6, hn6⟩ := run_pushI wr 23 v (.int .i64 (v : Int)) rfl hor (by omega) hbr.size
        have Hr6 := Lib.hid hr6
        have HQ : Hid (OwnI w' w1.heap.size ra' (r ++ [v]).length rc' (r ++ [v]) ∧ (r ++ [v]) = (l.take (k + 1)).filter (fun a => decide (a < n)) ∧ (r ++ [v]).length ≤ k + 1 ∧ Below w1.heap.size w1 w') := Lib.hid ⟨by rw [List.length_append]; exact ho6, by rw [Hts.out, ← Hr.out, if_pos (decide_eq_true hlv)], by rw [List.length_append]; exact Nat.add_le_add_right hrl 1, hbr.grown hg6 hbr.size (fun i e => (hor.typ i e).1)⟩
        clear hr6 ho6 hg6 hn6 hor hbr
        go_wp2_with (at_builtin; refine wpList_append_run rfl _ _ 23 23 rfl _ _ _ _ rfl rfl Hr6.out ?_)
        exact ⟨⟨k + 1, ra', rc', r ++ [v], by omega, by simp, by simp, HQ.out⟩, by simp [intOf]; omega⟩
      · have hlI : ¬ (v : Int) < (n : Int) := by omega
        have HQ : Hid (OwnI wr w1.heap.size ra r.length rc r ∧ r = (l.take (k + 1)).filter (fun a => decide (a < n)) ∧ r.length ≤ k + 1 ∧ Below w1.heap.size w1 wr) := Lib.hid ⟨hor, by rw [Hts.out, ← Hr.out, if_neg (by simpa using hlv), List.append_nil], by omega, hbr⟩
        clear hor hbr
        go_wp2_with (fail)
        exact ⟨⟨k + 1, ra, rc, r, by omega, by simp, rfl, HQ.out⟩, by simp [intOf]; omega⟩
    · obtain rfl : L = k := by omega
      have hkI : ¬ (L : Int) < (L : Int) := by omega
      have Hr0 : Hid (r = l.filter (fun a => decide (a < n))) := Lib.hid (by rw [Hr.out, List.take_of_length_le (by rw [HL.out]; exact Nat.le_refl _)])
      obtain ⟨ra', rc', w', hr6, ho6, hg6, hn6⟩ := run_pushI wr 23 n (.int .i64 (n : Int)) rfl hor (by omega) hbr.size
      have Hr6 := Lib.hid hr6
      have HO6 : Hid (OwnI w' w1.heap.size ra' (r ++ [n]).length rc' (r ++ [n])) := Lib.hid (by rw [List.length_append]; exact ho6)
      have Hb6 := Lib.hid (hbr.grown hg6 hbr.size (fun i e => (hor.typ i e).1))
      clear hr6 ho6 hg6 hn6 hor hbr Hr
      obtain ⟨A, hA⟩ : ∃ A, Hid (r ++ [n] = A) := ⟨_, Lib.hid rfl⟩
      have hAl : A.length ≤ L + 1 := by rw [← hA.out, List.length_append]; exact Nat.add_le_add_right hrl 1
      have hAr : r.length + 1 = A.length := by rw [← hA.out, List.length_append]; rfl
      rw [hA.out] at HO6
      rw [hAr] at Hr6
      clear hAr
      go_wp2_with (at_builtin; refine wpList_append_run rfl _ _ 23 23 rfl _ _ _ _ rfl rfl Hr6.out ?_)
      go_loopw [5, 9, 34] (fun ov _ iv wr => ∃ (k : Nat) (ra : Option Addr) (rc : Nat) (r : List Nat), k ≤ L ∧ iv = .int .i64 (k : Int) ∧ ov = .slice ra r.length rc ∧ OwnI wr w1.heap.size ra r.length rc r ∧ r = A ++ (l.take k).filter (fun a => decide (n < a)) ∧ r.length ≤ L + 1 + k ∧ Below w1.heap.size w1 wr) (fun _ _ iv _ => L - (intOf iv).toNat)
      case atStart => exact ⟨0, ra', rc', A, Nat.zero_le _, rfl, rfl, HO6.out, by simp, hAl, Hb6.out⟩
      case round =>
        obtain ⟨k, ra, rc, r, hk, rfl, rfl, hor, hr, hrl, hbr⟩ := hrel
        have Hr := Lib.hid hr
        clear hr
        by_cases hlt : k < L
        · have hkI : (k : Int) < (L : Int) := by omega
          have hkI0 : (0 : Int) ≤ (k : Int) := by omega
          have hkl : k < l.length := by rw [HL.out]; exact hlt
          obtain ⟨b, off, rfl⟩ := Hl.out.at_ k (by rw [List.length_map]; exact hkl)
          have c0 := (Hl.out.grown hbr).cell b off rfl k (by rw [List.length_map]; exact hkl)
          rw [List.getElem_map] at c0
          have hvm := Hm.out _ (List.getElem_mem hkl)
          have Hts := Lib.hid (take_step hkl (fun a => decide (n < a)))
          obtain ⟨v, hv⟩ : ∃ v, Hid (l[k] = v) := ⟨_, Lib.hid rfl⟩
          rw [hv.out] at c0 hvm Hts
          have hbl := World.block_lt_of_cell? _ _ c0
          have hwfs : (Lit.int .i64 (v : Int)).wf = true := WalkArith.wf_i64 (by omega)
          by_cases hlv : n < v
          · have hlI : (n : Int) < (v : Int) := by omega
            obtain ⟨ra', rc', w', hr6, ho6, hg6, hn6⟩ := run_pushI wr 23 v (.int .i64 (v : Int)) rfl hor (by omega) hbr.size
            have Hr6 := Lib.hid hr6
            have HQ : Hid (OwnI w' w1.heap.size ra' (r ++ [v]).length rc' (r ++ [v]) ∧ (r ++ [v]) = A ++ (l.take (k + 1)).filter (fun a => decide (n < a)) ∧ (r ++ [v]).length ≤ L + 1 + (k + 1) ∧ Below w1.heap.size w1 w') := Lib.hid ⟨by rw [List.length_append]; exact ho6, by rw [Hts.out, ← List.append_assoc, ← Hr.out, if_pos (decide_eq_true hlv)], by rw [List.length_append]; exact Nat.add_le_add_right hrl 1, hbr.grown hg6 hbr.size (fun i e => (hor.typ i e).1)⟩
            clear hr6 ho6 hg6 hn6 hor hbr
            go_wp2_with (at_builtin; refine wpList_append_run rfl _ _ 23 23 rfl _ _ _ _ rfl rfl Hr6.out ?_)
            exact ⟨⟨k + 1, ra', rc', r ++ [v], by omega, by simp, by simp, HQ.out⟩, by simp [intOf]; omega⟩
          · have hlI : ¬ (n : Int) < (v : Int) := by omega
            have HQ : Hid (OwnI wr w1.heap.size ra r.length rc r ∧ r = A ++ (l.take (k + 1)).filter (fun a => decide (n < a)) ∧ r.length ≤ L + 1 + (k + 1) ∧ Below w1.heap.size w1 wr) := Lib.hid ⟨hor, by rw [Hts.out, if_neg (by simpa using hlv), List.append_nil]; exact Hr.out, by omega, hbr⟩
            clear hor hbr
            go_wp2_with (fail)
            exact ⟨⟨k + 1, ra, rc, r, by omega, by simp, rfl, HQ.out⟩, by simp [intOf]; omega⟩
        · obtain rfl : L = k := by omega
          have hkI : ¬ (L : Int) < (L : Int) := by omega
          have HR : Hid (withP l n = r) := Lib.hid (by rw [HW.out, Hr.out, ← hA.out, Hr0.out, List.take_of_length_le (by rw [HL.out]; exact Nat.le_refl _)])
          have HQ := Lib.hid (And.intro hor.ints hbr)
          clear hor hbr
          go_wp2_with (fail)
          exact bodyPost_ret (v := .slice ra r.length rc) (by simp [results, Try.results28, go_sem]; try rfl) rfl ⟨⟨ra, rc, by rw [HR.out], by rw [HR.out]; exact HQ.out.1⟩, HQ.out.2⟩
end Go.Proofs.Ytngbfjimmdkfeaa

namespace Go.Proofs.Ytngbfjimmdkfeaa
open Go.RowKit Go.Shelf

attribute [local go_sem] Oper.semAt_some

def Rising (l : List Nat) : Prop := l.Pairwise (· < ·)
theorem withP_mem (l : List Nat) (n a : Nat) : a ∈ withP l n ↔ a ∈ l ∨ a = n := by
  unfold withP
  split
  · rename_i h
    exact ⟨.inl, fun h' => h'.elim id (fun e => e ▸ h)⟩
  · rename_i h
    simp only [List.mem_append, List.mem_filter, List.mem_singleton, decide_eq_true_eq]
    constructor
    · rintro ((⟨h1, _⟩ | h1) | ⟨h1, _⟩)
      · exact .inl h1
      · exact .inr h1
      · exact .inl h1
    · rintro (h1 | rfl)
      · rcases Nat.lt_trichotomy a n with h2 | rfl | h2
        · exact .inl (.inl ⟨h1, h2⟩)
        · exact absurd h1 h
        · exact .inr ⟨h1, h2⟩
      · exact .inl (.inr rfl)
theorem withP_rising {l : List Nat} (h : Rising l) (n : Nat) : Rising (withP l n) := by
  unfold withP
  split
  · exact h
  · unfold Rising at *
    refine List.pairwise_append.2 ⟨List.pairwise_append.2 ⟨h.filter _, List.pairwise_singleton _ _, fun a ha b hb => ?_⟩, h.filter _, fun a ha b hb => ?_⟩
    · rw [List.mem_singleton.1 hb]
      exact of_decide_eq_true (List.mem_filter.1 ha).2
    · have hb2 : n < b := of_decide_eq_true (List.mem_filter.1 hb).2
      rcases List.mem_append.1 ha with h1 | h1
      · have : a < n := of_decide_eq_true (List.mem_filter.1 h1).2
        omega
      · rw [List.mem_singleton.1 h1]; exact hb2
theorem two_filters : ∀ (l : List Nat) (n : Nat), n ∉ l → (l.filter (fun a => decide (a < n))).length + (l.filter (fun a => decide (n < a))).length = l.length
  | [], n, _ => rfl
  | x :: l, n, h => by
    have h1 := two_filters l n (fun h' => h (List.mem_cons_of_mem _ h'))
    have h2 : x ≠ n := fun e => h (e ▸ List.mem_cons_self ..)
    rcases Nat.lt_or_gt_of_ne h2 with h3 | h3
    · rw [List.filter_cons_of_pos (by simpa using h3), List.filter_cons_of_neg (by simp; omega)]
      simp only [List.length_cons]; omega
    · rw [List.filter_cons_of_neg (by simp; omega), List.filter_cons_of_pos (by simpa using h3)]
      simp only [List.length_cons]; omega
theorem withP_len (l : List Nat) (n : Nat) : (n ∈ l ∧ withP l n = l) ∨ (withP l n).length = l.length + 1 := by
  by_cases h : n ∈ l
  · exact .inl ⟨h, by rw [withP, if_pos h]⟩
  · right
    have := two_filters l n h
    rw [withP, if_neg h]
    simp only [List.length_append, List.length_singleton]
    omega
theorem rising_len : ∀ (l : List Nat) (b N : Nat), Rising l → (∀ a ∈ l, b ≤ a ∧ a < N) → l.length ≤ N - b
  | [], b, N, _, _ => Nat.zero_le _
  | x :: l, b, N, h, hm => by
    unfold Rising at h
    rw [List.pairwise_cons] at h
    have h1 := hm x (List.mem_cons_self ..)
    have h2 := rising_len l (x + 1) N h.2 (fun a ha => ⟨h.1 a ha, (hm a (List.mem_cons_of_mem _ ha)).2⟩)
    simp only [List.length_cons]
    omega
structure CloI (x : Nf) (set out : List Nat) : Prop where
  ris : Rising out
  has : ∀ v ∈ set, v ∈ out
  only : ∀ v ∈ out, Rn x (· ∈ set) v
  lt : ∀ v ∈ out, v < x.n.toNat
theorem CloI.add {x : Nf} {set out : List Nat} (h : CloI x set out) {a b : Nat} (ha : a ∈ out) (hs : nstep x a b) (hb : b < x.n.toNat) : CloI x set (withP out b) :=
  ⟨withP_rising h.ris b, fun v hv => (withP_mem _ _ _).2 (.inl (h.has v hv)), fun v hv => ((withP_mem _ _ _).1 hv).elim (h.only v) (fun e => e ▸ .step (h.only a ha) hs), fun v hv => ((withP_mem _ _ _).1 hv).elim (h.lt v) (fun e => e ▸ hb)⟩
theorem CloI.len {x : Nf} {set out : List Nat} (h : CloI x set out) : out.length ≤ x.n.toNat := rising_len out 0 _ h.ris (fun a ha => ⟨Nat.zero_le _, h.lt a ha⟩)
/-- No edge so far leads out of it. -/
def Shut (x : Nf) (k : Nat) (out : List Nat) : Prop := ∀ j, j < k → ∀ e, x.es[j]? = some e → e.q = [] → ∀ a b : Nat, e.f = (a : Int) → e.t = (b : Int) → a ∈ out → b ∈ out
theorem Shut.all {x : Nf} {set out : List Nat} (h : Shut x x.es.length out) (hc : CloI x set out) (a : Nat) : a ∈ out ↔ Rn x (· ∈ set) a :=
  ⟨hc.only a, Rn.closed hc.has (fun a b ha ⟨e, he, hq, h1, h2⟩ => by
    obtain ⟨j, hj, rfl⟩ := List.getElem_of_mem he
    exact h j hj _ (List.getElem?_eq_getElem hj) hq a b h1 h2 ha)⟩
theorem Shut.next {x : Nf} {k : Nat} {out : List Nat} (h : Shut x k out) {e : Eg} (hk : x.es[k]? = some e) (h1 : e.q = [] → ∀ a b : Nat, e.f = (a : Int) → e.t = (b : Int) → a ∈ out → b ∈ out) : Shut x (k + 1) out := by
  intro j hj e' he'
  by_cases hjk : j < k
  · exact h j hjk e' he'
  · obtain rfl : j = k := by omega
    rw [hk] at he'
    cases he'
    exact h1
def slLen : Value → Nat
  | .slice _ n _ => n
  | _ => 0
/-- What a pass has come to. -/
structure PasI (x : Nf) (set o0 : List Nat) (k : Nat) (out : List Nat) : Prop where
  cl : CloI x set out
  le : o0.length ≤ out.length
  eq : out.length = o0.length → out = o0 ∧ Shut x k o0

set_option maxRecDepth 100000 in
set_option maxHeartbeats 4000000 in
theorem refClose_any (x : Nf) (p : NfL) (set : List Nat) (a : Option Addr) (cap : Nat) (w : World) (hx : NfAt w x p) (hl : linkB x = true) (hs : IntsN w a cap set) (hr : Rising set) (hlt : ∀ v ∈ set, v < x.n.toNat) :
    Calls Try.prog 37 #[.agg #[.int .i64 x.n, .int .i64 x.s, .slice p.ea x.ends.length p.ec, .slice p.ga x.es.length p.gc], .slice a set.length cap] w fun e w' => (∃ oa oc out, e = .returned (.slice oa out.length oc) ∧ IntsN w' oa oc out ∧ Rising out ∧ (∀ v, v ∈ out ↔ Rn x (· ∈ set) v) ∧ ∀ v ∈ out, v < x.n.toNat) ∧ Below w.heap.size w w' := by
  have hn : x.n.toNat ≤ 2000 := by
    unfold linkB at hl
    simp only [Bool.and_eq_true, decide_eq_true_eq] at hl
    omega
  have hC0 : CloI x set set := ⟨hr, fun _ h => h, fun _ h => .base h, hlt⟩
  have hsl := hC0.len
  have hsle := hs.le
  have hsmx := hs.max
  rw [List.length_map] at hsle
  have hG1 := hx.es.le
  have hG2 := hx.es.max
  have Hx := Lib.hid hx
  have HL := Lib.hid hl
  obtain ⟨ea, ec, ga, gc⟩ := p
  dsimp only at *
  obtain ⟨N, hN⟩ : ∃ N, Hid (x.n.toNat = N) := ⟨_, Lib.hid rfl⟩
  obtain ⟨E, hE⟩ : ∃ E, Hid (x.ends.length = E) := ⟨_, Lib.hid rfl⟩
  obtain ⟨G, hG⟩ : ∃ G, Hid (x.es.length = G) := ⟨_, Lib.hid rfl⟩
  obtain ⟨xn, hxn⟩ : ∃ n, Hid (x.n = n) := ⟨_, Lib.hid rfl⟩
  obtain ⟨xs, hxs⟩ : ∃ n, Hid (x.s = n) := ⟨_, Lib.hid rfl⟩
  rw [hN.out] at hn hsl
  rw [hG.out] at hG1
  have hA0 := Blk.new w 32 #[.int .i64 xn, .int .i64 xs, .slice ea E ec, .slice ga G gc]
  have hb0 : Below w.heap.size w (w.alloc (.cells #[.int .i64 xn, .int .i64 xs, .slice ea E ec, .slice ga G gc] 32)) := (Below.refl _ w).alloc (Nat.le_refl _) _
  obtain ⟨a1, c1, w1, hr1, ho1, hb1⟩ := run_appI (w.alloc (.cells #[.int .i64 xn, .int .i64 xs, .slice ea E ec, .slice ga G gc] 32)) 23 a cap set (hs.grown hb0) (by omega)
  have Hr1 := Lib.hid hr1
  have hA1 := hA0.below hb1 hA0.lt
  have hbw1 := hb0.trans (hb1.mono hb0.size)
  have hI1 : IntsN w1 a1 c1 set := ho1.ints
  have HC0 := Lib.hid hC0
  obtain ⟨S, hS⟩ : ∃ S, Hid (set.length = S) := ⟨_, Lib.hid rfl⟩
  have HI1 := Lib.hid hI1
  rw [hS.out] at Hr1
  have hP : ∀ (e : Ending) (w' : World), ((∃ oa oc out, e = .returned (.slice oa out.length oc) ∧ IntsN w' oa oc out ∧ Rising out ∧ (∀ v, v ∈ out ↔ Rn x (· ∈ set) v) ∧ ∀ v ∈ out, v < x.n.toNat) ∧ Below w.heap.size w w') = ((∃ oa oc out, e = .returned (.slice oa out.length oc) ∧ IntsN w' oa oc out ∧ Rising out ∧ (∀ v, v ∈ out ↔ Rn x (· ∈ set) v) ∧ ∀ v ∈ out, v < x.n.toNat) ∧ Below w.heap.size w w') := fun _ _ => rfl
  clear hP
  suffices hgoal : Calls Try.prog 37 #[.agg #[.int .i64 xn, .int .i64 xs, .slice ea E ec, .slice ga G gc], .slice a S cap] w fun e w' => ∃ oa oc out, e = .returned (.slice oa out.length oc) ∧ (IntsN w' oa oc out ∧ CloI x set out ∧ Shut x x.es.length out) ∧ Below w.heap.size w w' by
    rw [hxn.out, hxs.out, hE.out, hG.out, hS.out]
    exact hgoal.mono (fun e w' ⟨oa, oc, out, h1, ⟨h2, h3, h4⟩, h5⟩ => ⟨⟨oa, oc, out, h1, h2, h3.ris, h4.all h3, by rw [← hxn.out]; exact h3.lt⟩, h5⟩)
  rw [hG.out]
  clear hx hs hr hlt hl hC0 hr1 ho1 hb1 hb0 hA0 hI1
  obtain ⟨B1, hB1⟩ : ∃ n, Hid (w.heap.size = n) := ⟨_, Lib.hid rfl⟩
  rw [hB1.out] at hA1
  have HA1 := Lib.hid hA1
  have Hbw1 := Lib.hid hbw1
  clear hA1 hbw1
  go_enter Try.func37, Try.ntmps37
  go_wp2_with (at_builtin; refine wpList_append_run rfl _ _ 23 23 rfl _ _ _ _ rfl rfl Hr1.out ?_)
  simp only [hB1.out]
  go_loopw [5, 6, 8, 16] (fun ov _ _ _ wr => ∃ (ra : Option Addr) (rc : Nat) (out : List Nat), ov = .slice ra out.length rc ∧ (IntsN wr ra rc out ∧ CloI x set out) ∧ Below w.heap.size w wr ∧ Blk wr B1 32 [.int .i64 xn, .int .i64 xs, .slice ea E ec, .slice ga G gc]) (fun ov _ _ _ _ => N - slLen ov)
  case atStart => exact ⟨a1, c1, set, by rw [hS.out], ⟨HI1.out, HC0.out⟩, Hbw1.out, HA1.out⟩
  case round =>
    obtain ⟨ra, rc, o0, rfl, hIC, hbr, hA⟩ := hrel
    have HIC := Lib.hid hIC
    have Hbr := Lib.hid hbr
    have HA := Lib.hid hA
    have ho0 := hIC.2.len
    rw [hN.out] at ho0
    have x3 := hA.cell 3
    have xl := hA.lt
    simp only [List.getElem?_cons_zero, List.getElem?_cons_succ] at x3
    clear hIC hbr hA
    obtain ⟨O, hO⟩ : ∃ O, Hid (o0.length = O) := ⟨_, Lib.hid rfl⟩
    rw [hO.out] at ho0
    simp only [hO.out]
    have hOI : (O : Int) ≤ 2000 := by omega
    go_wp2_with (fail)
    go_loopw [5, 8, 16] (fun ov _ iv wr' => ∃ (k : Nat) (ra : Option Addr) (rc : Nat) (out : List Nat), k ≤ G ∧ iv = .int .i64 (k : Int) ∧ ov = .slice ra out.length rc ∧ (IntsN wr' ra rc out ∧ PasI x set o0 k out) ∧ Below w.heap.size w wr' ∧ Blk wr' B1 32 [.int .i64 xn, .int .i64 xs, .slice ea E ec, .slice ga G gc]) (fun _ _ iv _ => G - (intOf iv).toNat)
    case atStart => exact ⟨0, ra, rc, o0, Nat.zero_le _, rfl, by rw [hO.out], ⟨HIC.out.1, HIC.out.2, Nat.le_refl _, fun _ => ⟨rfl, fun j hj => by omega⟩⟩, Hbr.out, HA.out⟩
    case round =>
      obtain ⟨k, ra, rc, out, hk, rfl, rfl, hIP, hbr, hA⟩ := hrel
      have hol := hIP.2.cl.len
      rw [hN.out] at hol
      have hole := hIP.2.le
      rw [hO.out] at hole
      have hoc := hIP.1.le
      have hocm := hIP.1.max
      rw [List.length_map] at hoc
      have x3 := hA.cell 3
      have xl := hA.lt
      simp only [List.getElem?_cons_zero, List.getElem?_cons_succ] at x3
      by_cases hlt : k < G
      · have hkI : (k : Int) < (G : Int) := by omega
        have hkI0 : (0 : Int) ≤ (k : Int) := by omega
        have hkl : k < x.es.length := by rw [hG.out]; exact hlt
        obtain ⟨b, off, rfl⟩ := Hx.out.es.at_ k hkl
        obtain ⟨c0, c1, sa, sc, c2, hsp⟩ := ((Hx.out.es.grown hbr).cell b off rfl k hkl)
        obtain ⟨⟨f, hf, hfn⟩, ⟨t, ht, htn⟩⟩ := link_ends HL.out (List.getElem_mem hkl)
        have hek := List.getElem?_eq_getElem hkl
        obtain ⟨v, hv⟩ : ∃ v, Hid (x.es[k] = v) := ⟨_, Lib.hid rfl⟩
        rw [hv.out] at c0 c1 c2 hsp hf ht hek
        obtain ⟨ef, et, q⟩ := v
        dsimp only at c0 c1 c2 hsp hf ht
        subst hf ht
        have hbl := World.block_lt_of_cell? _ _ c0
        have hql : q.length ≤ sc ∧ sc ≤ 9223372036854775807 := ⟨hsp.le, hsp.max⟩
        have Hek := Lib.hid hek
        have HP := Lib.hid hIP.2
        have hbd := (Below.refl wr.heap.size wr).alloc (Nat.le_refl _) (.cells #[.int .i64 (f : Int), .int .i64 (t : Int), .slice sa q.length sc] 61)
        have HId := Lib.hid (hIP.1.grown hbd)
        have HB := Lib.hid (hbr.trans (hbd.mono hbr.size))
        have HAd := Lib.hid (hA.below hbd hA.lt)
        have hA5 := Blk.new wr 61 #[.int .i64 (f : Int), .int .i64 (t : Int), .slice sa q.length sc]
        obtain ⟨Q, hQ⟩ : ∃ Q, Hid (q.length = Q) := ⟨_, Lib.hid rfl⟩
        rw [hQ.out] at c2 hql hA5 HId HB HAd
        have Hfn := Lib.hid hfn
        have Htn := Lib.hid htn
        have hwf1 : (Lit.int .i64 (f : Int)).wf = true := WalkArith.wf_i64 (by rw [hN.out] at hfn; omega)
        have hwf2 : (Lit.int .i64 (t : Int)).wf = true := WalkArith.wf_i64 (by rw [hN.out] at htn; omega)
        have z0 := hA5.cell 0
        have z1 := hA5.cell 1
        have z2 := hA5.cell 2
        have zl := hA5.lt
        simp only [List.getElem?_cons_zero, List.getElem?_cons_succ] at z0 z1 z2
        have Hno : Hid (Q ≠ 0 ∨ f ∉ out → PasI x set o0 (k + 1) out) := Lib.hid (fun h => ⟨HP.out.cl, HP.out.le, fun he => by
          obtain ⟨e1, e2⟩ := HP.out.eq he
          refine ⟨e1, e2.next Hek.out (fun hq a b ha hb hm => ?_)⟩
          dsimp only at hq ha hb
          subst hq
          have h0 : Q = 0 := by rw [← hQ.out]; rfl
          have hfa : f = a := by omega
          subst hfa
          rw [← e1] at hm
          exact absurd hm (h.resolve_left (fun h => h h0))⟩)
        clear hek hfn htn hbd hbr hA hsp hIP hA5
        by_cases hq0 : Q = 0
        · subst hq0
          have HIn := Lib.hid (inI_any out ra rc f _ HId.out)
          obtain ⟨B, hB⟩ : ∃ B, Hid (decide (f ∈ out) = B) := ⟨_, Lib.hid rfl⟩
          rw [hB.out] at HIn
          obtain ⟨OL, hOL⟩ : ∃ n, Hid (out.length = n) := ⟨_, Lib.hid rfl⟩
          rw [hOL.out] at HIn hol hole hoc
          simp only [hOL.out]
          go_wp2_with (fail)
          refine HIn.out.mono ?_
          rintro e w5 ⟨rfl, rfl⟩
          cases B
          case false =>
            have HN := Lib.hid (Hno.out (.inr (of_decide_eq_false hB.out)))
            go_wp2_with (fail)
            exact ⟨⟨k + 1, ra, rc, out, by omega, by simp, by rw [hOL.out], ⟨HId.out, HN.out⟩, HB.out, HAd.out⟩, by simp [intOf]; omega⟩
          case true =>
            have HWi := Lib.hid (refWith_any out t ra rc _ HId.out (by rw [hOL.out]; omega) (by have := Htn.out; rw [hN.out] at this; omega) (fun v hv => by have := HP.out.cl.lt v hv; rw [hN.out] at this; omega))
            have HN : Hid (PasI x set o0 (k + 1) (withP out t)) := Lib.hid (by
              have hfo : f ∈ out := of_decide_eq_true hB.out
              have hq0 : q = [] := List.length_eq_zero_iff.1 hQ.out
              refine ⟨HP.out.cl.add hfo ⟨_, List.mem_of_getElem? Hek.out, hq0, rfl, rfl⟩ Htn.out, ?_, fun he => ?_⟩
              · have := HP.out.le
                rcases withP_len out t with ⟨_, h⟩ | h <;> rw [h] <;> omega
              · have h1 := HP.out.le
                rcases withP_len out t with ⟨hto, h⟩ | h
                · rw [h] at he ⊢
                  obtain ⟨e1, e2⟩ := HP.out.eq he
                  refine ⟨e1, e2.next Hek.out (fun _ a b ha hb _ => ?_)⟩
                  dsimp only at ha hb
                  have : t = b := by omega
                  rw [← e1, ← this]; exact hto
                · rw [h] at he; omega)
            rw [hOL.out] at HWi
            go_wp2_with (fail)
            refine HWi.out.mono ?_
            rintro e w6 ⟨⟨oa, oc, rfl, hi6⟩, hb6⟩
            have HI6 := Lib.hid hi6
            have HB6 := Lib.hid (HB.out.trans (hb6.mono HB.out.size))
            have HA6 := Lib.hid (HAd.out.below hb6 HAd.out.lt)
            clear hi6 hb6 HWi
            go_wp2_with (fail)
            exact ⟨⟨k + 1, oa, oc, withP out t, by omega, by simp, rfl, ⟨HI6.out, HN.out⟩, HB6.out, HA6.out⟩, by simp [intOf]; omega⟩
        · have hqI : ¬ (Q : Int) = 0 := by omega
          have HN := Lib.hid (Hno.out (.inl hq0))
          go_wp2_with (fail)
          exact ⟨⟨k + 1, ra, rc, out, by omega, by simp, rfl, ⟨HId.out, HN.out⟩, HB.out, HAd.out⟩, by simp [intOf]; omega⟩
      · obtain rfl : G = k := by omega
        have hkI : ¬ (G : Int) < (G : Int) := by omega
        have HIP := Lib.hid hIP
        have HB := Lib.hid hbr
        have HAd := Lib.hid hA
        obtain ⟨OL, hOL⟩ : ∃ n, Hid (out.length = n) := ⟨_, Lib.hid rfl⟩
        rw [hOL.out] at hol hole hoc
        simp only [hOL.out]
        clear hIP hbr hA x3 xl
        by_cases heq : OL = O
        · subst heq
          have HR : Hid (∃ oa oc out', Ending.returned (.slice ra OL rc) = .returned (.slice oa out'.length oc) ∧ (IntsN wr oa oc out' ∧ CloI x set out' ∧ Shut x G out') ∧ Below w.heap.size w wr) := Lib.hid ⟨ra, rc, out, by rw [hOL.out], ⟨HIP.out.1, HIP.out.2.cl, by
            obtain ⟨e1, e2⟩ := HIP.out.2.eq (by rw [hOL.out, hO.out])
            rw [e1]; exact e2⟩, HB.out⟩
          go_wp2_with (fail)
          exact bodyPost_ret (v := .slice ra OL rc) (by simp [results, Try.results37, go_sem]; try rfl) rfl HR.out
        · have hqI : ¬ (OL : Int) = (O : Int) := by omega
          go_wp2_with (fail)
          exact ⟨⟨ra, rc, out, by rw [hOL.out], ⟨HIP.out.1, HIP.out.2.cl⟩, HB.out, HAd.out⟩, by simp [slLen]; omega⟩
end Go.Proofs.Ytngbfjimmdkfeaa

namespace Go.Proofs.Ytngbfjimmdkfeaa
open Go.RowKit Go.Shelf

attribute [local go_sem] Oper.semAt_some

/-- What the edges so far lead to. -/
structure LedTo (x : Nf) (c : Nat) (s1 : List Nat) (k : Nat) (out : List Nat) : Prop where
  ris : Rising out
  lt : ∀ v ∈ out, v < x.n.toNat
  only : ∀ v ∈ out, ∃ a ∈ s1, bstep x c a v
  has : ∀ j, j < k → ∀ e, x.es[j]? = some e → inSp e.q c = true → ∀ a b : Nat, e.f = (a : Int) → e.t = (b : Int) → a ∈ s1 → b ∈ out
theorem LedTo.all {x : Nf} {c : Nat} {s1 out : List Nat} (h : LedTo x c s1 x.es.length out) (v : Nat) : v ∈ out ↔ ∃ a ∈ s1, bstep x c a v :=
  ⟨h.only v, fun ⟨a, ha, e, he, hq, h1, h2⟩ => by
    obtain ⟨j, hj, rfl⟩ := List.getElem_of_mem he
    exact h.has j hj _ (List.getElem?_eq_getElem hj) hq a v h1 h2 ha⟩
theorem LedTo.skip {x : Nf} {c : Nat} {s1 out : List Nat} {k : Nat} (h : LedTo x c s1 k out) {e : Eg} (hk : x.es[k]? = some e) (h1 : inSp e.q c = true → ∀ a b : Nat, e.f = (a : Int) → e.t = (b : Int) → a ∈ s1 → b ∈ out) : LedTo x c s1 (k + 1) out :=
  ⟨h.ris, h.lt, h.only, fun j hj e' he' => by
    by_cases hjk : j < k
    · exact h.has j hjk e' he'
    · obtain rfl : j = k := by omega
      rw [hk] at he'
      cases he'
      exact h1⟩
theorem LedTo.add {x : Nf} {c : Nat} {s1 out : List Nat} {k : Nat} (h : LedTo x c s1 k out) {e : Eg} (hk : x.es[k]? = some e) {a b : Nat} (hq : inSp e.q c = true) (hf : e.f = (a : Int)) (ht : e.t = (b : Int)) (ha : a ∈ s1) (hb : b < x.n.toNat) : LedTo x c s1 (k + 1) (withP out b) :=
  LedTo.skip ⟨withP_rising h.ris b, fun v hv => ((withP_mem _ _ _).1 hv).elim (h.lt v) (fun e => e ▸ hb), fun v hv => ((withP_mem _ _ _).1 hv).elim (h.only v) (fun e' => e' ▸ ⟨a, ha, e, List.mem_of_getElem? hk, hq, hf, ht⟩), fun j hj e he hq a b h1 h2 h3 => (withP_mem _ _ _).2 (.inl (h.has j hj e he hq a b h1 h2 h3))⟩ hk (fun _ a' b' _ h2 _ => (withP_mem _ _ _).2 (.inr (by omega)))

set_option maxRecDepth 100000 in
set_option maxHeartbeats 4000000 in
theorem refStep_any (x : Nf) (p : NfL) (set : List Nat) (a : Option Addr) (cap c : Nat) (w : World) (hx : NfAt w x p) (hl : linkB x = true) (hs : IntsN w a cap set) (hr : Rising set) (hlt : ∀ v ∈ set, v < x.n.toNat) (hc : c < 256) :
    Calls Try.prog 38 #[.agg #[.int .i64 x.n, .int .i64 x.s, .slice p.ea x.ends.length p.ec, .slice p.ga x.es.length p.gc], .slice a set.length cap, .int .u8 (c : Int)] w fun e w' => ∃ oa oc out, e = .returned (.slice oa out.length oc) ∧ (IntsN w' oa oc out ∧ Rising out ∧ (∀ v, v ∈ out ↔ Rn x (fun b => ∃ a, Rn x (· ∈ set) a ∧ bstep x c a b) v) ∧ ∀ v ∈ out, v < x.n.toNat) ∧ Below w.heap.size w w' := by
  have hn : x.n.toNat ≤ 2000 := by
    unfold linkB at hl
    simp only [Bool.and_eq_true, decide_eq_true_eq] at hl
    omega
  have hG1 := hx.es.le
  have hG2 := hx.es.max
  have Hx := Lib.hid hx
  have HL := Lib.hid hl
  have HCl := Lib.hid (fun (W : World) (s : List Nat) (sa : Option Addr) (sc : Nat) (h1 : NfAt W x p) (h2 : IntsN W sa sc s) (h3 : Rising s) (h4 : ∀ v ∈ s, v < x.n.toNat) => refClose_any x p s sa sc W h1 hl h2 h3 h4)
  obtain ⟨ea, ec, ga, gc⟩ := p
  dsimp only at *
  have hb0 : Below w.heap.size w (w.alloc (.cells #[.int .i64 x.n, .int .i64 x.s, .slice ea x.ends.length ec, .slice ga x.es.length gc] 32)) := (Below.refl _ w).alloc (Nat.le_refl _) _
  have HC1 := Lib.hid (HCl.out _ set a cap (hx.grown hb0) (hs.grown hb0) hr hlt)
  obtain ⟨N, hN⟩ : ∃ N, Hid (x.n.toNat = N) := ⟨_, Lib.hid rfl⟩
  obtain ⟨E, hE⟩ : ∃ E, Hid (x.ends.length = E) := ⟨_, Lib.hid rfl⟩
  obtain ⟨G, hG⟩ : ∃ G, Hid (x.es.length = G) := ⟨_, Lib.hid rfl⟩
  obtain ⟨xn, hxn⟩ : ∃ n, Hid (x.n = n) := ⟨_, Lib.hid rfl⟩
  obtain ⟨xs, hxs⟩ : ∃ n, Hid (x.s = n) := ⟨_, Lib.hid rfl⟩
  obtain ⟨S, hS⟩ : ∃ S, Hid (set.length = S) := ⟨_, Lib.hid rfl⟩
  have hcI : (c : Int) ≤ 255 := by omega
  have hcI0 : (0 : Int) ≤ (c : Int) := by omega
  obtain ⟨T, hT⟩ : ∃ T : List Nat → Prop, Hid (T = fun out => Rising out ∧ (∀ v, v ∈ out ↔ Rn x (fun b => ∃ a, Rn x (· ∈ set) a ∧ bstep x c a b) v) ∧ ∀ v ∈ out, v < x.n.toNat) := ⟨_, Lib.hid rfl⟩
  suffices hgoal : Calls Try.prog 38 #[.agg #[.int .i64 xn, .int .i64 xs, .slice ea E ec, .slice ga G gc], .slice a S cap, .int .u8 (c : Int)] w fun e w' => ∃ oa oc out, e = .returned (.slice oa out.length oc) ∧ (IntsN w' oa oc out ∧ T out) ∧ Below w.heap.size w w' by
    rw [hS.out, ← hxn.out, ← hxs.out, ← hE.out, ← hG.out, hT.out] at *
    exact hgoal
  rw [hN.out] at hn
  rw [hG.out] at hG1
  rw [hE.out, hG.out, hxn.out, hxs.out, hS.out] at HC1
  rw [hE.out, hG.out, hxn.out, hxs.out] at hb0 HCl
  have hA0 := Blk.new w 32 #[.int .i64 xn, .int .i64 xs, .slice ea E ec, .slice ga G gc]
  have x0 := hA0.cell 0
  have x1 := hA0.cell 1
  have x2 := hA0.cell 2
  have x3 := hA0.cell 3
  have xl := hA0.lt
  simp only [List.getElem?_cons_zero, List.getElem?_cons_succ] at x0 x1 x2 x3
  clear hx hs hr hlt hl
  go_enter Try.func38, Try.ntmps38
  go_wp2_with (fail)
  refine HC1.out.mono ?_
  rintro e w1 ⟨⟨sa1, sc1, s1, rfl, hi1, hr1, hm1, hl1⟩, hb1⟩
  have hm1' : ∀ v ∈ s1, v < N := fun v hv => by have := hl1 v hv; rw [← hxn.out, hN.out] at this; exact this
  have hs1l : s1.length ≤ N := rising_len s1 0 N hr1 (fun v hv => ⟨Nat.zero_le _, hm1' v hv⟩)
  have hA1 := hA0.below hb1 hA0.lt
  have hbw1 := hb0.trans (hb1.mono hb0.size)
  have Hm1 := Lib.hid hm1
  have Hi1 := Lib.hid hi1
  have HA1 := Lib.hid hA1
  have Hbw1 := Lib.hid hbw1
  have hi1l := hi1.le
  have hi1m := hi1.max
  rw [List.length_map] at hi1l
  clear x0 x1 x2 x3 xl hA0 hb0 hb1 HC1 hi1 hr1 hm1 hl1 hA1 hbw1 hm1'
  obtain ⟨B1, hB1⟩ : ∃ n, Hid (w.heap.size = n) := ⟨_, Lib.hid rfl⟩
  rw [hB1.out] at HA1
  obtain ⟨S1, hS1⟩ : ∃ n, Hid (s1.length = n) := ⟨_, Lib.hid rfl⟩
  rw [hS1.out] at hi1l hs1l
  simp only [hB1.out, hS1.out]
  have x3 := HA1.out.cell 3
  have xl := HA1.out.lt
  simp only [List.getElem?_cons_zero, List.getElem?_cons_succ] at x3
  go_wp2_with (fail)
  go_loopw [7, 9, 16] (fun ov _ iv wr' => ∃ (k : Nat) (ra : Option Addr) (rc : Nat) (out : List Nat), k ≤ G ∧ iv = .int .i64 (k : Int) ∧ ov = .slice ra out.length rc ∧ (IntsN wr' ra rc out ∧ LedTo x c s1 k out) ∧ Below w1.heap.size w1 wr') (fun _ _ iv _ => G - (intOf iv).toNat)
  case atStart => exact ⟨0, none, 0, [], Nat.zero_le _, rfl, rfl, ⟨Ints.nil _, List.Pairwise.nil, fun v h => (by cases h), fun v h => (by cases h), fun j hj => by omega⟩, Below.refl _ _⟩
  case round =>
    obtain ⟨k, ra, rc, out, hk, rfl, rfl, hIP, hbr⟩ := hrel
    have hol := rising_len out 0 _ hIP.2.ris (fun v hv => ⟨Nat.zero_le _, hIP.2.lt v hv⟩)
    rw [hN.out] at hol
    have hoc := hIP.1.le
    have hocm := hIP.1.max
    rw [List.length_map] at hoc
    have Hbw := Lib.hid (Hbw1.out.trans (hbr.mono Hbw1.out.size))
    have hA := HA1.out.below hbr HA1.out.lt
    clear x3 xl
    have x0 := hA.cell 0
    have x1 := hA.cell 1
    have x2 := hA.cell 2
    have x3 := hA.cell 3
    have xl := hA.lt
    simp only [List.getElem?_cons_zero, List.getElem?_cons_succ] at x0 x1 x2 x3
    by_cases hlt : k < G
    · have hkI : (k : Int) < (G : Int) := by omega
      have hkI0 : (0 : Int) ≤ (k : Int) := by omega
      have hkl : k < x.es.length := by rw [hG.out]; exact hlt
      obtain ⟨b, off, rfl⟩ := Hx.out.es.at_ k hkl
      obtain ⟨c0, c1, sa, sc, c2, hsp⟩ := ((Hx.out.es.grown Hbw.out).cell b off rfl k hkl)
      obtain ⟨⟨f, hf, hfn⟩, ⟨t, ht, htn⟩⟩ := link_ends HL.out (List.getElem_mem hkl)
      have hek := List.getElem?_eq_getElem hkl
      obtain ⟨v, hv⟩ : ∃ v, Hid (x.es[k] = v) := ⟨_, Lib.hid rfl⟩
      rw [hv.out] at c0 c1 c2 hsp hf ht hek
      obtain ⟨ef, et, q⟩ := v
      dsimp only at c0 c1 c2 hsp hf ht
      subst hf ht
      have hbl := World.block_lt_of_cell? _ _ c0
      have hql : q.length ≤ sc ∧ sc ≤ 9223372036854775807 := ⟨hsp.le, hsp.max⟩
      have Hek := Lib.hid hek
      have HP := Lib.hid hIP.2
      have hbd := (Below.refl wr.heap.size wr).alloc (Nat.le_refl _) (.cells #[.int .i64 (f : Int), .int .i64 (t : Int), .slice sa q.length sc] 61)
      have HId := Lib.hid (hIP.1.grown hbd)
      have HB := Lib.hid (hbr.trans (hbd.mono hbr.size))
      have HIn := Lib.hid (in_any sa sc q c hc _ (hsp.grown hbd))
      have hA5 := Blk.new wr 61 #[.int .i64 (f : Int), .int .i64 (t : Int), .slice sa q.length sc]
      obtain ⟨Q, hQ⟩ : ∃ Q, Hid (q.length = Q) := ⟨_, Lib.hid rfl⟩
      obtain ⟨OL, hOL⟩ : ∃ n, Hid (out.length = n) := ⟨_, Lib.hid rfl⟩
      obtain ⟨C, hC⟩ : ∃ C, Hid (inSp q c = C) := ⟨_, Lib.hid rfl⟩
      rw [hQ.out] at c2 hql hA5 HId HB HIn
      rw [hC.out] at HIn
      rw [hOL.out] at hol hoc
      simp only [hOL.out]
      have Htn := Lib.hid htn
      have hwf1 : (Lit.int .i64 (f : Int)).wf = true := WalkArith.wf_i64 (by rw [hN.out] at hfn; omega)
      have hwf2 : (Lit.int .i64 (t : Int)).wf = true := WalkArith.wf_i64 (by rw [hN.out] at htn; omega)
      have z0 := hA5.cell 0
      have z1 := hA5.cell 1
      have z2 := hA5.cell 2
      have zl := hA5.lt
      simp only [List.getElem?_cons_zero, List.getElem?_cons_succ] at z0 z1 z2
      have HA5 := Lib.hid hA5
      clear hek hfn htn hbd hbr hA hsp hIP hA5
      go_wp2_with (fail)
      refine HIn.out.mono ?_
      rintro e w5 ⟨rfl, hb5⟩
      have HI5 := Lib.hid (HId.out.grown hb5)
      have HB5 := Lib.hid (HB.out.trans (hb5.mono HB.out.size))
      have hA6 := HA5.out.below hb5 HA5.out.lt
      clear z0 z1 z2 zl hb5 HIn
      have z0 := hA6.cell 0
      have z1 := hA6.cell 1
      have z2 := hA6.cell 2
      have zl := hA6.lt
      simp only [List.getElem?_cons_zero, List.getElem?_cons_succ] at z0 z1 z2
      cases C
      case false =>
        have HN : Hid (LedTo x c s1 (k + 1) out) := Lib.hid (HP.out.skip Hek.out (fun h => by have := hC.out; dsimp only at h; rw [this] at h; cases h))
        clear hA6
        go_wp2_with (fail)
        exact ⟨⟨k + 1, ra, rc, out, by omega, by simp, by rw [hOL.out], ⟨HI5.out, HN.out⟩, HB5.out⟩, by simp [intOf]; omega⟩
      case true =>
        have HIi := Lib.hid (inI_any s1 sa1 sc1 f w5 (Hi1.out.grown HB5.out))
        obtain ⟨B, hB⟩ : ∃ B, Hid (decide (f ∈ s1) = B) := ⟨_, Lib.hid rfl⟩
        rw [hB.out, hS1.out] at HIi
        clear hA6
        go_wp2_with (fail)
        refine HIi.out.mono ?_
        rintro e w6 ⟨rfl, rfl⟩
        cases B
        case false =>
          have HN : Hid (LedTo x c s1 (k + 1) out) := Lib.hid (HP.out.skip Hek.out (fun _ a b ha _ hm => by
            dsimp only at ha
            have : f = a := by omega
            subst this
            exact absurd hm (of_decide_eq_false hB.out)))
          go_wp2_with (fail)
          exact ⟨⟨k + 1, ra, rc, out, by omega, by simp, by rw [hOL.out], ⟨HI5.out, HN.out⟩, HB5.out⟩, by simp [intOf]; omega⟩
        case true =>
          have HWi := Lib.hid (refWith_any out t ra rc _ HI5.out (by rw [hOL.out]; omega) (by have := Htn.out; rw [hN.out] at this; omega) (fun v hv => by have := HP.out.lt v hv; rw [hN.out] at this; omega))
          have HN : Hid (LedTo x c s1 (k + 1) (withP out t)) := Lib.hid (HP.out.add Hek.out hC.out rfl rfl (of_decide_eq_true hB.out) Htn.out)
          rw [hOL.out] at HWi
          go_wp2_with (fail)
          refine HWi.out.mono ?_
          rintro e w7 ⟨⟨oa, oc, rfl, hi6⟩, hb6⟩
          have HI6 := Lib.hid hi6
          have HB6 := Lib.hid (HB5.out.trans (hb6.mono HB5.out.size))
          clear hi6 hb6 HWi
          go_wp2_with (fail)
          exact ⟨⟨k + 1, oa, oc, withP out t, by omega, by simp, rfl, ⟨HI6.out, HN.out⟩, HB6.out⟩, by simp [intOf]; omega⟩
    · obtain rfl : G = k := by omega
      have hkI : ¬ (G : Int) < (G : Int) := by omega
      have HC2 := Lib.hid (HCl.out wr out ra rc (Hx.out.grown Hbw.out) hIP.1 hIP.2.ris (fun v hv => by rw [← hxn.out]; exact hIP.2.lt v hv))
      have HP := Lib.hid hIP.2
      obtain ⟨OL, hOL⟩ : ∃ n, Hid (out.length = n) := ⟨_, Lib.hid rfl⟩
      rw [hOL.out] at hol hoc HC2
      simp only [hOL.out]
      clear hIP hbr hA
      go_wp2_with (fail)
      refine HC2.out.mono ?_
      rintro e w8 ⟨⟨oa, oc, o2, rfl, hi8, hr8, hm8, hl8⟩, hb8⟩
      have HR : Hid (∃ oa' oc' out', Ending.returned (.slice oa o2.length oc) = .returned (.slice oa' out'.length oc') ∧ (IntsN w8 oa' oc' out' ∧ T out') ∧ Below w.heap.size w w8) := Lib.hid ⟨oa, oc, o2, rfl, ⟨hi8, by
        rw [hT.out]
        refine ⟨hr8, fun v => ?_, fun v hv => by rw [hxn.out]; exact hl8 v hv⟩
        rw [hm8 v]
        refine Rn.congr (fun b => ?_) v
        have h9 := HP.out
        rw [← hG.out] at h9
        rw [h9.all b]
        exact ⟨fun ⟨a, h1, h2⟩ => ⟨a, (Hm1.out a).1 h1, h2⟩, fun ⟨a, h1, h2⟩ => ⟨a, (Hm1.out a).2 h1, h2⟩⟩⟩, Hbw.out.trans (hb8.mono Hbw.out.size)⟩
      clear hi8 hr8 hm8 hl8 hb8 HC2
      go_wp2_with (fail)
      exact bodyPost_ret (v := .slice oa o2.length oc) (by simp [results, Try.results38, go_sem]; try rfl) rfl HR.out
end Go.Proofs.Ytngbfjimmdkfeaa

namespace Go.Proofs.Ytngbfjimmdkfeaa
open Go.RowKit Go.Shelf

attribute [local go_sem] Oper.semAt_some

theorem rcs_snoc {x : Nf} : ∀ (r : List UInt8) (c : UInt8) (S : Nat → Prop) (v : Nat), RcS x (r ++ [c]) S v ↔ Rn x (fun b => ∃ a, RcS x r S a ∧ bstep x c.toNat a b) v
  | [], c, S, v => Iff.rfl
  | d :: r, c, S, v => rcs_snoc r c _ v
/-- What the bytes so far lead to. -/
structure RunAt (x : Nf) (s : List UInt8) (k : Nat) (out : List Nat) : Prop where
  ris : Rising out
  lt : ∀ v ∈ out, v < x.n.toNat
  iff : ∀ v, v ∈ out ↔ RcS x (s.take k) (Rn x (fun a => (a : Int) = x.s)) v
theorem RunAt.next {x : Nf} {s : List UInt8} {k : Nat} {out o2 : List Nat} (h : RunAt x s k out) (hk : k < s.length) (h1 : Rising o2) (h2 : ∀ v ∈ o2, v < x.n.toNat) (h3 : ∀ v, v ∈ o2 ↔ Rn x (fun b => ∃ a, Rn x (· ∈ out) a ∧ bstep x s[k].toNat a b) v) (hcl : ∀ a, Rn x (· ∈ out) a ↔ a ∈ out) : RunAt x s (k + 1) o2 :=
  ⟨h1, h2, fun v => by
    rw [h3 v, List.take_add_one, List.getElem?_eq_getElem hk]
    show _ ↔ RcS x (s.take k ++ [s[k]]) _ v
    rw [rcs_snoc]
    refine Rn.congr (fun b => ⟨fun ⟨a, ha, hb⟩ => ⟨a, (h.iff a).1 ((hcl a).1 ha), hb⟩, fun ⟨a, ha, hb⟩ => ⟨a, (hcl a).2 ((h.iff a).2 ha), hb⟩⟩) v⟩
theorem rcs_shut {x : Nf} : ∀ (r : List UInt8) {S : Nat → Prop}, (∀ a b, S a → nstep x a b → S b) → ∀ a b, RcS x r S a → nstep x a b → RcS x r S b
  | [], _, h => h
  | _ :: r, _, _ => rcs_shut r (fun _ _ h1 h2 => .step h1 h2)
theorem RunAt.shut {x : Nf} {s : List UInt8} {k : Nat} {out : List Nat} (h : RunAt x s k out) (a : Nat) : Rn x (· ∈ out) a ↔ a ∈ out :=
  ⟨fun ha => Rn.closed (C := (· ∈ out)) (fun _ h => h) (fun a b h1 h2 => (h.iff b).2 (rcs_shut _ (fun _ _ h1 h2 => .step h1 h2) a b ((h.iff a).1 h1) h2)) ha, .base⟩

end Go.Proofs.Ytngbfjimmdkfeaa

