/- Texts joined: Bs Bt Ij Id. -/
import Derived.Test.YtiopbjgpaidemaaJAc
import Derived.Test.YtiopbjgpaidemaaJAb
import Derived.Test.YtiopbjgpaidemaaJAa
set_option linter.unusedVariables false
set_option linter.unusedSimpArgs false
namespace Go.Proofs.Ytiopbjgpaidemaa
open Go.RowKit

/-- A sentence comes from this name. -/
inductive Fert (rs : List Rl) (ts : List ByteArray) : ByteArray → Prop
  | tok {s : ByteArray} : s ∈ ts → Fert rs ts s
  | rule {r : Rl} {a : List ByteArray} : r ∈ rs → a ∈ r.2 → (∀ n ∈ a, Fert rs ts n) → Fert rs ts r.1
theorem pre_altStep (nm : ByteArray) (o a : List ByteArray) : Pre o (altStep nm o a) := by
  unfold altStep
  split
  · exact ⟨[nm], rfl⟩
  · exact Pre.refl o
theorem pre_alts (nm : ByteArray) : ∀ (l : List (List ByteArray)) (o : List ByteArray), Pre o (altsP nm l o)
  | [], o => Pre.refl o
  | a :: l, o => (pre_altStep nm o a).trans (pre_alts nm l (altStep nm o a))
theorem pre_pass : ∀ (rs : List Rl) (o : List ByteArray), Pre o (passP rs o)
  | [], o => Pre.refl o
  | r :: rs, o => (pre_alts r.1 r.2 o).trans (pre_pass rs (altsP r.1 r.2 o))
theorem pre_anti {o p : List ByteArray} (h : Pre o p) (k : Pre p o) : p = o := by
  obtain ⟨t, rfl⟩ := h
  obtain ⟨u, e⟩ := k
  have h1 := congrArg List.length e
  rw [List.length_append, List.length_append] at h1
  have ht : t = [] := List.length_eq_zero_iff.1 (by omega)
  rw [ht, List.append_nil]
theorem pre_mem {o p : List ByteArray} (h : Pre o p) {x : ByteArray} (hx : x ∈ o) : x ∈ p := by
  obtain ⟨t, rfl⟩ := h
  exact List.mem_append_left _ hx
/-- Nothing comes anew. -/
def Cl (rs : List Rl) (o : List ByteArray) : Prop := ∀ r ∈ rs, ∀ a ∈ r.2, (∀ n ∈ a, n ∈ o) → r.1 ∈ o
theorem altStep_same {nm : ByteArray} {o a : List ByteArray} (h : altStep nm o a = o) (ha : ∀ n ∈ a, n ∈ o) : nm ∈ o := by
  unfold altStep at h
  split at h
  · have := congrArg List.length h
    simp at this
  · rename_i h2
    have h3 : a.all (fun n => mem n o) = true := List.all_eq_true.2 (fun n hn => mem_iff.2 (ha n hn))
    rw [h3] at h2
    simp at h2
    exact mem_iff.1 h2
theorem alts_same {nm : ByteArray} : ∀ {l : List (List ByteArray)} {o : List ByteArray}, altsP nm l o = o → ∀ a ∈ l, (∀ n ∈ a, n ∈ o) → nm ∈ o
  | [], _, _, _, h, _ => by cases h
  | b :: l, o, e, a, h, ha => by
    have e1 : altStep nm o b = o := pre_anti (pre_altStep nm o b) (by
      have := pre_alts nm l (altStep nm o b)
      rw [show altsP nm l (altStep nm o b) = o from e] at this
      exact this)
    have e2 : altsP nm l o = o := by
      have : altsP nm l (altStep nm o b) = o := e
      rwa [e1] at this
    rcases List.mem_cons.1 h with rfl | h
    · exact altStep_same e1 ha
    · exact alts_same e2 a h ha
theorem pass_same : ∀ {rs : List Rl} {o : List ByteArray}, passP rs o = o → Cl rs o
  | [], _, _, _, h, _, _, _ => by cases h
  | q :: rs, o, e, r, h, a, hm, ha => by
    have e1 : altsP q.1 q.2 o = o := pre_anti (pre_alts q.1 q.2 o) (by
      have := pre_pass rs (altsP q.1 q.2 o)
      rw [show passP rs (altsP q.1 q.2 o) = o from e] at this
      exact this)
    have e2 : passP rs o = o := by
      have : passP rs (altsP q.1 q.2 o) = o := e
      rwa [e1] at this
    rcases List.mem_cons.1 h with rfl | h
    · exact alts_same e1 a hm ha
    · exact pass_same e2 r h a hm ha
theorem cl_fert {rs : List Rl} {ts o : List ByteArray} (hc : Cl rs o) (ht : ∀ s ∈ ts, s ∈ o) {s : ByteArray} (h : Fert rs ts s) : s ∈ o := by
  induction h with
  | tok h => exact ht _ h
  | rule h1 h2 _ ih => exact hc _ h1 _ h2 ih
/-- What comes to be known: tokens, and names of rules, each of these once. -/
def Grow (rs : List Rl) (ts o : List ByteArray) : Prop := ∃ t, o = ts ++ t ∧ t.Nodup ∧ (∀ x ∈ t, x ∈ rs.map Prod.fst) ∧ ∀ x ∈ o, Fert rs ts x
theorem grow_step {rs : List Rl} {ts o : List ByteArray} (h : Grow rs ts o) {r : Rl} (hr : r ∈ rs) {a : List ByteArray} (ha : a ∈ r.2) : Grow rs ts (altStep r.1 o a) := by
  unfold altStep
  split
  · rename_i hc
    simp only [Bool.and_eq_true, List.all_eq_true, Bool.not_eq_true'] at hc
    obtain ⟨t, rfl, h1, h2, h3⟩ := h
    have hn : r.1 ∉ ts ++ t := fun e => by have := mem_iff.2 e; rw [this] at hc; exact absurd hc.2 (by simp)
    have hf : Fert rs ts r.1 := .rule hr ha (fun n hn => h3 n (mem_iff.1 (hc.1 n hn)))
    refine ⟨t ++ [r.1], by rw [List.append_assoc], List.nodup_append.2 ⟨h1, by simp, fun x hx y hy e => hn ?_⟩, fun x hx => ?_, fun x hx => ?_⟩
    · rw [List.mem_singleton] at hy
      rw [← hy, ← e]
      exact List.mem_append_right _ hx
    · rcases List.mem_append.1 hx with hx | hx
      · exact h2 x hx
      · rw [List.mem_singleton] at hx
        rw [hx]
        exact List.mem_map_of_mem hr
    · rcases List.mem_append.1 hx with hx | hx
      · exact h3 x hx
      · rw [List.mem_singleton] at hx
        rw [hx]
        exact hf
  · exact h
theorem grow_alts {rs : List Rl} {ts : List ByteArray} {r : Rl} (hr : r ∈ rs) : ∀ (l : List (List ByteArray)) (o : List ByteArray), Grow rs ts o → (∀ a ∈ l, a ∈ r.2) → Grow rs ts (altsP r.1 l o)
  | [], _, h, _ => h
  | a :: l, o, h, hl => grow_alts hr l (altStep r.1 o a) (grow_step h hr (hl a List.mem_cons_self)) (fun b hb => hl b (List.mem_cons_of_mem _ hb))
theorem grow_pass {rs : List Rl} {ts : List ByteArray} : ∀ (l : List Rl) (o : List ByteArray), Grow rs ts o → (∀ r ∈ l, r ∈ rs) → Grow rs ts (passP l o)
  | [], _, h, _ => h
  | r :: l, o, h, hl => grow_pass l (altsP r.1 r.2 o) (grow_alts (hl r List.mem_cons_self) r.2 o h (fun _ h => h)) (fun b hb => hl b (List.mem_cons_of_mem _ hb))
theorem grow_fert (rs : List Rl) (ts : List ByteArray) : ∀ k, Grow rs ts (fertN rs ts k)
  | 0 => ⟨[], by simp [fertN], List.nodup_nil, fun x h => (by cases h), fun x h => .tok h⟩
  | k + 1 => grow_pass rs _ (grow_fert rs ts k) (fun _ h => h)
theorem fert_stop {rs : List Rl} {ts : List ByteArray} {k : Nat} (h : fertN rs ts (k + 1) = fertN rs ts k) : ∀ j, fertN rs ts (k + j) = fertN rs ts k
  | 0 => rfl
  | j + 1 => by
    show passP rs (fertN rs ts (k + j)) = _
    rw [fert_stop h j]
    exact h
theorem fert_grows (rs : List Rl) (ts : List ByteArray) : ∀ k, (∃ j, j < k ∧ fertN rs ts (j + 1) = fertN rs ts j) ∨ ts.length + k ≤ (fertN rs ts k).length
  | 0 => .inr (by simp [fertN])
  | k + 1 => by
    rcases fert_grows rs ts k with ⟨j, h1, h2⟩ | h
    · exact .inl ⟨j, by omega, h2⟩
    · by_cases e : fertN rs ts (k + 1) = fertN rs ts k
      · exact .inl ⟨k, by omega, e⟩
      · refine .inr ?_
        obtain ⟨t, ht⟩ := pre_pass rs (fertN rs ts k)
        have ht2 : fertN rs ts (k + 1) = fertN rs ts k ++ t := ht
        rw [ht2, List.length_append]
        have : t ≠ [] := fun e0 => e (by rw [ht2, e0, List.append_nil])
        have := List.length_pos_iff.2 this
        omega
/-- Behind as many passes as there are rules nothing comes anew. -/
theorem fert_cl (rs : List Rl) (ts : List ByteArray) : Cl rs (fertN rs ts rs.length) := by
  rcases fert_grows rs ts rs.length with ⟨j, h1, h2⟩ | h
  · have h3 := fert_stop h2 (rs.length - j)
    rw [show j + (rs.length - j) = rs.length by omega] at h3
    rw [h3]
    exact pass_same h2
  · obtain ⟨t, e, hn, hs, _⟩ := grow_fert rs ts rs.length
    rw [e, List.length_append] at h
    intro r hr a _ _
    rw [e]
    refine List.mem_append_right _ ?_
    refine Classical.byContradiction (fun hc => ?_)
    have := nodup_sub (r.1 :: t) (rs.map Prod.fst) (List.nodup_cons.2 ⟨hc, hn⟩) (fun x hx => by
      rcases List.mem_cons.1 hx with rfl | hx
      · exact List.mem_map_of_mem hr
      · exact hs x hx)
    simp at this
    omega
/-- **The reference's fertile names are those from which a sentence comes.** -/
theorem fertN_is (rs : List Rl) (ts : List ByteArray) (s : ByteArray) : mem s (fertN rs ts rs.length) = true ↔ Fert rs ts s := by
  rw [mem_iff]
  constructor
  · obtain ⟨_, _, _, _, h⟩ := grow_fert rs ts rs.length
    exact h s
  · refine cl_fert (fert_cl rs ts) (fun x hx => ?_)
    obtain ⟨t, e, _⟩ := grow_fert rs ts rs.length
    rw [e]
    exact List.mem_append_left _ hx
end Go.Proofs.Ytiopbjgpaidemaa

namespace Go.Proofs.Ytiopbjgpaidemaa
open Go.RowKit

/-- The first name leads to this one. -/
inductive Lead (rs : List Rl) (f : ByteArray) : ByteArray → Prop
  | base : Lead rs f f
  | step {r : Rl} {a : List ByteArray} {n : ByteArray} : Lead rs f r.1 → r ∈ rs → a ∈ r.2 → n ∈ a → Lead rs f n
theorem addS_mem {o : List ByteArray} {n x : ByteArray} : x ∈ addS o n ↔ x ∈ o ∨ x = n := by
  unfold addS
  split
  · rename_i h
    have h1 := mem_iff.1 h
    constructor
    · exact .inl
    · rintro (h | rfl)
      · exact h
      · exact h1
  · simp
theorem addAll_mem : ∀ {l o : List ByteArray} {x : ByteArray}, x ∈ addAll l o ↔ x ∈ o ∨ x ∈ l
  | [], o, x => by simp [addAll]
  | n :: l, o, x => by
    have e : addAll (n :: l) o = addAll l (addS o n) := rfl
    rw [e, addAll_mem, addS_mem, List.mem_cons, or_assoc]
theorem addAlts_mem : ∀ {l : List (List ByteArray)} {o : List ByteArray} {x : ByteArray}, x ∈ addAlts l o ↔ x ∈ o ∨ ∃ a ∈ l, x ∈ a
  | [], o, x => by simp [addAlts]
  | a :: l, o, x => by
    have e : addAlts (a :: l) o = addAlts l (addAll a o) := rfl
    rw [e, addAlts_mem, addAll_mem, or_assoc]
    simp
theorem visit_mem {y : ByteArray} : ∀ {rs : List Rl} {o : List ByteArray} {x : ByteArray}, x ∈ visit rs y o ↔ x ∈ o ∨ ∃ r ∈ rs, r.1 = y ∧ ∃ a ∈ r.2, x ∈ a
  | [], o, x => by simp [visit]
  | r :: rs, o, x => by
    have e : visit (r :: rs) y o = visit rs y (visitS y o r) := rfl
    rw [e, visit_mem]
    have h : x ∈ visitS y o r ↔ x ∈ o ∨ (r.1 = y ∧ ∃ a ∈ r.2, x ∈ a) := by
      unfold visitS
      split
      · rename_i h1
        rw [addAlts_mem]
        simp [h1]
      · rename_i h1
        simp [h1]
    rw [h, or_assoc]
    simp
theorem led_sound (rs : List Rl) (f : ByteArray) : ∀ (k : Nat), ∀ x ∈ ledO rs f k, Lead rs f x
  | 0, x, h => by
    rw [show x = f by simpa [ledO] using h]
    exact .base
  | k + 1, x, h => by
    rw [ledO] at h
    split at h
    · rename_i y hy
      rcases visit_mem.1 h with h | ⟨r, hr, hry, a, ha, hx⟩
      · exact led_sound rs f k x h
      · exact .step (by rw [hry]; exact led_sound rs f k y (List.mem_of_getElem? hy)) hr ha hx
    · exact led_sound rs f k x h
theorem led_pre (rs : List Rl) (f : ByteArray) (k : Nat) : Pre (ledO rs f k) (ledO rs f (k + 1)) := by
  rw [ledO]
  split
  · exact pre_visit _ rs _
  · exact Pre.refl _
theorem led_first (rs : List Rl) (f : ByteArray) : ∀ k, f ∈ ledO rs f k
  | 0 => by simp [ledO]
  | k + 1 => pre_mem (led_pre rs f k) (led_first rs f k)
/-- All that was looked at has put down the names of its rules. -/
theorem led_seen (rs : List Rl) (f : ByteArray) : ∀ k i x, i < k → (ledO rs f k)[i]? = some x → ∀ r ∈ rs, r.1 = x → ∀ a ∈ r.2, ∀ n ∈ a, n ∈ ledO rs f k
  | 0, _, _, h, _ => absurd h (Nat.not_lt_zero _)
  | k + 1, i, x, h, hx => by
    intro r hr hrx a ha n hn
    by_cases hi : i < (ledO rs f k).length
    · have hx2 : (ledO rs f k)[i]? = some x := ((led_pre rs f k).at hi).symm.trans hx
      by_cases hik : i < k
      · exact pre_mem (led_pre rs f k) (led_seen rs f k i x hik hx2 r hr hrx a ha n hn)
      · obtain rfl : i = k := by omega
        rw [ledO, hx2]
        exact visit_mem.2 (.inr ⟨r, hr, hrx, a, ha, hn⟩)
    · by_cases hik : i < k
      · have h0 : (ledO rs f k)[k]? = none := List.getElem?_eq_none (by omega)
        rw [ledO, h0] at hx
        exact absurd (List.getElem?_eq_some_iff.1 hx).1 hi
      · obtain rfl : i = k := by omega
        have h0 : (ledO rs f i)[i]? = none := List.getElem?_eq_none (by omega)
        rw [ledO, h0] at hx
        exact absurd (List.getElem?_eq_some_iff.1 hx).1 hi
theorem led_is {rs : List Rl} {f : ByteArray} {k : Nat} (hk : (ledO rs f k).length ≤ k) (s : ByteArray) : mem s (ledO rs f k) = true ↔ Lead rs f s := by
  rw [mem_iff]
  constructor
  · exact led_sound rs f k s
  · intro h
    induction h with
    | base => exact led_first rs f k
    | @step r a n _ hr ha hn ih =>
      obtain ⟨i, hi⟩ := List.getElem?_of_mem ih
      exact led_seen rs f k i r.1 (Nat.lt_of_lt_of_le (List.getElem?_eq_some_iff.1 hi).1 hk) hi r hr rfl a ha n hn
/-- **What the reference's led comes to: the names to which the first rule leads; none, if there is no rule.** -/
theorem ledR_is {rs : List RlD} {o : List ByteArray} (h : LedR rs o) (s : ByteArray) : mem s o = true ↔ ∃ r, rs.head? = some r ∧ Lead (grP rs) r.n s := by
  cases rs with
  | nil =>
    have : o = [] := h
    subst this
    simp [mem]
  | cons r rs =>
    obtain ⟨k, rfl, hk⟩ := h
    rw [led_is hk]
    simp
end Go.Proofs.Ytiopbjgpaidemaa

namespace Go.Proofs.Ytiopbjgpaidemaa
open Go.RowKit Go.Maps Go.WideMaps

/-- The rules of a name. -/
def ofN (rs : List RlD) (k : ByteArray) : List RlD := rs.filter (fun r => decide (r.n = k))
theorem ofN_snoc (rs : List RlD) (r : RlD) (k : ByteArray) : ofN (rs ++ [r]) k = if k = r.n then ofN rs k ++ [r] else ofN rs k := by
  unfold ofN
  rw [List.filter_append]
  by_cases e : k = r.n
  · subst e; simp
  · have : ¬ r.n = k := fun e2 => e e2.symm
    simp [e, this]
theorem ofN_len (rs : List RlD) (k : ByteArray) : (ofN rs k).length ≤ rs.length := List.length_filter_le _ _
theorem rlC_len (l : List RlD) : (l.flatMap RlD.cells).length = l.length * 2 := by
  induction l with
  | nil => rfl
  | cons f r ih => rw [List.flatMap_cons, List.length_append, ih, List.length_cons, Nat.add_mul]; simp [RlD.cells]; omega
theorem rlC_at (l : List RlD) (i : Nat) (h : i < l.length) : (l.flatMap RlD.cells)[i * 2]? = some (.string l[i].n) ∧ (l.flatMap RlD.cells)[i * 2 + 1]? = some (.slice l[i].a l[i].ds.length l[i].c) := by
  induction l generalizing i with
  | nil => simp at h
  | cons f r ih =>
    rw [List.flatMap_cons]
    cases i with
    | zero => exact ⟨rfl, rfl⟩
    | succ j =>
      have hj : j < r.length := by simpa using h
      have := ih j hj
      rw [show (j + 1) * 2 = 2 + j * 2 by omega, show 2 + j * 2 + 1 = 2 + (j * 2 + 1) by omega]
      rw [List.getElem?_append_right (by simp [RlD.cells]), List.getElem?_append_right (by simp [RlD.cells])]
      simpa [RlD.cells] using this
theorem OwnR.le8 {W : World} {base cap : Nat} {a : Option Addr} {l : List RlD} (h : OwnR W base a cap l) : l.length ≤ cap ∧ cap ≤ 9223372036854775807 := by
  rcases h.2 with ⟨e1, e2⟩ | ⟨g, cap', cur, e1, hb, hg, hle, hm, hs, ht⟩
  · simp only [Value.slice.injEq] at e1
    omega
  · simp only [Value.slice.injEq] at e1
    unfold maxLen at hm
    omega
theorem OwnR.at8 {W : World} {base cap : Nat} {a : Option Addr} {l : List RlD} (h : OwnR W base a cap l) (i : Nat) (hi : i < l.length) :
    ∃ g, a = some ⟨g, 0, none⟩ ∧ base ≤ g ∧ g < W.heap.size ∧ W.cell? ⟨g, i * 2, none⟩ = some (.string l[i].n) ∧ W.cell? ⟨g, i * 2 + 1, none⟩ = some (.slice l[i].a l[i].ds.length l[i].c) := by
  rcases h.2 with ⟨_, e2⟩ | ⟨g, cap', cur, e1, hb, hg, hle, hm, hs, ht⟩
  · omega
  · simp only [Value.slice.injEq] at e1
    obtain ⟨rfl, -, rfl⟩ := e1
    have h1 := h.cellAt (i * 2) (by omega)
    have h2 := h.cellAt (i * 2 + 1) (by omega)
    have := rlC_at l i hi
    exact ⟨g, rfl, hb, (Array.getElem?_eq_some_iff.1 hg).1, by rw [h1]; exact this.1, by rw [h2]; exact this.2⟩
theorem OwnR.push8 {w : World} {base cap : Nat} {a : Option Addr} {l : List RlD} (h : OwnR w base a cap l) (x : RlD) (ty : TypeId) (hn : l.length + 1 ≤ 1000000000) (hb : base ≤ w.heap.size) :
    ∃ a' c' w', (Builtin.append_ #[22, 22] ty #[.slice a l.length cap, .slice (some ⟨w.heap.size, 0, none⟩) 1 1]).run Try.prog (w.alloc (.cells #[.string x.n, .slice x.a x.ds.length x.c] 34)) = .ok (.slice a' (l.length + 1) c') w' ∧
      OwnR w' base a' c' (l ++ [x]) ∧ w.grownBy w' (Value.slice a l.length cap).ownBlock ∧ (∀ g, (Value.slice a' (l ++ [x]).length c').ownBlock = some g → (Value.slice a l.length cap).ownBlock = some g ∨ w.heap.size ≤ g) := by
  obtain ⟨i0, hi, hz0, hz1, hz2⟩ := info_parts info_rule
  have hnew : ∀ j u, (RlD.cells x)[j]? = some u → (w.alloc (.cells #[.string x.n, .slice x.a x.ds.length x.c] 34)).cell? ((⟨w.heap.size, 0, none⟩ : Addr).add j) = some u := by
    intro j u hj
    have := World.alloc_heap_new w (.cells #[.string x.n, .slice x.a x.ds.length x.c] 34)
    have e : ((⟨w.heap.size, 0, none⟩ : Addr).add j) = ⟨w.heap.size, j, none⟩ := by simp [Addr.add]; exact Eq.symm
    rw [e]
    unfold World.cell?
    rw [show ((⟨w.heap.size, j, none⟩ : Addr).block) = w.heap.size from rfl, this]
    simp only [Option.bind_some]
    simpa [RlD.cells] using hj
  obtain ⟨v', w', hrun, ho, hg, _, hw⟩ := run_append_own_at (P := Try.prog) (w := w.alloc (.cells #[.string x.n, .slice x.a x.ds.length x.c] 34)) base 22 ty 34 i0 _ 2 40 Try.underlying22 hi hz0 hz1 hz2 rfl (by decide) _ _ _ (h.alloc _) ⟨w.heap.size, 0, none⟩ 1 1 (RlD.cells x) rfl hnew (fun u hu => by
    simp only [RlD.cells, List.mem_cons, List.not_mem_nil, or_false] at hu
    rcases hu with rfl | rfl <;> rfl) (by unfold maxLen; omega) (by omega) (by simp; omega)
  obtain ⟨a', cap', rfl⟩ := slice_of_own ho
  refine ⟨a', cap', w', hrun, ?_, grownBy_trans (World.grownBy_alloc w _ _) hg (fun i e => .inl e), fun g e => ?_⟩
  · unfold OwnR
    rw [List.flatMap_append, List.length_append]
    simpa using ho
  · have e2 : (Value.slice a' (l.length + 1) cap').ownBlock = some g := by simpa using e
    rcases hw with hw | hw
    · exact .inl (by rw [← hw]; exact e2)
    · rw [hw] at e2
      have := Option.some.inj e2
      exact .inr (by rw [← this]; simp)
/-- Rules by their names. -/
structure GrpAt (W : World) (base wb n : Nat) (rs : List RlD) (f : ByteArray → Value) : Prop where
  wait : SlcTS W wb n f
  rows : ∀ k, ∃ a c, f k = .slice a (ofN rs k).length c ∧ OwnR W base a c (ofN rs k)
  apart : ∀ j k, j ≠ k → ∀ g, (f j).ownBlock = some g → (f k).ownBlock ≠ some g
  lo : base ≤ wb
section
variable {W W' : World} {base wb n : Nat} {rs : List RlD} {f : ByteArray → Value} {row : Option Nat}
theorem GrpAt.row_ne (h : GrpAt W base wb n rs f) {b2 c2 : Nat} {a2 : Option Addr} {l : List RlD} (ho : OwnR W b2 a2 c2 l) : ∀ g, (Value.slice a2 l.length c2).ownBlock = some g → g ≠ wb := by
  intro g e
  obtain ⟨_, cur, hk⟩ := own_typ ho g e
  obtain ⟨es2, k2, h2⟩ := h.wait.obj
  intro e
  subst e
  rw [h2] at hk; cases hk
theorem GrpAt.kept (h : GrpAt W base wb n rs f) (hg : W.grownBy W' row) (hr : ∀ g, row = some g → g ≠ wb ∧ ∀ k, (f k).ownBlock ≠ some g) : GrpAt W' base wb n rs f where
  wait := h.wait.kept hg (fun e => (hr wb e.symm).1 rfl)
  rows := fun k => by
    obtain ⟨a, c, h1, h2⟩ := h.rows k
    refine ⟨a, c, h1, World.ownsRow.kept h2 hg ?_⟩
    cases e : (Value.slice a (ofN rs k).length c).ownBlock with
    | none => exact .inl rfl
    | some g => exact .inr (fun e2 => (hr g e2.symm).2 k (by rw [h1]; exact e))
  apart := h.apart
  lo := h.lo
theorem GrpAt.below (h : GrpAt W base wb n rs f) (hb : Below W.heap.size W W') : GrpAt W' base wb n rs f := h.kept (below_grownBy hb none) (fun g e => by cases e)
theorem GrpAt.lt (h : GrpAt W base wb n rs f) (k : ByteArray) : ∀ g, (f k).ownBlock = some g → base ≤ g ∧ g < W.heap.size := by
  obtain ⟨a, c, h1, h2⟩ := h.rows k
  rw [h1]
  exact World.ownsRow.lt h2
theorem GrpAt.new (W : World) (base : Nat) (hb : base ≤ W.heap.size) : GrpAt (W.alloc (.map #[] 0)) base W.heap.size 0 [] (fun _ => .slice none 0 0) :=
  ⟨SlcTS.new W, fun k => ⟨none, 0, rfl, World.ownsRow_nil _ _ _ 2⟩, fun j k _ g e => (by cases e), hb⟩
/-- A rule is put to those of its name: the look-up, the append, the store. -/
theorem GrpAt.put (h : GrpAt W base wb n rs f) (x : RlD) (hf : x.n.size ≤ maxLen) (hn : n + 1 ≤ 1000000000000000000) (hP : rs.length ≤ 1000000) (hb : base ≤ W.heap.size) :
    ∃ xa xc xa' xc' W1 W2, (Instr.lookup 134 (.map (some wb)) (.string x.n) false).run Try.prog W = .ok (.slice xa (ofN rs x.n).length xc) W ∧
      (Instr.lookup 134 (.map (some wb)) (.string x.n) false).run Try.prog (W.alloc (.cells #[.string x.n, .slice x.a x.ds.length x.c] 34)) = .ok (.slice xa (ofN rs x.n).length xc) (W.alloc (.cells #[.string x.n, .slice x.a x.ds.length x.c] 34)) ∧
      (Builtin.append_ #[22, 22] 22 #[.slice xa (ofN rs x.n).length xc, .slice (some ⟨W.heap.size, 0, none⟩) 1 1]).run Try.prog (W.alloc (.cells #[.string x.n, .slice x.a x.ds.length x.c] 34)) = .ok (.slice xa' ((ofN rs x.n).length + 1) xc') W1 ∧
      (Instr.mapUpdate 134 (.map (some wb)) (.string x.n) (.slice xa' ((ofN rs x.n).length + 1) xc')).run Try.prog W1 = .ok () W2 ∧
      GrpAt W2 base wb (n + 1) (rs ++ [x]) (fun t => if t = x.n then .slice xa' ((ofN rs x.n).length + 1) xc' else f t) ∧ Below base W W2 ∧ W.grownBy W1 (Value.slice xa (ofN rs x.n).length xc).ownBlock ∧ W1.grownBy W2 (some wb) ∧ f x.n = .slice xa (ofN rs x.n).length xc := by
  obtain ⟨xa, xc, hfx, hox⟩ := h.rows x.n
  have hol := ofN_len rs x.n
  have hlk := h.wait.look 134 22 Try.underlying134 (by kernel_rfl) x.n hf
  have hlk2 := (h.wait.kept (World.grownBy_alloc W (.cells #[.string x.n, .slice x.a x.ds.length x.c] 34) none) (by simp)).look 134 22 Try.underlying134 (by kernel_rfl) x.n hf
  rw [hfx] at hlk hlk2
  obtain ⟨xa', xc', W1, hrun, ho1, hg1, hlies⟩ := OwnR.push8 hox x 22 (by omega) hb
  have hne := h.row_ne hox
  have hwb := (h.wait.kept hg1 (fun e => (hne wb e.symm) rfl))
  obtain ⟨W2, hup, hs2, hg2⟩ := hwb.store 134 22 Try.underlying134 x.n (.slice xa' ((ofN rs x.n).length + 1) xc') hf (by unfold maxLen; omega)
  have hfb : (f x.n).ownBlock = (Value.slice xa (ofN rs x.n).length xc).ownBlock := by rw [hfx]
  have kp : ∀ {b2 c2 : Nat} {a2 : Option Addr} {l : List RlD}, OwnR W b2 a2 c2 l → (∀ g, (Value.slice a2 l.length c2).ownBlock = some g → (f x.n).ownBlock ≠ some g) → OwnR W2 b2 a2 c2 l := by
    intro b2 c2 a2 l ho hap
    have o1 : OwnR W1 b2 a2 c2 l := by
      refine World.ownsRow.kept ho hg1 ?_
      cases e : (Value.slice a2 l.length c2).ownBlock with
      | none => exact .inl rfl
      | some g => exact .inr (fun e2 => hap g e (by rw [hfb]; exact e2.symm))
    refine World.ownsRow.kept o1 hg2 ?_
    cases e : (Value.slice a2 l.length c2).ownBlock with
    | none => exact .inl rfl
    | some g => exact .inr (fun e2 => (h.row_ne ho g e) (by injection e2))
  have hlong : Below base W W2 := (belowAt hg1 (fun g e => (own_typ hox g e).1) hb).trans (belowAt hg2 (fun g e => by injection e with e; have := h.lo; omega) (Nat.le_trans hb hg1.size))
  have hnew : ∀ g, (Value.slice xa' ((ofN rs x.n).length + 1) xc').ownBlock = some g → (f x.n).ownBlock = some g ∨ W.heap.size ≤ g := fun g e => by
    rw [hfb]
    exact hlies g (by rw [List.length_append]; exact e)
  refine ⟨xa, xc, xa', xc', W1, W2, hlk, hlk2, hrun, hup, ⟨hs2, fun k => ?_, fun j k hjk g e => ?_, h.lo⟩, hlong, hg1, hg2, hfx⟩
  · by_cases e : k = x.n
    · subst e
      refine ⟨xa', xc', ?_, ?_⟩
      · rw [if_pos rfl, ofN_snoc, if_pos rfl, List.length_append]
        rfl
      · rw [ofN_snoc, if_pos rfl]
        refine World.ownsRow.kept ho1 hg2 ?_
        cases e : (Value.slice xa' (ofN rs x.n ++ [x]).length xc').ownBlock with
        | none => exact .inl rfl
        | some g =>
          refine .inr (fun e2 => ?_)
          injection e2 with e2
          rcases hlies g e with h1 | h1
          · exact (hne g h1) e2
          · have := h.wait.lt
            omega
    · obtain ⟨a2, c2, h1, h2⟩ := h.rows k
      refine ⟨a2, c2, ?_, ?_⟩
      · rw [if_neg e, ofN_snoc, if_neg e]
        exact h1
      · rw [ofN_snoc, if_neg e]
        exact kp h2 (fun g e2 => h.apart k x.n e g (by rw [h1]; exact e2))
  · by_cases e1 : j = x.n
    · rw [if_pos e1] at e
      rw [if_neg (fun e2 => hjk (e1.trans e2.symm))]
      intro e2
      rcases hnew g e with h1 | h1
      · exact h.apart x.n k (fun e3 => hjk (e1.trans e3)) g h1 e2
      · have := (h.lt k g e2).2
        omega
    · rw [if_neg e1] at e
      by_cases e2 : k = x.n
      · rw [if_pos e2]
        intro e3
        rcases hnew g e3 with h1 | h1
        · exact h.apart x.n j (fun e4 => e1 e4.symm) g h1 e
        · have := (h.lt j g e).2
          omega
      · rw [if_neg e2]
        exact h.apart j k hjk g e
end
/-- One step: a name in an alternative of a rule of this name. -/
def StepR (rs : List RlD) (x y : ByteArray) : Prop := ∃ r ∈ rs, r.n = x ∧ ∃ d ∈ r.ds, y ∈ d.l
def nextR (rs : List RlD) (x : ByteArray) : List ByteArray := (ofN rs x).flatMap (fun r => flat r.ds)
theorem nextR_mem (rs : List RlD) (x y : ByteArray) : y ∈ nextR rs x ↔ StepR rs x y := by
  unfold nextR StepR ofN flat
  simp only [List.mem_flatMap, List.mem_filter, decide_eq_true_eq, List.mem_flatten, List.mem_map]
  constructor
  · rintro ⟨r, ⟨h1, h2⟩, _, ⟨d, h3, rfl⟩, h4⟩
    exact ⟨r, h1, h2, d, h3, h4⟩
  · rintro ⟨r, h1, h2, d, h3, h4⟩
    exact ⟨r, ⟨h1, h2⟩, _, ⟨d, h3, rfl⟩, h4⟩
theorem step_names {rs : List RlD} {x y : ByteArray} (h : StepR rs x y) : y ∈ namesR (grP rs) := by
  obtain ⟨r, h1, _, d, h3, h4⟩ := h
  exact List.mem_flatMap.2 ⟨r.p, List.mem_map_of_mem h1, List.mem_flatten.2 ⟨d.l, List.mem_map_of_mem h3, h4⟩⟩
theorem rchd_names {rs : List RlD} {fr : List ByteArray} {x : ByteArray} (h : Rchd fr (StepR rs) x) : x ∈ fr ++ namesR (grP rs) := by
  cases h with
  | base h => exact List.mem_append_left _ h
  | step _ h => exact List.mem_append_right _ (step_names h)
theorem rchd_lead {rs : List RlD} (x : ByteArray) : Rchd (rs.head?.toList.map RlD.n) (StepR rs) x ↔ ∃ r, rs.head? = some r ∧ Lead (grP rs) r.n x := by
  constructor
  · intro h
    induction h with
    | base h =>
      obtain ⟨r, h1, rfl⟩ := List.mem_map.1 h
      exact ⟨r, by simpa using h1, .base⟩
    | step _ h ih =>
      obtain ⟨r, h1, h2⟩ := ih
      obtain ⟨q, h3, rfl, d, h5, h6⟩ := h
      exact ⟨r, h1, .step (r := q.p) (a := d.l) h2 (List.mem_map_of_mem h3) (List.mem_map_of_mem h5) h6⟩
  · rintro ⟨r, h1, h2⟩
    induction h2 with
    | base => exact .base (List.mem_map.2 ⟨r, by simp [h1], rfl⟩)
    | step _ h3 h4 h5 ih =>
      obtain ⟨q, h6, rfl⟩ := List.mem_map.1 h3
      obtain ⟨d, h7, rfl⟩ := List.mem_map.1 h4
      exact .step ih ⟨q, h6, rfl, d, h7, h5⟩
/-- The names in rules' alternatives, as they stand there. -/
theorem namesR_flat (rs : List RlD) : namesR (grP rs) = rs.flatMap (fun r => flat r.ds) := by
  unfold namesR grP flat
  rw [List.flatMap_map]
  rfl
theorem nextR_len (rs : List RlD) (x : ByteArray) : (nextR rs x).length ≤ (namesR (grP rs)).length := by
  rw [namesR_flat]
  unfold nextR ofN
  induction rs with
  | nil => simp
  | cons r rs ih =>
    by_cases e : r.n = x
    · rw [List.filter_cons_of_pos (by simpa using e), List.flatMap_cons, List.flatMap_cons, List.length_append, List.length_append]
      omega
    · rw [List.filter_cons_of_neg (by simpa using e), List.flatMap_cons, List.length_append]
      omega
end Go.Proofs.Ytiopbjgpaidemaa

namespace Go.Proofs.Ytiopbjgpaidemaa
open Go.RowKit Go.Maps Go.WideMaps

/-- What a way needs lies in the old world, and its keys are such as Go can hold. -/
structure NdOkS (w0 : World) (w : WyD ByteArray) : Prop where
  row : Vs w0 w.a w.c (w.l.map Value.string)
  fit : w.n.size ≤ maxLen
  fits : ∀ x ∈ w.l, x.size ≤ maxLen
structure TakeAtS (w0 W : World) (base mb sb wb n : Nat) (M : ByteArray → Bool) (P : List (ByteArray × WyD ByteArray)) (f : ByteArray → Value) : Prop where
  mbx : Blk W mb 161 [.map (some sb), .map (some wb)]
  set : SetT W sb n M
  wait : SlcTS W wb n f
  rows : ∀ k, M k = false → ∃ a c, f k = .slice a (onK P k).length c ∧ OwnYS W base a c (onK P k)
  apart : ∀ j k, M j = false → M k = false → j ≠ k → ∀ g, (f j).ownBlock = some g → (f k).ownBlock ≠ some g
  lo : base ≤ mb ∧ base ≤ sb ∧ base ≤ wb ∧ sb ≠ wb
  nds : ∀ p ∈ P, NdOkS w0 p.2
/-- .. and what lies open. -/
structure OpAtS (w0 W : World) (base mb sb wb n : Nat) (M : ByteArray → Bool) (P : List (ByteArray × WyD ByteArray)) (f : ByteArray → Value) (O : List (WyD ByteArray)) (a : Option Addr) (c : Nat) : Prop where
  at_ : TakeAtS w0 W base mb sb wb n M P f
  own : OwnYS W base a c O
  apart : ∀ k, M k = false → ∀ g, (Value.slice a O.length c).ownBlock = some g → (f k).ownBlock ≠ some g
  nds : ∀ w ∈ O, NdOkS w0 w
section
variable {w0 W W' : World} {base mb sb wb n : Nat} {M : ByteArray → Bool} {P : List (ByteArray × WyD ByteArray)} {f : ByteArray → Value} {O : List (WyD ByteArray)} {a : Option Addr} {c : Nat} {row : Option Nat}
theorem TakeAtS.row_ne (h : TakeAtS w0 W base mb sb wb n M P f) {b2 c2 : Nat} {a2 : Option Addr} {l : List (WyD ByteArray)} (ho : OwnYS W b2 a2 c2 l) : ∀ g, (Value.slice a2 l.length c2).ownBlock = some g → g ≠ mb ∧ g ≠ sb ∧ g ≠ wb := by
  intro g e
  obtain ⟨_, cur, hk⟩ := own_typ ho g e
  obtain ⟨es, k, h1⟩ := h.set.obj
  obtain ⟨es2, k2, h2⟩ := h.wait.obj
  have h3 := h.mbx
  unfold Blk at h3
  refine ⟨fun e => ?_, fun e => ?_, fun e => ?_⟩ <;> subst e
  · rw [h3] at hk; cases hk
  · rw [h1] at hk; cases hk
  · rw [h2] at hk; cases hk
theorem TakeAtS.blk_ne (h : TakeAtS w0 W base mb sb wb n M P f) {g t : Nat} {cs : List Value} (hk : Blk W g t cs) : g ≠ sb ∧ g ≠ wb := by
  obtain ⟨es, k, h1⟩ := h.set.obj
  obtain ⟨es2, k2, h2⟩ := h.wait.obj
  unfold Blk at hk
  refine ⟨fun e => ?_, fun e => ?_⟩ <;> subst e
  · rw [h1] at hk; cases hk
  · rw [h2] at hk; cases hk
theorem TakeAtS.kept (h : TakeAtS w0 W base mb sb wb n M P f) (hg : W.grownBy W' row) (hr : ∀ g, row = some g → g ≠ mb ∧ g ≠ sb ∧ g ≠ wb ∧ ∀ k, M k = false → (f k).ownBlock ≠ some g) : TakeAtS w0 W' base mb sb wb n M P f where
  mbx := h.mbx.kept hg (fun e => (hr mb e.symm).1 rfl)
  set := h.set.kept hg (fun e => (hr sb e.symm).2.1 rfl)
  wait := h.wait.kept hg (fun e => (hr wb e.symm).2.2.1 rfl)
  rows := fun k hk => by
    obtain ⟨a, c, h1, h2⟩ := h.rows k hk
    refine ⟨a, c, h1, World.ownsRow.kept h2 hg ?_⟩
    cases e : (Value.slice a (onK P k).length c).ownBlock with
    | none => exact .inl rfl
    | some g => exact .inr (fun e2 => (hr g e2.symm).2.2.2 k hk (by rw [h1]; exact e))
  apart := h.apart
  lo := h.lo
  nds := h.nds
theorem TakeAtS.below (h : TakeAtS w0 W base mb sb wb n M P f) (hb : Below W.heap.size W W') : TakeAtS w0 W' base mb sb wb n M P f := h.kept (below_grownBy hb none) (fun g e => by cases e)
theorem TakeAtS.lt (h : TakeAtS w0 W base mb sb wb n M P f) (k : ByteArray) (hk : M k = false) : ∀ g, (f k).ownBlock = some g → base ≤ g ∧ g < W.heap.size := by
  obtain ⟨a, c, h1, h2⟩ := h.rows k hk
  rw [h1]
  exact World.ownsRow.lt h2
theorem OpAtS.below (h : OpAtS w0 W base mb sb wb n M P f O a c) (hb : Below W.heap.size W W') : OpAtS w0 W' base mb sb wb n M P f O a c := ⟨h.at_.below hb, OwnYS.below h.own hb, h.apart, h.nds⟩
theorem OpAtS.pop {x : WyD ByteArray} (h : OpAtS w0 W base mb sb wb n M P f (O ++ [x]) a c) : OpAtS w0 W base mb sb wb n M P f O a c :=
  ⟨h.at_, OwnYS.pop h.own, fun k hk g e => h.apart k hk g (by cases a <;> exact e), fun w hw => h.nds w (List.mem_append_left _ hw)⟩
/-- What a way needs, but for the first. -/
theorem NdOkS.tail {n z : ByteArray} {r : List ByteArray} {b off c' : Nat} (h : NdOkS w0 ⟨n, z :: r, some ⟨b, off, none⟩, c'⟩) : NdOkS w0 ⟨n, r, some ⟨b, off + 1, none⟩, c' - 1⟩ := by
  obtain ⟨h1, h2, h3⟩ := h
  have hl := h1.le
  have hm := h1.max
  rw [List.map_cons, List.length_cons, List.length_map] at hl
  dsimp only at hl hm
  refine ⟨⟨by rw [List.length_map]; dsimp only; omega, by dsimp only; omega, fun e => (by cases e), fun i hi => ⟨b, off + 1, rfl⟩, fun b2 off2 e i hi => ?_⟩, h2, fun x hx => h3 x (List.mem_cons_of_mem _ hx)⟩
  dsimp only at e
  obtain ⟨rfl, rfl⟩ : b = b2 ∧ off + 1 = off2 := by
    have := Option.some.inj e
    injection this with e1 e2
    exact ⟨e1, e2⟩
  have := h1.cell b off rfl (i + 1) (by simp at hi ⊢; omega)
  rw [show off + 1 + i = off + (i + 1) by omega]
  rw [this]
  simp
theorem NdOkS.last {n z : ByteArray} {r : List ByteArray} {b off : Nat} (h : NdOkS w0 ⟨n, z :: r, some ⟨b, off, none⟩, 1⟩) : r = [] ∧ NdOkS w0 ⟨n, r, some ⟨b, off, none⟩, 0⟩ := by
  obtain ⟨h1, h2, h3⟩ := h
  have hl := h1.le
  rw [List.map_cons, List.length_cons, List.length_map] at hl
  dsimp only at hl
  have hr : r = [] := List.length_eq_zero_iff.1 (by omega)
  subst hr
  exact ⟨rfl, ⟨by simp, by simp, fun e => (by cases e), fun i hi => ⟨b, off, rfl⟩, fun b2 off2 e i hi => by simp at hi⟩, h2, fun x hx => by cases hx⟩
/-- A way waits: the look-up, the append, the store. -/
theorem OpAtS.waits (h : OpAtS w0 W base mb sb wb n M P f O a c) (w : WyD ByteArray) (x : ByteArray) (hw : NdOkS w0 w) (hx : M x = false) (hf : x.size ≤ maxLen) (hn : n + 1 ≤ 1000000000000000000) (hP : P.length ≤ 1000000) (hb : base ≤ W.heap.size) :
    ∃ xa xc xa' xc' W1 W2, (Instr.lookup 159 (.map (some wb)) (.string x) false).run Try.prog W = .ok (.slice xa (onK P x).length xc) W ∧
      (Instr.lookup 159 (.map (some wb)) (.string x) false).run Try.prog (W.alloc (.cells #[.string w.n, .slice w.a w.l.length w.c] 132)) = .ok (.slice xa (onK P x).length xc) (W.alloc (.cells #[.string w.n, .slice w.a w.l.length w.c] 132)) ∧
      (Builtin.append_ #[130, 130] 130 #[.slice xa (onK P x).length xc, .slice (some ⟨W.heap.size, 0, none⟩) 1 1]).run Try.prog (W.alloc (.cells #[.string w.n, .slice w.a w.l.length w.c] 132)) = .ok (.slice xa' ((onK P x).length + 1) xc') W1 ∧
      (Instr.mapUpdate 159 (.map (some wb)) (.string x) (.slice xa' ((onK P x).length + 1) xc')).run Try.prog W1 = .ok () W2 ∧
      OpAtS w0 W2 base mb sb wb (n + 1) M (P ++ [(x, w)]) (fun t => if t = x then .slice xa' ((onK P x).length + 1) xc' else f t) O a c ∧ Below base W W2 ∧ W.grownBy W1 (Value.slice xa (onK P x).length xc).ownBlock ∧ W1.grownBy W2 (some wb) ∧ f x = .slice xa (onK P x).length xc := by
  obtain ⟨xa, xc, hfx, hox⟩ := h.at_.rows x hx
  have hol : (onK P x).length ≤ P.length := by have := on_off_len P x; omega
  have hlk := h.at_.wait.look 159 130 Try.underlying159 (by kernel_rfl) x hf
  have hlk2 := (h.at_.wait.kept (World.grownBy_alloc W (.cells #[.string w.n, .slice w.a w.l.length w.c] 132) none) (by simp)).look 159 130 Try.underlying159 (by kernel_rfl) x hf
  rw [hfx] at hlk hlk2
  obtain ⟨xa', xc', W1, hrun, ho1, hg1, hlies⟩ := OwnYS.push hox w 130 (by omega) hb
  have hne := h.at_.row_ne hox
  have hwb := (h.at_.wait.kept hg1 (fun e => (hne wb e.symm).2.2 rfl))
  obtain ⟨W2, hup, hs2, hg2⟩ := hwb.store 159 130 Try.underlying159 x (.slice xa' ((onK P x).length + 1) xc') hf (by unfold maxLen; omega)
  have hfb : (f x).ownBlock = (Value.slice xa (onK P x).length xc).ownBlock := by rw [hfx]
  -- rows that are not x's are as they were
  have kp : ∀ {b2 c2 : Nat} {a2 : Option Addr} {l : List (WyD ByteArray)}, OwnYS W b2 a2 c2 l → (∀ g, (Value.slice a2 l.length c2).ownBlock = some g → (f x).ownBlock ≠ some g) → OwnYS W2 b2 a2 c2 l := by
    intro b2 c2 a2 l ho hap
    have o1 : OwnYS W1 b2 a2 c2 l := by
      refine World.ownsRow.kept ho hg1 ?_
      cases e : (Value.slice a2 l.length c2).ownBlock with
      | none => exact .inl rfl
      | some g => exact .inr (fun e2 => hap g e (by rw [hfb]; exact e2.symm))
    refine World.ownsRow.kept o1 hg2 ?_
    cases e : (Value.slice a2 l.length c2).ownBlock with
    | none => exact .inl rfl
    | some g => exact .inr (fun e2 => (h.at_.row_ne ho g e).2.2 (by injection e2))
  have m1 := (h.at_.mbx.kept hg1 (fun e => (hne mb e.symm).1 rfl))
  have hmw : mb ≠ wb := fun e => by
    obtain ⟨es, k, h1⟩ := h.at_.wait.obj
    have h3 := h.at_.mbx
    unfold Blk at h3
    rw [e, h1] at h3
    cases h3
  have hlong : Below base W W2 := (belowAt hg1 (fun g e => (own_typ hox g e).1) hb).trans (belowAt hg2 (fun g e => by injection e with e; have := h.at_.lo; omega) (Nat.le_trans hb hg1.size))
  have hnew : ∀ g, (Value.slice xa' ((onK P x).length + 1) xc').ownBlock = some g → (f x).ownBlock = some g ∨ W.heap.size ≤ g := fun g e => by
    rw [hfb]
    exact hlies g (by rw [List.length_append]; exact e)
  refine ⟨xa, xc, xa', xc', W1, W2, hlk, hlk2, hrun, hup, ⟨⟨m1.kept hg2 (fun e => hmw (by injection e)), ((h.at_.set.kept hg1 (fun e => (hne sb e.symm).2.1 rfl)).kept hg2 (fun e => h.at_.lo.2.2.2 (by injection e))).mono (Nat.le_succ n), hs2, fun k hk => ?_, fun j k hj hk hjk g e => ?_, h.at_.lo, fun p hp => ?_⟩, kp h.own (fun g e => h.apart x hx g e), fun k hk g e => ?_, h.nds⟩, hlong, hg1, hg2, hfx⟩
  · by_cases e : k = x
    · subst e
      refine ⟨xa', xc', ?_, ?_⟩
      · rw [if_pos rfl, on_snoc, if_pos rfl, List.length_append]
        rfl
      · rw [on_snoc, if_pos rfl]
        refine World.ownsRow.kept ho1 hg2 ?_
        cases e : (Value.slice xa' (onK P k ++ [w]).length xc').ownBlock with
        | none => exact .inl rfl
        | some g =>
          refine .inr (fun e2 => ?_)
          injection e2 with e2
          rcases hlies g e with h1 | h1
          · exact (hne g h1).2.2 e2
          · have := h.at_.wait.lt
            omega
    · obtain ⟨a2, c2, h1, h2⟩ := h.at_.rows k hk
      refine ⟨a2, c2, ?_, ?_⟩
      · rw [if_neg e, on_snoc, if_neg e]
        exact h1
      · rw [on_snoc, if_neg e]
        exact kp h2 (fun g e2 => h.at_.apart k x hk hx e g (by rw [h1]; exact e2))
  · by_cases e1 : j = x
    · rw [if_pos e1] at e
      rw [if_neg (fun e2 => hjk (e1.trans e2.symm))]
      intro e2
      rcases hnew g e with h1 | h1
      · exact h.at_.apart x k hx hk (fun e3 => hjk (e1.trans e3)) g h1 e2
      · have := (h.at_.lt k hk g e2).2
        omega
    · rw [if_neg e1] at e
      by_cases e2 : k = x
      · rw [if_pos e2]
        intro e3
        rcases hnew g e3 with h1 | h1
        · exact h.at_.apart x j hx hj (fun e4 => e1 e4.symm) g h1 e
        · have := (h.at_.lt j hj g e).2
          omega
      · rw [if_neg e2]
        exact h.at_.apart j k hj hk hjk g e
  · rcases List.mem_append.1 hp with hp | hp
    · exact h.at_.nds p hp
    · rw [List.mem_singleton] at hp
      subst hp
      exact hw
  · by_cases e1 : k = x
    · rw [if_pos e1]
      intro e2
      rcases hnew g e2 with h1 | h1
      · exact h.apart x hx g e h1
      · have := (World.ownsRow.lt h.own g e).2
        omega
    · rw [if_neg e1]
      exact h.apart k hk g e
/-- A thing that was made is made again. -/
theorem OpAtS.had (h : OpAtS w0 W base mb sb wb n M P f O a c) (x : ByteArray) (hx : M x = true) (hset : SetT W' sb (n + 1) (fun t => decide (t = x) || M t)) (hg : W.grownBy W' (some sb)) : OpAtS w0 W' base mb sb wb (n + 1) M P f O a c := by
  have hk : ∀ {b2 c2 : Nat} {a2 : Option Addr} {l : List (WyD ByteArray)}, OwnYS W b2 a2 c2 l → OwnYS W' b2 a2 c2 l := by
    intro b2 c2 a2 l ho
    refine World.ownsRow.kept ho hg ?_
    cases e : (Value.slice a2 l.length c2).ownBlock with
    | none => exact .inl rfl
    | some g => exact .inr (fun e2 => (h.at_.row_ne ho g e).2.1 (by injection e2))
  refine ⟨⟨h.at_.mbx.kept hg (fun e => (h.at_.blk_ne h.at_.mbx).1 (by injection e)), hset.congr (fun t => ?_), (h.at_.wait.kept hg (fun e => h.at_.lo.2.2.2 (by injection e with e; exact e.symm))).mono (Nat.le_succ n), fun k hm => ?_, h.at_.apart, h.at_.lo, h.at_.nds⟩, hk h.own, h.apart, h.nds⟩
  · by_cases e : t = x
    · subst e; rw [hx]; simp
    · simp [e]
  · obtain ⟨a2, c2, h1, h2⟩ := h.at_.rows k hm
    exact ⟨a2, c2, h1, hk h2⟩
/-- A thing is made: what waits for it is put onto what lies open. -/
theorem OpAtS.makes (h : OpAtS w0 W base mb sb wb n M P f O a c) (x : ByteArray) (hx : M x = false) (hf : x.size ≤ maxLen) (hset : SetT W' sb (n + 1) (fun t => decide (t = x) || M t)) (hg : W.grownBy W' (some sb)) (hP : P.length + O.length ≤ 1000000) (hb : base ≤ W.heap.size) :
    ∃ xa xc a' c' W2, (Instr.lookup 159 (.map (some wb)) (.string x) false).run Try.prog W' = .ok (.slice xa (onK P x).length xc) W' ∧
      (Builtin.append_ #[130, 130] 130 #[.slice a O.length c, .slice xa (onK P x).length xc]).run Try.prog W' = .ok (.slice a' (O.length + (onK P x).length) c') W2 ∧
      OpAtS w0 W2 base mb sb wb (n + 1) (fun t => decide (t = x) || M t) (offK P x) f (O ++ onK P x) a' c' ∧ Below base W W2 ∧ W'.grownBy W2 (Value.slice a O.length c).ownBlock := by
  obtain ⟨xa, xc, hfx, hox⟩ := h.at_.rows x hx
  have hol := on_off_len P x
  have hsb : ∀ {b2 c2 : Nat} {a2 : Option Addr} {l : List (WyD ByteArray)}, OwnYS W b2 a2 c2 l → OwnYS W' b2 a2 c2 l := by
    intro b2 c2 a2 l ho
    refine World.ownsRow.kept ho hg ?_
    cases e : (Value.slice a2 l.length c2).ownBlock with
    | none => exact .inl rfl
    | some g => exact .inr (fun e2 => (h.at_.row_ne ho g e).2.1 (by injection e2))
  have hw' := h.at_.wait.kept hg (fun e => h.at_.lo.2.2.2 (by injection e with e; exact e.symm))
  have hlk := hw'.look 159 130 Try.underlying159 (by kernel_rfl) x hf
  rw [hfx] at hlk
  have hms : mb ≠ sb := fun e => by
    obtain ⟨es, k, h1⟩ := h.at_.set.obj
    have h3 := h.at_.mbx
    unfold Blk at h3
    rw [e, h1] at h3
    cases h3
  have hm' := h.at_.mbx.kept hg (fun e => hms (by injection e))
  have hO' := hsb h.own
  obtain ⟨a', c', W2, hrun, ho2, hg2, hlies⟩ := OwnYS.app hO' (hsb hox) 130 (by omega) (Nat.le_trans hb hg.size)
  have hne : ∀ g, (Value.slice a O.length c).ownBlock = some g → g ≠ mb ∧ g ≠ sb ∧ g ≠ wb := h.at_.row_ne h.own
  have mf : ∀ k, (decide (k = x) || M k) = false → k ≠ x ∧ M k = false := fun k hk => by simpa using hk
  have kp : ∀ {b2 c2 : Nat} {a2 : Option Addr} {l : List (WyD ByteArray)}, OwnYS W' b2 a2 c2 l → (∀ g, (Value.slice a O.length c).ownBlock = some g → (Value.slice a2 l.length c2).ownBlock ≠ some g) → OwnYS W2 b2 a2 c2 l := by
    intro b2 c2 a2 l ho hap
    refine World.ownsRow.kept ho hg2 ?_
    cases e : (Value.slice a2 l.length c2).ownBlock with
    | none => exact .inl rfl
    | some g => exact .inr (fun e2 => hap g e2.symm e)
  refine ⟨xa, xc, a', c', W2, hlk, hrun, ⟨⟨hm'.kept hg2 (fun e => (hne mb e.symm).1 rfl), hset.kept hg2 (fun e => (hne sb e.symm).2.1 rfl), (hw'.kept hg2 (fun e => (hne wb e.symm).2.2 rfl)).mono (Nat.le_succ n), fun k hk => ?_, fun j k hj hk hjk => h.at_.apart j k (mf j hj).2 (mf k hk).2 hjk, h.at_.lo, fun p hp => h.at_.nds p (List.mem_filter.1 hp).1⟩, ho2, fun k hk g e => ?_, fun w hw => ?_⟩, (belowAt hg (fun g e => by injection e with e; have := h.at_.lo; omega) hb).trans (belowAt hg2 (fun g e => (own_typ hO' g e).1) (Nat.le_trans hb hg.size)), hg2⟩
  · obtain ⟨a2, c2, h1, h2⟩ := h.at_.rows k (mf k hk).2
    rw [on_off (mf k hk).1]
    exact ⟨a2, c2, h1, kp (hsb h2) (fun g e => by rw [← h1]; exact h.apart k (mf k hk).2 g e)⟩
  · intro e2
    rcases hlies g e with h1 | h1
    · exact h.apart k (mf k hk).2 g h1 e2
    · have := (h.at_.lt k (mf k hk).2 g e2).2
      have := hg.size
      omega
  · rcases List.mem_append.1 hw with hw | hw
    · exact h.nds w hw
    · obtain ⟨p, hp, rfl⟩ := List.mem_map.1 hw
      exact h.at_.nds p (List.mem_filter.1 hp).1
end
end Go.Proofs.Ytiopbjgpaidemaa

