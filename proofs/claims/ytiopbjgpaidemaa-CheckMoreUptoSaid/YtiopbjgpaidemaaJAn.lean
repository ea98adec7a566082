/- Texts joined: Kn Ko. -/
import Derived.Test.YtiopbjgpaidemaaJAm
set_option linter.unusedVariables false
set_option linter.unusedSimpArgs false
namespace Go.Proofs.Ytiopbjgpaidemaa
open Go.RowKit

theorem Fert.more {rs : List Rl} {ts us : List ByteArray} (h : ∀ t ∈ ts, t ∈ us) {s : ByteArray} (hs : Fert rs ts s) : Fert rs us s := by
  induction hs with
  | tok hm => exact .tok (h _ hm)
  | rule hr ha _ ih => exact .rule hr ha ih
/-- More tokens: no name is unknown or barren that was not. -/
theorem flw_more {rs : List RlD} {ts us : List ByteArray} (h : ∀ t ∈ ts, t ∈ us) {f : Fl} (hf : f ∈ FLW rs us) (hk : f.1 = 2 ∨ f.1 = 3) : f ∈ FLW rs ts := by
  rw [mem_FLW] at hf ⊢
  rcases hf with h1 | ⟨r, hr, a, ha, n, hn, h1, h2, h3⟩ | ⟨n, hn, h1, h2⟩ | ⟨n, hn, h1, h2⟩
  · have := dblN_kind _ h1
    omega
  · exact .inr (.inl ⟨r, hr, a, ha, n, hn, h1, fun h4 => h2 (h n h4), h3⟩)
  · refine .inr (.inr (.inl ⟨n, hn, ?_, h2⟩))
    rw [Bool.eq_false_iff] at h1 ⊢
    exact fun h4 => h1 ((fertM_iff _ _ _).2 (Fert.more h ((fertM_iff _ _ _).1 h4)))
  · rw [h2] at hk
    simp at hk
theorem restM_congr {kd : Int} {m m' : ByteArray → Bool} : ∀ (l : List ByteArray) (o : List Fl), (∀ n ∈ l, m n = m' n) → restM kd m l o = restM kd m' l o
  | [], _, _ => rfl
  | n :: l, o, h => by
    show restM kd m l (if (!m n) = true then layP o (kd, n) else o) = restM kd m' l (if (!m' n) = true then layP o (kd, n) else o)
    rw [h n (List.mem_cons_self ..), restM_congr l _ (fun x hx => h x (List.mem_cons_of_mem _ hx))]
theorem dblN_app (ts names : List ByteArray) (z : ByteArray) : ∀ k, k ≤ names.length → dblN ts (names ++ [z]) k = dblN ts names k
  | 0, _ => rfl
  | k + 1, hk => by
    unfold dblN
    rw [List.getElem?_append_left (by omega), dblN_app ts names z k (by omega), List.take_append_of_le_length (by omega)]
theorem mem_app1 {names : List ByteArray} {z n : ByteArray} (h : n ≠ z) : mem n (names ++ [z]) = mem n names := by
  rw [Bool.eq_iff_iff, mem_iff, mem_iff, List.mem_append, List.mem_singleton]
  exact ⟨fun h1 => h1.resolve_right h, .inl⟩
theorem unkA_app {ts names : List ByteArray} {z : ByteArray} : ∀ (l : List ByteArray) (o : List Fl), (∀ n ∈ l, n ≠ z) → unkA ts (names ++ [z]) l o = unkA ts names l o
  | [], _, _ => rfl
  | n :: l, o, h => by
    show unkA ts (names ++ [z]) l (unkS ts (names ++ [z]) o n) = unkA ts names l (unkS ts names o n)
    have e : unkS ts (names ++ [z]) o n = unkS ts names o n := by
      unfold unkS
      rw [mem_app1 (h n (List.mem_cons_self ..))]
    rw [e, unkA_app l _ (fun x hx => h x (List.mem_cons_of_mem _ hx))]
theorem unkAs_app {ts names : List ByteArray} {z : ByteArray} : ∀ (l : List (List ByteArray)) (o : List Fl), (∀ a ∈ l, ∀ n ∈ a, n ≠ z) → unkAs ts (names ++ [z]) l o = unkAs ts names l o
  | [], _, _ => rfl
  | a :: l, o, h => by
    show unkAs ts (names ++ [z]) l (unkA ts (names ++ [z]) a o) = unkAs ts names l (unkA ts names a o)
    rw [unkA_app a o (h a (List.mem_cons_self ..)), unkAs_app l _ (fun x hx => h x (List.mem_cons_of_mem _ hx))]
theorem unkP_app {ts names : List ByteArray} {z : ByteArray} : ∀ (l : List Rl) (o : List Fl), (∀ r ∈ l, ∀ a ∈ r.2, ∀ n ∈ a, n ≠ z) → unkP ts (names ++ [z]) l o = unkP ts names l o
  | [], _, _ => rfl
  | r :: l, o, h => by
    show unkP ts (names ++ [z]) l (unkAs ts (names ++ [z]) r.2 o) = unkP ts names l (unkAs ts names r.2 o)
    rw [unkAs_app r.2 o (h r (List.mem_cons_self ..)), unkP_app l _ (fun x hx => h x (List.mem_cons_of_mem _ hx))]
section
variable {rs : List Rl} {ts : List ByteArray} {z : ByteArray}
theorem Fert.one (hz : ∀ r ∈ rs, ∀ a ∈ r.2, ∀ n ∈ a, n ≠ z) {s : ByteArray} (h : Fert (rs ++ [(z, [[]])]) ts s) : Fert rs ts s ∨ s = z := by
  induction h with
  | tok hm => exact .inl (.tok hm)
  | @rule r a hr ha _ ih =>
    rcases List.mem_append.1 hr with hr | hr
    · exact .inl (.rule hr ha (fun n hn => (ih n hn).resolve_right (hz r hr a ha n hn)))
    · rw [List.mem_singleton] at hr
      exact .inr (by rw [hr])
theorem Fert.up {rs qs : List Rl} (h : ∀ r ∈ rs, r ∈ qs) {s : ByteArray} (hs : Fert rs ts s) : Fert qs ts s := by
  induction hs with
  | tok hm => exact .tok hm
  | rule hr ha _ ih => exact .rule (h _ hr) ha ih
theorem Lead.one {f s : ByteArray} (h : Lead (rs ++ [(z, [[]])]) f s) : Lead rs f s := by
  induction h with
  | base => exact .base
  | @step r a n _ hr ha hn ih =>
    rcases List.mem_append.1 hr with hr | hr
    · exact .step ih hr ha hn
    · rw [List.mem_singleton] at hr
      rw [hr] at ha
      rw [List.mem_singleton.1 ha] at hn
      cases hn
theorem Lead.up {rs qs : List Rl} (h : ∀ r ∈ rs, r ∈ qs) {f s : ByteArray} (hs : Lead rs f s) : Lead qs f s := by
  induction hs with
  | base => exact .base
  | step _ hr ha hn ih => exact .step ih (h _ hr) ha hn
theorem Lead.not {f : ByteArray} (hz : ∀ r ∈ rs, ∀ a ∈ r.2, ∀ n ∈ a, n ≠ z) (hf : f ≠ z) : ¬ Lead rs f z := fun h => by
  cases h with
  | base => exact hf rfl
  | step _ hr ha hn => exact hz _ hr _ ha _ hn rfl
end
/-- One rule more that nobody names: it is idle, and nothing else changes. -/
theorem flw_one {rs : List RlD} {ts : List ByteArray} {z : RlD} (h0 : rs ≠ []) (hz : z.p.2 = [[]]) (h1 : z.n ∉ rs.map RlD.n) (h2 : z.n ∉ ts) (h3 : ∀ r ∈ rs, ∀ d ∈ r.ds, ∀ n ∈ d.l, n ≠ z.n) :
    FLW (rs ++ [z]) ts = FLW rs ts ++ [(4, z.n)] := by
  have hg : grP (rs ++ [z]) = grP rs ++ [(z.n, [[]])] := by
    have hp : z.p = (z.n, [[]]) := by rw [← hz]; rfl
    unfold grP
    rw [List.map_append, List.map_singleton, hp]
  have h3' : ∀ r ∈ grP rs, ∀ a ∈ r.2, ∀ n ∈ a, n ≠ z.n := by
    intro r hr a ha n hn
    unfold grP at hr
    obtain ⟨q, hq, rfl⟩ := List.mem_map.1 hr
    obtain ⟨d, hd, rfl⟩ := List.mem_map.1 ha
    exact h3 q hq d hd n hn
  have hsub : ∀ r ∈ grP rs, r ∈ grP (rs ++ [z]) := fun r hr => by rw [hg]; exact List.mem_append_left _ hr
  have hn : (rs ++ [z]).map RlD.n = rs.map RlD.n ++ [z.n] := by simp
  have hhd : (rs ++ [z]).head? = rs.head? := by
    cases rs with
    | nil => exact absurd rfl h0
    | cons r rs => rfl
  have hne : ∀ n ∈ rs.map RlD.n, n ≠ z.n := fun n hn e => h1 (e ▸ hn)
  have hF : ∀ n ∈ rs.map RlD.n, fertM (rs ++ [z]) ts n = fertM rs ts n := fun n hn => by
    rw [Bool.eq_iff_iff, fertM_iff, fertM_iff]
    exact ⟨fun h => by rw [hg] at h; exact (Fert.one h3' h).resolve_right (hne n hn), fun h => Fert.up hsub h⟩
  have hFz : fertM (rs ++ [z]) ts z.n = true := by
    rw [fertM_iff, hg]
    exact Fert.rule (r := (z.n, [[]])) (a := []) (List.mem_append_right _ (List.mem_singleton.2 rfl)) (List.mem_singleton.2 rfl) (fun n hn => by cases hn)
  have hN : ∀ n ∈ rs.map RlD.n, nearM (rs ++ [z]) n = nearM rs n := fun n hn => by
    rw [Bool.eq_iff_iff, nearM_iff, nearM_iff, hhd]
    exact ⟨fun ⟨r, hr, h⟩ => ⟨r, hr, by rw [hg] at h; exact Lead.one h⟩, fun ⟨r, hr, h⟩ => ⟨r, hr, Lead.up hsub h⟩⟩
  have hNz : nearM (rs ++ [z]) z.n = false := by
    rw [Bool.eq_false_iff]
    intro h
    rw [nearM_iff, hhd, hg] at h
    obtain ⟨r, hr, h⟩ := h
    have hm : r ∈ rs := List.mem_of_mem_head? hr
    exact Lead.not h3' (hne r.n (List.mem_map.2 ⟨r, hm, rfl⟩)) (Lead.one h)
  have hD : dblN ts (rs.map RlD.n ++ [z.n]) (rs.length + 1) = dblN ts (rs.map RlD.n) rs.length := by
    have e1 : (rs.map RlD.n ++ [z.n])[rs.length]? = some z.n := by
      rw [List.getElem?_append_right (by simp)]
      simp
    have e2 : dblN ts (rs.map RlD.n ++ [z.n]) (rs.length + 1) = if (mem z.n ts || mem z.n ((rs.map RlD.n ++ [z.n]).take rs.length)) = true then layP (dblN ts (rs.map RlD.n ++ [z.n]) rs.length) (1, z.n) else dblN ts (rs.map RlD.n ++ [z.n]) rs.length := by
      show (match (rs.map RlD.n ++ [z.n])[rs.length]? with | some n => _ | none => _) = _
      rw [e1]
    rw [e2, if_neg, dblN_app _ _ _ _ (by simp)]
    rw [List.take_append_of_le_length (by simp), List.take_of_length_le (by simp), Bool.or_eq_true, mem_iff, mem_iff]
    exact fun h => h.elim h2 h1
  have hU : ∀ o, unkP ts (rs.map RlD.n ++ [z.n]) (grP rs ++ [(z.n, [[]])]) o = unkP ts (rs.map RlD.n) (grP rs) o := fun o => by
    rw [unkP_snoc, unkP_app _ _ h3']
    rfl
  have key : (4, z.n) ∉ FLW rs ts := by
    rw [mem_FLW]
    rintro (h | ⟨_, _, _, _, _, _, _, _, h⟩ | ⟨_, _, _, h⟩ | ⟨n, hn, _, h⟩)
    · have := dblN_kind _ h
      simp at this
    · simp at h
    · simp at h
    · simp at h
      exact hne n hn h.symm
  have e : FLW (rs ++ [z]) ts = layP (FLW rs ts) (4, z.n) := by
    unfold FLW
    rw [hn, hg, List.length_append, List.length_singleton, hD, hU, restM_snoc, restM_snoc, hFz, hNz, if_pos (by rfl), if_neg (by decide), restM_congr _ _ hF, restM_congr _ _ hN]
  rw [e]
  unfold layP
  rw [if_neg]
  rw [memF_iff]
  exact key
end Go.Proofs.Ytiopbjgpaidemaa

namespace Go.Proofs.Ytiopbjgpaidemaa
open Go.RowKit

theorem run_appRl8 (w : World) (ty : TypeId) {base n cap : Nat} {a : Option Addr} {row : List Value} (hown : w.ownsRow base 34 2 (.slice a n cap) n row) (b : Option Addr) (bc : Nat) (rs : List RlD) (hr : Rls w b bc rs) (hne : rs ≠ []) (hn : n + rs.length ≤ 1000000) (hbase : base ≤ w.heap.size) :
    ∃ a' c' w', (Builtin.append_ #[22, 22] ty #[.slice a n cap, .slice b rs.length bc]).run Try.prog w = .ok (.slice a' (n + rs.length) c') w' ∧ w'.ownsRow base 34 2 (.slice a' (n + rs.length) c') (n + rs.length) (row ++ rs.flatMap RlD.cells) ∧ w.grownBy w' (Value.slice a n cap).ownBlock := by
  obtain ⟨i0, hi, hz0, hz1, hz2⟩ := info_parts info_rule
  have hl0 : 0 < rs.length := by cases rs with | nil => exact absurd rfl hne | cons _ _ => simp
  obtain ⟨b', off, rfl⟩ := hr.at_ 0 hl0
  have hcells : ∀ j u, (rs.flatMap RlD.cells)[j]? = some u → w.cell? ((⟨b', off, none⟩ : Addr).add j) = some u := by
    intro j u hj
    have hjl : j < rs.length * 2 := by have := (List.getElem?_eq_some_iff.1 hj).1; rw [cells_len] at this; exact this
    rw [show (⟨b', off, none⟩ : Addr).add j = ⟨b', off + j, none⟩ from by unfold Addr.add; split <;> simp_all]
    have hi2 : j / 2 < rs.length := by omega
    obtain ⟨q1, q2⟩ := cells_at rs (j / 2) hi2
    obtain ⟨p1, p2⟩ := hr.cell b' off rfl (j / 2) hi2
    rcases Nat.mod_two_eq_zero_or_one j with e | e
    · rw [show j / 2 * 2 = j by omega] at q1 p1
      rw [hj] at q1
      rw [q1, p1]
    · rw [show j / 2 * 2 + 1 = j by omega] at q2
      rw [hj] at q2
      rw [q2, show off + j = off + j / 2 * 2 + 1 by omega, p2]
  obtain ⟨v', w', hrun, ho, hg, _⟩ := run_append_own (P := Try.prog) w base 22 ty 34 i0 _ 2 40 Try.underlying22 hi hz0 hz1 hz2 rfl (by decide) _ n _ hown ⟨b', off, none⟩ rs.length bc (rs.flatMap RlD.cells) (cells_len rs) hcells (fun u hu => by
    obtain ⟨x, _, hx⟩ := List.mem_flatMap.1 hu
    simp only [RlD.cells, List.mem_cons, List.not_mem_nil, or_false] at hx
    rcases hx with rfl | rfl <;> rfl) (by unfold maxLen; omega) (by omega) hbase
  obtain ⟨a', cap', rfl⟩ := slice_of_own ho
  exact ⟨a', cap', w', hrun, ho, hg⟩
theorem rls_row8 {w : World} {B : Nat} {rs : List RlD} {ga : Option Addr} {gc : Nat} (hr : OwnR w B ga gc rs) (ha : ∀ r ∈ rs, Alts w r.a r.c r.ds) : Rls w ga gc rs := by
  rcases hr.2 with ⟨e1, e0⟩ | ⟨g, cp, cur, e1, hb, hk, hnc, hcm, _⟩
  · injection e1 with e1 e2 e3
    exact ⟨by omega, by omega, fun _ => e3, fun i hi => by omega, fun b off e => (by rw [e1] at e; cases e), ha⟩
  · injection e1 with e1 e2 e3
    refine ⟨by omega, by unfold maxLen at hcm; omega, fun e => (by rw [e1] at e; cases e), fun i hi => ⟨g, 0, e1⟩, fun b off e i hi => ?_, ha⟩
    rw [e1] at e
    cases e
    subst e1
    obtain ⟨q1, q2⟩ := cells_at rs i hi
    rw [Nat.zero_add]
    exact ⟨(World.ownsRow.cellAt hr (i * 2) (by omega)).trans q1, (World.ownsRow.cellAt hr (i * 2 + 1) (by omega)).trans q2⟩

theorem flC_len (l : List Fl) : (l.flatMap flC).length = l.length * 2 := by
  induction l with
  | nil => rfl
  | cons f r ih =>
    rw [List.flatMap_cons, List.length_append, ih, List.length_cons]
    simp [flC]
    omega
/-- Flaws are put onto an own row. -/
theorem run_appFl8 (w : World) (ty : TypeId) {base n cap : Nat} {a : Option Addr} {row : List Value} (hown : w.ownsRow base 31 2 (.slice a n cap) n row) (b : Option Addr) (bc : Nat) (l : List Fl) (hr : Fls w b bc l) (hne : l ≠ []) (hn : n + l.length ≤ 1000000) (hbase : base ≤ w.heap.size) :
    ∃ a' c' w', (Builtin.append_ #[28, 28] ty #[.slice a n cap, .slice b l.length bc]).run Try.prog w = .ok (.slice a' (n + l.length) c') w' ∧ w'.ownsRow base 31 2 (.slice a' (n + l.length) c') (n + l.length) (row ++ l.flatMap flC) ∧ w.grownBy w' (Value.slice a n cap).ownBlock := by
  obtain ⟨i0, hi, hz0, hz1, hz2⟩ := info_parts info_flaw
  have hl0 : 0 < l.length := by cases l with | nil => exact absurd rfl hne | cons _ _ => simp
  obtain ⟨b', off, rfl⟩ := hr.at_ 0 hl0
  have hcells : ∀ j u, (l.flatMap flC)[j]? = some u → w.cell? ((⟨b', off, none⟩ : Addr).add j) = some u := by
    intro j u hj
    have hjl : j < l.length * 2 := by have := (List.getElem?_eq_some_iff.1 hj).1; rw [flC_len] at this; exact this
    rw [show (⟨b', off, none⟩ : Addr).add j = ⟨b', off + j, none⟩ from by unfold Addr.add; split <;> simp_all]
    have hi2 : j / 2 < l.length := by omega
    obtain ⟨q1, q2⟩ := flC_at l (j / 2) hi2
    obtain ⟨p1, p2⟩ := hr.cell b' off rfl (j / 2) hi2
    rcases Nat.mod_two_eq_zero_or_one j with e | e
    · rw [show j / 2 * 2 = j by omega] at q1 p1
      rw [hj] at q1
      rw [q1, p1]
    · rw [show j / 2 * 2 + 1 = j by omega] at q2
      rw [hj] at q2
      rw [q2, show off + j = off + j / 2 * 2 + 1 by omega, p2]
  obtain ⟨v', w', hrun, ho, hg, _⟩ := run_append_own (P := Try.prog) w base 28 ty 31 i0 _ 2 24 Try.underlying28 hi hz0 hz1 hz2 rfl (by decide) _ n _ hown ⟨b', off, none⟩ l.length bc (l.flatMap flC) (flC_len l) hcells (fun u hu => by
    obtain ⟨x, _, hx⟩ := List.mem_flatMap.1 hu
    simp only [flC, List.mem_cons, List.not_mem_nil, or_false] at hx
    rcases hx with rfl | rfl <;> rfl) (by unfold maxLen; omega) (by omega) hbase
  obtain ⟨a', cap', rfl⟩ := slice_of_own ho
  exact ⟨a', cap', w', hrun, ho, hg⟩
end Go.Proofs.Ytiopbjgpaidemaa

