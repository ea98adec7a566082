/- Texts joined: Qt Tti Tua Tub. -/
import Derived.Test.YthogiakfbgehnaaREAr
import Derived.Test.YthogiakfbgehnaaREAg
import Derived.Test.YthogiakfbgehnaaREAm
set_option linter.unusedVariables false
set_option linter.unusedSimpArgs false
namespace Go.Proofs.Ythogiakfbgehnaa
open Go.RowKit

theorem backR_mem10 {ts ns : List ByteArray} : ∀ {l : List ByteArray} {al : List (List (List Int))}, l.length = al.length → ∀ {r : Rl}, r ∈ backR ts ns l al → ∃ k, ∃ h : k < l.length, r = (l[k], (al.getD k []).map (fun x => x.map (nmP ts ns)))
  | [], [], _, r, hr => by cases hr
  | [], _ :: _, h, _, _ => by cases h
  | _ :: _, [], h, _, _ => by cases h
  | n :: l, a :: al, h, r, hr => by
    rcases List.mem_cons.1 hr with rfl | hr
    · exact ⟨0, by simp, rfl⟩
    · obtain ⟨k, hk, rfl⟩ := backR_mem10 (l := l) (al := al) (by simpa using h) hr
      exact ⟨k + 1, by simpa using hk, rfl⟩
/-- What a list has, if each of its numbers comes to something: it may be empty, or something stands first. -/
theorem lead_some {al : List (List (List Int))} : ∀ {a : List Int}, (∀ x ∈ a, x < 0 → nulB al (ruL x) = true ∨ ∃ t, TokP al (nulB al) [x] t) → emp (nulB al) a = true ∨ ∃ t, TokP al (nulB al) (ahd (nulB al) a) t
  | [], _ => .inl rfl
  | x :: s, h => by
    by_cases hx : (decide (x < 0) && nulB al (ruL x)) = true
    · rcases lead_some (a := s) (fun y hy => h y (List.mem_cons_of_mem _ hy)) with h1 | ⟨t, h1⟩
      · exact .inl (by rw [emp_cons, hx, h1]; rfl)
      · refine .inr ⟨t, ?_⟩
        unfold ahd
        rw [if_pos hx]
        obtain ⟨y, hy, h2⟩ := tok_iff.1 h1
        exact tok_iff.2 ⟨y, List.mem_cons_of_mem _ hy, h2⟩
    · refine .inr ?_
      unfold ahd
      rw [if_neg hx]
      by_cases h0 : x < 0
      · rcases h x (by simp) h0 with h1 | h1
        · rw [decide_eq_true h0, h1] at hx
          exact absurd rfl hx
        · exact h1
      · exact ⟨x, tok_self (by omega)⟩
theorem der_some {al : List (List (List Int))} {r : Nat} {m : Int} (h : Der al r m) : nulB al r = true ∨ ∃ t, TokP al (nulB al) [-1 - (r : Int)] t := by
  induction h with
  | @by_ r a W ha hk ih =>
    have hr : r < al.length := by
      refine Classical.byContradiction fun hn => ?_
      rw [List.getD_eq_getElem?_getD, List.getElem?_eq_none (by omega)] at ha
      cases ha
    rcases lead_some (a := a) (fun x hx h0 => by
      have := ih x hx h0
      rwa [of_ruL h0] at this) with h1 | ⟨t, h1⟩
    · exact .inl ((nul_iff hr).2 ⟨a, ha, h1⟩)
    · exact .inr ⟨t, tok_rule ha h1⟩
/-- What a grammar that may be has, in its own words. -/
structure MayG (ts ns : List ByteArray) (al : List (List (List Int))) : Prop where
  len : ns.length = al.length
  ok : ∀ r, ∀ a ∈ al.getD r [], ∀ x ∈ a, -(ns.length : Int) ≤ x ∧ x < (ts.length : Int)
  out : ∀ i (h : i < ns.length), ns[i] ∉ ts
  inj : ∀ i j (hi : i < ns.length) (hj : j < ns.length), ns[i] = ns[j] → i = j
  fert : ∀ n ∈ ns, Fert (backR ts ns ns al) ts n
  near : ∀ n ∈ ns, ∃ h : 0 < ns.length, Lead (backR ts ns ns al) ns[0] n
theorem may_of {d : CfD} (h : validE d.p = 0) : MayG d.toks d.names (d.alts.map IrD.p) := by
  have h0 := h
  unfold validE at h
  split at h
  · next h1 =>
    split at h
    · next h2 =>
      have hb := h1
      unfold backE at h1
      split at h1
      · next h3 =>
        split at h1
        · next h4 =>
          have e1 : d.p.alts = d.alts.map IrD.p := rfl
          have e2 : d.p.names = d.names := rfl
          have e3 : d.p.toks = d.toks := rfl
          have e4 : backG d.p = backR d.toks d.names d.names (d.alts.map IrD.p) := rfl
          rw [e1, e2] at h3
          rw [e3, e4] at h2
          have hnm : (can (backR d.toks d.names d.names (d.alts.map IrD.p))).map RlD.n = d.names := by
            rw [names_grP, grP_can, backR_fst _ _ _ _ h3]
          obtain ⟨a1, a2⟩ := num_apart2 h2
          rw [hnm] at a2
          have hfl : FLW (can (backR d.toks d.names d.names (d.alts.map IrD.p))) d.toks = [] := by
            unfold numE at h2
            split at h2
            · split at h2
              · split at h2
                · next h9 => exact List.length_eq_zero_iff.1 h9
                · cases h2
              · next h9 => exact absurd h2 h9
            · next h9 => exact absurd h2 h9
          have hno : ∀ f, f ∉ FLW (can (backR d.toks d.names d.names (d.alts.map IrD.p))) d.toks := fun f hf => by rw [hfl] at hf; cases hf
          refine ⟨h3, fun r a ha x hx => ?_, fun i hi => (a2 i hi).1, fun i j hi hj e => apart_inj (fun i hi => (a2 i hi).2) hi hj e, fun n hn => ?_, fun n hn => ?_⟩
          · by_cases hr : r < (d.alts.map IrD.p).length
            · have hm : (d.alts.map IrD.p)[r] ∈ d.p.alts := List.getElem_mem hr
              rw [List.getD_eq_getElem?_getD, List.getElem?_eq_getElem hr] at ha
              have ha : a ∈ (d.alts.map IrD.p)[r] := ha
              unfold numsB at h4
              have := List.all_eq_true.1 (List.all_eq_true.1 (List.all_eq_true.1 h4 _ hm) a ha) x hx
              exact okN_iff.1 this
            · rw [List.getD_eq_getElem?_getD, List.getElem?_eq_none (by omega)] at ha
              cases ha
          · have h5 : fertM (can (backR d.toks d.names d.names (d.alts.map IrD.p))) d.toks n = true := by
              cases e : fertM (can (backR d.toks d.names d.names (d.alts.map IrD.p))) d.toks n
              · exact absurd (mem_FLW.2 (.inr (.inr (.inl ⟨n, by rw [hnm]; exact hn, e, rfl⟩)))) (hno _)
              · rfl
            have h6 := (fertM_iff _ _ _).1 h5
            rwa [grP_can] at h6
          · have h5 : nearM (can (backR d.toks d.names d.names (d.alts.map IrD.p))) n = true := by
              cases e : nearM (can (backR d.toks d.names d.names (d.alts.map IrD.p))) n
              · exact absurd (mem_FLW.2 (.inr (.inr (.inr ⟨n, by rw [hnm]; exact hn, e, rfl⟩)))) (hno _)
              · rfl
            obtain ⟨q, hq, hl⟩ := (nearM_iff _ _).1 h5
            rw [grP_can] at hl
            have hpos : 0 < d.names.length := List.length_pos_of_mem hn
            refine ⟨hpos, ?_⟩
            have e9 : ((can (backR d.toks d.names d.names (d.alts.map IrD.p))).map RlD.n).head? = some q.n := by rw [List.head?_map, hq]; rfl
            rw [hnm, List.head?_eq_getElem?, List.getElem?_eq_getElem hpos] at e9
            have e10 : d.names[0] = q.n := by simpa using e9
            rw [e10]
            exact hl
        · cases h1
      · cases h1
    · cases h
  · cases h
theorem nmP_rule {ts ns : List ByteArray} {x : Int} (h0 : x < 0) (h : ruL x < ns.length) : nmP ts ns x = ns[ruL x] := by
  unfold nmP
  rw [if_pos h0]
  show ns.getD (ruL x) _ = _
  rw [List.getD_eq_getElem?_getD, List.getElem?_eq_getElem h]
  rfl
theorem MayG.der {ts ns : List ByteArray} {al : List (List (List Int))} (h : MayG ts ns al) (k : Nat) (hk : k < ns.length) : ∃ m, Der al k m := by
  classical
  have key : ∀ s, Fert (backR ts ns ns al) ts s → ∀ k (hk : k < ns.length), s = ns[k] → ∃ m, Der al k m := by
    intro s hs
    induction hs with
    | tok ht => intro k hk e; rw [e] at ht; exact absurd ht (h.out k hk)
    | @rule r a hr ha _ ih =>
      intro k hk e
      obtain ⟨j, hj, rfl⟩ := backR_mem10 h.len hr
      dsimp only at e ha
      have := h.inj j k hj hk e
      subst this
      obtain ⟨a0, ha0, rfl⟩ := List.mem_map.1 ha
      refine ⟨_, Der.by_ (fun q => if hq : ∃ m, Der al q m then Classical.choose hq else 0) ha0 (fun x hx h0 => ?_)⟩
      have h1 := h.ok j a0 ha0 x hx
      have h2 : ruL x < ns.length := by unfold ruL; omega
      have h3 := ih (nmP ts ns x) (List.mem_map.2 ⟨x, hx, rfl⟩) (ruL x) h2 (nmP_rule h0 h2)
      rw [dif_pos h3]
      exact Classical.choose_spec h3
  exact key _ (h.fert _ (List.getElem_mem hk)) k hk rfl
theorem MayG.rest {ts ns : List ByteArray} {al : List (List (List Int))} (h : MayG ts ns al) {r : Nat} {a b : List Int} (ha : a ∈ al.getD r []) (hb : ∀ x ∈ b, x ∈ a) : emp (nulB al) b = true ∨ ∃ t, TokP al (nulB al) (ahd (nulB al) b) t :=
  lead_some (fun x hx h0 => by
    have h1 := h.ok r a ha x (hb x hx)
    obtain ⟨m, hm⟩ := h.der (ruL x) (by unfold ruL; omega)
    have := der_some hm
    rwa [of_ruL h0] at this)
theorem few10_may {d : CfD} (h : few10 d = true) : MayG d.toks d.names (d.alts.map IrD.p) := by
  unfold few10 at h
  rw [Bool.and_eq_true, decide_eq_true_eq, decide_eq_true_eq] at h
  exact may_of h.2
end Go.Proofs.Ythogiakfbgehnaa

namespace Go.Proofs.Ythogiakfbgehnaa
open Go.RowKit Go.Maps

attribute [local go_sem] Oper.semAt_some

theorem altD_al {d : CfD} {k i : Int} {x : IltD} (h : altD d k i = some x) : 0 ≤ i ∧ ruL k < (d.alts.map IrD.p).length ∧ ((d.alts.map IrD.p).getD (ruL k) [])[i.toNat]? = some x.l := by
  unfold altD at h
  cases e : d.alts[ruL k]? with
  | none => rw [e] at h; cases h
  | some ru =>
    rw [e] at h
    dsimp only at h
    by_cases hc : ruL k < d.names.length ∧ 0 ≤ i
    · rw [if_pos hc] at h
      refine ⟨hc.2, by rw [List.length_map]; exact (List.getElem?_eq_some_iff.1 e).1, ?_⟩
      rw [List.getD_eq_getElem?_getD, List.getElem?_map, e]
      show (ru.ds.map (fun d => d.l))[i.toNat]? = _
      rw [List.getElem?_map, h]
      rfl
    · rw [if_neg hc] at h; cases h
end Go.Proofs.Ythogiakfbgehnaa

namespace Go.Proofs.Ythogiakfbgehnaa
open Go.RowKit Go.Maps

attribute [local go_sem] Oper.semAt_some

/-- These symbols have the tokens that stand from one place to another. -/
inductive SpL (al : List (List (List Int))) (toks : List Int) : List Int → Nat → Nat → Prop
  | nil (i : Nat) : SpL al toks [] i i
  | tok {k : Int} {ks : List Int} {i j : Nat} : 0 ≤ k → toks[i]? = some k → SpL al toks ks (i + 1) j → SpL al toks (k :: ks) i j
  | rule {k : Int} {ks a : List Int} {i h j : Nat} : k < 0 → ruL k < al.length → a ∈ al.getD (ruL k) [] → SpL al toks a i h → SpL al toks ks h j → SpL al toks (k :: ks) i j
theorem SpL.le {al : List (List (List Int))} {toks ks : List Int} {i j : Nat} (h : SpL al toks ks i j) : i ≤ j ∧ (i ≤ toks.length → j ≤ toks.length) := by
  induction h with
  | nil i => exact ⟨Nat.le_refl _, id⟩
  | tok h0 h1 _ ih => have := (List.getElem?_eq_some_iff.1 h1).1; exact ⟨by omega, fun _ => ih.2 (by omega)⟩
  | rule _ _ _ _ _ ih1 ih2 => exact ⟨Nat.le_trans ih1.1 ih2.1, fun h => ih2.2 (ih1.2 h)⟩
/-- One symbol, by what is known of the rules. -/
def StpS (V : Nat → Nat → Nat → Bool) (R : Nat) (toks : List Int) (k : Int) (i j : Nat) : Prop := (0 ≤ k ∧ toks[i]? = some k ∧ j = i + 1) ∨ (k < 0 ∧ ruL k < R ∧ i ≤ j ∧ j ≤ toks.length ∧ V (ruL k) i j = true)
/-- Some symbols. -/
def EndS (V : Nat → Nat → Nat → Bool) (R : Nat) (toks : List Int) : List Int → Nat → Nat → Prop
  | [], i, j => i = j
  | k :: ks, i, j => ∃ h, StpS V R toks k i h ∧ EndS V R toks ks h j
theorem end_snoc {V : Nat → Nat → Nat → Bool} {R : Nat} {toks : List Int} {k : Int} : ∀ {l : List Int} {i j : Nat}, EndS V R toks (l ++ [k]) i j ↔ ∃ h, EndS V R toks l i h ∧ StpS V R toks k h j
  | [], i, j => by
    show (∃ h, StpS V R toks k i h ∧ h = j) ↔ ∃ h, i = h ∧ StpS V R toks k h j
    constructor
    · rintro ⟨h, h1, rfl⟩; exact ⟨i, rfl, h1⟩
    · rintro ⟨h, rfl, h1⟩; exact ⟨j, h1, rfl⟩
  | x :: l, i, j => by
    show (∃ h, StpS V R toks x i h ∧ EndS V R toks (l ++ [k]) h j) ↔ ∃ h, (∃ g, StpS V R toks x i g ∧ EndS V R toks l g h) ∧ StpS V R toks k h j
    constructor
    · rintro ⟨g, h1, h2⟩
      obtain ⟨h, h3, h4⟩ := end_snoc.1 h2
      exact ⟨h, ⟨g, h1, h3⟩, h4⟩
    · rintro ⟨h, ⟨g, h1, h2⟩, h3⟩
      exact ⟨g, h1, end_snoc.2 ⟨h, h2, h3⟩⟩
/-- What is known is true. -/
def SndS (al : List (List (List Int))) (toks : List Int) (V : Nat → Nat → Nat → Bool) : Prop := ∀ r i j, V r i j = true → r < al.length ∧ ∃ a ∈ al.getD r [], SpL al toks a i j
theorem end_true {al : List (List (List Int))} {toks : List Int} {V : Nat → Nat → Nat → Bool} (hs : SndS al toks V) : ∀ {ks : List Int} {i j : Nat}, EndS V al.length toks ks i j → SpL al toks ks i j
  | [], i, j, h => by
    have h : i = j := h
    subst h
    exact .nil i
  | k :: ks, i, j, ⟨h, h1, h2⟩ => by
    have h3 := end_true hs h2
    rcases h1 with ⟨h4, h5, rfl⟩ | ⟨h4, h5, h6, h7, h8⟩
    · exact .tok h4 h5 h3
    · obtain ⟨_, a, ha, hb⟩ := hs _ _ _ h8
      exact .rule h4 h5 ha hb h3
/-- All that comes of what is known is known. -/
def ClsS (al : List (List (List Int))) (toks : List Int) (V : Nat → Nat → Nat → Bool) : Prop := ∀ r, r < al.length → ∀ a ∈ al.getD r [], ∀ i, i ≤ toks.length → ∀ j, j ≤ toks.length → EndS V al.length toks a i j → V r i j = true
theorem true_end {al : List (List (List Int))} {toks : List Int} {V : Nat → Nat → Nat → Bool} (hc : ClsS al toks V) {ks : List Int} {i j : Nat} (h : SpL al toks ks i j) : i ≤ toks.length → EndS V al.length toks ks i j := by
  induction h with
  | nil i => exact fun _ => rfl
  | tok h0 h1 _ ih => exact fun _ => ⟨_, .inl ⟨h0, h1, rfl⟩, ih (List.getElem?_eq_some_iff.1 h1).1⟩
  | @rule k ks a i h j h0 h1 h2 h3 h4 ih1 ih2 =>
    intro hi
    have hh := h3.le.2 hi
    exact ⟨h, .inr ⟨h0, h1, h3.le.1, hh, hc _ h1 a h2 i hi h hh (ih1 hi)⟩, ih2 hh⟩
/-- How much is not known. -/
def unkT (R m : Nat) (V : Nat → Nat → Nat → Bool) : Nat := ((List.range R).flatMap fun r => (List.range m).flatMap fun i => (List.range m).map fun j => (r, i, j)).countP fun x => !V x.1 x.2.1 x.2.2
def updS (V : Nat → Nat → Nat → Bool) (r i j : Nat) : Nat → Nat → Nat → Bool := fun r' i' j' => if r' = r ∧ i' = i ∧ j' = j then true else V r' i' j'
theorem unkT_upd {R m : Nat} {V : Nat → Nat → Nat → Bool} {r i j : Nat} (hr : r < R) (hi : i < m) (hj : j < m) (h : V r i j = false) : unkT R m (updS V r i j) < unkT R m V := by
  unfold unkT
  refine countP_lt (fun x _ hx => ?_) ⟨(r, i, j), ?_, by simp [h], by simp [updS]⟩
  · unfold updS at hx
    split at hx
    · cases hx
    · exact hx
  · simp only [List.mem_flatMap, List.mem_range, List.mem_map]
    exact ⟨r, hr, i, hi, j, hj, rfl⟩
/-- A derivation has its tokens. -/
theorem good_spl {d : CfD} {al : List (List (List Int))} (hal : al = d.alts.map IrD.p) {toks : List Int} : ∀ {f : TrF} {ks : List Int} {a : Nat}, goodW d f ks → (∀ i, i < f.yt.length → toks[a + i]? = f.yt[i]?) → SpL al toks ks a (a + f.yt.length)
  | .nil, ks, a, h, _ => by
    have h : ks = [] := h
    subst h
    exact .nil a
  | .cons h kids rest, ks, a, hg, hx => by
    obtain ⟨ks', rfl, h2, h3⟩ := goodW_cons hg
    rcases h2 with ⟨h0, rfl, _⟩ | ⟨h0, _, x, ha, hk⟩
    · have ey : (TrF.cons h .nil rest).yt = h.k :: rest.yt := by simp [TrF.yt, h0]
      rw [ey] at hx ⊢
      have h8 := hx 0 (by simp)
      refine .tok h0 (by simpa using h8) ?_
      have := good_spl hal (toks := toks) (a := a + 1) h3 (fun i hi => by
        have := hx (i + 1) (by simp; omega)
        rw [show a + (i + 1) = a + 1 + i by omega] at this
        simpa using this)
      rw [List.length_cons, show a + (rest.yt.length + 1) = a + 1 + rest.yt.length by omega]
      exact this
    · have ey : (TrF.cons h kids rest).yt = kids.yt ++ rest.yt := by simp only [TrF.yt]; rw [if_neg (by omega)]
      rw [ey] at hx ⊢
      obtain ⟨_, hr, hxa⟩ := altD_al ha
      rw [← hal] at hr hxa
      rw [List.length_append, ← Nat.add_assoc]
      refine .rule (h := a + kids.yt.length) h0 hr (List.mem_of_getElem? hxa) (good_spl hal hk (fun i hi => ?_)) (good_spl hal h3 (fun i hi => ?_))
      · have := hx i (by rw [List.length_append]; omega)
        rwa [List.getElem?_append_left hi] at this
      · have := hx (kids.yt.length + i) (by rw [List.length_append]; omega)
        rw [List.getElem?_append_right (by omega), show kids.yt.length + i - kids.yt.length = i by omega, show a + (kids.yt.length + i) = a + kids.yt.length + i by omega] at this
        exact this
end Go.Proofs.Ythogiakfbgehnaa

namespace Go.Proofs.Ythogiakfbgehnaa
open Go.RowKit Go.Maps

attribute [local go_sem] Oper.semAt_some

/-- Where a rule's row lies. -/
def spB (b m r : Nat) : Nat := b + 1 + r * (m + 1)
theorem spB_zero (b m : Nat) : spB b m 0 = b + 1 := by unfold spB; omega
theorem spB_succ (b m r : Nat) : spB b m (r + 1) = spB b m r + 1 + m := by unfold spB; rw [Nat.add_mul]; omega
theorem spB_le (b m : Nat) : ∀ {r s : Nat}, r < s → spB b m r + 1 + m ≤ spB b m s := by
  intro r s h
  induction s with
  | zero => omega
  | succ s ih =>
    rw [spB_succ]
    rcases Nat.lt_or_ge r s with h1 | h1
    · have := ih h1; omega
    · have : r = s := by omega
      subst this; omega
theorem spB_pos (b m r : Nat) : b < spB b m r := by unfold spB; omega
/-- A row of what holds of the first n places. -/
def bls (f : Nat → Bool) (n : Nat) : List Value := (List.range n).map (fun j => .bool (f j))
theorem bls_len (f : Nat → Bool) (n : Nat) : (bls f n).length = n := by unfold bls; simp
theorem bls_at {f : Nat → Bool} {n j : Nat} (h : j < n) : (bls f n)[j]? = some (.bool (f j)) := by unfold bls; rw [List.getElem?_map, List.getElem?_range h]; rfl
/-- The rows of a rule that are laid: so many. -/
def rwV (b k m : Nat) (n : Nat) : List Value := (List.range n).map (fun i => if i < k then Value.slice (some ⟨b + 1 + i, 0, none⟩) m m else .slice none 0 0)
def tpV (b m k n : Nat) : List Value := (List.range n).map (fun r => if r < k then Value.slice (some ⟨spB b m r, 0, none⟩) m m else .slice none 0 0)
theorem rwV_at {b k m n i : Nat} (h : i < n) : (rwV b k m n)[i]? = some (if i < k then Value.slice (some ⟨b + 1 + i, 0, none⟩) m m else .slice none 0 0) := by unfold rwV; rw [List.getElem?_map, List.getElem?_range h]; rfl
theorem tpV_at {b k m n i : Nat} (h : i < n) : (tpV b m k n)[i]? = some (if i < k then Value.slice (some ⟨spB b m i, 0, none⟩) m m else .slice none 0 0) := by unfold tpV; rw [List.getElem?_map, List.getElem?_range h]; rfl
/-- Spans in memory. -/
structure SpR (W : World) (b R m : Nat) (V : Nat → Nat → Nat → Bool) : Prop where
  top : Blk W b 187 (tpV b m R R)
  row : ∀ r, r < R → Blk W (spB b m r) 29 (rwV (spB b m r) m m m)
  cel : ∀ r i, r < R → i < m → Blk W (spB b m r + 1 + i) 4 (bls (V r i) m)
theorem SpR.grown {W W' : World} {b R m : Nat} {V : Nat → Nat → Nat → Bool} (h : SpR W b R m V) (hb : Below W.heap.size W W') : SpR W' b R m V :=
  ⟨h.top.below hb h.top.lt, fun r hr => (h.row r hr).below hb (h.row r hr).lt, fun r i hr hi => (h.cel r i hr hi).below hb (h.cel r i hr hi).lt⟩
theorem SpR.topAt {W : World} {b R m r : Nat} {V : Nat → Nat → Nat → Bool} (h : SpR W b R m V) (hr : r < R) : W.cell? ⟨b, r, none⟩ = some (.slice (some ⟨spB b m r, 0, none⟩) m m) := by
  have := h.top.cell r
  rwa [tpV_at hr, if_pos hr] at this
theorem SpR.rowAt {W : World} {b R m r i : Nat} {V : Nat → Nat → Nat → Bool} (h : SpR W b R m V) (hr : r < R) (hi : i < m) : W.cell? ⟨spB b m r, i, none⟩ = some (.slice (some ⟨spB b m r + 1 + i, 0, none⟩) m m) := by
  have := (h.row r hr).cell i
  rwa [rwV_at hi, if_pos hi] at this
theorem SpR.celAt {W : World} {b R m r i j : Nat} {V : Nat → Nat → Nat → Bool} (h : SpR W b R m V) (hr : r < R) (hi : i < m) (hj : j < m) : W.cell? ⟨spB b m r + 1 + i, j, none⟩ = some (.bool (V r i j)) := by
  have := (h.cel r i hr hi).cell j
  rwa [bls_at hj] at this
theorem blk_setT {W : World} {g : Nat} {t : TypeId} {cs cs' : List Value} {j : Nat} {v : Value} (h : Blk W g t cs) (he : cs.set j v = cs') : Blk (W.setCell ⟨g, j, none⟩ v) g t cs' := by
  subst he
  have h1 : W.heap[g]? = some (.cells cs.toArray t (0, 0)) := h
  show (W.setCell ⟨g, j, none⟩ v).heap[g]? = _
  simp [World.setCell, Array.getElem?_modify, h1]
theorem blk_otherT {W : World} {g g' j : Nat} {t : TypeId} {cs : List Value} {v : Value} (h : Blk W g t cs) (hne : g' ≠ g) : Blk (W.setCell ⟨g', j, none⟩ v) g t cs :=
  h.kept (grownBy_set W g' j v) (fun e => hne (Option.some.inj e).symm)
theorem bls_upd {f : Nat → Bool} {n j : Nat} {v : Bool} (hj : j < n) : (bls f n).set j (.bool v) = bls (fun x => if x = j then v else f x) n := by
  apply List.ext_getElem?
  intro i
  rw [List.getElem?_set]
  by_cases hij : j = i
  · subst hij
    rw [if_pos rfl, if_pos (by rw [bls_len]; exact hj), bls_at hj, if_pos rfl]
  · rw [if_neg hij]
    by_cases hi : i < n
    · rw [bls_at hi, bls_at hi, if_neg (fun e => hij e.symm)]
    · rw [List.getElem?_eq_none (by rw [bls_len]; omega), List.getElem?_eq_none (by rw [bls_len]; omega)]
theorem SpR.upd {W : World} {b R m r i j : Nat} {V : Nat → Nat → Nat → Bool} (h : SpR W b R m V) (hr : r < R) (hi : i < m) (hj : j < m) : SpR (W.setCell ⟨spB b m r + 1 + i, j, none⟩ (.bool true)) b R m (updS V r i j) := by
  refine ⟨blk_otherT h.top (by have := spB_pos b m r; omega), fun s hs => blk_otherT (h.row s hs) ?_, fun s q hs hq => ?_⟩
  · rcases Nat.lt_trichotomy r s with h1 | h1 | h1
    · have := spB_le b m h1; omega
    · subst h1; omega
    · have := spB_le b m h1; omega
  · by_cases he : s = r ∧ q = i
    · obtain ⟨rfl, rfl⟩ := he
      have h2 := blk_setT (j := j) (v := .bool true) (h.cel s q hs hq) (bls_upd hj)
      have e : (fun x => if x = j then true else V s q x) = updS V s q j s q := by
        funext x
        unfold updS
        simp
      rwa [e] at h2
    · have h2 := blk_otherT (g' := spB b m r + 1 + i) (j := j) (v := .bool true) (h.cel s q hs hq) (by
        rcases Nat.lt_trichotomy r s with h1 | h1 | h1
        · have := spB_le b m h1; omega
        · subst h1
          have : ¬ q = i := fun e => he ⟨rfl, e⟩
          omega
        · have := spB_le b m h1; omega)
      have e : V s q = updS V r i j s q := by
        funext x
        unfold updS
        rw [if_neg (fun e => he ⟨e.1, e.2.1⟩)]
      rwa [e] at h2
theorem rwV_set {b k m n : Nat} (h : k < n) : (rwV b k m n).set k (.slice (some ⟨b + 1 + k, 0, none⟩) m m) = rwV b (k + 1) m n := by
  unfold rwV
  apply List.ext_getElem
  · simp
  · intro i h1 h2
    rw [List.getElem_set]
    simp only [List.getElem_map, List.getElem_range]
    by_cases hk : k = i
    · subst hk; simp
    · rw [if_neg hk]
      by_cases hi : i < k
      · rw [if_pos hi, if_pos (by omega)]
      · rw [if_neg hi, if_neg (by omega)]
theorem tpV_set {b k m n : Nat} (h : k < n) : (tpV b m k n).set k (.slice (some ⟨spB b m k, 0, none⟩) m m) = tpV b m (k + 1) n := by
  unfold tpV
  apply List.ext_getElem
  · simp
  · intro i h1 h2
    rw [List.getElem_set]
    simp only [List.getElem_map, List.getElem_range]
    by_cases hk : k = i
    · subst hk; simp
    · rw [if_neg hk]
      by_cases hi : i < k
      · rw [if_pos hi, if_pos (by omega)]
      · rw [if_neg hi, if_neg (by omega)]
/-- As fresh lays it: so many rules. -/
structure FrS (w W : World) (R m k : Nat) : Prop where
  bel : Below w.heap.size w W
  siz : W.heap.size = spB w.heap.size m k
  top : Blk W w.heap.size 187 (tpV w.heap.size m k R)
  row : ∀ r, r < k → Blk W (spB w.heap.size m r) 29 (rwV (spB w.heap.size m r) m m m)
  cel : ∀ r i, r < k → i < m → Blk W (spB w.heap.size m r + 1 + i) 4 (bls (fun _ => false) m)
/-- And of the next one so many rows. -/
structure FrI (w W : World) (R m k q : Nat) : Prop where
  bel : Below w.heap.size w W
  siz : W.heap.size = spB w.heap.size m k + 1 + q
  top : Blk W w.heap.size 187 (tpV w.heap.size m (k + 1) R)
  row : ∀ r, r < k → Blk W (spB w.heap.size m r) 29 (rwV (spB w.heap.size m r) m m m)
  cel : ∀ r i, r < k → i < m → Blk W (spB w.heap.size m r + 1 + i) 4 (bls (fun _ => false) m)
  rwk : Blk W (spB w.heap.size m k) 29 (rwV (spB w.heap.size m k) q m m)
  ck : ∀ i, i < q → Blk W (spB w.heap.size m k + 1 + i) 4 (bls (fun _ => false) m)
theorem info13_0 : (Try.prog.info? 4).map (fun i => (i.zero, i.size, i.bytes)) = some (some (.bool false), 1, 1) := by kernel_rfl
theorem info13_1 : (Try.prog.info? 29).map (fun i => (i.zero, i.size, i.bytes)) = some (some (.slice none 0 0), 1, 24) := by kernel_rfl
theorem info13_2 : (Try.prog.info? 187).map (fun i => (i.zero, i.size, i.bytes)) = some (some (.slice none 0 0), 1, 24) := by kernel_rfl
theorem bls_rep (n : Nat) : bls (fun _ => false) n = List.replicate n (.bool false) := by
  unfold bls
  apply List.ext_getElem
  · simp
  · intro i h1 h2
    simp
theorem rwV_rep (b m n : Nat) : rwV b 0 m n = List.replicate n (.slice none 0 0) := by
  unfold rwV
  apply List.ext_getElem
  · simp
  · intro i h1 h2
    simp
theorem tpV_rep (b m n : Nat) : tpV b m 0 n = List.replicate n (.slice none 0 0) := by
  unfold tpV
  apply List.ext_getElem
  · simp
  · intro i h1 h2
    simp
theorem mk13_0 (W : World) (m : Nat) (x : Int) (hx : x = (m : Int)) (hm : m ≤ 2000) : ∃ W2, (Instr.makeSlice 29 (.int .i64 x) (.int .i64 x)).run Try.prog W = .ok (.slice (some ⟨W.heap.size, 0, none⟩) m m) W2 ∧ Blk W2 W.heap.size 4 (bls (fun _ => false) m) ∧ Below W.heap.size W W2 ∧ W2.heap.size = W.heap.size + 1 := by
  subst hx
  obtain ⟨i0, hi0, hz0, hs0, hb0⟩ := info_parts info13_0
  have := run_makeSlice (P := Try.prog) W 29 4 i0 _ Try.underlying29 hi0 hz0 .i64 .i64 (m : Int) (m : Int) (by omega) (by omega) (by rw [hs0]; omega) (by rw [hb0]; omega) (by omega)
  rw [hs0, Int.toNat_natCast, Nat.mul_one] at this
  refine ⟨_, this, ?_, (Below.refl _ W).alloc (Nat.le_refl _) _, by simp⟩
  have h := Blk.new W 4 (madeCells (Value.bool false).cells (m * 1))
  rw [made_fill _ rfl, ← bls_rep, Nat.mul_one] at h
  exact h
theorem mk13_1 (W : World) (m : Nat) (x : Int) (hx : x = (m : Int)) (hm : m ≤ 2000) : ∃ W2, (Instr.makeSlice 187 (.int .i64 x) (.int .i64 x)).run Try.prog W = .ok (.slice (some ⟨W.heap.size, 0, none⟩) m m) W2 ∧ Blk W2 W.heap.size 29 (rwV W.heap.size 0 m m) ∧ Below W.heap.size W W2 ∧ W2.heap.size = W.heap.size + 1 := by
  subst hx
  obtain ⟨i0, hi0, hz0, hs0, hb0⟩ := info_parts info13_1
  have := run_makeSlice (P := Try.prog) W 187 29 i0 _ Try.underlying187 hi0 hz0 .i64 .i64 (m : Int) (m : Int) (by omega) (by omega) (by rw [hs0]; omega) (by rw [hb0]; omega) (by omega)
  rw [hs0, Int.toNat_natCast, Nat.mul_one] at this
  refine ⟨_, this, ?_, (Below.refl _ W).alloc (Nat.le_refl _) _, by simp⟩
  have h := Blk.new W 29 (madeCells (Value.slice none 0 0).cells (m * 1))
  rw [made_fill _ rfl, ← rwV_rep W.heap.size m m, Nat.mul_one] at h
  exact h
theorem mk13_2 (W : World) (m R : Nat) (x : Int) (hx : x = (R : Int)) (hm : R ≤ 2000) : ∃ W2, (Instr.makeSlice 131 (.int .i64 x) (.int .i64 x)).run Try.prog W = .ok (.slice (some ⟨W.heap.size, 0, none⟩) R R) W2 ∧ Blk W2 W.heap.size 187 (tpV W.heap.size m 0 R) ∧ Below W.heap.size W W2 ∧ W2.heap.size = W.heap.size + 1 := by
  subst hx
  obtain ⟨i0, hi0, hz0, hs0, hb0⟩ := info_parts info13_2
  have := run_makeSlice (P := Try.prog) W 131 187 i0 _ Try.underlying131 hi0 hz0 .i64 .i64 (R : Int) (R : Int) (by omega) (by omega) (by rw [hs0]; omega) (by rw [hb0]; omega) (by omega)
  rw [hs0, Int.toNat_natCast, Nat.mul_one] at this
  refine ⟨_, this, ?_, (Below.refl _ W).alloc (Nat.le_refl _) _, by simp⟩
  have h := Blk.new W 187 (madeCells (Value.slice none 0 0).cells (R * 1))
  rw [made_fill _ rfl, ← tpV_rep W.heap.size m R, Nat.mul_one] at h
  exact h
theorem set_siz (W : World) (a : Addr) (v : Value) : (W.setCell a v).heap.size = W.heap.size := Array.size_modify
theorem fr_row {w wr w2 : World} {R m k : Nat} (h : FrS w wr R m k) (hk : k < R) (hB : Blk w2 wr.heap.size 29 (rwV wr.heap.size 0 m m)) (hb : Below wr.heap.size wr w2) (hz : w2.heap.size = wr.heap.size + 1) : FrI w (w2.setCell ⟨w.heap.size, k, none⟩ (.slice (some ⟨wr.heap.size, 0, none⟩) m m)) R m k 0 := by
  have t1 := h.top.below hb h.top.lt
  have t2 := fun r hr => (h.row r hr).below hb (h.row r hr).lt
  have t3 := fun r i hr hi => (h.cel r i hr hi).below hb (h.cel r i hr hi).lt
  have hbel := h.bel.trans (hb.mono h.bel.size)
  have e := h.siz
  rw [e] at hB hz ⊢
  refine ⟨hbel.trans (belowAt (grownBy_set w2 w.heap.size k _) (B := w.heap.size) (fun i e => by injection e with e; omega) hbel.size), by rw [set_siz, hz], blk_setT t1 (tpV_set hk), fun r hr => blk_otherT (t2 r hr) ?_, fun r i hr hi => blk_otherT (t3 r i hr hi) ?_, blk_otherT hB ?_, fun i hi => absurd hi (by omega)⟩
  · have := spB_pos w.heap.size m r; omega
  · have := spB_pos w.heap.size m r; omega
  · have := spB_pos w.heap.size m k; omega
theorem fr_cel {w wv w2 : World} {R m k q : Nat} (h : FrI w wv R m k q) (hq : q < m) (hB : Blk w2 wv.heap.size 4 (bls (fun _ => false) m)) (hb : Below wv.heap.size wv w2) (hz : w2.heap.size = wv.heap.size + 1) : FrI w (w2.setCell ⟨spB w.heap.size m k, q, none⟩ (.slice (some ⟨wv.heap.size, 0, none⟩) m m)) R m k (q + 1) := by
  have t1 := h.top.below hb h.top.lt
  have t2 := fun r hr => (h.row r hr).below hb (h.row r hr).lt
  have t3 := fun r i hr hi => (h.cel r i hr hi).below hb (h.cel r i hr hi).lt
  have t4 := h.rwk.below hb h.rwk.lt
  have t5 := fun i hi => (h.ck i hi).below hb (h.ck i hi).lt
  have hbel := h.bel.trans (hb.mono h.bel.size)
  have e := h.siz
  have hp := spB_pos w.heap.size m k
  rw [e] at hB hz ⊢
  refine ⟨hbel.trans (belowAt (grownBy_set w2 (spB w.heap.size m k) q _) (B := w.heap.size) (fun i e => by injection e with e; omega) hbel.size), by rw [set_siz, hz]; omega, blk_otherT t1 (by omega), fun r hr => blk_otherT (t2 r hr) ?_, fun r i hr hi => blk_otherT (t3 r i hr hi) ?_, blk_setT t4 (rwV_set hq), fun i hi => ?_⟩
  · have := spB_le w.heap.size m hr; omega
  · have := spB_le w.heap.size m hr; omega
  · by_cases hi2 : i < q
    · exact blk_otherT (t5 i hi2) (by omega)
    · have : i = q := by omega
      subst this
      exact blk_otherT hB (by omega)
theorem fr_next {w W : World} {R m k : Nat} (h : FrI w W R m k m) : FrS w W R m (k + 1) := by
  refine ⟨h.bel, by rw [h.siz, spB_succ], h.top, fun r hr => ?_, fun r i hr hi => ?_⟩
  · by_cases hr2 : r < k
    · exact h.row r hr2
    · have : r = k := by omega
      subst this
      exact h.rwk
  · by_cases hr2 : r < k
    · exact h.cel r i hr2 hi
    · have : r = k := by omega
      subst this
      exact h.ck i hi
theorem fr_end {w W : World} {R m : Nat} (h : FrS w W R m R) : SpR W w.heap.size R m (fun _ _ _ => false) := ⟨h.top, h.row, h.cel⟩
set_option maxRecDepth 100000 in
set_option maxHeartbeats 4000000 in
theorem fresh_any (R n : Nat) (w : World) (hR : R ≤ 1000) (hn : n ≤ 1000) :
    Calls Try.prog 142 #[.int .i64 (R : Int), .int .i64 (n : Int)] w fun e W => e = .returned (.slice (some ⟨w.heap.size, 0, none⟩) R R) ∧ SpR W w.heap.size R (n + 1) (fun _ _ _ => false) ∧ Below w.heap.size w W := by
  obtain ⟨m, hm⟩ : ∃ q, Hid (n + 1 = q) := ⟨_, Lib.hid rfl⟩
  rw [hm.out]
  have hmI : Hid (((n : Int) + 1) = (m : Int)) := Lib.hid (by have := hm.out; omega)
  have hm2 : m ≤ 1001 := by have := hm.out; omega
  have hwn : IntKind.i64.wrap ((n : Int) + 1) = (n : Int) + 1 := IntWalk.i64_in _ (by omega)
  obtain ⟨w1, hrun1, hB1, hb1, hz1⟩ := mk13_2 w m R (R : Int) rfl (by omega)
  have HS0 : Hid (FrS w w1 R m 0) := Lib.hid ⟨hb1, by rw [hz1, spB_zero], hB1, fun r h => absurd h (by omega), fun r i h => absurd h (by omega)⟩
  obtain ⟨base, hbase⟩ : ∃ q, Hid (w.heap.size = q) := ⟨_, Lib.hid rfl⟩
  rw [hbase.out] at hrun1 ⊢
  clear hB1 hb1 hz1
  go_enter Try.func142, Try.ntmps142
  go_wp2_with (fail)
  clear hrun1
  go_loopw [12] (fun iv wr => ∃ k : Nat, k ≤ R ∧ iv = .int .i64 (k : Int) ∧ Hid (FrS w wr R m k)) (fun iv _ => R - (RowKit.intOf iv).toNat)
  case atStart => exact ⟨0, Nat.zero_le _, rfl, HS0⟩
  case round =>
    clear HS0
    obtain ⟨k, hk, rfl, HS⟩ := hrel
    by_cases hlt : k < R
    · have hkI : (k : Int) < (R : Int) := by omega
      have hkI0 : (0 : Int) ≤ (k : Int) := by omega
      obtain ⟨w2, hrun2, hB2, hb2, hz2⟩ := mk13_1 wr m ((n : Int) + 1) hmI.out (by omega)
      have hT := HS.out.top.below hb2 HS.out.top.lt
      have t0 := hT.cell k
      rw [tpV_at hlt, if_neg (Nat.lt_irrefl k)] at t0
      have tf := hT.frozen k
      have tl := hT.lt
      obtain ⟨ib, hIB⟩ : ∃ q, Hid (wr.heap.size = q) := ⟨_, Lib.hid rfl⟩
      have hib2 : Hid (ib = spB base m k) := Lib.hid (by rw [← hIB.out, ← hbase.out]; exact HS.out.siz)
      have HF : Hid (FrI w (w2.setCell ⟨base, k, none⟩ (.slice (some ⟨ib, 0, none⟩) m m)) R m k 0) := Lib.hid (by
        rw [← hIB.out, ← hbase.out]
        exact fr_row HS.out hlt hB2 hb2 hz2)
      rw [hbase.out] at t0 tf tl
      rw [hIB.out] at hrun2
      clear hT hB2 hb2 hz2 HS hIB
      go_upto_region 6 with fail
      generalize hV : World.setCell w2 _ _ = V at HF ⊢
      clear hV t0 tf tl hrun2
      have x0 := HF.out.top.cell k
      rw [tpV_at hlt, if_pos (Nat.lt_succ_self k), hbase.out, ← hib2.out] at x0
      have xl := HF.out.top.lt
      rw [hbase.out] at xl
      go_wp2_with (fail)
      clear x0 xl
      go_loopw [26] (fun jv wv => ∃ q : Nat, q ≤ m ∧ jv = .int .i64 (q : Int) ∧ Hid (FrI w wv R m k q)) (fun jv _ => m - (RowKit.intOf jv).toNat)
      case atStart => exact ⟨0, Nat.zero_le _, rfl, HF⟩
      case round =>
        clear HF
        obtain ⟨q, hq, rfl, HF⟩ := hrel
        by_cases hltq : q < m
        · have hqI : (q : Int) < (m : Int) := by omega
          have hqI0 : (0 : Int) ≤ (q : Int) := by omega
          obtain ⟨w4, hrun4, hB4, hb4, hz4⟩ := mk13_0 wr.drew m ((n : Int) + 1) hmI.out (by omega)
          have HFd : FrI w wr.drew R m k q := ⟨HF.out.bel.drew, HF.out.siz, HF.out.top, HF.out.row, HF.out.cel, HF.out.rwk, HF.out.ck⟩
          have hT := HFd.top.below hb4 HFd.top.lt
          have hR4 := HFd.rwk.below hb4 HFd.rwk.lt
          have z0 := hR4.cell q
          rw [rwV_at hltq, if_neg (Nat.lt_irrefl q)] at z0
          have zf := hR4.frozen q
          have zl := hR4.lt
          obtain ⟨ic, hIC⟩ : ∃ q, Hid (wr.drew.heap.size = q) := ⟨_, Lib.hid rfl⟩
          have hF2 := fr_cel HFd hltq hB4 hb4 hz4
          have xS0 := HFd.top.cell k
          have xSb := hT.cell k
          have xSc := hF2.top.cell k
          rw [tpV_at hlt, if_pos (Nat.lt_succ_self k), hbase.out, ← hib2.out] at xS0 xSb
          rw [tpV_at hlt, if_pos (Nat.lt_succ_self k), hbase.out, ← hib2.out, hIC.out] at xSc
          rw [hbase.out, ← hib2.out, hIC.out] at hF2
          rw [hbase.out, ← hib2.out] at z0 zf zl
          rw [hIC.out] at hrun4
          have HS9 := Lib.hid xS0
          have HSb := Lib.hid xSb
          have HSc := Lib.hid xSc
          have HF2 := Lib.hid hF2
          clear hT hR4 hB4 hb4 hz4 HFd xS0 xSb xSc hF2 HF
          go_wp2_with (fail)
          refine wp_region_held_drew (S := fun w' => w'.cell? ⟨base, k, none⟩ = some (.slice (some ⟨ib, 0, none⟩) m m)) (by kernel_rfl) ?_ (fun hHeld => ?_)
          · exact HS9.out
          refine wpAnyH_take (i := 0) (v := ?_) (iatLS iatZS) (by kernel_rfl) (by kernel_rfl) (by kernel_rfl) (fun _ _ _ h => h) (Or.inl ⟨by rfl, ?_⟩) (by assumption) ?_
          rotate_left
          · intro w hSw
            try dsimp only at hSw
            go_simp
            all_goals with_reducible rfl
          try simp only [Act.put, List.setIfInBounds_toArray, List.set_cons_zero, List.set_cons_succ]
          refine wpAnyH_take (i := 1) (v := ?_) (iatLS (iatSS iatZS)) (by kernel_rfl) (by kernel_rfl) (by kernel_rfl) (fun _ _ _ h => h) (Or.inl ⟨by rfl, ?_⟩) (by assumption) ?_
          rotate_left
          · intro w hSw
            try dsimp only at hSw
            go_simp
            all_goals with_reducible rfl
          try simp only [Act.put, List.setIfInBounds_toArray, List.set_cons_zero, List.set_cons_succ]
          refine wpAnyH_take (i := 2) (v := ?_) (iatLS (iatSS (iatSS iatZS))) (by kernel_rfl) (by kernel_rfl) (by kernel_rfl) (fun _ _ _ h => h) (Or.inl ⟨by rfl, ?_⟩) (by assumption) ?_
          rotate_left
          · intro w hSw
            try dsimp only at hSw
            go_simp
            all_goals with_reducible rfl
          try simp only [Act.put, List.setIfInBounds_toArray, List.set_cons_zero, List.set_cons_succ]
          refine wpAnyH_take (i := 3) (v := ?_) (iatLS (iatSS (iatSS (iatSS iatZS)))) (by kernel_rfl) (by kernel_rfl) (by kernel_rfl) (fun _ _ _ h => h) (Or.inl ⟨by rfl, ?_⟩) (by assumption) ?_
          rotate_left
          · intro w hSw
            try dsimp only at hSw
            go_simp
            all_goals with_reducible rfl
          try simp only [Act.put, List.setIfInBounds_toArray, List.set_cons_zero, List.set_cons_succ]
          refine wpAnyH_take (i := 4) (v := ?_) (iatLS (iatSS (iatSS (iatSS (iatSS iatZS))))) (by kernel_rfl) (by kernel_rfl) (by kernel_rfl) (fun _ _ _ h => h) (Or.inl ⟨by rfl, ?_⟩) (by assumption) ?_
          rotate_left
          · intro w hSw
            try dsimp only at hSw
            go_simp
            all_goals with_reducible rfl
          try simp only [Act.put, List.setIfInBounds_toArray, List.set_cons_zero, List.set_cons_succ]
          refine wpAnyH_take (i := 5) (v := ?_) (iatLS (iatSS (iatSS (iatSS (iatSS (iatSS iatZS)))))) (by kernel_rfl) (by kernel_rfl) (by kernel_rfl) (fun _ _ _ h => h) (Or.inl ⟨by rfl, ?_⟩) (by assumption) ?_
          rotate_left
          · intro w hSw
            try dsimp only at hSw
            go_simp
            all_goals with_reducible rfl
          try simp only [Act.put, List.setIfInBounds_toArray, List.set_cons_zero, List.set_cons_succ]
          refine wpAnyH_take (i := 6) (v := ?_) (iatLS (iatSS (iatSS (iatSS (iatSS (iatSS (iatSS iatZS))))))) (by kernel_rfl) (by kernel_rfl) (by kernel_rfl) (fun _ _ _ h => h) (Or.inl ⟨by rfl, ?_⟩) (by assumption) ?_
          rotate_left
          · intro w hSw
            try dsimp only at hSw
            go_simp
            all_goals with_reducible rfl
          try simp only [Act.put, List.setIfInBounds_toArray, List.set_cons_zero, List.set_cons_succ]
          refine wpAnyH_ready (rs := [7]) (by kernel_rfl) (by simp) ?_
          refine AllReadyH.cons (iatLS (iatSS (iatSS (iatSS (iatSS (iatSS (iatSS (iatSS iatZS)))))))) (fun K hK => ?_) AllReadyH.nil
          go_simp
          refine hK.out _ _ ?_ (fun hHeld => ?_)
          · exact HSb.out
          clear hK K
          try simp only [Act.put, List.setIfInBounds_toArray, List.set_cons_zero, List.set_cons_succ]
          refine wpAnyH_take (i := 8) (v := ?_) (iatLS (iatSS (iatSS (iatSS (iatSS (iatSS (iatSS (iatSS (iatSS iatZS))))))))) (by kernel_rfl) (by kernel_rfl) (by kernel_rfl) (fun _ _ _ h => h) (Or.inl ⟨by rfl, ?_⟩) (by assumption) ?_
          rotate_left
          · intro w hSw
            try dsimp only at hSw
            go_simp
            all_goals with_reducible rfl
          try simp only [Act.put, List.setIfInBounds_toArray, List.set_cons_zero, List.set_cons_succ]
          refine wpAnyH_ready (rs := [9]) (by kernel_rfl) (by simp) ?_
          refine AllReadyH.cons (iatLS (iatSS (iatSS (iatSS (iatSS (iatSS (iatSS (iatSS (iatSS (iatSS iatZS)))))))))) (fun K hK => ?_) AllReadyH.nil
          go_simp
          refine hK.out _ _ ?_ (fun hHeld => ?_)
          · exact HSc.out
          clear hK K
          try simp only [Act.put, List.setIfInBounds_toArray, List.set_cons_zero, List.set_cons_succ]
          refine wpAnyH_done (by kernel_rfl) ?_ _
          go_wp2_with (fail)
          exact ⟨⟨q + 1, by omega, by go_num, HF2⟩, by simp [RowKit.intOf]; omega⟩
        · obtain rfl : q = m := by omega
          have hqI : ¬ (q : Int) < (q : Int) := by omega
          have HS2 := Lib.hid (fr_next HF.out)
          clear HF
          go_wp2_with (fail)
          exact ⟨⟨k + 1, by omega, by go_num, HS2⟩, by simp [RowKit.intOf]; omega⟩
    · obtain rfl : k = R := by omega
      have hkI : ¬ (k : Int) < (k : Int) := by omega
      go_wp2_with (fail)
      exact bodyPost_ret (v := .slice (some ⟨base, 0, none⟩) k k) (by simp [results, Try.results142, go_sem]; try first | rfl | assumption | omega) rfl ⟨rfl, by rw [← hbase.out]; exact fr_end HS.out, by rw [← hbase.out]; exact HS.out.bel⟩
end Go.Proofs.Ythogiakfbgehnaa

