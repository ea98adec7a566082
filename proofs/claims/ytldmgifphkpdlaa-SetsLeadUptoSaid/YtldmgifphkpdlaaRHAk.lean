/- Texts joined: Od. -/
import Derived.Test.YtldmgifphkpdlaaRHAj
set_option linter.unusedVariables false
set_option linter.unusedSimpArgs false
namespace Go.Proofs.Ytldmgifphkpdlaa
open Go.RowKit Go.Maps Go.WideMaps

/-- What a way needs lies in the old world, and its keys are such as Go can hold. -/
structure NdOkZ (w0 : World) (w : WyD Int) : Prop where
  row : Vs w0 w.a w.c (w.l.map (Value.int .i64))
  fit : (Go.Lit.int .i64 w.n).wf = true
  fits : ∀ x ∈ w.l, (Go.Lit.int .i64 x).wf = true
structure TakeAtZ (w0 W : World) (base mb sb wb n : Nat) (M : Int → Bool) (P : List (Int × WyD Int)) (f : Int → Value) : Prop where
  mbx : Blk W mb 154 [.map (some sb), .map (some wb)]
  set : SetZ W sb n M
  wait : SlcTZ W wb n f
  rows : ∀ k, (Go.Lit.int .i64 k).wf = true → M k = false → ∃ a c, f k = .slice a (onK P k).length c ∧ OwnYZ W base a c (onK P k)
  apart : ∀ j k, (Go.Lit.int .i64 j).wf = true → (Go.Lit.int .i64 k).wf = true → M j = false → M k = false → j ≠ k → ∀ g, (f j).ownBlock = some g → (f k).ownBlock ≠ some g
  lo : base ≤ mb ∧ base ≤ sb ∧ base ≤ wb ∧ sb ≠ wb
  nds : ∀ p ∈ P, NdOkZ w0 p.2
/-- .. and what lies open. -/
structure OpAtZ (w0 W : World) (base mb sb wb n : Nat) (M : Int → Bool) (P : List (Int × WyD Int)) (f : Int → Value) (O : List (WyD Int)) (a : Option Addr) (c : Nat) : Prop where
  at_ : TakeAtZ w0 W base mb sb wb n M P f
  own : OwnYZ W base a c O
  apart : ∀ k, (Go.Lit.int .i64 k).wf = true → M k = false → ∀ g, (Value.slice a O.length c).ownBlock = some g → (f k).ownBlock ≠ some g
  nds : ∀ w ∈ O, NdOkZ w0 w
section
variable {w0 W W' : World} {base mb sb wb n : Nat} {M : Int → Bool} {P : List (Int × WyD Int)} {f : Int → Value} {O : List (WyD Int)} {a : Option Addr} {c : Nat} {row : Option Nat}
theorem TakeAtZ.row_ne (h : TakeAtZ w0 W base mb sb wb n M P f) {b2 c2 : Nat} {a2 : Option Addr} {l : List (WyD Int)} (ho : OwnYZ W b2 a2 c2 l) : ∀ g, (Value.slice a2 l.length c2).ownBlock = some g → g ≠ mb ∧ g ≠ sb ∧ g ≠ wb := by
  intro g e
  obtain ⟨_, cur, hk⟩ := own_typ ho g e
  obtain ⟨es, k, h1⟩ := h.set.obj
  obtain ⟨es2, k2, h2⟩ := h.wait.obj
  have h3 := h.mbx
  unfold Blk at h3
  refine ⟨fun e => ?_, fun e => ?_, fun e => ?_⟩ <;> subst e
  · rw [h3] at hk; cases hk
  · rw [h1] at hk; cases hk
  · rw [h2] at hk; cases hk
theorem TakeAtZ.blk_ne (h : TakeAtZ w0 W base mb sb wb n M P f) {g t : Nat} {cs : List Value} (hk : Blk W g t cs) : g ≠ sb ∧ g ≠ wb := by
  obtain ⟨es, k, h1⟩ := h.set.obj
  obtain ⟨es2, k2, h2⟩ := h.wait.obj
  unfold Blk at hk
  refine ⟨fun e => ?_, fun e => ?_⟩ <;> subst e
  · rw [h1] at hk; cases hk
  · rw [h2] at hk; cases hk
theorem TakeAtZ.kept (h : TakeAtZ w0 W base mb sb wb n M P f) (hg : W.grownBy W' row) (hr : ∀ g, row = some g → g ≠ mb ∧ g ≠ sb ∧ g ≠ wb ∧ ∀ k, (Go.Lit.int .i64 k).wf = true → M k = false → (f k).ownBlock ≠ some g) : TakeAtZ w0 W' base mb sb wb n M P f where
  mbx := h.mbx.kept hg (fun e => (hr mb e.symm).1 rfl)
  set := h.set.kept hg (fun e => (hr sb e.symm).2.1 rfl)
  wait := h.wait.kept hg (fun e => (hr wb e.symm).2.2.1 rfl)
  rows := fun k hf hk => by
    obtain ⟨a, c, h1, h2⟩ := h.rows k hf hk
    refine ⟨a, c, h1, World.ownsRow.kept h2 hg ?_⟩
    cases e : (Value.slice a (onK P k).length c).ownBlock with
    | none => exact .inl rfl
    | some g => exact .inr (fun e2 => (hr g e2.symm).2.2.2 k hf hk (by rw [h1]; exact e))
  apart := h.apart
  lo := h.lo
  nds := h.nds
theorem TakeAtZ.below (h : TakeAtZ w0 W base mb sb wb n M P f) (hb : Below W.heap.size W W') : TakeAtZ w0 W' base mb sb wb n M P f := h.kept (below_grownBy hb none) (fun g e => by cases e)
theorem TakeAtZ.lt (h : TakeAtZ w0 W base mb sb wb n M P f) (k : Int) (hf : (Go.Lit.int .i64 k).wf = true) (hk : M k = false) : ∀ g, (f k).ownBlock = some g → base ≤ g ∧ g < W.heap.size := by
  obtain ⟨a, c, h1, h2⟩ := h.rows k hf hk
  rw [h1]
  exact World.ownsRow.lt h2
theorem OpAtZ.below (h : OpAtZ w0 W base mb sb wb n M P f O a c) (hb : Below W.heap.size W W') : OpAtZ w0 W' base mb sb wb n M P f O a c := ⟨h.at_.below hb, OwnYZ.below h.own hb, h.apart, h.nds⟩
theorem OpAtZ.pop {x : WyD Int} (h : OpAtZ w0 W base mb sb wb n M P f (O ++ [x]) a c) : OpAtZ w0 W base mb sb wb n M P f O a c :=
  ⟨h.at_, OwnYZ.pop h.own, fun k hf hk g e => h.apart k hf hk g (by cases a <;> exact e), fun w hw => h.nds w (List.mem_append_left _ hw)⟩
/-- What a way needs, but for the first. -/
theorem NdOkZ.tail {n z : Int} {r : List Int} {b off c' : Nat} (h : NdOkZ w0 ⟨n, z :: r, some ⟨b, off, none⟩, c'⟩) : NdOkZ w0 ⟨n, r, some ⟨b, off + 1, none⟩, c' - 1⟩ := by
  obtain ⟨h1, h2, h3⟩ := h
  have hl := h1.le
  have hm := h1.max
  rw [List.map_cons, List.length_cons, List.length_map] at hl
  dsimp only at hl hm
  refine ⟨⟨by rw [List.length_map]; dsimp only; omega, by dsimp only; omega, fun e => (by cases e), fun i hi => ⟨b, off + 1, rfl⟩, fun b2 off2 e i hi => ?_⟩, h2, fun x hx => h3 x (List.mem_cons_of_mem _ hx)⟩
  dsimp only at e
  obtain ⟨rfl, rfl⟩ : b = b2 ∧ off + 1 = off2 := by
    have := Option.some.inj e
    injection this with e1 e2
    exact ⟨e1, e2⟩
  have := h1.cell b off rfl (i + 1) (by simp at hi ⊢; omega)
  rw [show off + 1 + i = off + (i + 1) by omega]
  rw [this]
  simp
theorem NdOkZ.last {n z : Int} {r : List Int} {b off : Nat} (h : NdOkZ w0 ⟨n, z :: r, some ⟨b, off, none⟩, 1⟩) : r = [] ∧ NdOkZ w0 ⟨n, r, some ⟨b, off, none⟩, 0⟩ := by
  obtain ⟨h1, h2, h3⟩ := h
  have hl := h1.le
  rw [List.map_cons, List.length_cons, List.length_map] at hl
  dsimp only at hl
  have hr : r = [] := List.length_eq_zero_iff.1 (by omega)
  subst hr
  exact ⟨rfl, ⟨by simp, by simp, fun e => (by cases e), fun i hi => ⟨b, off, rfl⟩, fun b2 off2 e i hi => by simp at hi⟩, h2, fun x hx => by cases hx⟩
/-- A way waits: the look-up, the append, the store. -/
theorem OpAtZ.waits (h : OpAtZ w0 W base mb sb wb n M P f O a c) (w : WyD Int) (x : Int) (hw : NdOkZ w0 w) (hx : M x = false) (hf : (Go.Lit.int .i64 x).wf = true) (hn : n + 1 ≤ 1000000000000000000) (hP : P.length ≤ 1000000) (hb : base ≤ W.heap.size) :
    ∃ xa xc xa' xc' W1 W2, (Instr.lookup 152 (.map (some wb)) (.int .i64 x) false).run Try.prog W = .ok (.slice xa (onK P x).length xc) W ∧
      (Instr.lookup 152 (.map (some wb)) (.int .i64 x) false).run Try.prog (W.alloc (.cells #[.int .i64 w.n, .slice w.a w.l.length w.c] 118)) = .ok (.slice xa (onK P x).length xc) (W.alloc (.cells #[.int .i64 w.n, .slice w.a w.l.length w.c] 118)) ∧
      (Builtin.append_ #[116, 116] 116 #[.slice xa (onK P x).length xc, .slice (some ⟨W.heap.size, 0, none⟩) 1 1]).run Try.prog (W.alloc (.cells #[.int .i64 w.n, .slice w.a w.l.length w.c] 118)) = .ok (.slice xa' ((onK P x).length + 1) xc') W1 ∧
      (Instr.mapUpdate 152 (.map (some wb)) (.int .i64 x) (.slice xa' ((onK P x).length + 1) xc')).run Try.prog W1 = .ok () W2 ∧
      OpAtZ w0 W2 base mb sb wb (n + 1) M (P ++ [(x, w)]) (fun t => if t = x then .slice xa' ((onK P x).length + 1) xc' else f t) O a c ∧ Below base W W2 ∧ W.grownBy W1 (Value.slice xa (onK P x).length xc).ownBlock ∧ W1.grownBy W2 (some wb) ∧ f x = .slice xa (onK P x).length xc := by
  obtain ⟨xa, xc, hfx, hox⟩ := h.at_.rows x hf hx
  have hol : (onK P x).length ≤ P.length := by have := on_off_len P x; omega
  have hlk := h.at_.wait.look 152 116 Try.underlying152 (by kernel_rfl) x hf
  have hlk2 := (h.at_.wait.kept (World.grownBy_alloc W (.cells #[.int .i64 w.n, .slice w.a w.l.length w.c] 118) none) (by simp)).look 152 116 Try.underlying152 (by kernel_rfl) x hf
  rw [hfx] at hlk hlk2
  obtain ⟨xa', xc', W1, hrun, ho1, hg1, hlies⟩ := OwnYZ.push hox w 116 (by omega) hb
  have hne := h.at_.row_ne hox
  have hwb := (h.at_.wait.kept hg1 (fun e => (hne wb e.symm).2.2 rfl))
  obtain ⟨W2, hup, hs2, hg2⟩ := hwb.store 152 116 Try.underlying152 x (.slice xa' ((onK P x).length + 1) xc') hf (by unfold maxLen; omega)
  have hfb : (f x).ownBlock = (Value.slice xa (onK P x).length xc).ownBlock := by rw [hfx]
  -- rows that are not x's are as they were
  have kp : ∀ {b2 c2 : Nat} {a2 : Option Addr} {l : List (WyD Int)}, OwnYZ W b2 a2 c2 l → (∀ g, (Value.slice a2 l.length c2).ownBlock = some g → (f x).ownBlock ≠ some g) → OwnYZ W2 b2 a2 c2 l := by
    intro b2 c2 a2 l ho hap
    have o1 : OwnYZ W1 b2 a2 c2 l := by
      refine World.ownsRow.kept ho hg1 ?_
      cases e : (Value.slice a2 l.length c2).ownBlock with
      | none => exact .inl rfl
      | some g => exact .inr (fun e2 => hap g e (by rw [hfb]; exact e2.symm))
    refine World.ownsRow.kept o1 hg2 ?_
    cases e : (Value.slice a2 l.length c2).ownBlock with
    | none => exact .inl rfl
    | some g => exact .inr (fun e2 => (h.at_.row_ne ho g e).2.2 (by injection e2))
  have m1 := (h.at_.mbx.kept hg1 (fun e => (hne mb e.symm).1 rfl))
  have hmw : mb ≠ wb := fun e => by
    obtain ⟨es, k, h1⟩ := h.at_.wait.obj
    have h3 := h.at_.mbx
    unfold Blk at h3
    rw [e, h1] at h3
    cases h3
  have hlong : Below base W W2 := (belowAt hg1 (fun g e => (own_typ hox g e).1) hb).trans (belowAt hg2 (fun g e => by injection e with e; have := h.at_.lo; omega) (Nat.le_trans hb hg1.size))
  have hnew : ∀ g, (Value.slice xa' ((onK P x).length + 1) xc').ownBlock = some g → (f x).ownBlock = some g ∨ W.heap.size ≤ g := fun g e => by
    rw [hfb]
    exact hlies g (by rw [List.length_append]; exact e)
  refine ⟨xa, xc, xa', xc', W1, W2, hlk, hlk2, hrun, hup, ⟨⟨m1.kept hg2 (fun e => hmw (by injection e)), ((h.at_.set.kept hg1 (fun e => (hne sb e.symm).2.1 rfl)).kept hg2 (fun e => h.at_.lo.2.2.2 (by injection e))).mono (Nat.le_succ n), hs2, fun k hkf hk => ?_, fun j k hjf hkf hj hk hjk g e => ?_, h.at_.lo, fun p hp => ?_⟩, kp h.own (fun g e => h.apart x hf hx g e), fun k hkf hk g e => ?_, h.nds⟩, hlong, hg1, hg2, hfx⟩
  · by_cases e : k = x
    · subst e
      refine ⟨xa', xc', ?_, ?_⟩
      · rw [if_pos rfl, on_snoc, if_pos rfl, List.length_append]
        rfl
      · rw [on_snoc, if_pos rfl]
        refine World.ownsRow.kept ho1 hg2 ?_
        cases e : (Value.slice xa' (onK P k ++ [w]).length xc').ownBlock with
        | none => exact .inl rfl
        | some g =>
          refine .inr (fun e2 => ?_)
          injection e2 with e2
          rcases hlies g e with h1 | h1
          · exact (hne g h1).2.2 e2
          · have := h.at_.wait.lt
            omega
    · obtain ⟨a2, c2, h1, h2⟩ := h.at_.rows k hkf hk
      refine ⟨a2, c2, ?_, ?_⟩
      · rw [if_neg e, on_snoc, if_neg e]
        exact h1
      · rw [on_snoc, if_neg e]
        exact kp h2 (fun g e2 => h.at_.apart k x hkf hf hk hx e g (by rw [h1]; exact e2))
  · by_cases e1 : j = x
    · rw [if_pos e1] at e
      rw [if_neg (fun e2 => hjk (e1.trans e2.symm))]
      intro e2
      rcases hnew g e with h1 | h1
      · exact h.at_.apart x k hf hkf hx hk (fun e3 => hjk (e1.trans e3)) g h1 e2
      · have := (h.at_.lt k hkf hk g e2).2
        omega
    · rw [if_neg e1] at e
      by_cases e2 : k = x
      · rw [if_pos e2]
        intro e3
        rcases hnew g e3 with h1 | h1
        · exact h.at_.apart x j hf hjf hx hj (fun e4 => e1 e4.symm) g h1 e
        · have := (h.at_.lt j hjf hj g e).2
          omega
      · rw [if_neg e2]
        exact h.at_.apart j k hjf hkf hj hk hjk g e
  · rcases List.mem_append.1 hp with hp | hp
    · exact h.at_.nds p hp
    · rw [List.mem_singleton] at hp
      subst hp
      exact hw
  · by_cases e1 : k = x
    · rw [if_pos e1]
      intro e2
      rcases hnew g e2 with h1 | h1
      · exact h.apart x hf hx g e h1
      · have := (World.ownsRow.lt h.own g e).2
        omega
    · rw [if_neg e1]
      exact h.apart k hkf hk g e
/-- A thing that was made is made again. -/
theorem OpAtZ.had (h : OpAtZ w0 W base mb sb wb n M P f O a c) (x : Int) (hx : M x = true) (hset : SetZ W' sb (n + 1) (fun t => decide (t = x) || M t)) (hg : W.grownBy W' (some sb)) : OpAtZ w0 W' base mb sb wb (n + 1) M P f O a c := by
  have hk : ∀ {b2 c2 : Nat} {a2 : Option Addr} {l : List (WyD Int)}, OwnYZ W b2 a2 c2 l → OwnYZ W' b2 a2 c2 l := by
    intro b2 c2 a2 l ho
    refine World.ownsRow.kept ho hg ?_
    cases e : (Value.slice a2 l.length c2).ownBlock with
    | none => exact .inl rfl
    | some g => exact .inr (fun e2 => (h.at_.row_ne ho g e).2.1 (by injection e2))
  refine ⟨⟨h.at_.mbx.kept hg (fun e => (h.at_.blk_ne h.at_.mbx).1 (by injection e)), hset.congr (fun t => ?_), (h.at_.wait.kept hg (fun e => h.at_.lo.2.2.2 (by injection e with e; exact e.symm))).mono (Nat.le_succ n), fun k hkf hm => ?_, h.at_.apart, h.at_.lo, h.at_.nds⟩, hk h.own, h.apart, h.nds⟩
  · by_cases e : t = x
    · subst e; rw [hx]; simp
    · simp [e]
  · obtain ⟨a2, c2, h1, h2⟩ := h.at_.rows k hkf hm
    exact ⟨a2, c2, h1, hk h2⟩
/-- A thing is made: what waits for it is put onto what lies open. -/
theorem OpAtZ.makes (h : OpAtZ w0 W base mb sb wb n M P f O a c) (x : Int) (hx : M x = false) (hf : (Go.Lit.int .i64 x).wf = true) (hset : SetZ W' sb (n + 1) (fun t => decide (t = x) || M t)) (hg : W.grownBy W' (some sb)) (hP : P.length + O.length ≤ 1000000) (hb : base ≤ W.heap.size) :
    ∃ xa xc a' c' W2, (Instr.lookup 152 (.map (some wb)) (.int .i64 x) false).run Try.prog W' = .ok (.slice xa (onK P x).length xc) W' ∧
      (Builtin.append_ #[116, 116] 116 #[.slice a O.length c, .slice xa (onK P x).length xc]).run Try.prog W' = .ok (.slice a' (O.length + (onK P x).length) c') W2 ∧
      OpAtZ w0 W2 base mb sb wb (n + 1) (fun t => decide (t = x) || M t) (offK P x) f (O ++ onK P x) a' c' ∧ Below base W W2 ∧ W'.grownBy W2 (Value.slice a O.length c).ownBlock := by
  obtain ⟨xa, xc, hfx, hox⟩ := h.at_.rows x hf hx
  have hol := on_off_len P x
  have hsb : ∀ {b2 c2 : Nat} {a2 : Option Addr} {l : List (WyD Int)}, OwnYZ W b2 a2 c2 l → OwnYZ W' b2 a2 c2 l := by
    intro b2 c2 a2 l ho
    refine World.ownsRow.kept ho hg ?_
    cases e : (Value.slice a2 l.length c2).ownBlock with
    | none => exact .inl rfl
    | some g => exact .inr (fun e2 => (h.at_.row_ne ho g e).2.1 (by injection e2))
  have hw' := h.at_.wait.kept hg (fun e => h.at_.lo.2.2.2 (by injection e with e; exact e.symm))
  have hlk := hw'.look 152 116 Try.underlying152 (by kernel_rfl) x hf
  rw [hfx] at hlk
  have hms : mb ≠ sb := fun e => by
    obtain ⟨es, k, h1⟩ := h.at_.set.obj
    have h3 := h.at_.mbx
    unfold Blk at h3
    rw [e, h1] at h3
    cases h3
  have hm' := h.at_.mbx.kept hg (fun e => hms (by injection e))
  have hO' := hsb h.own
  obtain ⟨a', c', W2, hrun, ho2, hg2, hlies⟩ := OwnYZ.app hO' (hsb hox) 116 (by omega) (Nat.le_trans hb hg.size)
  have hne : ∀ g, (Value.slice a O.length c).ownBlock = some g → g ≠ mb ∧ g ≠ sb ∧ g ≠ wb := h.at_.row_ne h.own
  have mf : ∀ k, (decide (k = x) || M k) = false → k ≠ x ∧ M k = false := fun k hk => by simpa using hk
  have kp : ∀ {b2 c2 : Nat} {a2 : Option Addr} {l : List (WyD Int)}, OwnYZ W' b2 a2 c2 l → (∀ g, (Value.slice a O.length c).ownBlock = some g → (Value.slice a2 l.length c2).ownBlock ≠ some g) → OwnYZ W2 b2 a2 c2 l := by
    intro b2 c2 a2 l ho hap
    refine World.ownsRow.kept ho hg2 ?_
    cases e : (Value.slice a2 l.length c2).ownBlock with
    | none => exact .inl rfl
    | some g => exact .inr (fun e2 => hap g e2.symm e)
  refine ⟨xa, xc, a', c', W2, hlk, hrun, ⟨⟨hm'.kept hg2 (fun e => (hne mb e.symm).1 rfl), hset.kept hg2 (fun e => (hne sb e.symm).2.1 rfl), (hw'.kept hg2 (fun e => (hne wb e.symm).2.2 rfl)).mono (Nat.le_succ n), fun k hkf hk => ?_, fun j k hjf hkf hj hk hjk => h.at_.apart j k hjf hkf (mf j hj).2 (mf k hk).2 hjk, h.at_.lo, fun p hp => h.at_.nds p (List.mem_filter.1 hp).1⟩, ho2, fun k hkf hk g e => ?_, fun w hw => ?_⟩, (belowAt hg (fun g e => by injection e with e; have := h.at_.lo; omega) hb).trans (belowAt hg2 (fun g e => (own_typ hO' g e).1) (Nat.le_trans hb hg.size)), hg2⟩
  · obtain ⟨a2, c2, h1, h2⟩ := h.at_.rows k hkf (mf k hk).2
    rw [on_off (mf k hk).1]
    exact ⟨a2, c2, h1, kp (hsb h2) (fun g e => by rw [← h1]; exact h.apart k hkf (mf k hk).2 g e)⟩
  · intro e2
    rcases hlies g e with h1 | h1
    · exact h.apart k hkf (mf k hk).2 g h1 e2
    · have := (h.at_.lt k hkf (mf k hk).2 g e2).2
      have := hg.size
      omega
  · rcases List.mem_append.1 hw with hw | hw
    · exact h.nds w hw
    · obtain ⟨p, hp, rfl⟩ := List.mem_map.1 hw
      exact h.at_.nds p (List.mem_filter.1 hp).1
end
end Go.Proofs.Ytldmgifphkpdlaa

